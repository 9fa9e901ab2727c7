/-
 Own words and walks, merged: part 5 of 9.
-/
import Derived.Test.YtnihdgcfamoplaaGreatChecked
import Derived.WalkKit
import Derived.WalkSpells
import Derived.WalkLawsBesides
import Derived.Deep.DeepMust
import Derived.Lib.Hide
import Derived.LaidEql
import Derived.Laws.StructEq
import Derived.Shelf.SlicesQ.Load
import Derived.BigRegion
import Derived.Laws.EntriesVeiled
import Derived.Test.YtnihdgcfamoplaaGreatRows
import Derived.Lib.MinMax
import Derived.Test.YtnihdgcfamoplaaGreatIa4
set_option maxRecDepth 1000000
set_option maxHeartbeats 8000000
set_option linter.all false
namespace Go.Proofs.YtnihdgcfamoplaaGreat
open Go.RowKit Go.Sort Go.Lib
structure Vf (L L' : List (Int × Int)) (now : Int) (f : Int → Int) (t : Int) (i : Nat) : Prop where
 sm : Sm L' now f
 here : (i < L'.length ∧ tA L' i = t) ∨ (i = L'.length ∧ t = 1152921504606846976)
 alt : ∀ X Y : Int → Prop, jI L X → (∀ s, X s → Y s) → Y t → jI L' Y
 len : L'.length ≤ L.length + 1
 pre : ∀ m, m < L.length → tA L m < t → m < L'.length ∧ tA L' m = tA L m
structure TK (L L' : List (Int × Int)) (now : Int) (f : Int → Int) (i : Nat) : Prop where
 sm : Sm L' now f
 alt : ∀ X Y : Int → Prop, jI L X → (∀ s, X s → Y s ∨ (i < L.length ∧ s = tA L i)) → jI L' Y
 len : L'.length ≤ L.length
 pre : ∀ m, m < i → m < L.length → m < L'.length ∧ tA L' m = tA L m
section
variable {w : World} {p g : Nat} {L : List (Int × Int)} {aJ now : Int} {f : Int → Int}
theorem jI.mono {X Y : Int → Prop} (h : jI L X) (hX : ∀ s, X s → Y s) : jI L Y := fun i hi hY => h i hi fun hx => hY (hX _ hx)
theorem Ha (t : Int) (hs : Sm L now f) (hn : now ≤ t) (ht : t ≤ 1152921504606846976) (hl : L.length ≤ 900) (h : PW w p g L aJ) :
  Calls Tryz.prog 187 #[.pointer (some ⟨p, 0, none⟩), .int .i64 t] w fun e w' => ∃ (i g' : Nat) (L' : List (Int × Int)), e = .returned (.int .i64 i) ∧ PW w' p g' L' aJ ∧ (g' = g ∨ w.heap.size ≤ g') ∧ Off p g w w' ∧ Vf L L' now f t i := by
 by_cases hF : t = 1152921504606846976
 ·subst hF
  refine (EY h).mono ?_
  rintro e w' ⟨rfl, rfl⟩
  exact ⟨L.length, g, L, rfl, h, .inl rfl, Off.refl _ _ _, ⟨hs, .inr ⟨rfl, rfl⟩, fun X Y hX EZ _ => hX.mono EZ, by omega, fun m hm _ => ⟨hm, rfl⟩⟩⟩
 ·obtain ⟨i, hi⟩ := hs.ix t
  by_cases he : tA L i = t
  ·refine (JV t (by omega) hi he hs (by omega) h).mono ?_
   rintro e w' ⟨rfl, hb⟩
   exact ⟨i, g, L, rfl, h.kept hb, .inl rfl, Off.of_below hb, ⟨hs, .inl ⟨hi.lt, he⟩, fun X Y hX EZ _ => hX.mono EZ, by omega, fun m hm _ => ⟨hm, rfl⟩⟩⟩
  ·refine (Py t (by omega) hi he hs hl h).mono ?_
   rintro e w' ⟨rfl, g', h1, h2, h3⟩
   have hil := hi.lt
   have hll := nC (L := L) (k := i + 1) (x := (t, tV L i)) (by omega)
   have hle := hi.vQ hs hn
   refine ⟨i + 1, g', jF L (i + 1) (t, tV L i), by rw [show ((i + 1 : Nat) : Int) = (i : Int) + 1 by omega], h1, h2, h3, ⟨hs.ins hi hn he (by omega), .inl ⟨by omega, ?_⟩, fun X Y hX EZ hY => jI.ins hX hil EZ hY, by omega, fun m hm hlt => ⟨by omega, ?_⟩⟩⟩
   ·rw [zA (by omega), if_neg (by omega), if_pos rfl]
   ·have Gm : m ≤ i := by
     rcases Nat.lt_or_ge i m with h4 | h4
     ·have := hi.nx (by omega)
      have := hs.le (i := i + 1) (j := m) h4 hm
      omega
     ·exact h4
    rw [zA (by omega), if_pos (by omega)]
theorem Dm (i : Nat) (hs : Sm L now f) (hl : L.length ≤ 1000) (hil : i ≤ L.length) (h : PW w p g L aJ) :
  Calls Tryz.prog 188 #[.pointer (some ⟨p, 0, none⟩), .int .i64 i] w fun e w' => ∃ L' : List (Int × Int), e = .returned (.tuple #[]) ∧ PW w' p g L' aJ ∧ Off p g w w' ∧ TK L L' now f i := by
 by_cases hy : 0 < i ∧ i < L.length ∧ tV L i = tV L (i - 1)
 ·obtain ⟨h0, h1, h2⟩ := hy
  refine (MZ i h hl h0 h1 h2).mono ?_
  rintro e w' ⟨rfl, h3, h4⟩
  have hll := qB h1
  refine ⟨_, rfl, h3, h4, ⟨hs.del h0 h1 h2, fun X Y hX EZ => jI.del hX h0 h1 h2 (fun s hx => ?_) (fun m hm uR => ?_) (fun m hm => ?_), by omega, fun m hm uR => ⟨by omega, ?_⟩⟩⟩
  ·rcases EZ s hx with h5 | ⟨_, h5⟩
   ·exact .inl h5
   ·exact .inr h5
  ·have := hs.lt hm uR; omega
  ·have := hs.lt hm h1; omega
  ·rw [D9 h1, if_pos hm]
 ·refine (Px i h hl hil hy).mono ?_
  rintro e w' ⟨rfl, hb⟩
  refine ⟨L, rfl, h.kept hb, Off.of_below hb, ⟨hs, fun X Y hX EZ m hm hY => ?_, Nat.le_refl _, fun m _ uR => ⟨uR, rfl⟩⟩⟩
  by_cases hx : X (tA L (m + 1))
  ·rcases EZ _ hx with h5 | ⟨h5, h6⟩
   ·exact absurd h5 hY
   ·have e1 : m + 1 = i := by
     rcases Nat.lt_trichotomy (m + 1) i with h7 | h7 | h7
     ·have := hs.lt h7 h5; omega
     ·exact h7
     ·have := hs.lt h7 hm; omega
    intro e2
    refine hy ⟨by omega, h5, ?_⟩
    rw [← e1, Nat.add_sub_cancel]
    exact e2.symm
  ·exact hX m hm hx
theorem RI {i : Nat} (v : Int) (h : PW w p g L aJ) (hi : i < L.length) : PW (w.setCell ⟨g, i * 2 + 1, none⟩ (.int .i64 v)) p g (L.set i (tA L i, v)) aJ := by
 obtain ⟨cap, F⟩ := h.facts
 refine ⟨cap, ?_, ?_⟩
 ·rw [List.length_set, Below.heap_setCell w ⟨g, i * 2 + 1, none⟩ _ p F.pg]
  exact F.obj
 ·have h1 := (F.own.stored (i * 2 + 1) (.int .i64 v)).1
  rw [GY, List.length_set]
  have e : (aZ L).set (i * 2) (.int .i64 (tA L i)) = aZ L := by
   have hg := (AV (AX hi)).1
   obtain ⟨hlt, hv⟩ := List.getElem?_eq_some_iff.1 hg
   rw [← hv]
   exact List.set_getElem_self hlt
  show World.ownsRow _ 0 _ 2 _ _ (((aZ L).set (i * 2) (.int .i64 (tA L i))).set (i * 2 + 1) (.int .i64 v))
  rw [e]
  exact h1
theorem RJ {i : Nat} {v : Int} (hi : i < L.length) (m : Nat) : tA (L.set i (tA L i, v)) m = tA L m := by
 unfold tA
 rw [List.getD_eq_getElem?_getD, List.getD_eq_getElem?_getD, List.getElem?_set]
 split
 ·rename_i e; subst e; simp [hi]
 ·rfl
theorem Ll {i : Nat} {a v : Int} (hi : i < L.length) (m : Nat) : tV (L.set i (a, v)) m = if m = i then v else tV L m := by
 unfold tV
 rw [List.getD_eq_getElem?_getD, List.getD_eq_getElem?_getD, List.getElem?_set]
 by_cases e : i = m
 ·subst e; simp [hi]
 ·rw [if_neg e, if_neg (by omega)]
theorem JW (a b n : Int) (hC : Can L now f) (ha : now ≤ a) (hab : a < b) (hb : b ≤ 1152921504606846976) (hf : ∀ t, now ≤ t → -1000 ≤ f t ∧ f t ≤ 1000) (hn : -1000 ≤ n ∧ n ≤ 1000) (hl : L.length ≤ 800) (h : PW w p g L aJ) :
  Calls Tryz.prog 177 #[.pointer (some ⟨p, 0, none⟩), .int .i64 a, .int .i64 b, .int .i64 n] w fun e w' => e = .returned (.tuple #[]) ∧ ∃ (g' : Nat) (L' : List (Int × Int)), PW w' p g' L' aJ ∧ (g' = g ∨ w.heap.size ≤ g') ∧ Off p g w w' ∧ Can L' now (fun t => f t + had a b n t) ∧ L'.length ≤ L.length + 2 := by
 have ni := iW
 have hcut := Ha a hC.sm ha (by omega) (by omega) h
 go_enter Tryz.func177, Tryz.ntmps177
 go_wp2_with fail
 go_at_call 187
 refine hcut.mono ?_
 clear hcut
 rintro e w1 ⟨i, g1, L1, rfl, h1, hg1, ho1, uC⟩
 have hl1 := uC.len
 have hcut := Ha b uC.sm (by omega) hb (by omega) h1
 go_wp2_with fail
 go_at_call 187
 refine hcut.mono ?_
 clear hcut
 rintro e w2 ⟨j, g2, L2, rfl, h2, hg2, ho2, hC2⟩
 have hl2 := hC2.len
 have hi1 : i < L1.length ∧ tA L1 i = a := by
  rcases uC.here with h3 | ⟨h3, h4⟩
  ·exact h3
  ·omega
 obtain ⟨hi2, hia⟩ := hC2.pre i hi1.1 (by omega)
 rw [hi1.2] at hia
 have hij : i ≤ j := by
  rcases hC2.here with ⟨h3, h4⟩ | ⟨h3, _⟩
  ·exact Nat.le_of_lt (hC2.sm.Ow hi2 h3 (by omega))
  ·omega
 have hjl : j ≤ L2.length := by
  rcases hC2.here with ⟨h3, _⟩ | ⟨h3, _⟩ <;> omega
 have JX : jI L2 (fun s => s = a ∨ s = b) := hC2.alt (fun s => s = a) _ (uC.alt _ _ hC.alt (fun s hs => hs.elim) rfl) (fun s hs => .inl hs) (.inr rfl)
 have hgw : g2 = g ∨ w.heap.size ≤ g2 := by have := ho1.size; omega
 have pR : Off p g w w2 := ho1.trans ho2 hg1
 have hv2 : ∀ m, m < L2.length → -1000 ≤ tV L2 m ∧ tV L2 m ≤ 1000 := fun m hm => by
  rw [← hC2.sm.rep m (tA L2 m) hm (Int.le_refl _) (fun hx => hC2.sm.inc m hx)]
  exact hf _ (hC2.sm.zz hm)
 have Vg := Lib.hid hl1
 have Vh := Lib.hid hl2
 replace hi1 := Lib.hid hi1
 replace hia := Lib.hid hia
 replace JX := Lib.hid JX
 replace hgw := Lib.hid hgw
 replace pR := Lib.hid pR
 replace hf := Lib.hid hf
 replace hv2 := Lib.hid hv2
 clear h h1 ho1 ho2 hg1 hg2
 have hL2 : L2.length ≤ 900 := by omega
 clear hl1 hl2
 go_wp2_with fail
 go_loopw [10] (fun kk wr => ∃ (q : Nat) (Lk : List (Int × Int)), i ≤ q ∧ q ≤ j ∧ kk = .int .i64 q ∧ PW wr p g2 Lk aJ ∧ zB L2 Lk i q n ∧ Off p g2 w2 wr) (fun kk _ => j - (intOf kk).toNat)
 case atStart => exact ⟨i, L2, Nat.le_refl _, hij, rfl, h2, ⟨rfl, fun _ => rfl, fun m _ => by rw [if_neg (by omega)]; omega⟩, Off.refl _ _ _⟩
 case round =>
  obtain ⟨q, Lk, Yd, hqj, rfl, RL, hR, hoff⟩ := hrel
  by_cases hlt : q < j
  ·have M0 : q < Lk.length := by rw [hR.len]; omega
   obtain ⟨cap, F⟩ := RL.facts
   have c0 := F.c0
   have s1 := (step_cells F.own M0).2
   have fz := F.own.frozenAt (q * 2 + 1)
   have hv : tV Lk q = tV L2 q := by rw [hR.v q (by omega), if_neg (by omega)]; omega
   rw [hv] at s1
   have hvb := hv2.out q (by omega)
   obtain ⟨x, hx⟩ : ∃ x, x = tV L2 q := ⟨_, rfl⟩
   rw [← hx] at s1 hvb
   have hw1 : IntKind.i64.wrap (x + n) = x + n := IntWalk.i64_in _ (by omega)
   have hw2 : IntKind.i64.wrap ((q : Int) + 1) = (q : Int) + 1 := IntWalk.i64_in _ (by omega)
   have b1 : (0 : Int) ≤ q := by omega
   have b2 : (q : Int) < (Lk.length : Int) := by omega
   have b3 : (q : Int) < (j : Int) := by omega
   have hnew := RI (x + n) RL M0
   have JY : Off p g2 w2 (wr.setCell ⟨g2, q * 2 + 1, none⟩ (.int .i64 (x + n))) := hoff.setCell (.inr (.inl rfl))
   have TL : zB L2 (Lk.set q (tA Lk q, x + n)) i (q + 1) n := by
    refine ⟨by rw [List.length_set]; exact hR.len, fun m => by rw [RJ M0]; exact hR.a m, fun m hm => ?_⟩
    rw [Ll M0]
    by_cases e : m = q
    ·subst e; rw [if_pos rfl, if_pos (by omega), ← hx]
    ·rw [if_neg e, hR.v m hm]
     by_cases hc : i ≤ m ∧ m < q
     ·rw [if_pos hc, if_pos (by omega)]
     ·rw [if_neg hc, if_neg (by omega)]
   replace hnew := Lib.hid hnew
   replace JY := Lib.hid JY
   replace TL := Lib.hid TL
   replace hx := Lib.hid hx
   replace hv := Lib.hid hv
   clear F RL hR hoff
   go_wp2_with fail
   go_roundw
   case rel => exact ⟨q + 1, _, by omega, by omega, by go_num, hnew.out, TL.out, JY.out⟩
   case measure => simp [intOf]; omega
  ·obtain rfl : q = j := by omega
   have hs3 : Sm Lk now (fun t => f t + had a b n t) := hC2.sm.raise hR hi2 hia.out hC2.here
   have JZ : jI Lk (fun s => s = a ∨ s = b) := JX.out.raise hR hia.out hC2.here (fun s hs => hs) (.inl rfl) (.inr rfl)
   have hll := hR.len
   have hj1 := Dm q hs3 (by omega) (by omega) RL
   have hlt' : ¬ ((q : Int) < (q : Int)) := by omega
   have Vi := Lib.hid hR.a
   clear hR
   replace hs3 := Lib.hid hs3
   replace JZ := Lib.hid JZ
   replace hll := Lib.hid hll
   go_wp2_with fail
   go_at_call 188
   refine hj1.mono ?_
   clear hj1
   rintro e w4 ⟨L4, rfl, h4, sN, RN⟩
   have hb4 : (q < Lk.length ∧ b = tA Lk q) ∨ b = 1152921504606846976 := by
    rcases hC2.here with ⟨h5, h6⟩ | ⟨_, h6⟩
    ·exact .inl ⟨by rw [hll.out]; exact h5, by rw [Vi.out]; exact h6.symm⟩
    ·exact .inr h6
   have J2 : jI L4 (fun s => s = a ∨ s = 1152921504606846976) := RN.alt _ _ JZ.out fun s hs => by
    rcases hs with rfl | rfl
    ·exact .inl (.inl rfl)
    ·rcases hb4 with ⟨h5, h6⟩ | h6
     ·exact .inr ⟨h5, h6⟩
     ·exact .inl (.inr h6)
   have Vj : i < q := by
    rcases hC2.here with ⟨h5, h6⟩ | ⟨h5, h6⟩
    ·exact hC2.sm.Ow hi2 h5 (by have := hia.out; omega)
    ·omega
   obtain ⟨hi4, Lm⟩ := RN.pre i Vj (by rw [hll.out]; exact hi2)
   rw [Vi.out, hia.out] at Lm
   have hl4 := RN.len
   have hj2 := Dm i RN.sm (by have := hll.out; omega) (Nat.le_of_lt hi4) h4
   replace Lm := Lib.hid Lm
   replace J2 := Lib.hid J2
   replace hb4 := Lib.hid hb4
   go_wp2_with fail
   go_at_call 188
   refine hj2.mono ?_
   clear hj2
   rintro e w5 ⟨L5, rfl, h5, Bb, PD⟩
   have PE : jI L5 (fun s => s = 1152921504606846976) := PD.alt _ _ J2.out fun s hs => by
    rcases hs with rfl | rfl
    ·exact .inr ⟨hi4, Lm.out.symm⟩
    ·exact .inl rfl
   have Lp : Hid (Can L5 now (fun t => f t + had a b n t)) := ⟨PD.sm, fun m hm _ => PE m hm fun e => by have := PD.sm.top (m + 1) hm; omega⟩
   have hl5 : Hid (L5.length ≤ L.length + 2) := by
    show _ ≤ _
    have := PD.len
    have := hll.out
    have := Vg.out
    have := Vh.out
    omega
   have pQ : Hid (Off p g w w5) := (pR.out.trans (((hoff.trans sN (.inl rfl)).trans Bb (.inl rfl))) hgw.out)
   clear PE PD Bb sN h4
   replace h5 := Lib.hid h5
   go_wp2_with fail
   go_end0
   exact ⟨rfl, g2, L5, h5.out, hgw.out, pQ.out, Lp.out, hl5.out⟩
end
end Go.Proofs.YtnihdgcfamoplaaGreat

namespace Go.Proofs.YtnihdgcfamoplaaGreat
open Go.RowKit Go.Sort Go.Lib
section
variable {L : List (Int × Int)} {now : Int} {f : Int → Int}
theorem iQ.mono (hs : Sm L now f) {s t : Int} {i j : Nat} (hi : iQ L s i) (hj : iQ L t j) (hst : s ≤ t) : i ≤ j := by
 rcases Nat.lt_or_ge j i with h1 | h1
 ·have h2 := hj.nx (by have := hi.lt; omega)
  have h3 := hi.le (by omega)
  have h4 := hs.le (i := j + 1) (j := i) h1 hi.lt
  omega
 ·exact h1
theorem Dn (hs : Sm L now f) {lo hi : Int} {i j : Nat} (h1 : iQ L lo i) (h2 : iQ L (hi - 1) j) (hn : now ≤ lo) (hlt : lo < hi) :
  i ≤ j ∧ (∀ t, lo ≤ t → t < hi → ∃ q, i ≤ q ∧ q ≤ j ∧ f t = tV L q) ∧ ∀ q, i ≤ q → q ≤ j → ∃ t, lo ≤ t ∧ t < hi ∧ f t = tV L q := by
 have hij := h1.mono hs h2 (by omega)
 refine ⟨hij, fun t h3 h4 => ?_, fun q h3 h4 => ?_⟩
 ·obtain ⟨q, hq⟩ := hs.ix t
  exact ⟨q, h1.mono hs hq h3, hq.mono hs h2 (by omega), hq.val hs (by omega)⟩
 ·have hjl := h2.lt
  have M0 : q < L.length := by omega
  have hjle := h2.vQ hs (by omega)
  have hqj := hs.le h4 hjl
  have hnx : q + 1 < L.length → lo < tA L (q + 1) := fun hx => by
   have h5 := h1.nx (by omega)
   have h6 := hs.le (i := i + 1) (j := q + 1) (by omega) hx
   omega
  refine ⟨max (tA L q) lo, by omega, by omega, hs.rep q _ M0 (by omega) fun hx => ?_⟩
  have := hnx hx
  have := hs.inc q hx
  omega
end
section
variable {w : World} {p g : Nat} {L : List (Int × Int)} {aJ now : Int} {f : Int → Int}
theorem Ci (a b : Int) (Va : -9223372036854775808 ≤ b ∧ b ≤ 9223372036854775807) (hs : Sm L now f) (hn : 0 ≤ now) (hl : L.length ≤ 1000) (h : PW w p g L aJ) :
  Calls Tryz.prog 111 #[.pointer (some ⟨p, 0, none⟩), .int .i64 a, .int .i64 b] w fun e w' => ∃ m : Int, e = .returned (.int .i64 m) ∧ BL f (max a now) b m ∧ Below w.heap.size w w' := by
 have hno := fe h hs.pos
 by_cases hab : b ≤ max a now
 ·have hp := A8 a b h hs.pos (by rw [hs.hd]; exact hab)
  have hB : Hid (BL f (max a now) b 64) := ⟨Int.le_refl _, fun t h1 h2 => by omega, .inl rfl⟩
  go_enter Tryz.func111, Tryz.ntmps111
  go_wp2_with (first | (go_at_call 58; go_must (refine hno.mono ?_); rintro e w' ⟨rfl, rfl⟩) | (go_at_call 130; go_must (refine hp.mono ?_); rintro e w' ⟨rfl, rfl⟩))
  go_loopw [7, 17] (fun u i wr => u = .int .i64 64 ∧ i = .int .i64 0 ∧ wr = w) (fun _ _ _ => 0)
  case atStart => exact ⟨rfl, rfl, rfl⟩
  case round =>
   obtain ⟨rfl, rfl, rfl⟩ := hrel
   go_wp2_with fail
   go_ret
   exact ⟨64, rfl, hB.out, Below.refl _ _⟩
 ·obtain ⟨m0, hm0⟩ : ∃ m0, m0 = max a now := ⟨_, rfl⟩
  obtain ⟨i, hi⟩ := hs.ix m0
  obtain ⟨j, hj⟩ := hs.ix (b - 1)
  obtain ⟨hij, hall, hone⟩ := Dn hs hi hj (by omega) (by omega)
  rw [← hm0] at hab ⊢
  obtain ⟨cap, F⟩ := h.facts
  have hp := A9 a b m0 (by rw [hs.hd]; exact hm0.symm) (by omega) (by omega) hi hj hij hs hl h F
  have hjl := hj.lt
  obtain ⟨c, hc⟩ : ∃ c, c = j + 1 - i := ⟨_, rfl⟩
  obtain ⟨cc, hcc⟩ : ∃ cc, cc = cap - i := ⟨_, rfl⟩
  rw [← hc, ← hcc] at hp
  have rD := F.own
  clear F
  replace hi := Lib.hid hi
  replace hj := Lib.hid hj
  replace hall := Lib.hid hall
  replace hone := Lib.hid hone
  replace hc := Lib.hid hc
  replace hcc := Lib.hid hcc
  replace hm0 := Lib.hid hm0
  go_enter Tryz.func111, Tryz.ntmps111
  go_wp2_with (go_at_call 58; go_must (refine hno.mono ?_); rintro e w' ⟨rfl, rfl⟩)
  go_at_call 130
  refine hp.mono ?_
  clear hp hno
  rintro e w1 ⟨rfl, hb1⟩
  go_wp2_with fail
  go_loopw [7, 17] (fun u k wr => ∃ (q : Nat) (m : Int), q ≤ c ∧ k = .int .i64 q ∧ u = .int .i64 m ∧ m ≤ 64 ∧ (∀ r, r < q → m ≤ tV L (i + r)) ∧ (m = 64 ∨ ∃ r, r < q ∧ m = tV L (i + r)) ∧ Below w.heap.size w wr) (fun _ k _ => c - (intOf k).toNat)
  case atStart => exact ⟨0, 64, Nat.zero_le _, rfl, rfl, Int.le_refl _, fun r hr => by omega, .inl rfl, hb1⟩
  case round =>
   obtain ⟨q, m, hq, rfl, rfl, Vk, hlo, hex, hbr⟩ := hrel
   by_cases hlt : q < c
   ·have hcv := hc.out
    have hown := cz rD hbr
    obtain ⟨s0, s1⟩ := step_cells hown (show i + q < L.length by omega)
    rw [Nat.add_mul] at s0 s1
    obtain ⟨x, hx⟩ : ∃ x, x = tV L (i + q) := ⟨_, rfl⟩
    obtain ⟨y, hy⟩ : ∃ y, y = tA L (i + q) := ⟨_, rfl⟩
    rw [← hx] at s1
    rw [← hy] at s0
    have hsz := hbr.size
    have hw2 : IntKind.i64.wrap ((q : Int) + 1) = (q : Int) + 1 := IntWalk.i64_in _ (by omega)
    have b1 : (0 : Int) ≤ q := by omega
    have b2 : (q : Int) < (c : Int) := by omega
    have hbd : Below w.heap.size w (wr.alloc (.cells #[.int .i64 y, .int .i64 x] 102)) := hbr.alloc hsz _
    have hlo2 : Hid (∀ r, r < q + 1 → min m x ≤ tV L (i + r)) := fun r hr => by
     rcases Nat.lt_or_ge r q with h5 | h5
     ·have := hlo r h5; omega
     ·have : r = q := by omega
      subst this; rw [← hx]; omega
    have Vl : Hid (min m x = 64 ∨ ∃ r, r < q + 1 ∧ min m x = tV L (i + r)) := by
     show _ ∨ _
     rcases Int.lt_or_le x m with h5 | h5
     ·exact .inr ⟨q, by omega, by rw [← hx]; omega⟩
     ·have e : min m x = m := by omega
      rw [e]
      rcases hex with h6 | ⟨r, h6, h7⟩
      ·exact .inl h6
      ·exact .inr ⟨r, by omega, h7⟩
    replace hx := Lib.hid hx
    replace hy := Lib.hid hy
    clear hlo hex hcv hown
    go_wp2_with fail
    go_roundw
    case rel => exact ⟨q + 1, min m x, by omega, by go_num, rfl, by omega, hlo2.out, Vl.out, hbd⟩
    case measure => simp [intOf]; omega
   ·obtain rfl : q = c := by omega
    have hB : Hid (BL f m0 b m) := by
     refine ⟨Vk, fun t h1 h2 => ?_, ?_⟩
     ·obtain ⟨r, h3, h4, h5⟩ := hall.out t h1 h2
      have := hlo (r - i) (by have := hc.out; omega)
      rw [show i + (r - i) = r by omega] at this
      omega
     ·rcases hex with h6 | ⟨r, h6, h7⟩
      ·exact .inl h6
      ·obtain ⟨t, h3, h4, h5⟩ := hone.out (i + r) (by omega) (by have := hc.out; omega)
       exact .inr ⟨t, h3, h4, by omega⟩
    clear hlo hex
    go_wp2_with fail
    go_ret
    exact ⟨m, rfl, hB.out, hbr⟩
end
def PG (f : Int → Int) (now a b n e : Int) (f' : Int → Int) (dv : Int) : Prop :=
 ((b ≤ a ∨ 1152921504606846976 < b ∨ n < -64 ∨ 64 < n) ∧ e = 1 ∧ f' = f ∧ dv = 0) ∨
 (¬ (b ≤ a ∨ 1152921504606846976 < b ∨ n < -64 ∨ 64 < n) ∧ (b ≤ max a now ∨ n = 0) ∧ e = 0 ∧ f' = f ∧ dv = 0) ∨
 (¬ (b ≤ a ∨ 1152921504606846976 < b ∨ n < -64 ∨ 64 < n) ∧ ¬ (b ≤ max a now ∨ n = 0) ∧ (∃ t, max a now ≤ t ∧ t < b ∧ (f t + n < 0 ∨ 64 < f t + n)) ∧ e = 5 ∧ f' = f ∧ dv = 0) ∨
 (¬ (b ≤ a ∨ 1152921504606846976 < b ∨ n < -64 ∨ 64 < n) ∧ ¬ (b ≤ max a now ∨ n = 0) ∧ (∀ t, max a now ≤ t → t < b → 0 ≤ f t + n ∧ f t + n ≤ 64) ∧ e = 0 ∧ f' = (fun t => f t + had (max a now) b n t) ∧ dv = 1)
end Go.Proofs.YtnihdgcfamoplaaGreat

namespace Go.Proofs.YtnihdgcfamoplaaGreat
open Go.RowKit Go.Sort Go.Lib
section
variable {w : World} {p g : Nat} {L : List (Int × Int)} {aJ now : Int} {f : Int → Int}
theorem Lr (v : Int) (h : PW w p g L aJ) : PW (w.setCell ⟨p, 1, none⟩ (.int .i64 v)) p g L v := by
 obtain ⟨cap, F⟩ := h.facts
 have hlt := F.pl
 have h1' : w.heap[p] = _ := (Array.getElem?_eq_some_iff.1 F.obj).2
 refine ⟨cap, by simp [World.setCell, hlt, Array.getElem_modify, h1'], zD F.own (fun k hk => by cases hk; exact fun e => F.pg e.symm) 1 _⟩
def cK (w : World) (p g : Nat) (L : List (Int × Int)) (aJ now : Int) (f : Int → Int) (a b n : Int) (e : Ending) (w' : World) : Prop :=
 ∃ (r dv : Int) (f' : Int → Int) (g' : Nat) (L' : List (Int × Int)), e = .returned (.int .i64 r) ∧ PG f now a b n r f' dv ∧ PW w' p g' L' (aJ + dv) ∧ Can L' now f' ∧ (g' = g ∨ w.heap.size ≤ g') ∧ Off p g w w' ∧ L'.length ≤ L.length + 2
theorem cK.same {a b n r : Int} {w' : World} (h : PW w p g L aJ) (hC : Can L now f) (hR : PG f now a b n r f 0) (hb : Below w.heap.size w w') : cK w p g L aJ now f a b n (.returned (.int .i64 r)) w' :=
 ⟨r, 0, f, g, L, rfl, hR, by rw [Int.add_zero]; exact h.kept hb, hC, .inl rfl, Off.of_below hb, by omega⟩
theorem PH (a b n : Int) (hC : Can L now f) (h : PW w p g L aJ) (hbad : b ≤ a ∨ 1152921504606846976 < b ∨ n < -64 ∨ 64 < n) :
  Calls Tryz.prog 152 #[.pointer (some ⟨p, 0, none⟩), .int .i64 a, .int .i64 b, .int .i64 n] w (cK w p g L aJ now f a b n) := by
 have hno := fe h hC.sm.pos
 have hfin : Hid (cK w p g L aJ now f a b n (.returned (.int .i64 1)) w) := cK.same h hC (.inl ⟨hbad, rfl, rfl, rfl⟩) (Below.refl _ _)
 by_cases h1 : b ≤ a
 ·go_enter Tryz.func152, Tryz.ntmps152
  go_wp2_with (go_at_call 58; go_must (refine hno.mono ?_); rintro e w' ⟨rfl, rfl⟩)
  go_ret
  exact hfin.out
 ·by_cases h2 : 1152921504606846976 < b
  ·go_enter Tryz.func152, Tryz.ntmps152
   go_wp2_with (go_at_call 58; go_must (refine hno.mono ?_); rintro e w' ⟨rfl, rfl⟩)
   go_ret
   exact hfin.out
  ·by_cases h3 : n < -64
   ·go_enter Tryz.func152, Tryz.ntmps152
    go_wp2_with (go_at_call 58; go_must (refine hno.mono ?_); rintro e w' ⟨rfl, rfl⟩)
    go_ret
    exact hfin.out
   ·have h4 : 64 < n := by omega
    go_enter Tryz.func152, Tryz.ntmps152
    go_wp2_with (go_at_call 58; go_must (refine hno.mono ?_); rintro e w' ⟨rfl, rfl⟩)
    go_ret
    exact hfin.out
theorem M4 (a b n : Int) (hC : Can L now f) (h : PW w p g L aJ) (hok : ¬ (b ≤ a ∨ 1152921504606846976 < b ∨ n < -64 ∨ 64 < n)) (hz : b ≤ max a now) :
  Calls Tryz.prog 152 #[.pointer (some ⟨p, 0, none⟩), .int .i64 a, .int .i64 b, .int .i64 n] w (cK w p g L aJ now f a b n) := by
 have hno := fe h hC.sm.pos
 have hp := A8 a b h hC.sm.pos (by rw [hC.sm.hd]; exact hz)
 have hfin : Hid (cK w p g L aJ now f a b n (.returned (.int .i64 0)) w) := cK.same h hC (.inr (.inl ⟨hok, .inl hz, rfl, rfl, rfl⟩)) (Below.refl _ _)
 have h1 : ¬ (b ≤ a) := by omega
 have h2 : ¬ (1152921504606846976 < b) := by omega
 have h3 : ¬ (n < -64) := by omega
 have h4 : ¬ (64 < n) := by omega
 clear hok hz
 go_enter Tryz.func152, Tryz.ntmps152
 go_wp2_with (first | (go_at_call 58; go_must (refine hno.mono ?_); rintro e w' ⟨rfl, rfl⟩) | (go_at_call 130; go_must (refine hp.mono ?_); rintro e w' ⟨rfl, rfl⟩))
 go_ret
 exact hfin.out
theorem M5 (a b n : Int) (hC : Can L now f) (hn0 : 0 ≤ now) (hf : ∀ t, now ≤ t → 0 ≤ f t ∧ f t ≤ 64) (wJ : 0 ≤ aJ ∧ aJ ≤ 1000000) (hl : L.length ≤ 800) (h : PW w p g L aJ) (hok : ¬ (b ≤ a ∨ 1152921504606846976 < b ∨ n < -64 ∨ 64 < n)) (hz : ¬ b ≤ max a now) :
  Calls Tryz.prog 152 #[.pointer (some ⟨p, 0, none⟩), .int .i64 a, .int .i64 b, .int .i64 n] w (cK w p g L aJ now f a b n) := by
 have hno := fe h hC.sm.pos
 obtain ⟨m0, hm0⟩ : ∃ m0, m0 = max a now := ⟨_, rfl⟩
 obtain ⟨i, hi⟩ := hC.sm.ix m0
 obtain ⟨j, hj⟩ := hC.sm.ix (b - 1)
 obtain ⟨hij, hall, hone⟩ := Dn hC.sm hi hj (by omega) (by omega)
 obtain ⟨cap, F⟩ := h.facts
 have hp := A9 a b m0 (by rw [hC.sm.hd]; exact hm0.symm) (by omega) (by omega) hi hj hij hC.sm (by omega) h F
 have hjl := hj.lt
 obtain ⟨c, hc⟩ : ∃ c, c = j + 1 - i := ⟨_, rfl⟩
 obtain ⟨cc, hcc⟩ : ∃ cc, cc = cap - i := ⟨_, rfl⟩
 rw [← hc, ← hcc] at hp
 have rD := F.own
 clear F
 have h1 : ¬ (b ≤ a) := by omega
 have h2 : ¬ (1152921504606846976 < b) := by omega
 have h3 : ¬ (n < -64) := by omega
 have h4 : ¬ (64 < n) := by omega
 have hc0 : ((c : Int) == 0) = false := beq_eq_false_iff_ne.2 (by omega)
 have hc0' : ¬ ((c : Int) = 0) := by omega
 have TM : Hid (now ≤ m0 ∧ m0 < b) := by show _ ∧ _; omega
 replace hi := Lib.hid hi
 replace hj := Lib.hid hj
 replace hall := Lib.hid hall
 replace hone := Lib.hid hone
 replace hc := Lib.hid hc
 replace hcc := Lib.hid hcc
 replace hf := Lib.hid hf
 by_cases hn : n = 0
 ·have hfin : Hid (∀ w1, Below w.heap.size w w1 → cK w p g L aJ now f a b n (.returned (.int .i64 0)) w1) := fun w1 hb => cK.same h hC (.inr (.inl ⟨hok, .inr hn, rfl, rfl, rfl⟩)) hb
  clear hok hz
  subst hn
  replace hm0 := Lib.hid hm0
  go_enter Tryz.func152, Tryz.ntmps152
  go_wp2_with (first | (go_at_call 58; go_must (refine hno.mono ?_); rintro e w' ⟨rfl, rfl⟩) | (go_at_call 130; go_must (refine hp.mono ?_); rintro e w1 ⟨rfl, hb1⟩))
  go_ret
  exact hfin.out _ hb1
 ·have hn' : (n == 0) = false := beq_eq_false_iff_ne.2 hn
  have hz' : ¬ (b ≤ max a now ∨ n = 0) := by omega
  have hbad : Hid (∀ w1 t, Below w.heap.size w w1 → m0 ≤ t → t < b → (f t + n < 0 ∨ 64 < f t + n) → cK w p g L aJ now f a b n (.returned (.int .i64 5)) w1) := fun w1 t hb h5 h6 h7 => cK.same h hC (.inr (.inr (.inl ⟨hok, hz', ⟨t, by omega, h6, h7⟩, rfl, rfl, rfl⟩))) hb
  have hgood : Hid ((∀ t, m0 ≤ t → t < b → 0 ≤ f t + n ∧ f t + n ≤ 64) → PG f now a b n 0 (fun t => f t + had m0 b n t) 1) := fun hx => .inr (.inr (.inr ⟨hok, hz', fun t h5 h6 => hx t (by omega) h6, rfl, by rw [hm0], rfl⟩))
  have WI : max a (tA L 0) = m0 := by rw [hC.sm.hd]; exact hm0.symm
  clear hok hz hz'
  replace hm0 := Lib.hid hm0
  go_enter Tryz.func152, Tryz.ntmps152
  go_wp2_with (go_at_call 58; go_must (refine hno.mono ?_); rintro e w' ⟨rfl, rfl⟩)
  go_at_call 130
  refine hp.mono ?_
  clear hp hno
  rintro e w1 ⟨rfl, hb1⟩
  go_wp2_with fail
  go_loopw [43] (fun k wr => ∃ (q : Nat), q ≤ c ∧ k = .int .i64 q ∧ (∀ r, r < q → 0 ≤ tV L (i + r) + n ∧ tV L (i + r) + n ≤ 64) ∧ Below w.heap.size w wr) (fun k _ => c - (intOf k).toNat)
  case atStart => exact ⟨0, Nat.zero_le _, rfl, fun r hr => by omega, hb1⟩
  case round =>
   obtain ⟨q, hq, rfl, hlo, hbr⟩ := hrel
   by_cases hlt : q < c
   ·have hcv := hc.out
    have hown := cz rD hbr
    obtain ⟨s0, s1⟩ := step_cells hown (show i + q < L.length by omega)
    rw [Nat.add_mul] at s0 s1
    have Vm := hone.out (i + q) (by omega) (by omega)
    obtain ⟨x, hx⟩ : ∃ x, x = tV L (i + q) := ⟨_, rfl⟩
    obtain ⟨y, hy⟩ : ∃ y, y = tA L (i + q) := ⟨_, rfl⟩
    rw [← hx] at s1 Vm
    rw [← hy] at s0
    obtain ⟨t, ht1, ht2, ht3⟩ := Vm
    have qf := hf.out t (by have := TM.out; omega)
    rw [ht3] at qf
    have hsz := hbr.size
    have hw1 : IntKind.i64.wrap (x + n) = x + n := IntWalk.i64_in _ (by omega)
    have hw2 : IntKind.i64.wrap ((q : Int) + 1) = (q : Int) + 1 := IntWalk.i64_in _ (by omega)
    have b1 : (0 : Int) ≤ q := by omega
    have b2 : (q : Int) < (c : Int) := by omega
    have hbd : Below w.heap.size w (wr.alloc (.cells #[.int .i64 y, .int .i64 x] 102)) := hbr.alloc hsz _
    have Bc : Hid (x + n < 0 ∨ 64 < x + n → ∀ w1, Below w.heap.size w w1 → cK w p g L aJ now f a b n (.returned (.int .i64 5)) w1) := fun h5 w1 h6 => hbad.out w1 t h6 ht1 ht2 (by rw [ht3]; exact h5)
    clear hbad
    by_cases h5 : x + n < 0
    ·have hh := Bc.out (.inl h5) _ hbd
     replace hh := Lib.hid hh
     replace hx := Lib.hid hx
     replace hy := Lib.hid hy
     replace ht3 := Lib.hid ht3
     clear hlo hcv hown Bc
     go_wp2_with fail
     go_ret
     exact hh.out
    ·by_cases h6 : 64 < x + n
     ·have hh := Bc.out (.inr h6) _ hbd
      replace hh := Lib.hid hh
      replace hx := Lib.hid hx
      replace hy := Lib.hid hy
      replace ht3 := Lib.hid ht3
      clear hlo hcv hown Bc
      go_wp2_with fail
      go_ret
      exact hh.out
     ·have hlo2 : Hid (∀ r, r < q + 1 → 0 ≤ tV L (i + r) + n ∧ tV L (i + r) + n ≤ 64) := fun r hr => by
       rcases Nat.lt_or_ge r q with h7 | h7
       ·exact hlo r h7
       ·have : r = q := by omega
        subst this; rw [← hx]; omega
      replace hx := Lib.hid hx
      replace hy := Lib.hid hy
      replace ht3 := Lib.hid ht3
      clear hlo hcv hown Bc
      go_wp2_with fail
      go_roundw
      case rel => exact ⟨q + 1, by omega, by go_num, hlo2.out, hbd⟩
      case measure => simp [intOf]; omega
   ·obtain rfl : q = c := by omega
    have hR := hgood.out fun t h5 h6 => by
     obtain ⟨r, h7, h8, h9⟩ := hall.out t h5 h6
     have := hlo (r - i) (by have := hc.out; omega)
     rw [show i + (r - i) = r by omega] at this
     rw [h9]; exact this
    have TN := h.kept hbr
    have hnw := oC TN hC.sm.pos
    have hsh := JW m0 b n hC TM.out.1 TM.out.2 (by omega) (fun t ht => by have := hf.out t ht; omega) (by omega) hl TN
    have hwv : IntKind.i64.wrap (aJ + 1) = aJ + 1 := IntWalk.i64_in _ (by omega)
    replace hR := Lib.hid hR
    clear hlo hbad hgood h rD TN
    go_wp2_with (go_at_call 25; go_must (refine hnw.mono ?_); rintro e w' ⟨rfl, rfl⟩)
    go_at_call 177
    refine hsh.mono ?_
    clear hsh hnw
    rintro e w5 ⟨rfl, g5, L5, h5, hg5, Bb, gL, hl5⟩
    obtain ⟨cap5, F5⟩ := h5.facts
    have c1 := F5.c1
    have fz := F5.fz 1
    clear F5
    have hnew := Lr (aJ + 1) h5
    have hpost : Hid (cK w p g L aJ now f a b n (.returned (.int .i64 0)) (w5.setCell ⟨p, 1, none⟩ (.int .i64 (aJ + 1)))) :=
     ⟨0, 1, _, g5, L5, rfl, hR.out, hnew, gL, by have := hbr.size; omega, ((Off.of_below hbr).trans Bb (.inl rfl)).setCell (.inl rfl), hl5⟩
    clear hnew h5 gL Bb hg5 hl5 hR
    go_wp2_with fail
    go_ret
    exact hpost.out
theorem yQ (a b n : Int) (hC : Can L now f) (hn0 : 0 ≤ now) (hf : ∀ t, now ≤ t → 0 ≤ f t ∧ f t ≤ 64) (wJ : 0 ≤ aJ ∧ aJ ≤ 1000000) (hl : L.length ≤ 800) (h : PW w p g L aJ) :
  Calls Tryz.prog 152 #[.pointer (some ⟨p, 0, none⟩), .int .i64 a, .int .i64 b, .int .i64 n] w (cK w p g L aJ now f a b n) := by
 by_cases hbad : b ≤ a ∨ 1152921504606846976 < b ∨ n < -64 ∨ 64 < n
 ·exact PH a b n hC h hbad
 ·by_cases hz : b ≤ max a now
  ·exact M4 a b n hC h hbad hz
  ·exact M5 a b n hC hn0 hf wJ hl h hbad hz
end
end Go.Proofs.YtnihdgcfamoplaaGreat

namespace Go.Proofs.YtnihdgcfamoplaaGreat
open Go.RowKit Go.Sort Go.Lib
section
variable {w : World} {p g : Nat} {L : List (Int × Int)} {aJ now : Int} {f : Int → Int}
theorem cK.ahead {a b n : Int} {w0 w' : World} {e : Ending} (h : cK w p g L aJ now f a b n e w') (hb : Below w0.heap.size w0 w) : cK w0 p g L aJ now f a b n e w' := by
 obtain ⟨r, dv, f', g', L', h1, h2, h3, h4, h5, h6, h7⟩ := h
 exact ⟨r, dv, f', g', L', h1, h2, h3, h4, by have := hb.size; omega, (Off.of_below hb).trans h6 (.inl rfl), h7⟩
theorem yR (a b n k : Int) (hn : 0 ≤ n ∧ n ≤ 64) (hk : k = 1 ∨ k = -1) (hC : Can L now f) (hn0 : 0 ≤ now) (hf : ∀ t, now ≤ t → 0 ≤ f t ∧ f t ≤ 64) (wJ : 0 ≤ aJ ∧ aJ ≤ 1000000) (hl : L.length ≤ 800) (h : PW w p g L aJ) :
  Calls Tryz.prog 131 #[.pointer (some ⟨p, 0, none⟩), .agg #[.int .i64 a, .int .i64 b, .int .i64 n], .int .i64 k] w (cK w p g L aJ now f a b (k * n)) := by
 obtain ⟨m, hm⟩ : ∃ m, m = k * n := ⟨_, rfl⟩
 have hmw : IntKind.i64.wrap (k * n) = m := by rw [← hm]; exact IntWalk.i64_in _ (by rcases hk with rfl | rfl <;> omega)
 have hb1 : Below w.heap.size w (w.alloc (.cells #[.int .i64 a, .int .i64 b, .int .i64 n] 152)) := (Below.refl _ _).alloc (Nat.le_refl _) _
 have h1 := h.kept hb1
 have hno := fe h1 hC.sm.pos
 have hadd := yQ a b m hC hn0 hf wJ hl h1
 rw [← hm]
 have hn1 : ¬ (n < 0) := by omega
 have hn2 : ¬ (64 < n) := by omega
 replace hm := Lib.hid hm
 replace hf := Lib.hid hf
 clear hk hn h
 go_enter Tryz.func131, Tryz.ntmps131
 go_wp2_with (go_at_call 58; go_must (refine hno.mono ?_); rintro e w' ⟨rfl, rfl⟩)
 go_at_call 152
 refine hadd.mono ?_
 clear hadd hno
 intro e w2 hp
 obtain ⟨r, dv, f', g', L', rfl, hrest⟩ := hp
 have hfin : Hid (cK w p g L aJ now f a b m (.returned (.int .i64 r)) w2) := cK.ahead (w := w.alloc (.cells #[.int .i64 a, .int .i64 b, .int .i64 n] 152)) ⟨r, dv, f', g', L', rfl, hrest⟩ hb1
 clear hrest h1 hb1
 go_wp2_with fail
 go_ret
 exact hfin.out
theorem E5 (a b n : Int) (hn : 0 ≤ n ∧ n ≤ 64) (hC : Can L now f) (hn0 : 0 ≤ now) (hf : ∀ t, now ≤ t → 0 ≤ f t ∧ f t ≤ 64) (wJ : 0 ≤ aJ ∧ aJ ≤ 1000000) (hl : L.length ≤ 800) (h : PW w p g L aJ) :
  Calls Tryz.prog 132 #[.pointer (some ⟨p, 0, none⟩), .agg #[.int .i64 a, .int .i64 b, .int .i64 n]] w (cK w p g L aJ now f a b (-n)) := by
 have hb1 : Below w.heap.size w (w.alloc (.cells #[.int .i64 a, .int .i64 b, .int .i64 n] 152)) := (Below.refl _ _).alloc (Nat.le_refl _) _
 have hch := yR a b n (-1) hn (.inr rfl) hC hn0 hf wJ hl (h.kept hb1)
 rw [show (-1 : Int) * n = -n by omega] at hch
 replace hf := Lib.hid hf
 clear hn h
 go_enter Tryz.func132, Tryz.ntmps132
 go_wp2_with fail
 go_at_call 131
 refine hch.mono ?_
 clear hch
 intro e w2 hp
 obtain ⟨r, dv, f', g', L', rfl, hrest⟩ := hp
 have hfin : Hid (cK w p g L aJ now f a b (-n) (.returned (.int .i64 r)) w2) := cK.ahead (w := w.alloc (.cells #[.int .i64 a, .int .i64 b, .int .i64 n] 152)) ⟨r, dv, f', g', L', rfl, hrest⟩ hb1
 clear hrest hb1
 go_wp2_with fail
 go_ret
 exact hfin.out
theorem E8 (a b n : Int) (hn : 0 ≤ n ∧ n ≤ 64) (hC : Can L now f) (hn0 : 0 ≤ now) (hf : ∀ t, now ≤ t → 0 ≤ f t ∧ f t ≤ 64) (wJ : 0 ≤ aJ ∧ aJ ≤ 1000000) (hl : L.length ≤ 800) (h : PW w p g L aJ) :
  Calls Tryz.prog 112 #[.pointer (some ⟨p, 0, none⟩), .agg #[.int .i64 a, .int .i64 b, .int .i64 n]] w (cK w p g L aJ now f a b n) := by
 have hb1 : Below w.heap.size w (w.alloc (.cells #[.int .i64 a, .int .i64 b, .int .i64 n] 152)) := (Below.refl _ _).alloc (Nat.le_refl _) _
 have hch := yR a b n 1 hn (.inl rfl) hC hn0 hf wJ hl (h.kept hb1)
 rw [show (1 : Int) * n = n by omega] at hch
 replace hf := Lib.hid hf
 clear hn h
 go_enter Tryz.func112, Tryz.ntmps112
 go_wp2_with fail
 go_at_call 131
 refine hch.mono ?_
 clear hch
 intro e w2 hp
 obtain ⟨r, dv, f', g', L', rfl, hrest⟩ := hp
 have hfin : Hid (cK w p g L aJ now f a b n (.returned (.int .i64 r)) w2) := cK.ahead (w := w.alloc (.cells #[.int .i64 a, .int .i64 b, .int .i64 n] 152)) ⟨r, dv, f', g', L', rfl, hrest⟩ hb1
 clear hrest hb1
 go_wp2_with fail
 go_ret
 exact hfin.out
theorem Hd (n : Int) (w : World) (h : 0 ≤ n ∧ n ≤ 64) : Calls Tryz.prog 69 #[.int .i64 n] w fun e w' => ∃ p g : Nat, e = .returned (.tuple #[.pointer (some ⟨p, 0, none⟩), .int .i64 0]) ∧ PW w' p g [(0, n)] 0 ∧ w.heap.size ≤ p ∧ w.heap.size ≤ g ∧ Below w.heap.size w w' := by
 have h1 : ¬ (n < 0) := by omega
 have h2 : ¬ (64 < n) := by omega
 have hp : Hid (∀ w2, w2 = ((w.alloc (.cells #[.int .i64 0, .int .i64 n] 102)).alloc (.cells #[.slice (some ⟨w.heap.size, 0, none⟩) 1 1, .int .i64 0] 104)) → PW w2 (w.heap.size + 1) w.heap.size [(0, n)] 0) := by
  rintro w2 rfl
  have ho : (w.alloc (.cells #[.int .i64 0, .int .i64 n] 102)).ownsRow 0 102 2 (.slice (some ⟨w.heap.size, 0, none⟩) 1 1) 1 (aZ [(0, n)]) := vP (vs := [.int .i64 0, .int .i64 n]) rfl (Nat.zero_le _) rfl (by decide)
  refine ⟨1, ?_, cz ho ((Below.refl _ _).alloc (Nat.le_refl _) _)⟩
  have := heap_alloc_new (w.alloc (.cells #[.int .i64 0, .int .i64 n] 102)) (.cells #[.slice (some ⟨w.heap.size, 0, none⟩) 1 1, .int .i64 0] 104)
  simpa using this
 have hb : Below w.heap.size w ((w.alloc (.cells #[.int .i64 0, .int .i64 n] 102)).alloc (.cells #[.slice (some ⟨w.heap.size, 0, none⟩) 1 1, .int .i64 0] 104)) := ((Below.refl _ _).alloc (Nat.le_refl _) _).alloc (by simp) _
 clear h
 go_enter Tryz.func69, Tryz.ntmps69
 go_wp2_with fail
 go_ret2
 exact ⟨w.heap.size + 1, rfl, w.heap.size, hp.out _ rfl, by omega, Nat.le_refl _, hb⟩
theorem PI (n : Int) : Can [(0, n)] 0 (fun _ => n) :=
 ⟨⟨by simp, rfl, fun i hi => by simp at hi, fun i hi => by simp at hi; subst hi; simp [tA], fun i t hi _ _ => by simp at hi; subst hi; simp [tV]⟩, fun i hi => by simp at hi⟩
end
end Go.Proofs.YtnihdgcfamoplaaGreat

namespace Go.Proofs.YtnihdgcfamoplaaGreat
open Go.RowKit Go.Sort Go.Lib
def Sz (now t e now' dv : Int) : Prop :=
 ((t < now ∨ 1099511627776 < t) ∧ e = 5 ∧ now' = now ∧ dv = 0) ∨ (¬ (t < now ∨ 1099511627776 < t) ∧ t = now ∧ e = 0 ∧ now' = now ∧ dv = 0) ∨ (¬ (t < now ∨ 1099511627776 < t) ∧ t ≠ now ∧ e = 0 ∧ now' = t ∧ dv = 1)
section
variable {w : World} {p g : Nat} {L : List (Int × Int)} {aJ now : Int} {f : Int → Int}
theorem PL {cap : Nat} (k : Nat) (ho : w.ownsRow 0 102 2 (.slice (some ⟨g, 0, none⟩) L.length cap) L.length (aZ L)) (hl : L.length ≤ 1000) (hk : k ≤ L.length) :
  Calls Tryz.prog 185 #[.slice (some ⟨g, 0, none⟩) L.length cap, .int .i64 0, .int .i64 k] w fun e w' => e = .returned (.slice (some ⟨g, 0, none⟩) (L.length - k) cap) ∧ w'.ownsRow 0 102 2 (.slice (some ⟨g, 0, none⟩) (L.length - k) cap) (L.length - k) (aZ (L.drop k)) ∧ Off g g w w' := by
 have h := yP 0 k ho hl (Nat.zero_le _) hk
 rw [List.take_zero, xD, List.length_drop] at h
 exact h
theorem PM (t : Int) (h : PW w p g L aJ) (hi : 0 < L.length) : PW (w.setCell ⟨g, 0, none⟩ (.int .i64 t)) p g (L.set 0 (t, tV L 0)) aJ := by
 obtain ⟨cap, F⟩ := h.facts
 refine ⟨cap, ?_, ?_⟩
 ·rw [List.length_set, Below.heap_setCell w ⟨g, 0, none⟩ _ p F.pg]
  exact F.obj
 ·have h1 := (F.own.stored 0 (.int .i64 t)).1
  rw [GY, List.length_set]
  have e : ((aZ L).set 0 (.int .i64 t)).set 1 (.int .i64 (tV L 0)) = (aZ L).set 0 (.int .i64 t) := by
   have hg := (AV (AX hi)).2
   obtain ⟨hlt, hv⟩ := List.getElem?_eq_some_iff.1 hg
   rw [List.set_comm _ _ (by decide)]
   have h2 : (aZ L).set 1 (.int .i64 (tV L 0)) = aZ L := by
    have hv' : (aZ L)[1]'(by simpa using hlt) = .int .i64 (tV L 0) := by simpa using hv
    rw [← hv']
    exact List.set_getElem_self _
   rw [h2]
  show World.ownsRow _ 0 _ 2 _ _ (((aZ L).set 0 (.int .i64 t)).set 1 (.int .i64 (tV L 0)))
  rw [e]
  exact h1
def He (w : World) (g : Nat) (L : List (Int × Int)) (k cap : Nat) : List Value → World → Prop
 | [], W => Below w.heap.size w W
 | _ :: _, W => W.ownsRow 0 102 2 (.slice (some ⟨g, 0, none⟩) (L.length - k) cap) (L.length - k) (aZ (L.drop k)) ∧ Off g g w W
theorem He.ext {w : World} {g : Nat} {L : List (Int × Int)} {k cap : Nat} : ∀ (vs : List Value) (W W' : World), Reg2.Ext W W' → He w g L k cap vs W → He w g L k cap vs W' := by
 intro vs W W' he h
 cases vs with
 | nil => exact Below.trans h (he.mono (Below.size h))
 | cons v vs => exact ⟨cz h.1 he, h.2.pq he⟩
def oD (w : World) (p g : Nat) (L : List (Int × Int)) (aJ now : Int) (f : Int → Int) (t : Int) (e : Ending) (w' : World) : Prop :=
 ∃ (r dv now' : Int) (L' : List (Int × Int)), e = .returned (.int .i64 r) ∧ Sz now t r now' dv ∧ PW w' p g L' (aJ + dv) ∧ Can L' now' f ∧ Off p g w w' ∧ L'.length ≤ L.length
theorem Vn (t : Int) (hC : Can L now f) (h : PW w p g L aJ) (hbad : t < now ∨ 1099511627776 < t) :
  Calls Tryz.prog 170 #[.pointer (some ⟨p, 0, none⟩), .int .i64 t] w (oD w p g L aJ now f t) := by
 have hno := fe h hC.sm.pos
 have hnw := oC h hC.sm.pos
 rw [hC.sm.hd] at hnw
 have hfin : Hid (oD w p g L aJ now f t (.returned (.int .i64 5)) w) := ⟨5, 0, now, L, rfl, .inl ⟨hbad, rfl, rfl, rfl⟩, by rw [Int.add_zero]; exact h, hC, Off.refl _ _ _, Nat.le_refl _⟩
 by_cases h1 : t < now
 ·go_enter Tryz.func170, Tryz.ntmps170
  go_wp2_with (first | (go_at_call 58; go_must (refine hno.mono ?_); rintro e w' ⟨rfl, rfl⟩) | (go_at_call 25; go_must (refine hnw.mono ?_); rintro e w' ⟨rfl, rfl⟩))
  go_ret
  exact hfin.out
 ·have h2 : 1099511627776 < t := by omega
  clear hbad
  go_enter Tryz.func170, Tryz.ntmps170
  go_wp2_with (first | (go_at_call 58; go_must (refine hno.mono ?_); rintro e w' ⟨rfl, rfl⟩) | (go_at_call 25; go_must (refine hnw.mono ?_); rintro e w' ⟨rfl, rfl⟩))
  go_ret
  exact hfin.out
theorem M6 (hC : Can L now f) (h : PW w p g L aJ) (hm : now ≤ 1099511627776) :
  Calls Tryz.prog 170 #[.pointer (some ⟨p, 0, none⟩), .int .i64 now] w (oD w p g L aJ now f now) := by
 have hno := fe h hC.sm.pos
 have hnw := oC h hC.sm.pos
 rw [hC.sm.hd] at hnw
 have hfin : Hid (oD w p g L aJ now f now (.returned (.int .i64 0)) w) := ⟨0, 0, now, L, rfl, .inr (.inl ⟨by omega, rfl, rfl, rfl, rfl⟩), by rw [Int.add_zero]; exact h, hC, Off.refl _ _ _, Nat.le_refl _⟩
 have h1 : ¬ (now < now) := by omega
 have h2 : ¬ (1099511627776 < now) := by omega
 go_enter Tryz.func170, Tryz.ntmps170
 go_wp2_with (first | (go_at_call 58; go_must (refine hno.mono ?_); rintro e w' ⟨rfl, rfl⟩) | (go_at_call 25; go_must (refine hnw.mono ?_); rintro e w' ⟨rfl, rfl⟩))
 go_ret
 exact hfin.out
theorem RO (t : Int) (hC : Can L now f) (h : PW w p g L aJ) (wJ : 0 ≤ aJ ∧ aJ ≤ 1000000) (hl : L.length ≤ 1000) (hlt : now < t) (hm : t ≤ 1099511627776) :
  Calls Tryz.prog 170 #[.pointer (some ⟨p, 0, none⟩), .int .i64 t] w (oD w p g L aJ now f t) := by
 have ni := iW
 have hno := fe h hC.sm.pos
 have hnw := oC h hC.sm.pos
 rw [hC.sm.hd] at hnw
 obtain ⟨k, hk⟩ := hC.sm.ix t
 have hkl := hk.lt
 obtain ⟨cap, F⟩ := h.facts
 have c0 := F.c0
 have pl := F.pl
 have pg := F.pg
 have rD := F.own
 have G9 := F.obj
 clear F
 have h1 : ¬ (t < now) := by omega
 have h2 : ¬ (1099511627776 < t) := by omega
 have h3 : (t == now) = false := beq_eq_false_iff_ne.2 (by omega)
 have hwv : IntKind.i64.wrap (aJ + 1) = aJ + 1 := IntWalk.i64_in _ (by omega)
 have Lp : Hid (∀ L' : List (Int × Int), L' = (L.drop k).set 0 (t, tV (L.drop k) 0) → Can L' t f ∧ L'.length ≤ L.length ∧ 0 < L'.length) := by
  rintro L' rfl
  have hdl : (L.drop k).length = L.length - k := List.length_drop
  have hd0 : 0 < (L.drop k).length := by omega
  have gD : ∀ m, tA (L.drop k) m = tA L (m + k) ∧ tV (L.drop k) m = tV L (m + k) := fun m => by
   unfold tA tV
   rw [List.getD_eq_getElem?_getD, List.getD_eq_getElem?_getD, List.getElem?_drop, Nat.add_comm]
   exact ⟨rfl, rfl⟩
  refine ⟨hC.later hk (by omega) (by omega) (by rw [List.length_set]; exact hdl) ?_ (fun m hm0 => ?_) (fun m => ?_), by rw [List.length_set]; omega, by rw [List.length_set]; omega⟩
  ·unfold tA; rw [List.getD_eq_getElem?_getD, List.getElem?_set_self hd0]; rfl
  ·rw [← (gD m).1]
   unfold tA; rw [List.getD_eq_getElem?_getD, List.getD_eq_getElem?_getD, List.getElem?_set, if_neg (by omega)]
  ·rw [Ll hd0, ← (gD m).2]
   split
   ·rename_i e; subst e; rfl
   ·rfl
 replace hk := Lib.hid hk
 go_enter Tryz.func170, Tryz.ntmps170
 go_wp2_with (first | (go_at_call 58; go_must (refine hno.mono ?_); rintro e w' ⟨rfl, rfl⟩) | (go_at_call 25; go_must (refine hnw.mono ?_); rintro e w' ⟨rfl, rfl⟩))
 refine Reg2.rP 9 44 [[],[af],[af,ae],[af,ae,ae],[af,ae,ae,ae],[af,af,af,af,af],[af,af,af,af,af,af],[af,af,af,af,af,ae,ae],[af,ae,ae,ae,ae,ae,ae,ae]] [0, 0, 0, 0, 1, 0, 0, 2, 3]
  [.pure, .pure, .pure, .pure, .mU (.slice (some ⟨g, 0, none⟩) L.length cap), .pure, .pure, .pinned Unit () (fun _ => .int .i64 k) (fun _ _ => True), .major Unit () (fun _ => .slice (some ⟨g, 0, none⟩) (L.length - k) cap)]
  (fun W => Off g g w W) (He w g L k cap) (fun W W' => Off g g W W') (by kernel_rfl) (by kernel_rfl) rfl rfl He.ext ?_ ?_ ?_ ?_ ?_ ?_
 ·intro a b he hb; exact hb.pq he
 ·intro a b hg hb; exact hb.trans hg (.inl rfl)
 ·refine ⟨trivial, trivial, trivial, trivial, ⟨?_, ?_⟩, trivial, trivial, ⟨?_, ?_⟩, trivial, trivial⟩
  all_goals (intro x a b hk hx; exact trivial)
 ·exact (Off.refl _ _ _).drew
 ·exact (Below.refl _ _).drew
 dsimp only [Reg2.mk, List.zip, List.zipWith, List.take]
 repeat (refine' Reg2.ai _ (by rfl) (fun wz => ?_) ?_; rotate_left; (go_simp; first | rfl | rw [if_neg (by omega)]); simp only [Act.put, xA, xB, xC]; (try simp only [xD]); (try simp only [xE]))
 refine Reg2.pm (fun wz hI hF => ?_) (fun x4 => ?_) (by rfl)
 ·have d0 : wz.cell? ⟨p, 0, none⟩ = _ := (hI.cell (a := ⟨p, 0, none⟩) pl pg pg).trans c0
  go_wp2_with fail
  exact ⟨_, rfl, ⟨(), rfl, trivial⟩, Reg2.Ext.refl _⟩
 simp only [Act.put, xA, xB, xC]; (try simp only [xD]); (try simp only [xE]); (try simp only [id])
 repeat (refine' Reg2.ai _ (by rfl) (fun wz => ?_) ?_; rotate_left; (go_simp; first | rfl | rw [if_neg (by omega)]); simp only [Act.put, xA, xB, xC]; (try simp only [xD]); (try simp only [xE]))
 refine Reg2.pp (fun wz hI hS hF => ?_) (fun x7 => ?_) (by rfl)
 ·have hS1 : Below w.heap.size w wz := hS
  go_wp2_with (go_at_call 151; go_must (refine (xN t hk.out hC.sm hl (h.kept hS1)).mono ?_); rintro e w1 ⟨rfl, A7⟩)
  exact ⟨_, rfl, ⟨(), rfl, trivial⟩, A7⟩
 simp only [Act.put, xA, xB, xC]; (try simp only [xD]); (try simp only [xE]); (try simp only [id])
 refine Reg2.pj (fun wz hI hS hF => ?_) (fun x8 => ?_) (by rfl)
 ·have hS1 : Below w.heap.size w wz := hS
  go_wp2_with (go_at_call 185; go_must (refine (PL k (cz rD hS1) hl (Nat.le_of_lt hkl)).mono ?_); rintro e w5 ⟨rfl, TJ, Pz⟩)
  exact ⟨_, rfl, ⟨⟨(), rfl⟩, TJ, (Off.of_below hS1).trans Pz (.inl rfl)⟩, Pz⟩
 simp only [Act.put, xA, xB, xC]; (try simp only [xD]); (try simp only [xE]); (try simp only [id])
 refine Reg2.aC ?_
 intro w3 HI3 Jz _
 obtain ⟨ho3, qP⟩ := Jz
 have hp3 := G9
 rw [← qP.block p pl pg pg] at hp3
 have d0 : w3.cell? ⟨p, 0, none⟩ = _ := (qP.cell (a := ⟨p, 0, none⟩) pl pg pg).trans c0
 have dz : w3.frozen? ⟨p, 0, none⟩ = false := by simp [World.frozen?, hp3]
 obtain ⟨w4, hw4⟩ : ∃ w4, w4 = w3.setCell ⟨p, 0, none⟩ (.slice (some ⟨g, 0, none⟩) (L.length - k) cap) := ⟨_, rfl⟩
 have TP : PW w4 p g (L.drop k) aJ := by
  rw [hw4]
  have := EX (L' := L.drop k) hp3 (cap' := cap) (g' := g) (by rw [List.length_drop]; exact ho3)
  rw [List.length_drop] at this
  exact this
 have qO : Off p g w w4 := by rw [hw4]; exact qP.mono.setCell (.inl rfl)
 have hd0 : 0 < (L.drop k).length := by rw [List.length_drop]; omega
 have RP := PM t TP hd0
 have pQ := qO.setCell (j := 0) (v := .int .i64 t) (.inr (.inl rfl))
 obtain ⟨cap4, F4⟩ := TP.facts
 have k0 := F4.c0
 have s0 := (step_cells F4.own hd0).1
 have z0 := F4.own.frozenAt 0
 rw [Nat.zero_mul] at s0
 obtain ⟨w5, vB⟩ : ∃ w5, w5 = w4.setCell ⟨g, 0, none⟩ (.int .i64 t) := ⟨_, rfl⟩
 rw [← vB] at RP pQ
 obtain ⟨cap5, F5⟩ := RP.facts
 have k1 := F5.c1
 have z1 := F5.fz 1
 have Vo := Lr (aJ + 1) RP
 have PN := pQ.setCell (j := 1) (v := .int .i64 (aJ + 1)) (.inl rfl)
 obtain ⟨hc1, hc2, hc3⟩ := Lp.out _ rfl
 have hfin : Hid (oD w p g L aJ now f t (.returned (.int .i64 0)) (w5.setCell ⟨p, 1, none⟩ (.int .i64 (aJ + 1)))) := ⟨0, 1, t, _, rfl, .inr (.inr ⟨by omega, by omega, rfl, rfl, rfl⟩), Vo, hc1, PN, hc2⟩
 have hdp : (0 : Int) < ((L.drop k).length : Int) := by omega
 obtain ⟨nn, hnn⟩ : ∃ nn, nn = (L.drop k).length := ⟨_, rfl⟩
 obtain ⟨xx, M7⟩ : ∃ xx, xx = tA (L.drop k) 0 := ⟨_, rfl⟩
 rw [← hnn] at k0 hdp
 rw [← M7] at s0
 clear HI3 ho3 qP hp3 c0 rD G9 TP qO RP pQ F4 F5 Vo PN hc1 hc2 hc3 Lp h hnw hno
 replace hnn := Lib.hid hnn
 replace M7 := Lib.hid M7
 dsimp only [List.drop]
 show wpList _ _ _ [_, _, _] _ _
 subst hw4
 subst vB
 go_wp2_with fail
 go_ret
 exact hfin.out
end
end Go.Proofs.YtnihdgcfamoplaaGreat

namespace Go.Proofs.YtnihdgcfamoplaaGreat
open Go.RowKit Go.Lib Go.Sort
structure Pg where
 now : Int
 J : List Jb
 T : List Int
 f : Int → Int
 cl : Bool
def dH (c t d p : Nat) (v : Value) (g : Nat) (k : Nat) : Prop := k = c ∨ k = t ∨ k = d ∨ k = p ∨ v.ownBlock = some k ∨ k = g
def PR (w : World) (p g : Nat) (a : Nat) (m : Int) (now : Int) (f : Int → Int) : Prop :=
 ∃ S aJ, PW w p g S aJ ∧ Can S now f ∧ S.length ≤ a ∧ 0 ≤ aJ ∧ aJ ≤ m
structure CW (w : World) (c t d p : Nat) (v : Value) (g : Nat) (a : Nat) (m : Int) (P : Pg) : Prop where
 cell : w.heap[c]? = some (.cells #[.pointer (some ⟨t, 0, none⟩), .pointer (some ⟨d, 0, none⟩), .pointer (some ⟨p, 0, none⟩), .bool true, .bool P.cl] 52 (0, 0))
 dX : TV w t v P.J
 nodes : TW w d P.T
 kT : PR w p g a m P.now P.f
structure CS (w w' : World) (c t d p : Nat) (v : Value) (g : Nat) (v' : Value) (g' : Nat) : Prop where
 off : eO (dH c t d p v g) w w'
 grew : iT w (dH c t d p v g) (dH c t d p v' g')
section
variable {w w' w1 w2 : World} {c t d p g g' g1 g2 a a' : Nat} {v v' v1 v2 : Value} {m m' : Int} {P : Pg}
theorem CS.refl (w : World) : CS w w c t d p v g v g := ⟨eO.refl _ _, iT.refl _ _⟩
theorem CS.of_below (h : Below w.heap.size w w1) : CS w w1 c t d p v g v g := ⟨eO.of_below h, iT.refl _ _⟩
theorem CS.trans (h : CS w w1 c t d p v g v1 g1) (h' : CS w1 w2 c t d p v1 g1 v2 g2) : CS w w2 c t d p v g v2 g2 :=
 ⟨h.off.trans h'.off h.grew, h.grew.trans h'.grew h.off.size⟩
theorem CS.heap (h : CS w w1 c t d p v g v1 g1) {k : Nat} (hk : k < w.heap.size) (hn : ¬ dH c t d p v g k) : w1.heap[k]? = w.heap[k]? := h.off.block k hk hn
theorem CS.below {B : Nat} (h : CS w w1 c t d p v g v1 g1) (hS : ∀ k, dH c t d p v g k → B ≤ k) (hB : B ≤ w.heap.size) : Below B w w1 := h.off.below hS hB
theorem CS.lo {B : Nat} (h : CS w w1 c t d p v g v1 g1) (hS : ∀ k, dH c t d p v g k → B ≤ k) (hB : B ≤ w.heap.size) : ∀ k, dH c t d p v1 g1 k → B ≤ k := fun k hk => (h.grew k hk).elim (hS k) (fun hle => Nat.le_trans hB hle)
theorem PW.at {S : List (Int × Int)} {aJ : Int} (h : PW w p g S aJ) : ∃ cs, w.heap[p]? = some (.cells cs 104 (0, 0)) := by obtain ⟨cap, h1, _⟩ := h; exact ⟨_, h1⟩
theorem PW.Vp {S : List (Int × Int)} {aJ : Int} (h : PW w p g S aJ) : ∃ cs, w.heap[g]? = some (.cells cs 102 (0, 0)) := by
 obtain ⟨cap, _, h2⟩ := h
 exact kz h2 rfl
theorem CW.types (h : CW w c t d p v g a m P) {k : Nat} (hk : dH c t d p v g k) : ∃ cs T, w.heap[k]? = some (.cells cs T (0, 0)) ∧
  ((k = c ∧ T = 52) ∨ (k = t ∧ T = 99) ∨ (k = d ∧ T = 106) ∨ (k = p ∧ T = 104) ∨ (v.ownBlock = some k ∧ T = 63) ∨ (k = g ∧ T = 102)) := by
 obtain ⟨S, aJ, hp, _⟩ := h.kT
 rcases hk with rfl | rfl | rfl | rfl | hv | rfl
 ·exact ⟨_, _, h.cell, .inl ⟨rfl, rfl⟩⟩
 ·exact ⟨_, _, h.dX.cell, .inr (.inl ⟨rfl, rfl⟩)⟩
 ·exact ⟨_, _, h.nodes, .inr (.inr (.inl ⟨rfl, rfl⟩))⟩
 ·obtain ⟨cs, h1⟩ := hp.at; exact ⟨_, _, h1, .inr (.inr (.inr (.inl ⟨rfl, rfl⟩)))⟩
 ·obtain ⟨cs, h1⟩ := kz h.dX.own hv; exact ⟨_, _, h1, .inr (.inr (.inr (.inr (.inl ⟨hv, rfl⟩))))⟩
 ·obtain ⟨cs, h1⟩ := hp.Vp; exact ⟨_, _, h1, .inr (.inr (.inr (.inr (.inr ⟨rfl, rfl⟩))))⟩
theorem CW.lt (h : CW w c t d p v g a m P) {k : Nat} (hk : dH c t d p v g k) : k < w.heap.size := by
 obtain ⟨cs, T, h1, _⟩ := h.types hk
 exact aG h1
theorem CW.other (h : CW w c t d p v g a m P) {k : Nat} {cs : Array Value} {T : TypeId} {fz : Nat × Nat} (hk : w.heap[k]? = some (.cells cs T fz)) (hT : T ≠ 52 ∧ T ≠ 99 ∧ T ≠ 106 ∧ T ≠ 104 ∧ T ≠ 63 ∧ T ≠ 102) : ¬ dH c t d p v g k := by
 intro hf
 obtain ⟨cs', T', h1, h2⟩ := h.types hf
 rw [hk] at h1
 have e := (Obj.cells.inj (Option.some.inj h1)).2.1
 subst e
 obtain ⟨a1, a2, a3, a4, a5, a6⟩ := hT
 rcases h2 with ⟨_, e⟩ | ⟨_, e⟩ | ⟨_, e⟩ | ⟨_, e⟩ | ⟨_, e⟩ | ⟨_, e⟩
 ·exact a1 e
 ·exact a2 e
 ·exact a3 e
 ·exact a4 e
 ·exact a5 e
 ·exact a6 e
theorem CW.kept (h : CW w c t d p v g a m P) (hb : Below w.heap.size w w') : CW w' c t d p v g a m P := by
 obtain ⟨S, aJ, hp, hrest⟩ := h.kT
 exact ⟨(hb.block c (h.lt (.inl rfl))).trans h.cell, h.dX.kept hb, h.nodes.kept hb, S, aJ, hp.kept hb, hrest⟩
theorem CW.wider (h : CW w c t d p v g a m P) (ha : a ≤ a') (hm : m ≤ m') : CW w c t d p v g a' m' P := by
 obtain ⟨S, aJ, hp, h1, h2, h3, h4⟩ := h.kT
 exact ⟨h.cell, h.dX, h.nodes, S, aJ, hp, h1, by omega, h3, by omega⟩
theorem CW.ne (h : CW w c t d p v g a m P) : c ≠ t ∧ c ≠ d ∧ c ≠ p ∧ c ≠ g ∧ t ≠ d ∧ t ≠ p ∧ t ≠ g ∧ d ≠ p ∧ d ≠ g ∧ p ≠ g ∧ v.ownBlock ≠ some c ∧ v.ownBlock ≠ some t ∧ v.ownBlock ≠ some d ∧ v.ownBlock ≠ some p ∧ v.ownBlock ≠ some g := by
 obtain ⟨S, aJ, hp, _⟩ := h.kT
 obtain ⟨c1, hp1⟩ := hp.at
 obtain ⟨c2, hp2⟩ := hp.Vp
 have hv : ∀ k, v.ownBlock = some k → ∃ cur, w.heap[k]? = some (.cells cur 63 (0, 0)) := fun k hk => kz h.dX.own hk
 have hc := h.cell
 have hj := h.dX.cell
 have hn : w.heap[d]? = _ := h.nodes
 refine ⟨Put.bU hc hj (by decide), Put.bU hc hn (by decide), Put.bU hc hp1 (by decide), Put.bU hc hp2 (by decide), Put.bU hj hn (by decide), Put.bU hj hp1 (by decide), Put.bU hj hp2 (by decide), Put.bU hn hp1 (by decide), Put.bU hn hp2 (by decide), Put.bU hp1 hp2 (by decide), ?_, ?_, ?_, ?_, ?_⟩ <;> (intro e; obtain ⟨cur, hc1⟩ := hv _ e)
 ·exact Put.bU hc1 hc (by decide) rfl
 ·exact Put.bU hc1 hj (by decide) rfl
 ·exact Put.bU hc1 hn (by decide) rfl
 ·exact Put.bU hc1 hp1 (by decide) rfl
 ·exact Put.bU hc1 hp2 (by decide) rfl
theorem CW.aD (h : CW w c t d p v g a m P) {J' : List Jb} (ht : TV w' t v' J') (hq : dL t v.ownBlock w w') (hn : dW w v.ownBlock v'.ownBlock) : CW w' c t d p v' g a m { P with J := J' } ∧ CS w w' c t d p v g v' g := by
 obtain ⟨S, aJ, hp, hrest⟩ := h.kT
 obtain ⟨n1, n2, n3, n4, n5, n6, n7, n8, n9, n10, n11, n12, n13, n14, n15⟩ := h.ne
 have lt := fun {k : Nat} (hk : dH c t d p v g k) => h.lt hk
 obtain ⟨cap, hp1, hp2⟩ := hp
 refine ⟨⟨(hq.block c (lt (.inl rfl)) n1 n11).trans h.cell, ht, ?_, S, aJ, ⟨cap, (hq.block p (lt (.inr (.inr (.inr (.inl rfl))))) (Ne.symm n6) n14).trans hp1, bE hp2 fun k hk => ?_⟩, hrest⟩, ⟨hq.os, hq.tape, hq.output, hq.size, fun k hk hf => hq.block k hk (fun e => hf (.inr (.inl e))) (fun e => hf (.inr (.inr (.inr (.inr (.inl e))))))⟩, fun k hk => ?_⟩
 ·exact (hq.block d (lt (.inr (.inr (.inl rfl)))) (Ne.symm n5) n13).trans h.nodes
 ·have e : k = g := by simpa [Value.ownBlock] using hk.symm
  subst e
  exact hq.block k (lt (.inr (.inr (.inr (.inr (.inr rfl)))))) (Ne.symm n7) n15
 ·rcases hk with e | e | e | e | e | e
  ·exact .inl (.inl e)
  ·exact .inl (.inr (.inl e))
  ·exact .inl (.inr (.inr (.inl e)))
  ·exact .inl (.inr (.inr (.inr (.inl e))))
  ·rcases hn with hn | ⟨q, hq1, hq2⟩
   ·exact .inl (.inr (.inr (.inr (.inr (.inl (hn ▸ e))))))
   ·rw [hq1] at e; cases e; exact .inr hq2
  ·exact .inl (.inr (.inr (.inr (.inr (.inr e)))))
theorem CW.node (h : CW w c t d p v g a m P) {T' : List Int} (ht : TW w' d T') (ho : jP d w w') : CW w' c t d p v g a m { P with T := T' } ∧ CS w w' c t d p v g v g := by
 obtain ⟨S, aJ, hp, hrest⟩ := h.kT
 obtain ⟨n1, n2, n3, n4, n5, n6, n7, n8, n9, n10, n11, n12, n13, n14, n15⟩ := h.ne
 obtain ⟨cap, hp1, hp2⟩ := hp
 refine ⟨⟨(ho.block c n2).trans h.cell, ⟨(ho.block t n5).trans h.dX.cell, bE h.dX.own fun k hk => ho.block k (fun e => n13 (e ▸ hk))⟩, ht, S, aJ, ⟨cap, (ho.block p (Ne.symm n8)).trans hp1, bE hp2 fun k hk => ?_⟩, hrest⟩, ⟨ho.os, ho.tape, ho.output, Nat.le_of_eq ho.size.symm, fun k _ hf => ho.block k (fun e => hf (.inr (.inr (.inl e))))⟩, iT.refl _ _⟩
 have e : k = g := by simpa [Value.ownBlock] using hk.symm
 subst e
 exact ho.block k (Ne.symm n9)
theorem CW.profile (h : CW w c t d p v g a m P) {now' : Int} {f' : Int → Int} (hp' : PR w' p g' a' m' now' f') (ho : Off p g w w') (hg : g' = g ∨ w.heap.size ≤ g') : CW w' c t d p v g' a' m' { P with now := now', f := f' } ∧ CS w w' c t d p v g v g' := by
 obtain ⟨n1, n2, n3, n4, n5, n6, n7, n8, n9, n10, n11, n12, n13, n14, n15⟩ := h.ne
 have lt := fun {k : Nat} (hk : dH c t d p v g k) => h.lt hk
 refine ⟨⟨(ho.block c (lt (.inl rfl)) n3 n4).trans h.cell, ⟨(ho.block t (lt (.inr (.inl rfl))) n6 n7).trans h.dX.cell, bE h.dX.own fun k hk => ho.block k (lt (.inr (.inr (.inr (.inr (.inl hk)))))) (fun e => n14 (e ▸ hk)) (fun e => n15 (e ▸ hk))⟩, (ho.block d (lt (.inr (.inr (.inl rfl)))) n8 n9).trans h.nodes, hp'⟩, ⟨ho.os, ho.tape, ho.output, ho.size, fun k hk hf => ho.block k hk (fun e => hf (.inr (.inr (.inr (.inl e))))) (fun e => hf (.inr (.inr (.inr (.inr (.inr e))))))⟩, fun k hk => ?_⟩
 rcases hk with e | e | e | e | e | e
 ·exact .inl (.inl e)
 ·exact .inl (.inr (.inl e))
 ·exact .inl (.inr (.inr (.inl e)))
 ·exact .inl (.inr (.inr (.inr (.inl e))))
 ·exact .inl (.inr (.inr (.inr (.inr (.inl e)))))
 ·rcases hg with hg | hg
  ·exact .inl (.inr (.inr (.inr (.inr (.inr (e.trans hg))))))
  ·exact .inr (e ▸ hg)
theorem CW.close (h : CW w c t d p v g a m P) : CW (w.setCell ⟨c, 4, none⟩ (.bool true)) c t d p v g a m { P with cl := true } ∧ CS w (w.setCell ⟨c, 4, none⟩ (.bool true)) c t d p v g v g := by
 obtain ⟨S, aJ, hp, hrest⟩ := h.kT
 obtain ⟨n1, n2, n3, n4, n5, n6, n7, n8, n9, n10, n11, n12, n13, n14, n15⟩ := h.ne
 obtain ⟨cap, hp1, hp2⟩ := hp
 have blk : ∀ k, k ≠ c → (w.setCell ⟨c, 4, none⟩ (.bool true)).heap[k]? = w.heap[k]? := fun k hk => Below.heap_setCell w ⟨c, 4, none⟩ _ k hk
 refine ⟨⟨?_, ⟨(blk t (Ne.symm n1)).trans h.dX.cell, bE h.dX.own fun k hk => blk k (fun e => n11 (e ▸ hk))⟩, (blk d (Ne.symm n2)).trans h.nodes, S, aJ, ⟨cap, (blk p (Ne.symm n3)).trans hp1, bE hp2 fun k hk => ?_⟩, hrest⟩, ⟨rfl, rfl, rfl, by simp, fun k _ hf => blk k (fun e => hf (.inl e))⟩, iT.refl _ _⟩
 ·have hlt := h.lt (.inl rfl)
  have hc := h.cell
  have h1 : w.heap[c] = _ := (Array.getElem?_eq_some_iff.1 hc).2
  simp [World.setCell, hlt, Array.getElem_modify, h1]
 ·have e : k = g := by simpa [Value.ownBlock] using hk.symm
  subst e
  exact blk k (Ne.symm n4)
theorem CW.c0 (h : CW w c t d p v g a m P) : w.cell? ⟨c, 0, none⟩ = some (.pointer (some ⟨t, 0, none⟩)) := by simp [World.cell?, h.cell]
theorem CW.c1 (h : CW w c t d p v g a m P) : w.cell? ⟨c, 1, none⟩ = some (.pointer (some ⟨d, 0, none⟩)) := by simp [World.cell?, h.cell]
theorem CW.c2 (h : CW w c t d p v g a m P) : w.cell? ⟨c, 2, none⟩ = some (.pointer (some ⟨p, 0, none⟩)) := by simp [World.cell?, h.cell]
theorem CW.c3 (h : CW w c t d p v g a m P) : w.cell? ⟨c, 3, none⟩ = some (.bool true) := by simp [World.cell?, h.cell]
theorem CW.c4 (h : CW w c t d p v g a m P) : w.cell? ⟨c, 4, none⟩ = some (.bool P.cl) := by simp [World.cell?, h.cell]
theorem CW.fz (h : CW w c t d p v g a m P) (j : Nat) : w.frozen? ⟨c, j, none⟩ = false := by simp [World.frozen?, h.cell]
end
end Go.Proofs.YtnihdgcfamoplaaGreat

namespace Go.Proofs.YtnihdgcfamoplaaGreat
open Go.RowKit Go.Lib Go.Sort
section
variable {w w' w1 w2 : World} {c t d p g a : Nat} {v : Value} {m : Int} {P : Pg}
structure PK (P : Pg) : Prop where
 now : 0 ≤ P.now ∧ P.now ≤ 1099511627776
 few : P.J.length ≤ 900
 st : ∀ j ∈ P.J, 1 ≤ j.st ∧ j.st ≤ 6
 lim : ∀ j ∈ P.J, 1 ≤ j.lim ∧ j.lim ≤ 1048576
 qo : ib P.T
 f : ∀ t, P.now ≤ t → 0 ≤ P.f t ∧ P.f t ≤ 64
def fB (w : World) (c t d p : Nat) (v : Value) (g a : Nat) (m : Int) (r : Value) (P' : Pg) (e : Ending) (w' : World) : Prop :=
 e = .returned r ∧ ∃ v' g', CW w' c t d p v' g' a m P' ∧ CS w w' c t d p v g v' g'
theorem xU (h : CW w c t d p v g a m P) {x y n : Int} {e : Ending} {S : List (Int × Int)} {aJ : Int} (hl : S.length ≤ a) (hv0 : 0 ≤ aJ) (hv : aJ ≤ m) (hp : cK w p g S aJ P.now P.f x y n e w') (F : Int → Int)
  (hxy : x < y) (hy : y ≤ 1152921504606846976) (hn : -64 ≤ n ∧ n ≤ 64) (hF : ∀ t, P.now ≤ t → F t = P.f t + had (max x P.now) y n t) (hr : ∀ t, P.now ≤ t → 0 ≤ F t ∧ F t ≤ 64) :
  fB w c t d p v g (a + 2) (m + 1) (.int .i64 0) { P with f := F } e w' := by
 obtain ⟨r, dv, f', g', L', rfl, hA, hP, hC, hg, ho, hlen⟩ := hp
 have key : r = 0 ∧ (∀ t, P.now ≤ t → f' t = F t) ∧ 0 ≤ dv ∧ dv ≤ 1 := by
  rcases hA with ⟨h1, _⟩ | ⟨_, h2, rfl, rfl, rfl⟩ | ⟨_, _, ⟨u, h3, h4, h5⟩, _⟩ | ⟨_, _, _, rfl, rfl, rfl⟩
  ·omega
  ·refine ⟨rfl, fun t ht => ?_, by omega, by omega⟩
   rw [hF t ht]
   have e0 : had (max x P.now) y n t = 0 := by
    rcases h2 with h2 | h2
    ·unfold had
     rw [if_neg]
     rintro ⟨h3, h4⟩
     have hy0 : y ≤ P.now := by omega
     rcases h4 with h4 | h4
     ·omega
     ·have := hC.sm.top 0 hC.sm.pos
      rw [hC.sm.hd] at this
      omega
    ·unfold had; rw [h2]; split <;> rfl
   omega
  ·exfalso
   have h6 := hF u (by omega)
   have h7 : had (max x P.now) y n u = n := by unfold had; rw [if_pos ⟨h3, .inl h4⟩]
   have h8 := hr u (by omega)
   omega
  ·exact ⟨rfl, fun t ht => (hF t ht).symm, by omega, by omega⟩
 obtain ⟨rfl, hf, d1, d2⟩ := key
 obtain ⟨hC2, hS⟩ := h.profile (now' := P.now) (f' := F) (a' := a + 2) (m' := m + 1) ⟨L', aJ + dv, hP, hC.congr hf, by omega, by omega, by omega⟩ ho hg
 exact ⟨rfl, v, g', hC2, hS⟩
theorem sO (h : CW w c t d p v g a m P) (hk : PK P) (ha : a ≤ 800) (hm : m ≤ 1000000) (x y n : Int) (F : Int → Int) (hxy : x < y) (hy : y ≤ 1152921504606846976) (hn : 0 ≤ n ∧ n ≤ 64)
  (hF : ∀ t, P.now ≤ t → F t = P.f t + had (max x P.now) y n t) (hr : ∀ t, P.now ≤ t → 0 ≤ F t ∧ F t ≤ 64) :
  Calls Tryz.prog 112 #[.pointer (some ⟨p, 0, none⟩), .agg #[.int .i64 x, .int .i64 y, .int .i64 n]] w (fB w c t d p v g (a + 2) (m + 1) (.int .i64 0) { P with f := F }) := by
 obtain ⟨S, aJ, hp, hC, hl, h0, h1⟩ := h.kT
 exact (E8 x y n hn hC hk.now.1 hk.f ⟨h0, by omega⟩ (by omega) hp).mono fun e w2 hq => xU h hl h0 h1 hq F hxy hy (by omega) hF hr
theorem Hf (h : CW w c t d p v g a m P) (hk : PK P) (ha : a ≤ 800) (hm : m ≤ 1000000) (x y n : Int) (F : Int → Int) (hxy : x < y) (hy : y ≤ 1152921504606846976) (hn : 0 ≤ n ∧ n ≤ 64)
  (hF : ∀ t, P.now ≤ t → F t = P.f t + had (max x P.now) y (-n) t) (hr : ∀ t, P.now ≤ t → 0 ≤ F t ∧ F t ≤ 64) :
  Calls Tryz.prog 132 #[.pointer (some ⟨p, 0, none⟩), .agg #[.int .i64 x, .int .i64 y, .int .i64 n]] w (fB w c t d p v g (a + 2) (m + 1) (.int .i64 0) { P with f := F }) := by
 obtain ⟨S, aJ, hp, hC, hl, h0, h1⟩ := h.kT
 exact (E5 x y n hn hC hk.now.1 hk.f ⟨h0, by omega⟩ (by omega) hp).mono fun e w2 hq => xU h hl h0 h1 hq F hxy hy (by omega) hF hr
theorem Ls (h : CW w c t d p v g a m P) (hk : PK P) (ha : a ≤ 800) (hm : m ≤ 1000000) (x y n : Int) (F : Int → Int) (hxy : x < y) (hy : y ≤ 1152921504606846976) (hn : -64 ≤ n ∧ n ≤ 64)
  (hF : ∀ t, P.now ≤ t → F t = P.f t + had (max x P.now) y n t) (hr : ∀ t, P.now ≤ t → 0 ≤ F t ∧ F t ≤ 64) :
  Calls Tryz.prog 152 #[.pointer (some ⟨p, 0, none⟩), .int .i64 x, .int .i64 y, .int .i64 n] w (fB w c t d p v g (a + 2) (m + 1) (.int .i64 0) { P with f := F }) := by
 obtain ⟨S, aJ, hp, hC, hl, h0, h1⟩ := h.kT
 exact (yQ x y n hC hk.now.1 hk.f ⟨h0, by omega⟩ (by omega) hp).mono fun e w2 hq => xU h hl h0 h1 hq F hxy hy hn hF hr
theorem yS (h : CW w c t d p v g a m P) (hk : PK P) (ha : a ≤ 800) (hm : m ≤ 1000000) (x : Int) (h1 : P.now ≤ x) (h2 : x ≤ 1099511627776) :
  Calls Tryz.prog 170 #[.pointer (some ⟨p, 0, none⟩), .int .i64 x] w (fB w c t d p v g a (m + 1) (.int .i64 0) { P with now := x }) := by
 obtain ⟨S, aJ, hp, hC, hl, v0, v1⟩ := h.kT
 have fin : ∀ {e : Ending} {w2 : World}, oD w p g S aJ P.now P.f x e w2 → fB w c t d p v g a (m + 1) (.int .i64 0) { P with now := x } e w2 := by
  rintro e w2 ⟨r, dv, now', L', rfl, hA, hP, hC2, ho, hlen⟩
  have key : r = 0 ∧ now' = x ∧ 0 ≤ dv ∧ dv ≤ 1 := by unfold Sz at hA; omega
  obtain ⟨rfl, rfl, d1, d2⟩ := key
  obtain ⟨a1, a2⟩ := h.profile (now' := now') (f' := P.f) (g' := g) (a' := a) (m' := m + 1) ⟨L', aJ + dv, hP, hC2, by omega, by omega, by omega⟩ ho (.inl rfl)
  exact ⟨rfl, v, g, a1, a2⟩
 rcases Int.lt_or_eq_of_le h1 with h3 | h3
 ·exact (RO x hC hp ⟨v0, by omega⟩ (by omega) h3 h2).mono fun e w2 hq => fin hq
 ·subst h3
  exact (M6 hC hp h2).mono fun e w2 hq => fin hq
theorem gQ (h : CW w c t d p v g a m P) : Calls Tryz.prog 25 #[.pointer (some ⟨p, 0, none⟩)] w fun e w' => e = .returned (.int .i64 P.now) ∧ w = w' := by
 obtain ⟨S, aJ, hp, hC, _⟩ := h.kT
 have := oC hp hC.sm.pos
 rw [hC.sm.hd] at this
 exact this
theorem oF (h : CW w c t d p v g a m P) {e0 id : Int} {ok : Jb → Bool} {ch : Jb → Jb} {e : Ending} (hp : kR w t v P.J e0 id ok ch e w') : fB w c t d p v g a m (.int .i64 (bO P.J e0 id ok)) { P with J := df P.J e0 id ok ch } e w' := by
 obtain ⟨rfl, h1, h2⟩ := hp
 obtain ⟨a1, a2⟩ := h.aD h1 h2 (.inl rfl)
 exact ⟨rfl, v, g, a1, a2⟩
theorem Dp (h : CW w c t d p v g a m P) (id : Int) : Calls Tryz.prog 141 #[.pointer (some ⟨t, 0, none⟩), .int .i64 id] w (fB w c t d p v g a m (.int .i64 (bO P.J 0 id fun j : Jb => decide (j.state = 1))) { P with J := df P.J 0 id (fun j : Jb => decide (j.state = 1)) pI }) :=
 (O3 h.dX id).mono fun _ _ hp => oF h hp
theorem Dq (h : CW w c t d p v g a m P) (id : Int) : Calls Tryz.prog 143 #[.pointer (some ⟨t, 0, none⟩), .int .i64 id] w (fB w c t d p v g a m (.int .i64 (bO P.J 0 id fun j : Jb => decide (j.state = 2))) { P with J := df P.J 0 id (fun j : Jb => decide (j.state = 2)) om }) :=
 (Gv h.dX id).mono fun _ _ hp => oF h hp
theorem Dr (h : CW w c t d p v g a m P) (id x : Int) : Calls Tryz.prog 154 #[.pointer (some ⟨t, 0, none⟩), .int .i64 id, .int .i64 x] w (fB w c t d p v g a m (.int .i64 (bO P.J (gY x) id fun j : Jb => decide (j.state = 1))) { P with J := df P.J (gY x) id (fun j : Jb => decide (j.state = 1)) (kL x) }) :=
 (O4 h.dX id x).mono fun _ _ hp => oF h hp
theorem J3 (h : CW w c t d p v g a m P) (hk : PK P) (id x n : Int) : Calls Tryz.prog 179 #[.pointer (some ⟨t, 0, none⟩), .int .i64 id, .int .i64 x, .int .u64 n] w (fB w c t d p v g a m (.int .i64 (bO P.J (gG x) id fun j : Jb => decide (j.state = 1))) { P with J := df P.J (gG x) id (fun j : Jb => decide (j.state = 1)) (lF x n) }) :=
 (Mv h.dX id x n hk.lim).mono fun _ _ hp => oF h hp
theorem sP (h : CW w c t d p v g a m P) (hk : PK P) (id s x : Int) : Calls Tryz.prog 139 #[.pointer (some ⟨t, 0, none⟩), .int .i64 id, .int .i64 s, .int .i64 x] w (fB w c t d p v g a m (.int .i64 (bO P.J (bF s x) id (fq s))) { P with J := df P.J (bF s x) id (fq s) (bQ s x) }) :=
 (JA h.dX id s x hk.st).mono fun _ _ hp => oF h hp
theorem pz (h : CW w c t d p v g a m P) (hk : PK P) (r : Rq) : Calls Tryz.prog 137 #[.pointer (some ⟨t, 0, none⟩), .agg (encR r).toArray] w (fB w c t d p v g a m (.tuple #[.int .i64 (lD P.J r), .int .i64 (jg P.J r)]) { P with J := oW P.J r }) :=
 (Jw h.dX hk.st hk.few r).mono fun _ _ hp => by
  obtain ⟨rfl, v', h1, h2, h3⟩ := hp
  obtain ⟨a1, a2⟩ := h.aD h1 h2 h3
  exact ⟨rfl, v', g, a1, a2⟩
theorem M8 (h : CW w c t d p v g a m P) (hk : PK P) (n : Int) (hn : -9223372036854775808 ≤ n ∧ n ≤ 9223372036854775807) : Calls Tryz.prog 178 #[.pointer (some ⟨d, 0, none⟩), .int .i64 n] w fun e w' => ∃ (s : Nat) (x : Int) (T' : List Int), pM P.T n s x T' ∧ ib T' ∧ fB w c t d p v g a m (.tuple #[.int .u64 s, .int .i64 x]) { P with T := T' } e w' :=
 (MV n hn h.nodes hk.qo).mono fun _ _ hp => by
  obtain ⟨ho, s, x, l', rfl, h1, h2, h3, h4⟩ := hp
  obtain ⟨a1, a2⟩ := h.node h2 ho
  exact ⟨s, x, l', h1, h3, rfl, v, g, a1, a2⟩
theorem Dt (h : CW w c t d p v g a m P) (hk : PK P) (u : Nat) (hu : u < 18446744073709551616) : Calls Tryz.prog 164 #[.pointer (some ⟨d, 0, none⟩), .int .u64 u] w fun e w' => ∃ (n x : Int) (T' : List Int), AQ P.T u n x T' ∧ ib T' ∧ fB w c t d p v g a m (.tuple #[.int .i64 n, .int .i64 x]) { P with T := T' } e w' :=
 (MW u hu h.nodes hk.qo).mono fun _ _ hp => by
  obtain ⟨ho, n, x, l', rfl, h1, h2, h3, h4⟩ := hp
  obtain ⟨a1, a2⟩ := h.node h2 ho
  exact ⟨n, x, l', h1, h3, rfl, v, g, a1, a2⟩
theorem J4 (h : CW w c t d p v g a m P) (hk : PK P) (n : Int) (hn : -9223372036854775808 ≤ n ∧ n ≤ 9223372036854775807) : Calls Tryz.prog 165 #[.pointer (some ⟨d, 0, none⟩), .int .i64 n] w fun e w' => ∃ (x : Int) (T' : List Int), mF P.T n true x T' ∧ ib T' ∧ fB w c t d p v g a m (.int .i64 x) { P with T := T' } e w' :=
 (JL n hn h.nodes hk.qo).mono fun _ _ hp => by
  obtain ⟨ho, x, l', rfl, h1, h2, h3, h4⟩ := hp
  obtain ⟨a1, a2⟩ := h.node h2 ho
  exact ⟨x, l', h1, h3, rfl, v, g, a1, a2⟩
theorem Hg (h : CW w c t d p v g a m P) (hk : PK P) (n : Int) (hn : -9223372036854775808 ≤ n ∧ n ≤ 9223372036854775807) : Calls Tryz.prog 146 #[.pointer (some ⟨d, 0, none⟩), .int .i64 n] w fun e w' => ∃ (x : Int) (T' : List Int), mF P.T n false x T' ∧ ib T' ∧ fB w c t d p v g a m (.int .i64 x) { P with T := T' } e w' :=
 (GR n hn h.nodes hk.qo).mono fun _ _ hp => by
  obtain ⟨ho, x, l', rfl, h1, h2, h3, h4⟩ := hp
  obtain ⟨a1, a2⟩ := h.node h2 ho
  exact ⟨x, l', h1, h3, rfl, v, g, a1, a2⟩
end
end Go.Proofs.YtnihdgcfamoplaaGreat

namespace Go.Proofs.YtnihdgcfamoplaaGreat
open Go.RowKit Go.Lib
def dC (M : Md) : List Int := (List.range M.dr.length).map fun k : Nat => aU M (k : Int)
def aj (M : Md) : Pg := ⟨M.now, M.L, dC M, fun t => ay M t 0, M.cl⟩
section
variable {M : Md}
theorem bG : (dC M).length = M.dr.length := by simp [dC]
theorem dA (i : Nat) : (dC M).getD i 0 = aU M (i : Int) := by
 by_cases h : i < M.dr.length
 ·simp [dC, List.getD_eq_getElem?_getD, h]
 ·rw [iE h]
  simp [dC, List.getD_eq_getElem?_getD, h]
theorem Cj {n : Nat} (hn : n < M.dr.length) : 1 ≤ aU M n ∧ aU M n ≤ 4 := by
 rw [fo hn]
 split <;> split <;> omega
theorem oG {l l' : List Int} (h1 : l.length = l'.length) (h2 : ∀ i, i < l.length → l.getD i 0 = l'.getD i 0) : l = l' := by
 refine List.ext_getElem h1 fun i a b => ?_
 have := h2 i a
 simpa [List.getD_eq_getElem?_getD, a, b] using this
theorem E9 {M' : Md} {l : List Int} (h1 : l.length = M'.dr.length) (h2 : ∀ i, i < l.length → l.getD i 0 = aU M' (i : Int)) : l = dC M' :=
 oG (by rw [bG, h1]) fun i hi => by rw [h2 i hi, dA]
theorem Hl (h : aF M) (h1 : 1 ≤ M.dr.length) : ib (dC M) :=
 ⟨by rw [bG]; exact h1, by rw [bG]; exact h.mb.nn, fun i hi => by rw [dA]; exact Cj (by rw [bG] at hi; exact hi)⟩
theorem fA (h : aF M) (h1 : 1 ≤ M.dr.length) (h2 : M.L.length ≤ 900) : PK (aj M) :=
 ⟨h.mb.now, h2, fun j hj => ⟨(h.one j hj).2.2.2.1, (h.one j hj).2.2.2.2⟩, fun j hj => ⟨(h.one j hj).2.2.1, (h.mb.lim j hj).2⟩, Hl h h1, fun t ht => ⟨h.free t ht, by have := Ad h t; have := h.mb.nn; show ay M t 0 ≤ 64; omega⟩⟩
theorem uj (i : Nat) : il (dC M) i = decide (aU M (i : Int) = 1) := by unfold il; rw [dA]
theorem qQ (f : Nat → Bool) (k : Nat) : aS f k = (List.range k).countP f := by
 induction k with
 | zero => rfl
 | succ k ih =>
  rw [List.range_succ, List.countP_append, List.countP_cons, List.countP_nil, ← ih]
  simp only [aS]
  split <;> simp_all
theorem Fa (wid : Int) (hw : 0 ≤ wid) (k : Nat) : (lowGo M wid k).2 = min (aS (il (dC M)) k : Int) wid := by
 induction k with
 | zero => show (0 : Int) = min (0 : Int) wid; omega
 | succ k ih =>
  have e := uj (M := M) k
  simp only [lowGo]
  by_cases h1 : aU M (k : Int) = 1
  ·rw [decide_eq_true h1] at e
   have hc : aS (il (dC M)) (k + 1) = aS (il (dC M)) k + 1 := by simp [aS, e]
   by_cases h2 : (lowGo M wid k).2 < wid
   ·rw [if_pos ⟨h2, h1⟩]
    show (lowGo M wid k).2 + 1 = _
    omega
   ·rw [if_neg (fun h => h2 h.1)]
    omega
  ·rw [decide_eq_false h1] at e
   have hc : aS (il (dC M)) (k + 1) = aS (il (dC M)) k := by simp [aS, e]
   rw [if_neg (fun h => h1 h.2), hc]
   exact ih
theorem Bd (wid : Int) (hw : 0 ≤ wid) (k n : Nat) : dm (lowGo M wid k).1 n = (decide (n < k) && iy (dC M) wid n) := by
 induction k with
 | zero => simp [lowGo, dm]
 | succ k ih =>
  have hcond : ((lowGo M wid k).2 < wid ∧ aU M (k : Int) = 1) ↔ iy (dC M) wid k = true := by
   unfold iy
   rw [uj, Fa wid hw k]
   simp only [Bool.and_eq_true, decide_eq_true_eq]
   constructor
   ·rintro ⟨h1, h2⟩
    exact ⟨h2, by omega⟩
   ·rintro ⟨h1, h2⟩
    exact ⟨by omega, h1⟩
  simp only [lowGo]
  by_cases h : (lowGo M wid k).2 < wid ∧ aU M (k : Int) = 1
  ·rw [if_pos h]
   show dm ((lowGo M wid k).1 + 2 ^ k) n = _
   rw [tN (nI M wid k).1, ih]
   have ht := hcond.1 h
   by_cases e : n = k
   ·subst e; simp [ht]
   ·have e2 : (n < k + 1) ↔ (n < k) := by omega
    simp [e, e2]
  ·rw [if_neg h, ih]
   have ht : iy (dC M) wid k = false := by rw [← Bool.not_eq_true]; exact fun h2 => h (hcond.2 h2)
   by_cases e : n = k
   ·subst e; simp [ht]
   ·have e2 : (n < k + 1) ↔ (n < k) := by omega
    simp [e2]
theorem J5 (wid : Int) (hw : 0 ≤ wid) (hn : M.dr.length ≤ 64) : aP (iy (dC M) wid) = iN M wid := by
 refine kI (Nat.lt_of_lt_of_le (nI M wid M.dr.length).1 (Nat.pow_le_pow_right (show 0 < 2 by decide) hn)) fun i hi => ?_
 rw [← kP]
 unfold iN
 rw [Bd wid hw]
 by_cases h : i < M.dr.length
 ·simp [h]
 ·have : iy (dC M) wid i = false := by
   unfold iy
   rw [uj, iE h]
   simp
  simp [h, this]
theorem J6 {i : Nat} (hi : i < M.L.length) (hst : (M.L.getD i default).st ≠ 3) (hn : M.dr.length ≤ 64) (hw : 1 ≤ (M.L.getD i default).wid)
  (hidle : (M.L.getD i default).wid ≤ ((List.range M.dr.length).countP fun n : Nat => decide (aU M n = 1) : Nat)) {s : Nat} {x : Int} {T' : List Int} (h : pM (dC M) (M.L.getD i default).wid s x T') :
  s = iN M (M.L.getD i default).wid ∧ x = 0 ∧ T' = dC (bq M i) := by
 have hc : (M.L.getD i default).wid ≤ aS (il (dC M)) (dC M).length := by
  rw [qQ, bG]
  have e : il (dC M) = fun n : Nat => decide (aU M n = 1) := funext uj
  rw [e]; exact hidle
 obtain ⟨h1, h2, h3⟩ := h.good hw hc
 refine ⟨by rw [h1]; exact J5 _ (by omega) hn, h2, ?_⟩
 rw [h3]
 have hl : (fw (dC M) (M.L.getD i default).wid).length = M.dr.length := by unfold fw; rw [List.length_mapIdx, bG]
 refine E9 (by rw [hl]; rfl) fun k hk => ?_
 rw [hl] at hk
 unfold fw
 rw [jX, if_pos (by rw [bG]; exact hk), dA, BQ hi hst]
 have hb : dm (iN M (M.L.getD i default).wid) k = iy (dC M) (M.L.getD i default).wid k := by
  unfold iN
  rw [Bd _ (by omega)]
  simp [hk]
 rw [hb]
theorem Du (h : aF M) {i : Nat} {y : Jb} (hi : i < M.L.length) (hst : (M.L.getD i default).st = 3) (hy : y.st ≠ 3) {n x : Int} {T' : List Int} (hg : AQ (dC M) (M.L.getD i default).bP.toNat n x T') :
  n = ((List.range M.dr.length).countP (fun k => dm (M.L.getD i default).bP.toNat k && !(M.dr.getD k false)) : Nat) ∧ x = 0 ∧ T' = dC { M with L := M.L.set i y } := by
 have hmem := bA hi
 have hlt := (h.runs _ hmem hst).2.2
 have hold : ∀ k : Nat, dm (M.L.getD i default).bP.toNat k = true → k < M.dr.length ∧ holderL M.L k = i := fun k hk => by
  refine ⟨?_, uI h.lq hi (by unfold aI; simp [hst, hk, -List.getD_eq_getElem?_getD])⟩
  rcases Nat.lt_or_ge k M.dr.length with h1 | h1
  ·exact h1
  ·rw [CO hlt h1] at hk; cases hk
 have PO : ∀ k : Nat, dm (M.L.getD i default).bP.toNat k = true → aU M k = if M.dr.getD k false = true then 3 else 2 := fun k hk => by
  obtain ⟨h1, h2⟩ := hold k hk
  rw [fo h1, if_pos (by rw [h2]; omega)]
 have hin : Ch (dC M) (M.L.getD i default).bP.toNat 2 3 64 := fun k _ hk => by
  rw [← kP] at hk
  refine ⟨by rw [bG]; exact (hold k hk).1, ?_⟩
  rw [dA, PO k hk]
  split
  ·exact .inr rfl
  ·exact .inl rfl
 obtain ⟨h1, h2, h3⟩ := hg.good hin
 refine ⟨?_, h2, ?_⟩
 ·rw [h1]
  unfold oz
  rw [bG]
  congr 1
  refine List.countP_congr fun k _ => ?_
  rw [← kP, dA]
  cases hk : dm (M.L.getD i default).bP.toNat k with
  | false => simp
  | true =>
   rw [PO k hk]
   cases M.dr.getD k false <;> simp
 ·rw [h3]
  refine E9 (by rw [List.length_mapIdx, bG]) fun k hk => ?_
  rw [List.length_mapIdx] at hk
  have hkl : k < M.dr.length := by rw [bG] at hk; exact hk
  rw [jX, if_pos hk, dA, Gd h.lq hi hst hy]
  unfold ow
  rw [← kP]
  cases hh : dm (M.L.getD i default).bP.toNat k with
  | false => simp
  | true =>
   rw [PO k hh]
   cases M.dr.getD k false <;> simp [hkl]
theorem Hm {k : Nat} (hk : k < M.dr.length) {b : Bool} (hb : M.dr.getD k false = !b) {x : Int} {T' : List Int} (h : mF (dC M) (k : Int) b x T') : x = 0 ∧ T' = dC { M with dr := M.dr.set k b } := by
 have hd : b = decide ((dC M).getD (k : Int).toNat 0 < 3) := by
  rw [Int.toNat_natCast, dA, fo hk, hb]
  cases b <;> (by_cases h1 : 0 ≤ holderL M.L k <;> simp [h1])
 obtain ⟨h1, h2⟩ := h.good (by omega) (by rw [bG]; omega) hd
 refine ⟨h1, ?_⟩
 rw [h2, Int.toNat_natCast, dA]
 refine E9 (by rw [List.length_set, bG, List.length_set]) fun q hq => ?_
 rw [List.length_set] at hq
 rw [lH, dA, BR hk, fo hk, hb]
 by_cases e : q = k
 ·subst e
  rw [if_pos ⟨rfl, hq⟩, if_pos rfl]
  unfold kr
  cases b <;> (by_cases h1 : 0 ≤ holderL M.L q <;> simp [h1])
 ·rw [if_neg (fun h => e h.1), if_neg e]
end
end Go.Proofs.YtnihdgcfamoplaaGreat

namespace Go.Proofs.YtnihdgcfamoplaaGreat
open Go.RowKit Go.Lib
open Go.ChangeShapes Go.WideShapes Go.ChangeAt Go.Deep
structure Ry where
 err : Int
 id : Int
 state : Int
 start : Int
 stop : Int
 plan : Int
 a : Int
 b : Int
 c : Int
deriving DecidableEq
def bu (r : Ry) : List Value := [.int .i64 r.err, .int .i64 r.id, .int .i64 r.state, .int .i64 r.start, .int .i64 r.stop, .int .i64 r.plan, .int .i64 r.a, .int .i64 r.b, .int .i64 r.c]
theorem sQ : ∀ w, Sem.run Tryz.prog (Go.sizeOf 39) w = .ok 9 w := Tryz.sizeOf39
theorem iC (r : Ry) : (bu r).length = 9 := rfl
theorem uk (r : Ry) : ∀ v ∈ bu r, v.oneCell' = true := by
 intro v hv
 simp [bu] at hv
 rcases hv with rfl | rfl | rfl | rfl | rfl | rfl | rfl | rfl | rfl <;> rfl
section
end
theorem Ho (x y : Ry) (w : World) : (Op.equalIn 10000 39 (.agg (bu x).toArray) (.agg (bu y).toArray)).run Tryz.prog w = .ok (decide (x = y)) w := by
 have u2 := Tryz.underlying2
 have a2 := Tryz.isAgg2
 have z2 := Tryz.sizeOf2
 have u3 := Tryz.underlying3
 have a3 := Tryz.isAgg3
 have z3 := Tryz.sizeOf3
 have u4 := Tryz.underlying25
 have a4 := Tryz.isAgg25
 have z4 := Tryz.sizeOf25
 have hS : Tryz.prog.underlying 39 = some (.struct (Tryz.prog.fieldsOf 39)) := by kernel_rfl
 have hp : Tryz.prog.stoodInHeld 39 = false := by kernel_rfl
 rw [show (10000 : Nat) = 9999 + 1 from rfl, run_equalIn_agg w 9999 39 _ _ hS hp]
 simp only [Program.fieldsOf, Tryz.underlying39]
 obtain ⟨x1, x2, x3, x4, x5, x6, x7, x8, x9⟩ := x
 obtain ⟨y1, y2, y3, y4, y5, y6, y7, y8, y9⟩ := y
 simp only [bu]
 go_simp
 by_cases h1 : x1 = y1
 ·by_cases h2 : x2 = y2
  ·by_cases h3 : x3 = y3
   ·by_cases h4 : x4 = y4
    ·by_cases h5 : x5 = y5
     ·by_cases h6 : x6 = y6
      ·by_cases h7 : x7 = y7
       ·by_cases h8 : x8 = y8
        ·by_cases h9 : x9 = y9 <;> simp [h1, h2, h3, h4, h5, h6, h7, h8, h9]
        ·simp [h1, h2, h3, h4, h5, h6, h7, h8]
       ·simp [h1, h2, h3, h4, h5, h6, h7]
      ·simp [h1, h2, h3, h4, h5, h6]
     ·simp [h1, h2, h3, h4, h5]
    ·simp [h1, h2, h3, h4]
   ·simp [h1, h2, h3]
  ·simp [h1, h2]
 ·simp [h1]
end Go.Proofs.YtnihdgcfamoplaaGreat

namespace Go.Proofs.YtnihdgcfamoplaaGreat
open Go.RowKit
end Go.Proofs.YtnihdgcfamoplaaGreat

namespace Go.Proofs.YtnihdgcfamoplaaGreat
open Go.RowKit
structure Only (b : Nat) (w w' : World) : Prop where
 os : w'.os = w.os
 tape : w'.tape = w.tape
 output : w'.output = w.output
 size : w'.heap.size = w.heap.size
 block : ∀ k : Nat, k ≠ b → w'.heap[k]? = w.heap[k]?
theorem Only.setCell (b off : Nat) (w : World) (v : Value) : Only b w (w.setCell ⟨b, off, none⟩ v) :=
 ⟨rfl, rfl, rfl, by simp [World.setCell], fun k hk => Below.heap_setCell _ _ _ _ hk⟩
theorem Only.below {b B : Nat} {w w' : World} (h : Only b w w') (hB : B ≤ b) : Below B w w' :=
 ⟨h.os, h.tape, h.output, Nat.le_of_eq h.size.symm, fun k hk => h.block k (by omega)⟩
end Go.Proofs.YtnihdgcfamoplaaGreat

namespace Go.Proofs.YtnihdgcfamoplaaGreat
open Go.RowKit
def Be : Ry := ⟨0, 0, 0, 0, 0, 0, 0, 0, 0⟩
end Go.Proofs.YtnihdgcfamoplaaGreat

namespace Go.Proofs.YtnihdgcfamoplaaGreat
open Go.RowKit
def iX (j : Jb) : Ry := ⟨0, j.1, j.2.2.2.2.2.1, j.2.2.2.2.2.2.1, j.2.2.2.2.2.2.2.1, j.2.2.2.2.2.2.2.2.1, j.2.2.1, j.2.2.2.2.1, 0⟩
end Go.Proofs.YtnihdgcfamoplaaGreat

namespace Go.Proofs.YtnihdgcfamoplaaGreat
open Go.RowKit Go.Lib
section
variable {w : World}
theorem xV (a b c : Int) (w : World) : Calls Tryz.prog 115 #[.int .i64 a, .int .i64 b, .int .i64 c] w fun e w' => e = .returned (.agg (bu ⟨0, 0, 0, 0, 0, 0, a, b, c⟩).toArray) ∧ Below w.heap.size w w' := by
 simp only [bu]
 go_enter Tryz.func115, Tryz.ntmps115
 go_wp2_with fail
 (try simp only [Exit.inBlock, Exit.then])
 refine eH rfl rfl rfl (heap_alloc_new w _) Tryz.underlying39 rfl (by kernel_rfl) ⟨rfl, ?_⟩
 exact (Below.refl _ _).alloc (Nat.le_refl _) _
theorem Bf (q : Int) (w : World) : Calls Tryz.prog 47 #[.int .i64 q] w fun e w' => e = .returned (.agg (bu ⟨q, 0, 0, 0, 0, 0, 0, 0, 0⟩).toArray) ∧ Below w.heap.size w w' := by
 simp only [bu]
 go_enter Tryz.func47, Tryz.ntmps47
 go_wp2_with fail
 (try simp only [Exit.inBlock, Exit.then])
 refine eH rfl rfl rfl (heap_alloc_new w _) Tryz.underlying39 rfl (by kernel_rfl) ⟨rfl, ?_⟩
 exact (Below.refl _ _).alloc (Nat.le_refl _) _
theorem M9 (j : Jb) (w : World) : Calls Tryz.prog 155 #[.agg (ah j).toArray] w fun e w' => e = .returned (.tuple #[.int .i64 j.2.2.1, .int .i64 j.2.2.2.2.1, .int .i64 0]) ∧ Below w.heap.size w w' := by
 obtain ⟨x1, x2, x3, x4, x5, x6, x7, x8, x9, x0⟩ := j
 simp only [ah]
 obtain ⟨wB, zo⟩ : ∃ wB, wB = w.alloc (.cells #[.int .i64 x1, .int .i64 x2, .int .i64 x3, .int .i64 x4, .int .i64 x5, .int .i64 x6, .int .i64 x7, .int .i64 x8, .int .i64 x9, .int .u64 x0] 63) := ⟨_, rfl⟩
 have hb1 : Hid (Below w.heap.size w wB) := by show Below _ _ _; rw [zo]; exact (Below.refl _ _).alloc (Nat.le_refl _) _
 have hA : wB.heap[w.heap.size]? = some (.cells #[.int .i64 x1, .int .i64 x2, .int .i64 x3, .int .i64 x4, .int .i64 x5, .int .i64 x6, .int .i64 x7, .int .i64 x8, .int .i64 x9, .int .u64 x0] 63 (0, 0)) := by rw [zo]; exact heap_alloc_new w _
 have c2 : wB.cell? ⟨w.heap.size, 2, none⟩ = some (.int .i64 x3) := by simp [World.cell?, hA]
 have c4 : wB.cell? ⟨w.heap.size, 4, none⟩ = some (.int .i64 x5) := by simp [World.cell?, hA]
 clear hA
 go_enter Tryz.func155, Tryz.ntmps155
 go_wp2_with fail
 rw [← zo]
 replace zo := Lib.hid zo
 go_region
 go_wp2_with fail
 go_ret3
 exact ⟨rfl, hb1.out.drew⟩
end
end Go.Proofs.YtnihdgcfamoplaaGreat

namespace Go.Proofs.YtnihdgcfamoplaaGreat
open Go.RowKit Go.Lib
def iY (w : World) (b : Nat) (r : Ry) : Prop := w.heap[b]? = some (.cells (bu r).toArray 39 (0, 0))
theorem iY.at {w : World} {b : Nat} {r : Ry} (h : iY w b r) (j : Nat) (u : Value) (hj : (bu r)[j]? = some u) : w.cell? ⟨b, j, none⟩ = some u := by
 simp [World.cell?, show w.heap[b]? = _ from h, hj]
theorem iY.free {w : World} {b : Nat} {r : Ry} (h : iY w b r) (j : Nat) : w.frozen? ⟨b, j, none⟩ = false := by simp [World.frozen?, show w.heap[b]? = _ from h]
theorem iY.below {w w' : World} {b B : Nat} {r : Ry} (h : iY w b r) (hb : Below B w w') (hB : b < B) : iY w' b r := (hb.block b hB).trans h
theorem iY.store {w : World} {b : Nat} {r : Ry} (h : iY w b r) (x : Ry) : Sem.run Tryz.prog (storeCells ⟨b, 0, none⟩ (bu x) 0) w = .ok () (w.setRow b (bu x).toArray) ∧ iY (w.setRow b (bu x).toArray) b x := by
 refine ⟨?_, setRow_heap w b _ _ _ _ h⟩
 have hst := run_storeCells_at Tryz.prog b 0 39 (bu x) 0 (bu r).toArray w h (by simp [bu]) (uk x)
 simp only [Nat.add_zero] at hst
 rw [hst]
 rfl
theorem iY.put {w : World} {b : Nat} {r r' : Ry} (h : iY w b r) (j : Nat) (v : Value) (he : (bu r).toArray.setIfInBounds j v = (bu r').toArray) : iY (w.setCell ⟨b, j, none⟩ v) b r' := by
 have := heap_put (i := j) h v
 rw [he] at this
 exact this
theorem iY.other {w : World} {b g j : Nat} {v : Value} {r : Ry} (h : iY w b r) (hg : b ≠ g) : iY (w.setCell ⟨g, j, none⟩ v) b r := (Below.heap_setCell _ _ _ _ hg).trans h
theorem sS {B g : Nat} {w0 w : World} (hb : Below B w0 w) (hBg : B ≤ g) (j : Nat) (u : Value) : Below B w0 (w.setCell ⟨g, j, none⟩ u) := hb.trans ((Only.setCell g j w u).below hBg)
theorem qp {B g : Nat} {w0 w : World} (hb : Below B w0 w) (hBg : B ≤ g) (cs : Array Value) : Below B w0 (w.setRow g cs) := hb.trans ((⟨rfl, rfl, rfl, by simp, fun k hk => setRow_other w g k _ hk⟩ : Only g w (w.setRow g cs)).below hBg)
theorem Hq {w : World} {b : Nat} {x3 x5 : Int} (h : iY w b ⟨0, 0, 0, 0, 0, 0, x3, x5, 0⟩) (x1 x6 x7 x8 x9 : Int) : iY (((((w.setCell ⟨b, 1, none⟩ (.int .i64 x1)).setCell ⟨b, 2, none⟩ (.int .i64 x6)).setCell ⟨b, 3, none⟩ (.int .i64 x7)).setCell ⟨b, 4, none⟩ (.int .i64 x8)).setCell ⟨b, 5, none⟩ (.int .i64 x9)).drew b ⟨0, x1, x6, x7, x8, x9, x3, x5, 0⟩ := by
 have h1 : iY (w.setCell ⟨b, 1, none⟩ (.int .i64 x1)) b ⟨0, x1, 0, 0, 0, 0, x3, x5, 0⟩ := h.put 1 _ rfl
 have h2 : iY ((w.setCell ⟨b, 1, none⟩ (.int .i64 x1)).setCell ⟨b, 2, none⟩ (.int .i64 x6)) b ⟨0, x1, x6, 0, 0, 0, x3, x5, 0⟩ := h1.put 2 _ rfl
 clear h h1
 generalize (w.setCell ⟨b, 1, none⟩ (.int .i64 x1)).setCell ⟨b, 2, none⟩ (.int .i64 x6) = W at *
 have h3 : iY (W.setCell ⟨b, 3, none⟩ (.int .i64 x7)) b ⟨0, x1, x6, x7, 0, 0, x3, x5, 0⟩ := h2.put 3 _ rfl
 have h4 : iY ((W.setCell ⟨b, 3, none⟩ (.int .i64 x7)).setCell ⟨b, 4, none⟩ (.int .i64 x8)) b ⟨0, x1, x6, x7, x8, 0, x3, x5, 0⟩ := h3.put 4 _ rfl
 clear h2 h3
 generalize (W.setCell ⟨b, 3, none⟩ (.int .i64 x7)).setCell ⟨b, 4, none⟩ (.int .i64 x8) = V at *
 exact h4.put 5 _ rfl
theorem RQ (j : Jb) (w : World) : Calls Tryz.prog 134 #[.agg (ah j).toArray] w fun e w' => e = .returned (.agg (bu (iX j)).toArray) ∧ Below w.heap.size w w' := by
 have hw := fun W => M9 j W
 have ht := fun W => xV j.2.2.1 j.2.2.2.2.1 0 W
 have lJ := ax j
 have zJ := bL
 obtain ⟨k10, hk10⟩ : ∃ k, k = 10 := ⟨_, rfl⟩
 rw [← hk10] at lJ zJ
 replace hk10 := Lib.hid hk10
 obtain ⟨wA, aK⟩ : ∃ wA, wA = (w.alloc (.cells (ah j).toArray 63)).alloc (.cells (bu Be).toArray 39) := ⟨_, rfl⟩
 have bR : Hid (Below w.heap.size w wA) := by show Below _ _ _; rw [aK]; exact ((Below.refl _ _).alloc (Nat.le_refl _) _).alloc (by simp) _
 have hsA : wA.heap.size = w.heap.size + 2 := by rw [aK]; simp
 have PQ : wA.heap[w.heap.size]? = some (.cells (ah j).toArray 63 (0, 0)) := by rw [aK]; exact fF (heap_alloc_new w _)
 have iq : iY wA (w.heap.size + 1) Be := by rw [aK]; exact heap_alloc2_new w _ _
 have ld := pU (k := k10) PQ lJ
 rw [aK] at ld
 replace hsA := Lib.hid hsA
 obtain ⟨x1, x2, x3, x4, x5, x6, x7, x8, x9, x0⟩ := j
 simp only [ah, bu, Be, iX] at *
 go_enter Tryz.func134, Tryz.ntmps134
 go_wp2_with fail
 go_at_call 155
 refine (hw _).mono ?_
 rw [← aK]
 rintro e w1 ⟨rfl, hb1⟩
 clear hw ld
 go_wp2_with fail
 go_at_call 115
 refine (ht _).mono ?_
 rintro e w2 ⟨rfl, hb2⟩
 clear ht
 obtain ⟨w3, hw3⟩ : ∃ w3, w3 = w2.alloc (.cells #[.int .i64 0, .int .i64 0, .int .i64 0, .int .i64 0, .int .i64 0, .int .i64 0, .int .i64 x3, .int .i64 x5, .int .i64 0] 39) := ⟨_, rfl⟩
 have hb3 : Below wA.heap.size wA w3 := by rw [hw3]; exact (hb1.trans (hb2.mono hb1.size)).alloc (by have := hb1.size; have := hb2.size; omega) _
 have hJ3 : w3.heap[w.heap.size]? = some (.cells (ah (x1, x2, x3, x4, x5, x6, x7, x8, x9, x0)).toArray 63 (0, 0)) := (hb3.block _ (aG PQ)).trans PQ
 have Na : iY w3 (w.heap.size + 1) Be := iq.below hb3 (aG iq)
 have uD : iY w3 w2.heap.size ⟨0, 0, 0, 0, 0, 0, x3, x5, 0⟩ := by rw [hw3]; exact heap_alloc_new w2 _
 have hs2 : Hid (wA.heap.size ≤ w2.heap.size) := by show _ ≤ _; have := hb1.size; have := hb2.size; omega
 have j0 : w3.cell? ⟨w.heap.size, 0, none⟩ = some (.int .i64 x1) := by simp [World.cell?, hJ3, ah]
 have j5 : w3.cell? ⟨w.heap.size, 5, none⟩ = some (.int .i64 x6) := by simp [World.cell?, hJ3, ah]
 have j6 : w3.cell? ⟨w.heap.size, 6, none⟩ = some (.int .i64 x7) := by simp [World.cell?, hJ3, ah]
 have j7 : w3.cell? ⟨w.heap.size, 7, none⟩ = some (.int .i64 x8) := by simp [World.cell?, hJ3, ah]
 have j8 : w3.cell? ⟨w.heap.size, 8, none⟩ = some (.int .i64 x9) := by simp [World.cell?, hJ3, ah]
 have t1 := uD.at 1 (.int .i64 0) rfl
 have t2 := uD.at 2 (.int .i64 0) rfl
 have t3 := uD.at 3 (.int .i64 0) rfl
 have t4 := uD.at 4 (.int .i64 0) rfl
 have t5 := uD.at 5 (.int .i64 0) rfl
 have f1 := uD.free 1
 have f2 := uD.free 2
 have f3 := uD.free 3
 have f4 := uD.free 4
 have f5 := uD.free 5
 have hne : ¬ w.heap.size = w2.heap.size := by have := aG PQ; have := hs2.out; omega
 replace hJ3 := Lib.hid hJ3
 replace Na := Lib.hid Na
 replace uD := Lib.hid uD
 replace hb3 := Lib.hid hb3
 clear hb1 hb2 PQ iq
 go_wp2_with fail
 rw [← hw3]
 replace hw3 := Lib.hid hw3
 replace aK := Lib.hid aK
 go_region
 obtain ⟨w6, wH⟩ : ∃ w6, w6 = (((((w3.setCell ⟨w2.heap.size, 1, none⟩ (.int .i64 x1)).setCell ⟨w2.heap.size, 2, none⟩ (.int .i64 x6)).setCell ⟨w2.heap.size, 3, none⟩ (.int .i64 x7)).setCell ⟨w2.heap.size, 4, none⟩ (.int .i64 x8)).setCell ⟨w2.heap.size, 5, none⟩ (.int .i64 x9)).drew := ⟨_, rfl⟩
 have hs3 : w.heap.size + 2 ≤ w2.heap.size := by have := hs2.out; have := hsA.out; omega
 have oL : iY w6 w2.heap.size ⟨0, x1, x6, x7, x8, x9, x3, x5, 0⟩ := by
  rw [wH]
  exact Hq uD.out x1 x6 x7 x8 x9
 have Mx : iY w6 (w.heap.size + 1) Be := by
  rw [wH]
  exact ((((Na.out.other (by omega)).other (by omega)).other (by omega)).other (by omega)).other (by omega)
 have hb6 : Hid (Below w.heap.size w w6) := by
  show Below _ _ _
  rw [wH]
  exact (sS (sS (sS (sS (sS (bR.out.trans (hb3.out.mono (by have := hsA.out; omega))) (by omega) 1 _) (by omega) 2 _) (by omega) 3 _) (by omega) 4 _) (by omega) 5 _).drew
 rw [← wH]
 clear wH
 have zR := sQ
 obtain ⟨k9, bS⟩ : ∃ k, k = 9 := ⟨_, rfl⟩
 rw [← bS] at zR
 replace bS := Lib.hid bS
 have ld := pU (k := k9) oL (by rw [bS.out]; rfl)
 obtain ⟨hst, Vq⟩ := Mx.store ⟨0, x1, x6, x7, x8, x9, x3, x5, 0⟩
 have kV : Hid (Below w.heap.size w (w6.setRow (w.heap.size + 1) (bu ⟨0, x1, x6, x7, x8, x9, x3, x5, 0⟩).toArray)) := qp hb6.out (by omega) _
 have Ye : (bu ⟨0, x1, x6, x7, x8, x9, x3, x5, 0⟩).length = k9 := by rw [bS.out]; rfl
 have WJ : Hid (#[.int .i64 0, .int .i64 x1, .int .i64 x6, .int .i64 x7, .int .i64 x8, .int .i64 x9, .int .i64 x3, .int .i64 x5, .int .i64 0] = (bu ⟨0, x1, x6, x7, x8, x9, x3, x5, 0⟩).toArray) := rfl
 have Vr : Hid ((w6.setRow (w.heap.size + 1) (bu ⟨0, x1, x6, x7, x8, x9, x3, x5, 0⟩).toArray).heap[w.heap.size + 1]? = some (.cells (bu ⟨0, x1, x6, x7, x8, x9, x3, x5, 0⟩).toArray 39 (0, 0))) := Vq
 clear Mx oL Vq
 have WK := Lib.hid (iC ⟨0, x1, x6, x7, x8, x9, x3, x5, 0⟩)
 generalize bu ⟨0, x1, x6, x7, x8, x9, x3, x5, 0⟩ = cY at *
 go_wp2_with fail
 (try simp only [Exit.inBlock, Exit.then])
 refine eH rfl rfl rfl Vr.out Tryz.underlying39 rfl ?_ ⟨by rw [WJ.out], kV.out⟩
 rw [List.size_toArray, WK.out]
 kernel_rfl
end Go.Proofs.YtnihdgcfamoplaaGreat

namespace Go.Proofs.YtnihdgcfamoplaaGreat
open Go.RowKit Go.Lib Go.Sort
structure Wk where
 ag : Rq
 kW : Int
 dS : Int
 left : Value
 aD : Jb
 idle : Int
 target : Int
 rep : Ry
 ok : Bool
def gH (R : Wk) : List Value := encR R.ag ++ ([.int .i64 R.kW, .int .i64 R.dS, R.left] ++ (ah R.aD ++ ([.int .i64 R.idle, .int .i64 R.target] ++ (bu R.rep ++ [.bool R.ok]))))
def TQ : Rq := ⟨0, 0, 0, 0, 0, 0, false, 0, 0⟩
def iA : Jb := (0, 0, 0, 0, 0, 0, 0, 0, 0, 0)
def jY : Ry := ⟨0, 0, 0, 0, 0, 0, 0, 0, 0⟩
def cO (w : World) (b : Nat) (R : Wk) : Prop := w.heap[b]? = some (.cells (gH R).toArray 124 (0, 0))
section
variable {w w' w1 w2 : World} {b c t d p g a g' g1 g2 a' : Nat} {v v' v1 v2 : Value} {m m' : Int} {P P' : Pg} {R R' : Wk}
theorem Dv (R : Wk) : (gH R).length = 34 := rfl
theorem cO.lt (h : cO w b R) : b < w.heap.size := aG h
theorem cO.at (h : cO w b R) (j : Nat) (u : Value) (hj : (gH R)[j]? = some u) : w.cell? ⟨b, j, none⟩ = some u := by
 simp [World.cell?, show w.heap[b]? = _ from h, hj]
theorem cO.free (h : cO w b R) (j : Nat) : w.frozen? ⟨b, j, none⟩ = false := by simp [World.frozen?, show w.heap[b]? = _ from h]
theorem cO.put (h : cO w b R) (j : Nat) (u : Value) (he : (gH R).set j u = gH R') : cO (w.setCell ⟨b, j, none⟩ u) b R' := by
 refine (heap_put h u).trans ?_
 rw [xA, he]
theorem cO.left (h : cO w b R) (u : Value) : cO (w.setCell ⟨b, 11, none⟩ u) b { R with left := u } := h.put 11 u rfl
theorem cO.idle (h : cO w b R) (n : Int) : cO (w.setCell ⟨b, 22, none⟩ (.int .i64 n)) b { R with idle := n } := h.put 22 _ rfl
theorem cO.target (h : cO w b R) (n : Int) : cO (w.setCell ⟨b, 23, none⟩ (.int .i64 n)) b { R with target := n } := h.put 23 _ rfl
theorem cO.SA (h : cO w b R) (x : Bool) : cO (w.setCell ⟨b, 33, none⟩ (.bool x)) b { R with ok := x } := h.put 33 _ rfl
theorem cO.plan (h : cO w b R) (n : Int) : cO (w.setCell ⟨b, 20, none⟩ (.int .i64 n)) b { R with aD := R.aD.aH n } := h.put 20 _ rfl
theorem wK {w : World} {g : Nat} {cs : Array Value} {t : TypeId} {fr : Nat × Nat} (h : w.heap[g]? = some (.cells cs t fr)) (cs' : Array Value) : (w.setRow g cs').heap[g]? = some (.cells cs' t fr) := by
 simp [World.setRow, Array.getElem?_modify, h]
theorem cO.Fb (h : cO w b R) (x : Ry) : Sem.run Tryz.prog (storeCells ⟨b, 24, none⟩ (bu x) 0) w = .ok () (w.setRow b (gH { R with rep := x }).toArray) ∧ cO (w.setRow b (gH { R with rep := x }).toArray) b { R with rep := x } := by
 have hst := run_storeCells_at Tryz.prog b 24 124 (bu x) 0 (gH R).toArray w h (by simp [Dv, iC]) (uk x)
 refine ⟨hst.trans ?_, wK h _⟩
 congr 3
theorem cO.sU (h : cO w b R) (x : Jb) : Sem.run Tryz.prog (storeCells ⟨b, 12, none⟩ (ah x) 0) w = .ok () (w.setRow b (gH { R with aD := x }).toArray) ∧ cO (w.setRow b (gH { R with aD := x }).toArray) b { R with aD := x } := by
 have hst := run_storeCells_at Tryz.prog b 12 124 (ah x) 0 (gH R).toArray w h (by simp [Dv, ax]) (dK x)
 refine ⟨hst.trans ?_, wK h _⟩
 congr 3
theorem wL {w : World} {g off k : Nat} {all cs : List Value} {t : TypeId} (h : w.heap[g]? = some (.cells all.toArray t (0, 0))) (hk : cs.length = k) (hc : ∀ j u, cs[j]? = some u → all[off + j]? = some u) :
  Sem.run Tryz.prog (loadCellsFrom ⟨g, off, none⟩ 0 k #[]) w = .ok cs.toArray w :=
 run_loadCellsFrom_list Tryz.prog w _ _ k hk fun j u hj => by
  rw [Go.WideShapes.add_plain]
  have := hc j u hj
  simp [World.cell?, h, this]
theorem cO.mR (h : cO w b R) {k : Nat} (hk : (encR R.ag).length = k) : Sem.run Tryz.prog (loadCellsFrom ⟨b, 0, none⟩ 0 k #[]) w = .ok (encR R.ag).toArray w :=
 wL h hk fun j u hj => by
  obtain ⟨hlt, _⟩ := List.getElem?_eq_some_iff.1 hj
  rw [Nat.zero_add]; unfold gH; rw [List.getElem?_append_left hlt]; exact hj
theorem cO.mV (h : cO w b R) {k : Nat} (hk : (ah R.aD).length = k) : Sem.run Tryz.prog (loadCellsFrom ⟨b, 12, none⟩ 0 k #[]) w = .ok (ah R.aD).toArray w :=
 wL h hk fun j u hj => by
  have hlt : j < 10 := (List.getElem?_eq_some_iff.1 hj).1
  show (encR R.ag ++ ([_, _, _] ++ (ah R.aD ++ _)))[12 + j]? = _
  rw [List.getElem?_append_right (by show 9 ≤ _; omega), List.getElem?_append_right (by show 3 ≤ 12 + j - 9; omega), List.getElem?_append_left (by show 12 + j - 9 - 3 < 10; omega)]
  have e : 12 + j - (encR R.ag).length - [Value.int .i64 R.kW, .int .i64 R.dS, R.left].length = j := by show 12 + j - 9 - 3 = j; omega
  rw [e]; exact hj
def Bh (b c t d p : Nat) (v : Value) (g : Nat) (k : Nat) : Prop := k = b ∨ dH c t d p v g k
structure SW (w : World) (b c t d p : Nat) (v : Value) (g a : Nat) (m : Int) (R : Wk) (P : Pg) : Prop where
 wk : cO w b R
 cw : CW w c t d p v g a m P
structure WS (w w' : World) (b c t d p : Nat) (v : Value) (g : Nat) (v' : Value) (g' : Nat) : Prop where
 off : eO (Bh b c t d p v g) w w'
 grew : iT w (Bh b c t d p v g) (Bh b c t d p v' g')
theorem SW.apart (h : SW w b c t d p v g a m R P) : ¬ dH c t d p v g b := h.cw.other h.wk (by decide)
theorem WS.refl (w : World) : WS w w b c t d p v g v g := ⟨eO.refl _ _, iT.refl _ _⟩
theorem WS.of_below (h : Below w.heap.size w w1) : WS w w1 b c t d p v g v g := ⟨eO.of_below h, iT.refl _ _⟩
theorem WS.trans (h : WS w w1 b c t d p v g v1 g1) (h' : WS w1 w2 b c t d p v1 g1 v2 g2) : WS w w2 b c t d p v g v2 g2 :=
 ⟨h.off.trans h'.off h.grew, h.grew.trans h'.grew h.off.size⟩
theorem WS.dE (h : CS w w1 c t d p v g v1 g1) : WS w w1 b c t d p v g v1 g1 :=
 ⟨⟨h.off.os, h.off.tape, h.off.output, h.off.size, fun k hk hf => h.off.block k hk fun h2 => hf (.inr h2)⟩, fun k hk => hk.elim (fun e => .inl (.inl e)) fun hf => (h.grew k hf).elim (fun h2 => .inl (.inr h2)) .inr⟩
theorem WS.heap (h : WS w w1 b c t d p v g v1 g1) {k : Nat} (hk : k < w.heap.size) (hn : ¬ Bh b c t d p v g k) : w1.heap[k]? = w.heap[k]? := h.off.block k hk hn
theorem WS.bH (ho : eO (fun k => k = b) w w1) : WS w w1 b c t d p v g v g := ⟨⟨ho.os, ho.tape, ho.output, ho.size, fun k hk hf => ho.block k hk fun e => hf (.inl e)⟩, iT.refl _ _⟩
theorem SW.kept (h : SW w b c t d p v g a m R P) (hb : Below w.heap.size w w1) : SW w1 b c t d p v g a m R P := ⟨(hb.block b h.wk.lt).trans h.wk, h.cw.kept hb⟩
theorem SW.core (h : SW w b c t d p v g a m R P) (hc : CW w1 c t d p v1 g1 a' m' P') (hs : CS w w1 c t d p v g v1 g1) : SW w1 b c t d p v1 g1 a' m' R P' := ⟨(hs.heap h.wk.lt h.apart).trans h.wk, hc⟩
theorem CW.Lt (h : CW w c t d p v g a m P) (ho : eO (fun k => k = b) w w1) (hb : ¬ dH c t d p v g b) : CW w1 c t d p v g a m P := by
 have blk : ∀ k, dH c t d p v g k → w1.heap[k]? = w.heap[k]? := fun k hk => ho.block k (h.lt hk) (fun e => hb (e ▸ hk))
 obtain ⟨S, aJ, ⟨cap, hp1, hp2⟩, hrest⟩ := h.kT
 refine ⟨(blk c (.inl rfl)).trans h.cell, ⟨(blk t (.inr (.inl rfl))).trans h.dX.cell, bE h.dX.own fun k hk => blk k (.inr (.inr (.inr (.inr (.inl hk)))))⟩, (blk d (.inr (.inr (.inl rfl)))).trans h.nodes, S, aJ, ⟨cap, (blk p (.inr (.inr (.inr (.inl rfl))))).trans hp1, bE hp2 fun k hk => ?_⟩, hrest⟩
 have e : k = g := by simpa [Value.ownBlock] using hk.symm
 exact blk k (.inr (.inr (.inr (.inr (.inr e)))))
theorem SW.work (h : SW w b c t d p v g a m R P) (hw : cO w1 b R') (ho : eO (fun k => k = b) w w1) : SW w1 b c t d p v g a m R' P := ⟨hw, h.cw.Lt ho h.apart⟩
theorem dB (w : World) (j : Nat) (u : Value) : eO (fun k => k = b) w (w.setCell ⟨b, j, none⟩ u) := ⟨rfl, rfl, rfl, by simp, fun k _ hk => Below.heap_setCell w ⟨b, j, none⟩ u k hk⟩
theorem dh (w : World) (cs : Array Value) : eO (fun k => k = b) w (w.setRow b cs) := ⟨rfl, rfl, rfl, by simp, fun k _ hk => setRow_other w b k _ hk⟩
theorem gu (h : eO (fun k => k = b) w w1) (h' : eO (fun k => k = b) w1 w2) : eO (fun k => k = b) w w2 := h.trans h' (iT.refl _ _)
def au (w : World) (b c t d p : Nat) (v : Value) (g a : Nat) (m : Int) (L : Value) (R' : Wk) (P' : Pg) (e : Ending) (w' : World) : Prop :=
 e = .returned L ∧ ∃ v' g', SW w' b c t d p v' g' a m R' P' ∧ WS w w' b c t d p v g v' g'
end
end Go.Proofs.YtnihdgcfamoplaaGreat

namespace Go.Proofs.YtnihdgcfamoplaaGreat
open Go.RowKit Go.Lib Go.Sort
def fP (k : Nat) : Value := .func (.func k) #[] #[]
section
variable {w w' w1 w2 : World} {b c t d p g a : Nat} {v : Value} {m : Int} {P P' : Pg} {R R' : Wk}
theorem kE (h : CW w c t d p v g a m P) : Calls Tryz.prog 51 #[.pointer (some ⟨c, 0, none⟩)] w fun e w' => e = .returned (.bool false) ∧ w = w' := by
 have c3 := h.c3
 clear h
 go_enter Tryz.func51, Tryz.ntmps51
 go_wp2_with fail
 go_ret
 exact ⟨rfl, rfl⟩
theorem jv (h : CW w c t d p v g a m P) : Calls Tryz.prog 21 #[.pointer (some ⟨c, 0, none⟩)] w fun e w' => e = .returned (.bool P.cl) ∧ w = w' := by
 have c4 := h.c4
 have hno := kE h
 clear h
 go_enter Tryz.func21, Tryz.ntmps21
 go_wp2_with (go_at_call 51; go_must (refine hno.mono ?_); rintro e w' ⟨rfl, rfl⟩)
 go_ret
 exact ⟨rfl, rfl⟩
theorem Hr (h : cO w b R) (l : Bool) (hl : R.left = .nilFunc ∧ l = true ∨ (∃ k, R.left = fP k) ∧ l = false) : Calls Tryz.prog 94 #[.pointer (some ⟨b, 0, none⟩)] w fun e w' => e = .returned (.bool l) ∧ w = w' := by
 have c11 := h.at 11 R.left rfl
 clear h
 have e1 : ∀ w, Sem.run Tryz.prog (binOp .eql 122 .nilFunc .nilFunc) w = .ok (.bool true) w := fun w => rfl
 have e2 : ∀ k w, Sem.run Tryz.prog (binOp .eql 122 (.func (.func k) #[] #[]) .nilFunc) w = .ok (.bool false) w := fun k w => rfl
 rcases hl with ⟨hl, rfl⟩ | ⟨⟨k, hl⟩, rfl⟩
 ·rw [hl] at c11
  go_enter Tryz.func94, Tryz.ntmps94
  go_wp2_with fail
  go_ret
  exact ⟨rfl, rfl⟩
 ·rw [hl] at c11
  unfold fP at *
  go_enter Tryz.func94, Tryz.ntmps94
  go_wp2_with fail
  go_ret
  exact ⟨rfl, rfl⟩
theorem iI (h : cO w b R) (q : Int) : Calls Tryz.prog 95 #[.pointer (some ⟨b, 0, none⟩), .int .i64 q] w fun e w' => e = .returned .nilFunc ∧ cO w' b { R with rep := ⟨q, 0, 0, 0, 0, 0, 0, 0, 0⟩, ok := false } ∧ eO (fun k => k = b) w w' := by
 have hf := Bf q w
 generalize hx : (⟨q, 0, 0, 0, 0, 0, 0, 0, 0⟩ : Ry) = x at *
 have zY := sQ
 obtain ⟨k9, bS⟩ : ∃ k, k = 9 := ⟨_, rfl⟩
 rw [← bS] at zY
 have lY := iC x
 rw [← bS] at lY
 have hk0 : ¬ k9 = 0 := by omega
 replace bS := Lib.hid bS
 clear hx
 go_enter Tryz.func95, Tryz.ntmps95
 go_wp2_with fail
 go_at_call 47
 refine hf.mono ?_
 clear hf
 rintro e w1 ⟨rfl, hb1⟩
 have hW1 : cO w1 b R := (hb1.block b h.lt).trans h
 obtain ⟨st, hW2⟩ := hW1.Fb x
 have hW3 := hW2.SA false
 have Yf := hW2.free 33
 have ho : eO (fun k => k = b) w ((w1.setRow b (gH { R with rep := x }).toArray).setCell ⟨b, 33, none⟩ (.bool false)) := gu (eO.of_below hb1) (gu (dh w1 _) (dB _ 33 _))
 have WL := hW2.at 33 (.bool R.ok) rfl
 generalize gH { R with rep := x } = W2 at *
 go_wp2_with fail
 go_ret
 exact ⟨rfl, hW3, ho⟩
end
end Go.Proofs.YtnihdgcfamoplaaGreat

namespace Go.Proofs.YtnihdgcfamoplaaGreat
open Go.RowKit Go.Lib Go.Sort
section
variable {w w' w1 w2 : World} {b c t d p g a : Nat} {v : Value} {m : Int} {P P' : Pg} {R R' : Wk}
theorem Ht {k a' : Nat} {m' : Int} {L : Value} {l : Bool} (h : SW w b c t d p v g a m R P) (hl : R.left = fP k) (hl' : R'.left = fP k) (hL : L = .nilFunc ∧ l = true ∨ (∃ k, L = fP k) ∧ l = false)
  (hk : ∀ args w, Sem.run Tryz.prog (callFunc k args) w = .ok (.enter k args) w)
  (hp : Calls Tryz.prog k #[.pointer (some ⟨b, 0, none⟩), .pointer (some ⟨c, 0, none⟩)] w (au w b c t d p v g a' m' L R' P')) :
  Calls Tryz.prog 71 #[.pointer (some ⟨b, 0, none⟩), .pointer (some ⟨c, 0, none⟩)] w fun e w' => e = .returned (.bool l) ∧ ∃ v' g', SW w' b c t d p v' g' a' m' { R' with left := L } P' ∧ WS w w' b c t d p v g v' g' := by
 have hd := Hr h.wk false (.inr ⟨⟨k, hl⟩, rfl⟩)
 have hn := kE h.cw
 have c11 := h.wk.at 11 R.left rfl
 rw [hl] at c11
 unfold fP at c11
 go_enter Tryz.func71, Tryz.ntmps71
 go_wp2_with (first | (go_at_call 94; go_must (refine hd.mono ?_); rintro e w' ⟨rfl, rfl⟩) | (go_at_call 51; go_must (refine hn.mono ?_); rintro e w' ⟨rfl, rfl⟩))
 refine hp.mono ?_
 clear hp
 rintro e w1 ⟨rfl, v1, g1, hS, hW⟩
 have hW2 := hS.wk.left L
 have c11' := hS.wk.at 11 R'.left rfl
 rw [hl'] at c11'
 unfold fP at c11'
 have f11 := hS.wk.free 11
 have hd2 := Hr hW2 l hL
 have hS2 := hS.work hW2 (dB w1 11 L)
 have fin := hW.trans (WS.bH (dB w1 11 L))
 clear hW hW2 hS hd hn h c11
 rcases hL with ⟨rfl, rfl⟩ | ⟨⟨k2, rfl⟩, rfl⟩
 ·go_wp2_with (go_at_call 94; go_must (refine hd2.mono ?_); rintro e w' ⟨rfl, rfl⟩)
  go_ret
  exact ⟨rfl, v1, g1, hS2, fin⟩
 ·unfold fP at *
  go_wp2_with (go_at_call 94; go_must (refine hd2.mono ?_); rintro e w' ⟨rfl, rfl⟩)
  go_ret
  exact ⟨rfl, v1, g1, hS2, fin⟩
end
end Go.Proofs.YtnihdgcfamoplaaGreat

namespace Go.Proofs.YtnihdgcfamoplaaGreat
open Go.RowKit
def hd (v : Int) : Int := max 0 (min v 1152921504606846976)
theorem um (v : Int) : 0 ≤ hd v ∧ hd v ≤ 1152921504606846976 := by unfold hd; omega
theorem uK (v : Int) (w : World) :
  Calls Tryz.prog 150 #[.int .i64 v] w fun e w' => e = .returned (.int .i64 (hd v)) ∧ w = w' := by
 go_enter Tryz.func150, Tryz.ntmps150
 go_wp2
 go_ret
 exact ⟨rfl, rfl⟩
theorem Bi (a b : Int) (w : World) :
  Calls Tryz.prog 147 #[.int .i64 a, .int .i64 b] w fun e w' => e = .returned (.int .i64 (hd (hd a - hd b))) ∧ w = w' := by
 have ha := um a
 have hb := um b
 go_enter Tryz.func147, Tryz.ntmps147
 go_wp2_with (go_at_call 150; go_must (refine (uK _ _).mono ?_); rintro e w' ⟨rfl, rfl⟩)
 go_ret
 exact ⟨rfl, rfl⟩
end Go.Proofs.YtnihdgcfamoplaaGreat

namespace Go.Proofs.YtnihdgcfamoplaaGreat
open Go.RowKit
theorem RS (a : Int) (w : World) (ha : -9223372036854775808 ≤ a ∧ a ≤ 9223372036854775807) :
  Calls Tryz.prog 109 #[.int .i64 a] w fun e w' => e = .returned (.bool (decide (0 ≤ a ∧ a ≤ 1099511627776))) ∧ w = w' := by
 by_cases h0 : 0 ≤ a
 ·go_enter Tryz.func109, Tryz.ntmps109
  go_wp2
  go_ret
  exact ⟨by simp [h0], rfl⟩
 ·go_enter Tryz.func109, Tryz.ntmps109
  go_wp2
  go_ret
  exact ⟨by simp; omega, rfl⟩
end Go.Proofs.YtnihdgcfamoplaaGreat

namespace Go.Proofs.YtnihdgcfamoplaaGreat
open Go.RowKit
def uL (l : List Int) : Int := l.foldl (fun s v => hd (s + hd v)) 0
def kJ (l : List Int) : Int := l.foldl min 1152921504606846976
theorem Bj (l : List Int) (z : Int) : uL (l ++ [z]) = hd (uL l + hd z) := by unfold uL; rw [List.foldl_append]; rfl
theorem Fe (l : List Int) (z : Int) : kJ (l ++ [z]) = min (kJ l) z := by unfold kJ; rw [List.foldl_append]; rfl
theorem Hu (l : List Int) : 0 ≤ uL l ∧ uL l ≤ 1152921504606846976 := by
 rcases List.eq_nil_or_concat l with rfl | ⟨m, z, rfl⟩
 ·decide
 ·rw [List.concat_eq_append, Bj]; exact um _
theorem PS (v : Value) (zs : List Int) (w : World) (h : oZ w v zs) :
  Calls Tryz.prog 129 #[v] w fun e w' => e = .returned (.int .i64 (uL zs)) ∧ w = w' := by
 obtain ⟨⟨ao, cap, rfl, hlc, hcm, hcells⟩, hfit⟩ := h
 have Ca : cap ≤ 9223372036854775807 := by unfold maxLen at hcm; omega
 clear hfit hcm
 go_enter Tryz.func129, Tryz.ntmps129
 go_wp2_with fail
 go_loopw [3, 8] (fun s i wr => ∃ (k : Nat), k ≤ zs.length ∧ i = .int .i64 k ∧ s = .int .i64 (uL (zs.take k)) ∧ wr = w) (fun _ i _ => zs.length - (intOf i).toNat)
 case atStart => exact ⟨0, Nat.zero_le _, rfl, rfl, rfl⟩
 case round =>
  obtain ⟨k, hk, rfl, rfl, rfl⟩ := hrel
  by_cases hlt : k < zs.length
  ·obtain ⟨b, off, rfl, hbw, hcell⟩ := hcells (by rintro rfl; simp at hlt)
   obtain ⟨z, hz⟩ : ∃ z, z = zs.getD k 0 := ⟨_, rfl⟩
   have hcw : wr.cell? ⟨b, off + k, none⟩ = some (.int .i64 z) := by rw [hz]; exact hcell k hlt
   have hs := Hu (zs.take k)
   have hh := um z
   have hn : Hid (hd (uL (zs.take k) + hd z) = uL (zs.take (k + 1))) := by show _ = _; rw [AB hlt, Bj, hz]
   clear hz hcell hcells
   go_wp2_with (go_at_call 150; go_must (refine (uK _ _).mono ?_); rintro e w' ⟨rfl, rfl⟩)
   go_roundw
   case rel => exact ⟨k + 1, by omega, by go_num, congrArg (Value.int .i64) hn.out, trivial⟩
   case measure => simp [intOf]; omega
  ·obtain rfl : k = zs.length := by omega
   rw [List.take_of_length_le (Nat.le_refl _)]
   go_wp2_with fail
   go_ret
   exact ⟨rfl, rfl⟩
theorem J7 (v : Value) (zs : List Int) (w : World) (h : oZ w v zs) :
  Calls Tryz.prog 184 #[v] w fun e w' => e = .returned (.int .i64 (kJ zs)) ∧ w = w' := by
 obtain ⟨⟨ao, cap, rfl, hlc, hcm, hcells⟩, hfit⟩ := h
 have Ca : cap ≤ 9223372036854775807 := by unfold maxLen at hcm; omega
 clear hfit hcm
 go_enter Tryz.func184, Tryz.ntmps184
 go_wp2_with fail
 go_loopw [3, 8] (fun s i wr => ∃ (k : Nat), k ≤ zs.length ∧ i = .int .i64 k ∧ s = .int .i64 (kJ (zs.take k)) ∧ wr = w) (fun _ i _ => zs.length - (intOf i).toNat)
 case atStart => exact ⟨0, Nat.zero_le _, rfl, rfl, rfl⟩
 case round =>
  obtain ⟨k, hk, rfl, rfl, rfl⟩ := hrel
  by_cases hlt : k < zs.length
  ·obtain ⟨b, off, rfl, hbw, hcell⟩ := hcells (by rintro rfl; simp at hlt)
   obtain ⟨z, hz⟩ : ∃ z, z = zs.getD k 0 := ⟨_, rfl⟩
   have hcw : wr.cell? ⟨b, off + k, none⟩ = some (.int .i64 z) := by rw [hz]; exact hcell k hlt
   have hn : Hid (min (kJ (zs.take k)) z = kJ (zs.take (k + 1))) := by show _ = _; rw [AB hlt, Fe, hz]
   clear hz hcell hcells
   go_wp2_with fail
   go_roundw
   case rel => exact ⟨k + 1, by omega, by go_num, congrArg (Value.int .i64) hn.out, trivial⟩
   case measure => simp [intOf]; omega
  ·obtain rfl : k = zs.length := by omega
   rw [List.take_of_length_le (Nat.le_refl _)]
   go_wp2_with fail
   go_ret
   exact ⟨rfl, rfl⟩
theorem PT (w : World) (x y : Int) (e : TypeId) (hx : -9223372036854775808 ≤ x ∧ x ≤ 9223372036854775807) (hy : -9223372036854775808 ≤ y ∧ y ≤ 9223372036854775807) :
  oZ (w.alloc (.cells #[.int .i64 x, .int .i64 y] e)) (.slice (some ⟨w.heap.size, 0, none⟩) 2 2) [x, y] := by
 refine ⟨⟨_, _, rfl, by simp, by decide, fun _ => ⟨w.heap.size, 0, rfl, by simp, fun i hi => ?_⟩⟩, fun z hz => ?_⟩
 ·have hi : i = 0 ∨ i = 1 := by simp at hi; omega
  rcases hi with rfl | rfl <;> go_simp
 ·simp at hz
  rcases hz with rfl | rfl
  ·exact hx
  ·exact hy
end Go.Proofs.YtnihdgcfamoplaaGreat

namespace Go.Proofs.YtnihdgcfamoplaaGreat
open Go.RowKit Go.Lib Go.Sort
theorem kF : ∀ w, Sem.run Tryz.prog (Go.sizeOf 152) w = .ok 3 w := Tryz.sizeOf152
theorem PU : ∀ w, Sem.run Tryz.prog (isAgg 152) w = .ok true w := Tryz.isAgg152
theorem fQ {w : World} {b k : Nat} {cs : List Value} {t : TypeId} (h : w.heap[b]? = some (.cells cs.toArray t (0, 0))) (hk : cs.length = k) : Sem.run Tryz.prog (loadCellsFrom ⟨b, 0, none⟩ 0 k #[]) w = .ok cs.toArray w :=
 wL h hk fun j u hj => by rw [Nat.zero_add]; exact hj
theorem xW {fn : Func} {q u : Tmp} {b : Nat} {tmps : Array Value} {w : World} {cs : List Value} (h : fn.results = #[.cell q 152, .tmp u]) (ha : tmps.getD q undef = .pointer (some ⟨b, 0, none⟩)) (hb : w.heap[b]? = some (.cells cs.toArray 152 (0, 0))) (hl : cs.length = 3) :
  (results fn tmps).run Tryz.prog w = .ok (.tuple #[.agg cs.toArray, tmps.getD u undef]) w := by
 have h1 : Sem.run Tryz.prog (loadCells ⟨b, 0, none⟩ 3) w = .ok cs.toArray w := fQ hb hl
 rw [results_cell_tmp h, ha]
 simp only [loadVar, asAddr, Sem.run_bind, Sem.run_pure, Result.andThen_ok, PU, kF, h1, if_true]
def aN (j : Jb) : List Value := if ak j = true then [.int .i64 j.aL, .int .i64 (j.aL + j.lim), .int .i64 j.wid] else [.int .i64 0, .int .i64 0, .int .i64 0]
section
variable {w : World}
theorem Nb (j : Jb) (h : ak j = false) : Calls Tryz.prog 110 #[.agg (ah j).toArray] w fun e w' => e = .returned (.tuple #[.agg (aN j).toArray, .bool (ak j)]) ∧ Below w.heap.size w w' := by
 unfold aN
 rw [h, if_neg (by decide)]
 obtain ⟨x1, x2, x3, x4, x5, x6, x7, x8, x9, x0⟩ := j
 have hk : x6 ≠ 1 ∨ (x6 = 1 ∧ x9 < 0) := by
  by_cases e : x6 = 1
  ·refine .inr ⟨e, ?_⟩
   rcases Int.lt_or_le x9 0 with h1 | h1
   ·exact h1
   ·have : ak (x1, x2, x3, x4, x5, x6, x7, x8, x9, x0) = true := bC.2 ⟨e, h1⟩
    rw [this] at h; cases h
  ·exact .inl e
 clear h
 rw [tJ]
 have hb2 : Below w.heap.size w ((w.alloc (.cells #[.int .i64 x1, .int .i64 x2, .int .i64 x3, .int .i64 x4, .int .i64 x5, .int .i64 x6, .int .i64 x7, .int .i64 x8, .int .i64 x9, .int .u64 x0] 63)).alloc (.cells #[.int .i64 0, .int .i64 0, .int .i64 0] 152)) := ((Below.refl _ _).alloc (Nat.le_refl _) _).alloc (by simp) _
 rcases hk with h1 | ⟨rfl, h2⟩
 ·have d1 : (x6 != 1) = true := by simp [h1]
  go_enter Tryz.func110, Tryz.ntmps110
  go_wp2_with fail
  refine bodyPost_ret (xW rfl rfl (heap_alloc2_new w _ _) rfl) rfl ⟨rfl, hb2⟩
 ·go_enter Tryz.func110, Tryz.ntmps110
  go_wp2_with fail
  refine bodyPost_ret (xW rfl rfl (heap_alloc2_new w _ _) rfl) rfl ⟨rfl, hb2⟩
theorem yT {w w' : World} {v : Value} {zs : List Int} (h : oZ w v zs) (hb : Below w.heap.size w w') : oZ w' v zs := by
 obtain ⟨⟨ao, cap, e, h1, h2, h3⟩, hf⟩ := h
 refine ⟨⟨ao, cap, e, h1, h2, fun hz => ?_⟩, hf⟩
 obtain ⟨b, off, e2, h4, h5⟩ := h3 hz
 exact ⟨b, off, e2, Nat.lt_of_lt_of_le h4 hb.size, fun i hi => by rw [← h5 i hi]; simp only [World.cell?, hb.block b h4]⟩
theorem J8 (j : Jb) (h : ak j = true) (hp : j.aL ≤ 1099511627776) (hl : 0 ≤ j.lim ∧ j.lim ≤ 1048576) : Calls Tryz.prog 110 #[.agg (ah j).toArray] w fun e w' => e = .returned (.tuple #[.agg (aN j).toArray, .bool (ak j)]) ∧ Below w.heap.size w w' := by
 unfold aN
 rw [h, if_pos rfl]
 obtain ⟨hs, hp0⟩ := bC.1 h
 obtain ⟨x1, x2, x3, x4, x5, x6, x7, x8, x9, x0⟩ := j
 obtain rfl : x6 = 1 := hs
 replace hp0 : 0 ≤ x9 := hp0
 replace hp : x9 ≤ 1099511627776 := hp
 replace hl : 0 ≤ x4 ∧ x4 ≤ 1048576 := hl
 have hsum : uL [x9, x4] = x9 + x4 := by show hd (hd (0 + hd x9) + hd x4) = _; unfold hd; omega
 show Calls _ _ _ _ fun e w' => e = .returned (.tuple #[.agg #[.int .i64 x9, .int .i64 (x9 + x4), .int .i64 x3], .bool true]) ∧ Below w.heap.size w w'
 clear h
 rw [tJ]
 obtain ⟨wA, aK⟩ : ∃ wA, wA = ((w.alloc (.cells #[.int .i64 x1, .int .i64 x2, .int .i64 x3, .int .i64 x4, .int .i64 x5, .int .i64 1, .int .i64 x7, .int .i64 x8, .int .i64 x9, .int .u64 x0] 63)).alloc (.cells #[.int .i64 0, .int .i64 0, .int .i64 0] 152)) := ⟨_, rfl⟩
 have bR : Below w.heap.size w wA := by rw [aK]; exact ((Below.refl _ _).alloc (Nat.le_refl _) _).alloc (by simp) _
 have hsA : wA.heap.size = w.heap.size + 2 := by rw [aK]; simp
 have hJ : Hid (wA.heap[w.heap.size]? = some (.cells #[.int .i64 x1, .int .i64 x2, .int .i64 x3, .int .i64 x4, .int .i64 x5, .int .i64 1, .int .i64 x7, .int .i64 x8, .int .i64 x9, .int .u64 x0] 63 (0, 0))) := by show _ = _; rw [aK]; exact fF (heap_alloc_new w _)
 have hS : wA.heap[w.heap.size + 1]? = some (.cells #[.int .i64 0, .int .i64 0, .int .i64 0] 152 (0, 0)) := by rw [aK]; exact heap_alloc2_new w _ _
 have LD : Hid (∀ W, Below wA.heap.size wA W → W.heap[w.heap.size]? = some (.cells #[.int .i64 x1, .int .i64 x2, .int .i64 x3, .int .i64 x4, .int .i64 x5, .int .i64 1, .int .i64 x7, .int .i64 x8, .int .i64 x9, .int .u64 x0] 63 (0, 0))) := fun W hW => (hW.block _ (by omega)).trans hJ.out
 have hAdd := fun (v : Value) (W : World) (hv : oZ W v [x9, x4]) => PS v [x9, x4] W hv
 rw [hsum] at hAdd
 replace hsum := Lib.hid hsum
 replace aK := Lib.hid aK
 replace bR := Lib.hid bR
 go_enter Tryz.func110, Tryz.ntmps110
 go_wp2_with fail
 rw [← aK.out]
 refine Reg2.rd wA 10 24 [[],[ae],[af,af],[af,af,ae],[af,af,af,af],[af,af,af,af,ae],[af,af,ae,ae,ae,ae],[af,af,ae,ae,ae,ae,ae],[af,af,af,af,af,af,af,af],[af,af,af,af,af,af,af,af,ae]] [0, 1, 0, 1, 0, 1, 1, 1, 0, 1] [.pure, .mU (.int .i64 x9), .pure, .mU (.int .i64 x9), .pure, .mU (.int .i64 x4), .minor Nat 0 (fun k => .slice (some ⟨k, 0, none⟩) 2 2) (fun k W => oZ W (.slice (some ⟨k, 0, none⟩) 2 2) [x9, x4]), .mU (.int .i64 (x9 + x4)), .pure, .mU (.int .i64 x3)] (by kernel_rfl) (by kernel_rfl) rfl rfl ⟨trivial, Reg2.tt, trivial, Reg2.tt, trivial, Reg2.tt, ⟨fun k a b he hp => yT hp he, fun k a b he hp => yT hp he⟩, Reg2.tt, trivial, Reg2.tt, trivial⟩ ⟨rfl, rfl, rfl, Nat.le_refl _, fun _ _ => rfl⟩ ?_
 dsimp only [Reg2.mk, List.zip, List.zipWith, List.take]
 repeat (refine' Reg2.ai _ (by rfl) (fun wz => ?_) ?_; rotate_left; (go_simp; first | rfl | rw [if_neg (by omega)]); simp only [Act.put, xA, xB, xC]; (try simp only [xD]); (try simp only [xE]); (try simp only [id]))
 refine Reg2.pm (fun wz hI hF => ?_) (fun r1 => ?_) (by rfl)
 ·have q0 : wz.cell? ⟨w.heap.size, 8, none⟩ = some (.int .i64 x9) := by simp [World.cell?, LD.out wz hI]
  go_wp2_with fail
  first | exact ⟨_, rfl, rfl, Reg2.Ext.refl _⟩ | exact ⟨_, rfl, ⟨(), rfl, trivial⟩, Reg2.Ext.refl _⟩
 simp only [Act.put, xA, xB, xC]; (try simp only [xD]); (try simp only [xE]); (try simp only [id])
 repeat (refine' Reg2.ai _ (by rfl) (fun wz => ?_) ?_; rotate_left; (go_simp; first | rfl | rw [if_neg (by omega)]); simp only [Act.put, xA, xB, xC]; (try simp only [xD]); (try simp only [xE]); (try simp only [id]))
 refine Reg2.pm (fun wz hI hF => ?_) (fun r3 => ?_) (by rfl)
 ·have q0 : wz.cell? ⟨w.heap.size, 8, none⟩ = some (.int .i64 x9) := by simp [World.cell?, LD.out wz hI]
  go_wp2_with fail
  first | exact ⟨_, rfl, rfl, Reg2.Ext.refl _⟩ | exact ⟨_, rfl, ⟨(), rfl, trivial⟩, Reg2.Ext.refl _⟩
 simp only [Act.put, xA, xB, xC]; (try simp only [xD]); (try simp only [xE]); (try simp only [id])
 repeat (refine' Reg2.ai _ (by rfl) (fun wz => ?_) ?_; rotate_left; (go_simp; first | rfl | rw [if_neg (by omega)]); simp only [Act.put, xA, xB, xC]; (try simp only [xD]); (try simp only [xE]); (try simp only [id]))
 refine Reg2.pm (fun wz hI hF => ?_) (fun r5 => ?_) (by rfl)
 ·have q0 : wz.cell? ⟨w.heap.size, 3, none⟩ = some (.int .i64 x4) := by simp [World.cell?, LD.out wz hI]
  go_wp2_with fail
  first | exact ⟨_, rfl, rfl, Reg2.Ext.refl _⟩ | exact ⟨_, rfl, ⟨(), rfl, trivial⟩, Reg2.Ext.refl _⟩
 simp only [Act.put, xA, xB, xC]; (try simp only [xD]); (try simp only [xE]); (try simp only [id])
 refine Reg2.pm (fun wz hI hF => ?_) (fun r6 => ?_) (by rfl)
 ·have pa := PT wz x9 x4 2 (by omega) (by omega)
  go_wp2_with fail
  exact ⟨_, rfl, ⟨_, rfl, pa⟩, (Reg2.Ext.refl _).alloc (Nat.le_refl _) _⟩
 simp only [Act.put, xA, xB, xC]; (try simp only [xD]); (try simp only [xE]); (try simp only [id])
 refine Reg2.pm (fun wz hI hF => ?_) (fun r7 => ?_) (by rfl)
 ·have hv := hF.2.2.2.2.1
  go_wp2_with (go_at_call 129; go_must (refine (hAdd _ wz hv).mono ?_); rintro e w' ⟨rfl, rfl⟩)
  first | exact ⟨_, rfl, rfl, Reg2.Ext.refl _⟩ | exact ⟨_, rfl, ⟨(), rfl, trivial⟩, Reg2.Ext.refl _⟩
 simp only [Act.put, xA, xB, xC]; (try simp only [xD]); (try simp only [xE]); (try simp only [id])
 repeat (refine' Reg2.ai _ (by rfl) (fun wz => ?_) ?_; rotate_left; (go_simp; first | rfl | rw [if_neg (by omega)]); simp only [Act.put, xA, xB, xC]; (try simp only [xD]); (try simp only [xE]); (try simp only [id]))
 refine Reg2.pm (fun wz hI hF => ?_) (fun r9 => ?_) (by rfl)
 ·have q0 : wz.cell? ⟨w.heap.size, 2, none⟩ = some (.int .i64 x3) := by simp [World.cell?, LD.out wz hI]
  go_wp2_with fail
  first | exact ⟨_, rfl, rfl, Reg2.Ext.refl _⟩ | exact ⟨_, rfl, ⟨(), rfl, trivial⟩, Reg2.Ext.refl _⟩
 simp only [Act.put, xA, xB, xC]; (try simp only [xD]); (try simp only [xE]); (try simp only [id])
 refine Reg2.aC ?_
 intro w7 jZ _ kG
 clear kG
 dsimp only [List.drop]
 have gM : w7.heap[w.heap.size + 1]? = some (.cells #[.int .i64 0, .int .i64 0, .int .i64 0] 152 (0, 0)) := (jZ.block _ (by omega)).trans hS
 have kV := bR.out.trans (jZ.mono bR.out.size)
 have c0 : w7.cell? ⟨w.heap.size + 1, 0, none⟩ = some (.int .i64 0) := by simp [World.cell?, gM]
 have c1 : w7.cell? ⟨w.heap.size + 1, 1, none⟩ = some (.int .i64 0) := by simp [World.cell?, gM]
 have c2 : w7.cell? ⟨w.heap.size + 1, 2, none⟩ = some (.int .i64 0) := by simp [World.cell?, gM]
 have f0 : w7.frozen? ⟨w.heap.size + 1, 0, none⟩ = false := by simp [World.frozen?, gM]
 have f1 : w7.frozen? ⟨w.heap.size + 1, 1, none⟩ = false := by simp [World.frozen?, gM]
 have f2 : w7.frozen? ⟨w.heap.size + 1, 2, none⟩ = false := by simp [World.frozen?, gM]
 have gT := heap_put (i := 2) (heap_put (i := 1) (heap_put (i := 0) gM (.int .i64 x9)) (.int .i64 (x9 + x4))) (.int .i64 x3)
 have uE : Below w.heap.size w (((w7.setCell ⟨w.heap.size + 1, 0, none⟩ (.int .i64 x9)).setCell ⟨w.heap.size + 1, 1, none⟩ (.int .i64 (x9 + x4))).setCell ⟨w.heap.size + 1, 2, none⟩ (.int .i64 x3)) := ((kV.setCell (by show _ ≤ w.heap.size + 1; omega) _).setCell (by show _ ≤ w.heap.size + 1; omega) _).setCell (by show _ ≤ w.heap.size + 1; omega) _
 go_wp2_with fail
 refine bodyPost_ret (xW rfl rfl gT rfl) rfl ⟨rfl, uE⟩
theorem kU (j : Jb) (hp : j.aL ≤ 1099511627776) (hl : 0 ≤ j.lim ∧ j.lim ≤ 1048576) : Calls Tryz.prog 110 #[.agg (ah j).toArray] w fun e w' => e = .returned (.tuple #[.agg (aN j).toArray, .bool (ak j)]) ∧ Below w.heap.size w w' := by
 cases h : ak j with
 | false => have := Nb (w := w) j h; rw [h] at this; exact this
 | true => have := J8 (w := w) j h hp hl; rw [h] at this; exact this
end
end Go.Proofs.YtnihdgcfamoplaaGreat

namespace Go.Proofs.YtnihdgcfamoplaaGreat
open Go.RowKit Go.Lib Go.Sort
section
variable {w : World} {b c t d p g a : Nat} {v : Value} {m : Int} {P : Pg} {R : Wk}
theorem nN (h : SW w b c t d p v g a m R P) (id : Int) : Calls Tryz.prog 114 #[.pointer (some ⟨b, 0, none⟩), .pointer (some ⟨c, 0, none⟩), .int .i64 id] w fun e w' =>
  e = .returned (.agg (ah (bM P.J id)).toArray) ∧ cO w' b { R with rep := iX (bM P.J id) } ∧ eO (fun k => k = b) w w' := by
 have zE := bL
 have zY := sQ
 obtain ⟨k, hk⟩ : ∃ k, k = 10 := ⟨_, rfl⟩
 obtain ⟨k9, bS⟩ : ∃ k, k = 9 := ⟨_, rfl⟩
 rw [← hk] at zE
 rw [← bS] at zY
 have hk0 : ¬ k9 = 0 := by omega
 have hk1 : ¬ k = 0 := by omega
 obtain ⟨wA, aK⟩ : ∃ wA, wA = w.alloc (.cells #[.int .i64 0, .int .i64 0, .int .i64 0, .int .i64 0, .int .i64 0, .int .i64 0, .int .i64 0, .int .i64 0, .int .i64 0, .int .u64 0] 63) := ⟨_, rfl⟩
 have bR : Below w.heap.size w wA := by rw [aK]; exact (Below.refl _ _).alloc (Nat.le_refl _) _
 have hsA : wA.heap.size = w.heap.size + 1 := by rw [aK]; simp
 have TR : wA.heap[w.heap.size]? = some (.cells (ah iA).toArray 63 (0, 0)) := by rw [aK]; exact heap_alloc_new w _
 have hA := h.kept bR
 have c0 := hA.cw.c0
 have hget := gK hA.cw.dX id
 obtain ⟨y, hy⟩ : ∃ y, y = bM P.J id := ⟨_, rfl⟩
 rw [← hy]
 unfold iF at hget
 rw [← hy] at hget
 replace hy := Lib.hid hy
 have lY := ax y
 rw [← hk] at lY
 replace hk := Lib.hid hk
 rw [aK] at c0 hget
 have SB := fun W => RQ y W
 have lR := iC (iX y)
 rw [← bS] at lR
 replace bS := Lib.hid bS
 have ST : Hid (∀ W : World, Sem.run Tryz.prog (storeCells ⟨W.heap.size, 0, none⟩ (ah y) 0) (W.alloc (.cells #[.int .i64 0, .int .i64 0, .int .i64 0, .int .i64 0, .int .i64 0, .int .i64 0, .int .i64 0, .int .i64 0, .int .i64 0, .int .u64 0] 63)) = .ok () (W.alloc (.cells (ah y).toArray 63))) := fun W => dF W W.heap.size (ah y) (ah iA) 63 rfl rfl (dK y)
 have JS : Hid (∀ {q : Nat} {W : World}, W.heap[q]? = some (.cells (ah iA).toArray 63 (0, 0)) → Sem.run Tryz.prog (storeCells ⟨q, 0, none⟩ (ah y) 0) W = .ok () (W.setRow q (ah y).toArray)) := fun hq => nS hq
 have TS : Hid ((ah y).toArray.size = 10) := Lib.hid rfl
 generalize ah y = cY at *
 go_enter Tryz.func114, Tryz.ntmps114
 go_wp2_with fail
 go_at_call 33
 refine hget.mono ?_
 clear hget
 rw [← aK]
 rintro e w1 ⟨rfl, hg1⟩
 replace aK := Lib.hid aK
 have hb1 := hg1.below
 have st1 := ST.out w1
 obtain ⟨w2, hw2⟩ : ∃ w2, w2 = w1.alloc (.cells cY.toArray 63) := ⟨_, rfl⟩
 rw [← hw2] at st1
 have hb2 : Below wA.heap.size wA w2 := by rw [hw2]; exact hb1.alloc hb1.size _
 have h2 := hA.kept hb2
 have hx2 : w2.heap[w.heap.size]? = some (.cells (ah iA).toArray 63 (0, 0)) := (hb2.block _ (by omega)).trans TR
 have hz2 : w2.heap[w1.heap.size]? = some (.cells cY.toArray 63 (0, 0)) := by rw [hw2]; exact heap_alloc_new w1 _
 have WM := fQ hz2 lY
 have hs1 := hb1.size
 have hs2 : w2.heap.size = w1.heap.size + 1 := by rw [hw2]; simp
 replace hw2 := Lib.hid hw2
 go_wp2_with fail
 go_at_call 134
 refine (SB w2).mono ?_
 clear SB
 rintro e w3 ⟨rfl, hb3⟩
 have h3 := h2.kept hb3
 obtain ⟨WN, Nc⟩ := h3.wk.Fb (iX y)
 have hbb := h.wk.lt
 have hx3 : w3.heap[w.heap.size]? = some (.cells (ah iA).toArray 63 (0, 0)) := (hb3.block _ (by omega)).trans hx2
 have hz3 : w3.heap[w1.heap.size]? = some (.cells cY.toArray 63 (0, 0)) := (hb3.block _ (by omega)).trans hz2
 obtain ⟨w4, hw4⟩ : ∃ w4, w4 = w3.setRow b (gH { R with rep := iX y }).toArray := ⟨_, rfl⟩
 rw [← hw4] at WN Nc
 have hx4 : w4.heap[w.heap.size]? = some (.cells (ah iA).toArray 63 (0, 0)) := by rw [hw4, setRow_other w3 b _ _ (by omega)]; exact hx3
 have zq : w4.heap[w1.heap.size]? = some (.cells cY.toArray 63 (0, 0)) := by rw [hw4, setRow_other w3 b _ _ (by omega)]; exact hz3
 have sN : eO (fun k => k = b) w w4 := by rw [hw4]; exact gu (eO.of_below (bR.trans ((hb2.trans (hb3.mono hb2.size)).mono bR.size))) (dh w3 _)
 have WO := fQ zq lY
 have Yg := JS.out hx4
 have WQ : cO (w4.setRow w.heap.size cY.toArray) b { R with rep := iX y } := (setRow_other w4 w.heap.size b _ (by omega)).trans Nc
 have Bb : eO (fun k => k = b) w (w4.setRow w.heap.size cY.toArray) := ⟨sN.os, sN.tape, sN.output, by simpa using sN.size, fun k hk2 hn => by rw [setRow_other w4 w.heap.size k _ (by omega)]; exact sN.block k hk2 hn⟩
 have hx5 := wK hx4 cY.toArray
 replace hw4 := Lib.hid hw4
 go_wp2_with fail
 refine eH rfl rfl rfl hx5 Tryz.underlying63 rfl (by rw [TS.out]; kernel_rfl) ⟨rfl, WQ, Bb⟩
end
end Go.Proofs.YtnihdgcfamoplaaGreat

namespace Go.Proofs.YtnihdgcfamoplaaGreat
open Go.RowKit Go.Lib Go.Sort
theorem Dw {q p : Jb → Bool} : ∀ {L : List Jb} {i : Nat}, i < (L.filter q).length → (∀ k, k < i → p ((L.filter q)[k]!) = false) → p ((L.filter q)[i]!) = true → ∃ n, L.findIdx? (fun j => q j && p j) = some n ∧ n < L.length ∧ L.getD n default = (L.filter q)[i]! := by
 intro L
 induction L with
 | nil => intro i hi; simp at hi
 | cons x L ih =>
  intro i hi hno hp
  cases hq : q x with
  | false =>
   have e : (x :: L).filter q = L.filter q := by simp [hq]
   rw [e] at hi hp hno ⊢
   obtain ⟨n, h1, h2, h3⟩ := ih hi hno hp
   refine ⟨n + 1, ?_, by simp; omega, by simpa using h3⟩
   rw [List.findIdx?_cons]
   simp [hq, h1]
  | true =>
   have e : (x :: L).filter q = x :: L.filter q := by simp [hq]
   rw [e] at hi hp hno ⊢
   cases i with
   | zero =>
    have hx : p x = true := by simpa using hp
    refine ⟨0, ?_, by simp, by simp⟩
    rw [List.findIdx?_cons]
    simp [hq, hx]
   | succ i =>
    have hx : p x = false := by simpa using hno 0 (by omega)
    obtain ⟨n, h1, h2, h3⟩ := ih (i := i) (by simpa using hi) (fun k hk => by simpa using hno (k + 1) (by omega)) (by simpa using hp)
    refine ⟨n + 1, ?_, by simp; omega, by simpa using h3⟩
    rw [List.findIdx?_cons]
    simp [hx, h1]
theorem Hw {q p : Jb → Bool} {L : List Jb} (hno : ∀ k, k < (L.filter q).length → p ((L.filter q)[k]!) = false) : L.findIdx? (fun j => q j && p j) = none := by
 rw [List.findIdx?_eq_none_iff]
 intro x hx
 cases hq : q x with
 | false => rfl
 | true =>
  obtain ⟨k, hk, e⟩ := List.mem_iff_getElem.1 (List.mem_filter.2 ⟨hx, hq⟩)
  have := hno k hk
  rw [getElem!_pos _ k hk, e] at this
  simpa using this
section
variable {M : Md}
theorem qR (h : aF M) {i : Nat} (hi : i < M.L.length) (hp : ak (M.L.getD i default) = true) (t : Int) :
  ay { M with L := M.L.set i ((M.L.getD i default).aH (-1)) } t 0 = ay M t 0 + had (max (M.L.getD i default).aL M.now) ((M.L.getD i default).aL + (M.L.getD i default).lim) (M.L.getD i default).wid t := by
 have hm := bA hi
 have hid := h.ids i hi
 have hpl := h.plan _ hm
 have h1 := h.mb.aL _ hm
 have h2 := h.mb.lim _ hm
 have h0 := (bC.1 hp).2
 rw [je hi, dP (j := (M.L.getD i default).aH (-1)) (by unfold ak; simp [Jb.aH, Jb.aL]), ma hp (by omega)]
 generalize M.L.getD i default = x at *
 have e : max x.aL M.now = x.aL := by omega
 rw [e]
 unfold had
 have e2 : ¬ (x.aL + x.lim = 1152921504606846976) := by omega
 simp only [e2, or_false]
 omega
theorem Ff {i : Nat} (hi : i < M.L.length) : dC { M with L := M.L.set i ((M.L.getD i default).aH (-1)) } = dC M := by
 refine oG (by rw [bG, bG]) fun n hn => ?_
 rw [dA, dA, oQ (y := (M.L.getD i default).aH (-1)) hi Iff.rfl rfl]
theorem vC (h : aF M) (t : Int) (ht : M.now ≤ t) : 0 ≤ ay M t 0 ∧ ay M t 0 ≤ 64 := ⟨h.free t ht, by have := Ad h t; have := h.mb.nn; omega⟩
end
def Nf (w : World) (c t d p : Nat) (v : Value) (g a : Nat) (m : Int) (M : Md) (o : Option Nat) (e : Ending) (w' : World) : Prop :=
 (o = none ∧ e = .returned (.bool false) ∧ Below w.heap.size w w') ∨
 ∃ i, o = some i ∧ fB w c t d p v g (a + 2) (m + 1) (.bool true) (aj { M with L := M.L.set i ((M.L.getD i default).aH (-1)) }) e w'
section
variable {w : World} {c t d p g a : Nat} {v : Value} {m : Int} {M : Md}
theorem vD (h : CW w c t d p v g a m (aj M)) (hI : aF M) (h1 : 1 ≤ M.dr.length) (hll : M.L.length ≤ 900) (ha : a ≤ 800) (hm : m ≤ 1000000) (lv : Value) (l : List Jb) (q : Jb → Bool) (hr : az ah 10 w lv l) (hl : l = M.L.filter q) :
  Calls Tryz.prog 159 #[.pointer (some ⟨c, 0, none⟩), lv] w (Nf w c t d p v g a m M (M.L.findIdx? fun j => q j && ak j)) := by
 have zE := bL
 have zS := kF
 obtain ⟨k, hk⟩ : ∃ k, k = 10 := ⟨_, rfl⟩
 obtain ⟨k3, hk3⟩ : ∃ k, k = 3 := ⟨_, rfl⟩
 rw [← hk] at zE
 rw [← hk3] at zS
 have hk0 : ¬ k = 0 := by omega
 have yU : ¬ k3 = 0 := by omega
 replace hk := Lib.hid hk
 replace hk3 := Lib.hid hk3
 have hC := Lib.hid h
 have hlt : Hid (∀ k, dH c t d p v g k → k < w.heap.size) := fun k hk => h.lt hk
 have rF := Lib.hid (fA hI h1 hll)
 have hmem : Hid (∀ i, i < l.length → l[i]! ∈ M.L) := fun i hi => by
  have : l[i]! ∈ l := by rw [getElem!_pos l i hi]; exact List.getElem_mem _
  have h2 : l[i]! ∈ M.L.filter q := hl ▸ this
  exact (List.mem_filter.1 h2).1
 obtain ⟨ao, cap, rfl, q1, q2, q3⟩ := hr
 obtain ⟨n, hn⟩ : ∃ n, l.length = n := ⟨_, rfl⟩
 have hnl : n ≤ 900 := by rw [← hn, hl]; exact Nat.le_trans (List.length_filter_le _ _) hll
 rw [hn] at q1 q3 ⊢
 have HQ : Hid (0 < n → ∃ b off, ao = some ⟨b, off, none⟩ ∧ mP w b off l) := fun hp => by
  obtain ⟨b, off, e1, e2, e3⟩ := q3 hp
  exact ⟨b, off, e1, e2, e3⟩
 have Ca : cap ≤ 9223372036854775807 := by unfold maxLen at q2; omega
 replace hn := Lib.hid hn
 replace hl := Lib.hid hl
 clear q2 q3 h
 go_enter Tryz.func159, Tryz.ntmps159
 go_wp2_with fail
 go_loopw [11] (fun ii wr => ∃ (i : Nat), i ≤ n ∧ ii = .int .i64 i ∧ Below w.heap.size w wr ∧ Hid (∀ j, j < i → ak l[j]! = false)) (fun ii _ => n - (intOf ii).toNat)
 case atStart => exact ⟨0, Nat.zero_le _, rfl, Below.refl _ _, Lib.hid fun j hj => absurd hj (Nat.not_lt_zero _)⟩
 case round =>
  obtain ⟨i, hin, rfl, hbr, hno⟩ := hrel
  by_cases hlt2 : i < n
  ·have b2 : (i : Int) < (n : Int) := by omega
   have wi : IntKind.i64.wrap ((i : Int) + 1) = (i : Int) + 1 := by rw [IntKind.wrap_i64]; omega
   obtain ⟨gb, off, rfl, hJ⟩ := HQ.out (by omega)
   have rE := hJ.below hbr
   have iL : i < l.length := by have := hn.out; omega
   have LI := rE.load hk.out iL
   have hxm := hmem.out i iL
   obtain ⟨x, hx⟩ : ∃ x, x = l[i]! := ⟨_, rfl⟩
   rw [← hx] at LI hxm
   replace hx := Lib.hid hx
   have lI := ax x
   rw [← hk.out] at lI
   have hpx := hI.mb.aL x hxm
   have hlx := hI.mb.lim x hxm
   have st : Sem.run Tryz.prog (storeCells ⟨wr.heap.size, 0, none⟩ (ah x) 0) (wr.alloc (.cells #[.int .i64 0, .int .i64 0, .int .i64 0, .int .i64 0, .int .i64 0, .int .i64 0, .int .i64 0, .int .i64 0, .int .i64 0, .int .u64 0] 63)) = .ok () (wr.alloc (.cells (ah x).toArray 63)) := dF wr wr.heap.size (ah x) (ah iA) 63 rfl rfl (dK x)
   obtain ⟨w1, hw1⟩ : ∃ w1, w1 = wr.alloc (.cells (ah x).toArray 63) := ⟨_, rfl⟩
   have hb1 : Below w.heap.size w w1 := by rw [hw1]; exact hbr.alloc hbr.size _
   have hs1 : w1.heap.size = wr.heap.size + 1 := by rw [hw1]; simp
   have hz1 : w1.heap[wr.heap.size]? = some (.cells (ah x).toArray 63 (0, 0)) := by rw [hw1]; exact heap_alloc_new wr _
   have ld1 := fQ hz1 lI
   have Vs : (ah x)[0]? = some (.int .i64 x.id) := rfl
   have hpl := kU (w := w1) x hpx.2 ⟨hlx.1, hlx.2⟩
   generalize hcI : ah x = cI at *
   replace hcI := Lib.hid hcI
   rw [← hw1] at st
   replace hw1 := Lib.hid hw1
   go_wp2_with fail
   go_at_call 110
   refine hpl.mono ?_
   clear hpl st LI ld1
   rintro e w2 ⟨rfl, hb2⟩
   have SE : Below w.heap.size w w2 := hb1.trans (hb2.mono hb1.size)
   have hz2 : w2.heap[wr.heap.size]? = some (.cells cI.toArray 63 (0, 0)) := (hb2.block _ (by omega)).trans hz1
   have lS : (aN x).length = 3 := by unfold aN; split <;> rfl
   have oS : ∀ u ∈ aN x, u.oneCell' = true := by unfold aN; split <;> (intro u hu; simp at hu; rcases hu with rfl | rfl | rfl <;> rfl)
   have st2 : Sem.run Tryz.prog (storeCells ⟨w2.heap.size, 0, none⟩ (aN x) 0) (w2.alloc (.cells #[.int .i64 0, .int .i64 0, .int .i64 0] 152)) = .ok () (w2.alloc (.cells (aN x).toArray 152)) := dF w2 w2.heap.size (aN x) [.int .i64 0, .int .i64 0, .int .i64 0] 152 rfl lS oS
   rw [← hk3.out] at lS
   have hsp := Lib.hid (rfl : aN x = aN x)
   generalize kX : aN x = cS at lS st2 ⊢
   replace kX := Lib.hid kX
   obtain ⟨w3, hw3⟩ : ∃ w3, w3 = w2.alloc (.cells cS.toArray 152) := ⟨_, rfl⟩
   have hb3 : Below w2.heap.size w2 w3 := by rw [hw3]; exact (Below.refl _ _).alloc (Nat.le_refl _) _
   have Dx : Below w.heap.size w w3 := SE.trans (hb3.mono SE.size)
   have hs2 := hb2.size
   have hs3 : w3.heap.size = w2.heap.size + 1 := by rw [hw3]; simp
   have hz3 : Hid (w3.heap[wr.heap.size]? = some (.cells cI.toArray 63 (0, 0))) := (hb3.block _ (by omega)).trans hz2
   have hy3 : Hid (w3.heap[w2.heap.size]? = some (.cells cS.toArray 152 (0, 0))) := by show _ = _; rw [hw3]; exact heap_alloc_new w2 _
   rw [← hw3] at st2
   replace hw3 := Lib.hid hw3
   cases hP : ak x with
   | false =>
    go_wp2_with fail
    go_roundw
    case rel => exact ⟨i + 1, by omega, by go_num, Dx, Lib.hid fun j hj => by
     rcases Nat.lt_succ_iff_lt_or_eq.1 hj with h5 | h5
     ·exact hno.out j h5
     ·subst h5; rw [← hx.out]; exact hP⟩
    case measure => simp [intOf]; omega
   | true =>
    have hkey := Dw (q := q) (p := ak) (L := M.L) (i := i) (by rw [← hl.out]; exact iL) (fun j hj => by rw [← hl.out]; exact hno.out j hj) (by rw [← hl.out, ← hx.out]; exact hP)
    obtain ⟨f, hf1, hf2, hf3⟩ := hkey
    rw [← hl.out, ← hx.out] at hf3
    have hfree := Lib.hid (qR hI hf2 (by rw [hf3]; exact hP))
    have hinv := Lib.hid (hI.wo hf2)
    have hcore := Lib.hid (Ff (M := M) hf2)
    have Hy := Lib.hid (hI.ids f hf2)
    rw [hf3] at hfree hinv hcore Hy
    have hf1 := Lib.hid hf1
    have SF := Lib.hid (hC.out.kept Dx)
    go_wp2_with fail
    refine Reg2.rd w3 5 35 [[],[ae],[ae,ae],[ae,ae,ae],[af,af,af,af]] [0, 0, 0, 1, 1] [.pure, .pure, .pure, .mU (.pointer (some ⟨p, 0, none⟩)), .mU (.agg cS.toArray)] (by kernel_rfl) (by kernel_rfl) rfl rfl ⟨trivial, trivial, trivial, Reg2.tt, Reg2.tt, trivial⟩ ⟨rfl, rfl, rfl, Nat.le_refl _, fun _ _ => rfl⟩ ?_
    dsimp only [Reg2.mk, List.zip, List.zipWith, List.take]
    repeat (refine' Reg2.ai _ (by rfl) (fun wz => ?_) ?_; rotate_left; (go_simp; first | rfl | rw [if_neg (by omega)]); simp only [Act.put, xA, xB, xC]; (try simp only [xD]); (try simp only [xE]); (try simp only [id]))
    refine Reg2.pm (fun wz hI hF => ?_) (fun r3 => ?_) (by rfl)
    ·have c0 := (SF.out.kept hI).c2
     go_wp2_with fail
     first | exact ⟨_, rfl, rfl, Reg2.Ext.refl _⟩ | exact ⟨_, rfl, ⟨(), rfl, trivial⟩, Reg2.Ext.refl _⟩
    simp only [Act.put, xA, xB, xC]; (try simp only [xD]); (try simp only [xE]); (try simp only [id])
    refine Reg2.pm (fun wz hI hF => ?_) (fun r4 => ?_) (by rfl)
    ·have d0 := fQ ((hI.block _ (aG hy3.out)).trans hy3.out) lS
     go_wp2_with fail
     first | exact ⟨_, rfl, rfl, Reg2.Ext.refl _⟩ | exact ⟨_, rfl, ⟨(), rfl, trivial⟩, Reg2.Ext.refl _⟩
    simp only [Act.put, xA, xB, xC]; (try simp only [xD]); (try simp only [xE]); (try simp only [id])
    refine Reg2.aC ?_
    intro w4 HI4 _ fG
    clear fG
    dsimp only [List.drop]
    have oM := SF.out.kept HI4
    have hb4 := Dx.trans (HI4.mono Dx.size)
    have zq : w4.heap[wr.heap.size]? = some (.cells cI.toArray 63 (0, 0)) := (HI4.block _ (by omega)).trans hz3.out
    have hrel := sO oM rF.out ha hm x.aL (x.aL + x.lim) x.wid (fun t => ay { M with L := M.L.set f (x.aH (-1)) } t 0) (by have := hI.one x hxm; have : 1 ≤ x.lim := this.2.2.1; omega) (by omega) (by have := hI.mb.wid x hxm; omega) (fun t _ => hfree.out t) (fun t ht => vC hinv.out t ht)
    have lX : cS = [.int .i64 x.aL, .int .i64 (x.aL + x.lim), .int .i64 x.wid] := by rw [← kX.out]; unfold aN; rw [if_pos hP]
    clear kX
    subst lX
    go_wp2_with fail
    go_at_call 112
    refine hrel.mono ?_
    clear hrel
    rintro e w5 ⟨rfl, v5, g5, gL, hS5⟩
    have Gw : Hid (w5.heap[wr.heap.size]? = some (.cells cI.toArray 63 (0, 0))) := (hS5.heap (aG zq) (fun hf => by have := hlt.out _ hf; have := hbr.size; omega)).trans zq
    replace gL := Lib.hid gL
    go_wp2_with fail
    refine Reg2.rd w5 6 35 [[],[ae],[ae,ae],[ae,ae,ae],[af,af,af,af],[af,af,af,af,ae]] [0, 0, 0, 1, 0, 1] [.pure, .pure, .pure, .mU (.pointer (some ⟨t, 0, none⟩)), .pure, .mU (.int .i64 x.id)] (by kernel_rfl) (by kernel_rfl) rfl rfl ⟨trivial, trivial, trivial, Reg2.tt, trivial, Reg2.tt, trivial⟩ ⟨rfl, rfl, rfl, Nat.le_refl _, fun _ _ => rfl⟩ ?_
    dsimp only [Reg2.mk, List.zip, List.zipWith, List.take]
    repeat (refine' Reg2.ai _ (by rfl) (fun wz => ?_) ?_; rotate_left; (go_simp; first | rfl | rw [if_neg (by omega)]); simp only [Act.put, xA, xB, xC]; (try simp only [xD]); (try simp only [xE]); (try simp only [id]))
    refine Reg2.pm (fun wz hI hF => ?_) (fun r3 => ?_) (by rfl)
    ·have c0 := (gL.out.kept hI).c0
     go_wp2_with fail
     first | exact ⟨_, rfl, rfl, Reg2.Ext.refl _⟩ | exact ⟨_, rfl, ⟨(), rfl, trivial⟩, Reg2.Ext.refl _⟩
    simp only [Act.put, xA, xB, xC]; (try simp only [xD]); (try simp only [xE]); (try simp only [id])
    repeat (refine' Reg2.ai _ (by rfl) (fun wz => ?_) ?_; rotate_left; (go_simp; first | rfl | rw [if_neg (by omega)]); simp only [Act.put, xA, xB, xC]; (try simp only [xD]); (try simp only [xE]); (try simp only [id]))
    refine Reg2.pm (fun wz hI hF => ?_) (fun r5 => ?_) (by rfl)
    ·have q0 : wz.cell? ⟨wr.heap.size, 0, none⟩ = some (.int .i64 x.id) := by simp [World.cell?, (hI.block _ (aG Gw.out)).trans Gw.out, Vs]
     go_wp2_with fail
     first | exact ⟨_, rfl, rfl, Reg2.Ext.refl _⟩ | exact ⟨_, rfl, ⟨(), rfl, trivial⟩, Reg2.Ext.refl _⟩
    simp only [Act.put, xA, xB, xC]; (try simp only [xD]); (try simp only [xE]); (try simp only [id])
    refine Reg2.aC ?_
    intro w6 Hz _ fG
    clear fG
    dsimp only [List.drop]
    have HV := gL.out.kept Hz
    have PV := Dr HV x.id (-1)
    go_wp2_with fail
    go_at_call 154
    refine PV.mono ?_
    clear PV
    rintro e w7 ⟨rfl, v7, g7, zt, gM⟩
    have hst := bC.1 hP
    have hpe : gY (-1) = 0 := by decide
    have EC : bO M.L (gY (-1)) x.id (fun j : Jb => decide (j.state = 1)) = 0 := by
     unfold bO
     rw [Hy.out, if_neg (by rw [hpe]; decide), if_neg (by omega), if_neg (by omega), show ((f : Int) + 1 - 1).toNat = f by omega, if_pos]
     rw [getElem!_pos M.L f hf2]
     have : M.L[f] = x := by rw [← hf3]; simp [List.getD, hf2]
     rw [this]
     exact decide_eq_true hst.1
    have WR : ({ ({ aj M with f := fun t => ay { M with L := M.L.set f (x.aH (-1)) } t 0 } : Pg) with J := df M.L (gY (-1)) x.id (fun j : Jb => decide (j.state = 1)) (kL (-1)) } : Pg) = aj { M with L := M.L.set f (x.aH (-1)) } := by
     have e1 : df M.L (gY (-1)) x.id (fun j : Jb => decide (j.state = 1)) (kL (-1)) = M.L.set f (x.aH (-1)) := by
      unfold df
      rw [if_pos EC, Hy.out, show ((f : Int) + 1 - 1).toNat = f by omega, getElem!_pos M.L f hf2]
      have : M.L[f] = x := by rw [← hf3]; simp [List.getD, hf2]
      rw [this]
      rfl
     rw [e1]
     unfold aj
     rw [hcore.out]
    have hfin : CW w7 c t d p v7 g7 (a + 2) (m + 1) (aj { M with L := M.L.set f (x.aH (-1)) }) := WR ▸ zt
    have hSS : CS w w7 c t d p v g v7 g7 := ((CS.of_below (Dx.trans (HI4.mono Dx.size))).trans hS5).trans ((CS.of_below Hz).trans gM)
    go_wp2_with fail
    go_ret
    exact .inr ⟨f, hf1.out, rfl, v7, g7, by rw [hf3]; exact hfin, hSS⟩
  ·have e : i = n := by omega
   subst e
   have hfi := hid (Hw (q := q) (p := ak) (L := M.L) (fun j hj => by rw [← hl.out]; exact hno.out j (by rw [← hn.out, hl.out]; exact hj)))
   go_wp2_with fail
   go_ret
   exact .inl ⟨hfi.out, rfl, hbr⟩
end
end Go.Proofs.YtnihdgcfamoplaaGreat

namespace Go.Proofs.YtnihdgcfamoplaaGreat
open Go.RowKit Go.Lib Go.Sort
theorem J9 {j : Jb} (h : j.id ≠ 0) : (fun x : Jb => (aO j x && decide (x.state ∈ [(1 : Int)])) && ak x) = p8 j := by
 funext x
 unfold p8
 cases hp : ak x with
 | false => simp
 | true =>
  have : x.state = 1 := (bC.1 hp).1
  simp [h, this]
theorem HY : (fun x : Jb => decide (x.state ∈ [(1 : Int)]) && ak x) = p8 kY := by
 funext x
 unfold p8
 cases hp : ak x with
 | false => simp
 | true =>
  have h1 : x.state = 1 := (bC.1 hp).1
  have h2 : kY.id = 0 := rfl
  simp [h1, h2]
section
variable {w : World} {b c t d p g a : Nat} {v : Value} {m : Int} {M : Md} {R : Wk}
def Ng (w : World) (b c t d p : Nat) (v : Value) (g a : Nat) (m : Int) (R : Wk) (M : Md) (k : Nat) (o : Option Nat) (e : Ending) (w' : World) : Prop :=
 (o = none ∧ au w b c t d p v g a m .nilFunc R (aj M) e w') ∨
 ∃ i, o = some i ∧ au w b c t d p v g (a + 2) (m + 1) (fP k) R (aj { M with L := M.L.set i ((M.L.getD i default).aH (-1)) }) e w'
theorem wM (h : SW w b c t d p v g a m R (aj M)) (hI : aF M) (h1 : 1 ≤ M.dr.length) (hll : M.L.length ≤ 900) (ha : a ≤ 800) (hm : m ≤ 1000000) (hid : R.aD.id ≠ 0) :
  Calls Tryz.prog 138 #[.pointer (some ⟨b, 0, none⟩), .pointer (some ⟨c, 0, none⟩)] w (Ng w b c t d p v g a m R M 138 (dV R.aD M.L)) := by
 have zE := bL
 obtain ⟨k, hk⟩ : ∃ k, k = 10 := ⟨_, rfl⟩
 rw [← hk] at zE
 have hk0 : ¬ k = 0 := by omega
 have lJ := ax R.aD
 rw [← hk] at lJ
 replace hk := Lib.hid hk
 have hS := Lib.hid h
 have hin := fun (W : World) (hW : Below w.heap.size w W) (u : Value) (hu : az enc1 1 W u [1]) => sD (h.kept hW).cw.dX (by show M.L.length ≤ 1000; omega) hu
 have hlen : (M.L.filter fun j : Jb => decide (j.state ∈ [(1 : Int)])).length ≤ 900 := Nat.le_trans (List.length_filter_le _ _) hll
 have hbe := fun (W : World) (u : Value) (hu : az ah 10 W u (M.L.filter fun j : Jb => decide (j.state ∈ [(1 : Int)]))) => Gq R.aD u _ W hu hlen
 have hint : Hid (∀ W : World, az enc1 1 (W.alloc (.cells #[.int .i64 1] 3)) (.slice (some ⟨W.heap.size, 0, none⟩) 1 1) [1]) := fun W => fO W W.heap.size [1] rfl (by decide)
 have TT : Hid (∀ W, Below w.heap.size w W → Sem.run Tryz.prog (loadCellsFrom ⟨b, 12, none⟩ 0 k #[]) W = .ok (ah R.aD).toArray W) := fun W hW => (h.kept hW).wk.mV lJ
 have TU := List.filter_filter (p := aO R.aD) (q := fun j : Jb => decide (j.state ∈ [(1 : Int)])) (l := M.L)
 have hhit := J9 hid
 generalize hL1 : (M.L.filter fun j : Jb => decide (j.state ∈ [(1 : Int)])) = L1 at *
 generalize hL2 : L1.filter (aO R.aD) = L2 at *
 have hdr := fun (W : World) (u : Value) (hC : CW W c t d p v g a m (aj M)) (hu : az ah 10 W u L2) => vD hC hI h1 hll ha hm u L2 _ hu TU
 have hin' := fun (W : World) (hW : Below w.heap.size w W) (u : Value) (hu : az enc1 1 W u [1]) => (hin W hW u hu)
 rw [show (aj M).J = M.L from rfl, hL1] at hin
 generalize ah R.aD = cJ at *
 replace hL1 := Lib.hid hL1
 replace hL2 := Lib.hid hL2
 replace TU := Lib.hid TU
 replace hhit := Lib.hid hhit
 clear h hin' hlen
 go_enter Tryz.func138, Tryz.ntmps138
 go_wp2_with fail
 refine Reg2.rd w 12 18 [[],[af],[af,ae],[af,ae,ae],[af,ae,ae,ae],[af,af,af,af,af],[af,af,af,af,af,ae],[af,af,af,af,af,ae,ae],[af,af,af,af,af,ae,ae,ae],[af,af,af,af,af,af,af,af,af],[af,af,af,af,af,ae,ae,ae,ae,ae],[af,ae,ae,ae,ae,ae,ae,ae,ae,ae,ae]] [0, 0, 0, 0, 1, 0, 0, 0, 1, 1, 1, 1] [.pure, .pure, .pure, .pure, .mU (.agg cJ.toArray), .pure, .pure, .pure, .mU (.pointer (some ⟨t, 0, none⟩)), .minor Nat 0 (fun k => .slice (some ⟨k, 0, none⟩) 1 1) (fun k W => az enc1 1 W (.slice (some ⟨k, 0, none⟩) 1 1) [1]), .minor Value (.bool false) (fun x => x) (fun x W => az ah 10 W x L1), .minor Value (.bool false) (fun x => x) (fun x W => az ah 10 W x L2)] (by kernel_rfl) (by kernel_rfl) rfl rfl ⟨trivial, trivial, trivial, trivial, Reg2.tt, trivial, trivial, trivial, Reg2.tt, ⟨fun k a b he hp => hp.below he, fun k a b he hp => hp.below he⟩, ⟨fun k a b he hp => hp.below he, fun k a b he hp => hp.below he⟩, ⟨fun k a b he hp => hp.below he, fun k a b he hp => hp.below he⟩, trivial⟩ ⟨rfl, rfl, rfl, Nat.le_refl _, fun _ _ => rfl⟩ ?_
 dsimp only [Reg2.mk, List.zip, List.zipWith, List.take]
 repeat (refine' Reg2.ai _ (by rfl) (fun wz => ?_) ?_; rotate_left; (go_simp; first | rfl | rw [if_neg (by omega)]); simp only [Act.put, xA, xB, xC]; (try simp only [xD]); (try simp only [xE]); (try simp only [id]))
 refine Reg2.pm (fun wz hI hF => ?_) (fun r4 => ?_) (by rfl)
 ·have d0 := TT.out wz hI
  go_wp2_with fail
  first | exact ⟨_, rfl, rfl, Reg2.Ext.refl _⟩ | exact ⟨_, rfl, ⟨(), rfl, trivial⟩, Reg2.Ext.refl _⟩
 simp only [Act.put, xA, xB, xC]; (try simp only [xD]); (try simp only [xE]); (try simp only [id])
 repeat (refine' Reg2.ai _ (by rfl) (fun wz => ?_) ?_; rotate_left; (go_simp; first | rfl | rw [if_neg (by omega)]); simp only [Act.put, xA, xB, xC]; (try simp only [xD]); (try simp only [xE]); (try simp only [id]))
 refine Reg2.pm (fun wz hI hF => ?_) (fun r8 => ?_) (by rfl)
 ·have c0 := (hS.out.cw.kept hI).c0
  go_wp2_with fail
  first | exact ⟨_, rfl, rfl, Reg2.Ext.refl _⟩ | exact ⟨_, rfl, ⟨(), rfl, trivial⟩, Reg2.Ext.refl _⟩
 simp only [Act.put, xA, xB, xC]; (try simp only [xD]); (try simp only [xE]); (try simp only [id])
 refine Reg2.pm (fun wz hI hF => ?_) (fun r9 => ?_) (by rfl)
 ·have pa := hint.out wz
  go_wp2_with fail
  exact ⟨_, rfl, ⟨_, rfl, pa⟩, (Reg2.Ext.refl _).alloc (Nat.le_refl _) _⟩
 simp only [Act.put, xA, xB, xC]; (try simp only [xD]); (try simp only [xE]); (try simp only [id])
 refine Reg2.pm (fun wz hI hF => ?_) (fun zn => ?_) (by rfl)
 ·have hv := hF.2.2.2.2.1
  go_wp2_with (go_at_call 64; go_must (refine (hin wz hI _ hv).mono ?_); rintro e w' ⟨u, rfl, ho, hb5⟩)
  exact ⟨_, rfl, ⟨_, rfl, az.gB ho ax rfl rfl⟩, hb5⟩
 simp only [Act.put, xA, xB, xC]; (try simp only [xD]); (try simp only [xE]); (try simp only [id])
 refine Reg2.pm (fun wz hI hF => ?_) (fun Nh => ?_) (by rfl)
 ·have hv := hF.2.2.2.2.2.2.2.2.2.1
  go_wp2_with (go_at_call 160; go_must (refine (hbe wz _ hv).mono ?_); rintro e w' ⟨u, rfl, ho, hb5⟩)
  exact ⟨_, rfl, ⟨_, rfl, ho⟩, hb5⟩
 simp only [Act.put, xA, xB, xC]; (try simp only [xD]); (try simp only [xE]); (try simp only [id])
 refine Reg2.aC ?_
 intro w7 jZ _ kG
 have hv7 := kG.2.2.2.2.2.2.2.2.2.2.2.1
 clear kG
 dsimp only [List.drop]
 have gM := hS.out.kept jZ
 have hd7 := hdr w7 _ gM.cw hv7
 go_wp2_with fail
 go_at_call 159
 refine hd7.mono ?_
 clear hd7
 rintro e w8 (⟨ho, rfl, uE⟩ | ⟨i, ho, rfl, v8, g8, TY, gT⟩)
 ·have hfin := gM.kept uE
  go_wp2_with fail
  go_ret
  exact .inl ⟨by unfold dV; rw [← hhit.out]; exact ho, rfl, v, g, hfin, WS.of_below (jZ.trans (uE.mono jZ.size))⟩
 ·have hfin := gM.core TY gT
  go_wp2_with fail
  go_ret
  exact .inr ⟨i, by unfold dV; rw [← hhit.out]; exact ho, rfl, v8, g8, hfin, (WS.of_below jZ).trans (WS.dE gT)⟩
end
end Go.Proofs.YtnihdgcfamoplaaGreat

namespace Go.Proofs.YtnihdgcfamoplaaGreat
open Go.RowKit Go.Lib
theorem Bl (k : Int) (w : World) : Calls Tryz.prog 48 #[.int .i64 k] w fun e w' => e = .returned (.bool (decide (1 ≤ k) && decide (k ≤ 13))) ∧ w = w' := by
 by_cases h1 : 1 ≤ k
 ·have d1 : decide (1 ≤ k) = true := decide_eq_true h1
  go_enter Tryz.func48, Tryz.ntmps48
  go_wp2_with fail
  go_ret
  exact ⟨by simp [h1], rfl⟩
 ·have d1 : decide (1 ≤ k) = false := decide_eq_false h1
  go_enter Tryz.func48, Tryz.ntmps48
  go_wp2_with fail
  go_ret
  exact ⟨by simp, rfl⟩
def jG (k : Int) : Bool := decide (k = 6) || decide (k = 10) || decide (k = 11) || decide (k = 12)
theorem Dy (k : Int) (w : World) : Calls Tryz.prog 100 #[.int .i64 k] w fun e w' => e = .returned (.bool (jG k)) ∧ w = w' := by
 by_cases h6 : k = 6
 ·subst h6
  go_enter Tryz.func100, Tryz.ntmps100
  go_wp2_with fail
  go_ret
  exact ⟨rfl, rfl⟩
 by_cases h10 : k = 10
 ·subst h10
  go_enter Tryz.func100, Tryz.ntmps100
  go_wp2_with fail
  go_ret
  exact ⟨rfl, rfl⟩
 by_cases h11 : k = 11
 ·subst h11
  go_enter Tryz.func100, Tryz.ntmps100
  go_wp2_with fail
  go_ret
  exact ⟨rfl, rfl⟩
 by_cases h12 : k = 12
 ·subst h12
  go_enter Tryz.func100, Tryz.ntmps100
  go_wp2_with fail
  go_ret
  exact ⟨rfl, rfl⟩
 have e : jG k = false := by simp [jG, h6, h10, h11, h12]
 rw [e]
 have t6 : (k == 6) = false := beq_eq_false_iff_ne.2 h6
 have t10 : (k == 10) = false := beq_eq_false_iff_ne.2 h10
 have t11 : (k == 11) = false := beq_eq_false_iff_ne.2 h11
 have t12 : (k == 12) = false := beq_eq_false_iff_ne.2 h12
 clear h6 h10 h11 h12 e
 go_enter Tryz.func100, Tryz.ntmps100
 go_wp2_with fail
 go_ret
 exact ⟨rfl, rfl⟩
end Go.Proofs.YtnihdgcfamoplaaGreat

namespace Go.Proofs.YtnihdgcfamoplaaGreat
open Go.RowKit Go.Lib
def lN (r : Rq) : Rq :=
 if r.kind = 1 then ⟨r.kind, 0, r.user, r.width, r.limit, r.prio, r.held, 0, 0⟩
 else if r.kind = 2 ∨ r.kind = 3 ∨ r.kind = 4 ∨ r.kind = 5 ∨ r.kind = 6 then ⟨r.kind, r.id, 0, 0, 0, 0, false, 0, 0⟩
 else if r.kind = 7 ∨ r.kind = 8 then ⟨r.kind, 0, 0, 0, 0, 0, false, r.node, 0⟩
 else if r.kind = 9 then ⟨r.kind, 0, 0, 0, 0, 0, false, 0, r.till⟩
 else ⟨r.kind, 0, 0, 0, 0, 0, false, 0, 0⟩
theorem PX (x2 x3 x4 x5 x6 : Int) (x7 : Bool) (x8 x9 : Int) (w : World) : Calls Tryz.prog 82 #[.agg #[.int .i64 1, .int .i64 x2, .int .i64 x3, .int .i64 x4, .int .i64 x5, .int .i64 x6, .bool x7, .int .i64 x8, .int .i64 x9]] w fun e w' => e = .returned (.agg #[.int .i64 1, .int .i64 0, .int .i64 x3, .int .i64 x4, .int .i64 x5, .int .i64 x6, .bool x7, .int .i64 0, .int .i64 0]) ∧ Below w.heap.size w w' := by
 go_enter Tryz.func82, Tryz.ntmps82
 go_wp2_with fail
 go_region
 all_goals (try go_wp2_with fail)
 refine eH rfl rfl rfl (show (World.drew _).heap[_]? = _ from fF (heap_alloc2_new w _ _)) Tryz.underlying32 rfl (by kernel_rfl) ⟨rfl, ?_⟩
 exact ((((Below.refl _ _).alloc (Nat.le_refl _) _).alloc (by simp) _).alloc (by simp; omega) _).drew
theorem PY (x2 x3 x4 x5 x6 : Int) (x7 : Bool) (x8 x9 : Int) (w : World) : Calls Tryz.prog 82 #[.agg #[.int .i64 2, .int .i64 x2, .int .i64 x3, .int .i64 x4, .int .i64 x5, .int .i64 x6, .bool x7, .int .i64 x8, .int .i64 x9]] w fun e w' => e = .returned (.agg #[.int .i64 2, .int .i64 x2, .int .i64 0, .int .i64 0, .int .i64 0, .int .i64 0, .bool false, .int .i64 0, .int .i64 0]) ∧ Below w.heap.size w w' := by
 go_enter Tryz.func82, Tryz.ntmps82
 go_wp2_with fail
 refine eH rfl rfl rfl (fF (heap_alloc2_new w _ _)) Tryz.underlying32 rfl (by kernel_rfl) ⟨rfl, ?_⟩
 exact ((((Below.refl _ _).alloc (Nat.le_refl _) _).alloc (by simp) _).alloc (by simp; omega) _)
theorem PZ (x2 x3 x4 x5 x6 : Int) (x7 : Bool) (x8 x9 : Int) (w : World) : Calls Tryz.prog 82 #[.agg #[.int .i64 3, .int .i64 x2, .int .i64 x3, .int .i64 x4, .int .i64 x5, .int .i64 x6, .bool x7, .int .i64 x8, .int .i64 x9]] w fun e w' => e = .returned (.agg #[.int .i64 3, .int .i64 x2, .int .i64 0, .int .i64 0, .int .i64 0, .int .i64 0, .bool false, .int .i64 0, .int .i64 0]) ∧ Below w.heap.size w w' := by
 go_enter Tryz.func82, Tryz.ntmps82
 go_wp2_with fail
 refine eH rfl rfl rfl (fF (heap_alloc2_new w _ _)) Tryz.underlying32 rfl (by kernel_rfl) ⟨rfl, ?_⟩
 exact ((((Below.refl _ _).alloc (Nat.le_refl _) _).alloc (by simp) _).alloc (by simp; omega) _)
theorem P5 (x2 x3 x4 x5 x6 : Int) (x7 : Bool) (x8 x9 : Int) (w : World) : Calls Tryz.prog 82 #[.agg #[.int .i64 4, .int .i64 x2, .int .i64 x3, .int .i64 x4, .int .i64 x5, .int .i64 x6, .bool x7, .int .i64 x8, .int .i64 x9]] w fun e w' => e = .returned (.agg #[.int .i64 4, .int .i64 x2, .int .i64 0, .int .i64 0, .int .i64 0, .int .i64 0, .bool false, .int .i64 0, .int .i64 0]) ∧ Below w.heap.size w w' := by
 go_enter Tryz.func82, Tryz.ntmps82
 go_wp2_with fail
 refine eH rfl rfl rfl (fF (heap_alloc2_new w _ _)) Tryz.underlying32 rfl (by kernel_rfl) ⟨rfl, ?_⟩
 exact ((((Below.refl _ _).alloc (Nat.le_refl _) _).alloc (by simp) _).alloc (by simp; omega) _)
theorem P6 (x2 x3 x4 x5 x6 : Int) (x7 : Bool) (x8 x9 : Int) (w : World) : Calls Tryz.prog 82 #[.agg #[.int .i64 5, .int .i64 x2, .int .i64 x3, .int .i64 x4, .int .i64 x5, .int .i64 x6, .bool x7, .int .i64 x8, .int .i64 x9]] w fun e w' => e = .returned (.agg #[.int .i64 5, .int .i64 x2, .int .i64 0, .int .i64 0, .int .i64 0, .int .i64 0, .bool false, .int .i64 0, .int .i64 0]) ∧ Below w.heap.size w w' := by
 go_enter Tryz.func82, Tryz.ntmps82
 go_wp2_with fail
 refine eH rfl rfl rfl (fF (heap_alloc2_new w _ _)) Tryz.underlying32 rfl (by kernel_rfl) ⟨rfl, ?_⟩
 exact ((((Below.refl _ _).alloc (Nat.le_refl _) _).alloc (by simp) _).alloc (by simp; omega) _)
theorem P7 (x2 x3 x4 x5 x6 : Int) (x7 : Bool) (x8 x9 : Int) (w : World) : Calls Tryz.prog 82 #[.agg #[.int .i64 6, .int .i64 x2, .int .i64 x3, .int .i64 x4, .int .i64 x5, .int .i64 x6, .bool x7, .int .i64 x8, .int .i64 x9]] w fun e w' => e = .returned (.agg #[.int .i64 6, .int .i64 x2, .int .i64 0, .int .i64 0, .int .i64 0, .int .i64 0, .bool false, .int .i64 0, .int .i64 0]) ∧ Below w.heap.size w w' := by
 go_enter Tryz.func82, Tryz.ntmps82
 go_wp2_with fail
 refine eH rfl rfl rfl (fF (heap_alloc2_new w _ _)) Tryz.underlying32 rfl (by kernel_rfl) ⟨rfl, ?_⟩
 exact ((((Below.refl _ _).alloc (Nat.le_refl _) _).alloc (by simp) _).alloc (by simp; omega) _)
theorem P8 (x2 x3 x4 x5 x6 : Int) (x7 : Bool) (x8 x9 : Int) (w : World) : Calls Tryz.prog 82 #[.agg #[.int .i64 7, .int .i64 x2, .int .i64 x3, .int .i64 x4, .int .i64 x5, .int .i64 x6, .bool x7, .int .i64 x8, .int .i64 x9]] w fun e w' => e = .returned (.agg #[.int .i64 7, .int .i64 0, .int .i64 0, .int .i64 0, .int .i64 0, .int .i64 0, .bool false, .int .i64 x8, .int .i64 0]) ∧ Below w.heap.size w w' := by
 go_enter Tryz.func82, Tryz.ntmps82
 go_wp2_with fail
 refine eH rfl rfl rfl (fF (heap_alloc2_new w _ _)) Tryz.underlying32 rfl (by kernel_rfl) ⟨rfl, ?_⟩
 exact ((((Below.refl _ _).alloc (Nat.le_refl _) _).alloc (by simp) _).alloc (by simp; omega) _)
theorem P9 (x2 x3 x4 x5 x6 : Int) (x7 : Bool) (x8 x9 : Int) (w : World) : Calls Tryz.prog 82 #[.agg #[.int .i64 8, .int .i64 x2, .int .i64 x3, .int .i64 x4, .int .i64 x5, .int .i64 x6, .bool x7, .int .i64 x8, .int .i64 x9]] w fun e w' => e = .returned (.agg #[.int .i64 8, .int .i64 0, .int .i64 0, .int .i64 0, .int .i64 0, .int .i64 0, .bool false, .int .i64 x8, .int .i64 0]) ∧ Below w.heap.size w w' := by
 go_enter Tryz.func82, Tryz.ntmps82
 go_wp2_with fail
 refine eH rfl rfl rfl (fF (heap_alloc2_new w _ _)) Tryz.underlying32 rfl (by kernel_rfl) ⟨rfl, ?_⟩
 exact ((((Below.refl _ _).alloc (Nat.le_refl _) _).alloc (by simp) _).alloc (by simp; omega) _)
theorem Qa (x2 x3 x4 x5 x6 : Int) (x7 : Bool) (x8 x9 : Int) (w : World) : Calls Tryz.prog 82 #[.agg #[.int .i64 9, .int .i64 x2, .int .i64 x3, .int .i64 x4, .int .i64 x5, .int .i64 x6, .bool x7, .int .i64 x8, .int .i64 x9]] w fun e w' => e = .returned (.agg #[.int .i64 9, .int .i64 0, .int .i64 0, .int .i64 0, .int .i64 0, .int .i64 0, .bool false, .int .i64 0, .int .i64 x9]) ∧ Below w.heap.size w w' := by
 go_enter Tryz.func82, Tryz.ntmps82
 go_wp2_with fail
 refine eH rfl rfl rfl (fF (heap_alloc2_new w _ _)) Tryz.underlying32 rfl (by kernel_rfl) ⟨rfl, ?_⟩
 exact ((((Below.refl _ _).alloc (Nat.le_refl _) _).alloc (by simp) _).alloc (by simp; omega) _)
theorem Ni (x1 : Int) (x2 x3 x4 x5 x6 : Int) (x7 : Bool) (x8 x9 : Int) (w : World) (h1 : x1 ≠ 1) (h2 : x1 ≠ 2) (h3 : x1 ≠ 3) (h4 : x1 ≠ 4) (h5 : x1 ≠ 5) (h6 : x1 ≠ 6) (h7 : x1 ≠ 7) (h8 : x1 ≠ 8) (h9 : x1 ≠ 9) : Calls Tryz.prog 82 #[.agg #[.int .i64 x1, .int .i64 x2, .int .i64 x3, .int .i64 x4, .int .i64 x5, .int .i64 x6, .bool x7, .int .i64 x8, .int .i64 x9]] w fun e w' => e = .returned (.agg #[.int .i64 x1, .int .i64 0, .int .i64 0, .int .i64 0, .int .i64 0, .int .i64 0, .bool false, .int .i64 0, .int .i64 0]) ∧ Below w.heap.size w w' := by
 have t1 : (x1 == 1) = false := beq_eq_false_iff_ne.2 h1
 have t2 : (x1 == 2) = false := beq_eq_false_iff_ne.2 h2
 have t3 : (x1 == 3) = false := beq_eq_false_iff_ne.2 h3
 have t4 : (x1 == 4) = false := beq_eq_false_iff_ne.2 h4
 have t5 : (x1 == 5) = false := beq_eq_false_iff_ne.2 h5
 have t6 : (x1 == 6) = false := beq_eq_false_iff_ne.2 h6
 have t7 : (x1 == 7) = false := beq_eq_false_iff_ne.2 h7
 have t8 : (x1 == 8) = false := beq_eq_false_iff_ne.2 h8
 have t9 : (x1 == 9) = false := beq_eq_false_iff_ne.2 h9
 clear h1 h2 h3 h4 h5 h6 h7 h8 h9
 go_enter Tryz.func82, Tryz.ntmps82
 go_wp2_with fail
 refine eH rfl rfl rfl (fF (heap_alloc2_new w _ _)) Tryz.underlying32 rfl (by kernel_rfl) ⟨rfl, ?_⟩
 exact ((((Below.refl _ _).alloc (Nat.le_refl _) _).alloc (by simp) _).alloc (by simp; omega) _)
theorem Nj (r : Rq) (w : World) : Calls Tryz.prog 82 #[.agg (encR r).toArray] w fun e w' => e = .returned (.agg (encR (lN r)).toArray) ∧ Below w.heap.size w w' := by
 obtain ⟨x1, x2, x3, x4, x5, x6, x7, x8, x9⟩ := r
 by_cases h1 : x1 = 1
 ·subst h1
  exact PX x2 x3 x4 x5 x6 x7 x8 x9 w
 by_cases h2 : x1 = 2
 ·subst h2
  exact PY x2 x3 x4 x5 x6 x7 x8 x9 w
 by_cases h3 : x1 = 3
 ·subst h3
  exact PZ x2 x3 x4 x5 x6 x7 x8 x9 w
 by_cases h4 : x1 = 4
 ·subst h4
  exact P5 x2 x3 x4 x5 x6 x7 x8 x9 w
 by_cases h5 : x1 = 5
 ·subst h5
  exact P6 x2 x3 x4 x5 x6 x7 x8 x9 w
 by_cases h6 : x1 = 6
 ·subst h6
  exact P7 x2 x3 x4 x5 x6 x7 x8 x9 w
 by_cases h7 : x1 = 7
 ·subst h7
  exact P8 x2 x3 x4 x5 x6 x7 x8 x9 w
 by_cases h8 : x1 = 8
 ·subst h8
  exact P9 x2 x3 x4 x5 x6 x7 x8 x9 w
 by_cases h9 : x1 = 9
 ·subst h9
  exact Qa x2 x3 x4 x5 x6 x7 x8 x9 w
 have e : lN ⟨x1, x2, x3, x4, x5, x6, x7, x8, x9⟩ = ⟨x1, 0, 0, 0, 0, 0, false, 0, 0⟩ := by simp [lN, h1, h2, h3, h4, h5, h6, h7, h8, h9]
 rw [e]
 exact Ni x1 x2 x3 x4 x5 x6 x7 x8 x9 w h1 h2 h3 h4 h5 h6 h7 h8 h9
end Go.Proofs.YtnihdgcfamoplaaGreat
