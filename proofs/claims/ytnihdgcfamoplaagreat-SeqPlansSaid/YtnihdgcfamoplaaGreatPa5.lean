/-
 Own words and walks, merged: part 5 of 9.
-/
import Derived.Test.YtnihdgcfamoplaaGreatChecked
import Derived.WalkKit
import Derived.WalkSpells
import Derived.WalkLawsBesides
import Derived.Deep.DeepMust
import Derived.Lib.Hide
import Derived.LaidEql
import Derived.Laws.StructEq
import Derived.Shelf.SlicesQ.Load
import Derived.BigRegion
import Derived.Laws.EntriesVeiled
import Derived.Test.YtnihdgcfamoplaaGreatRows
import Derived.Lib.MinMax
import Derived.Test.YtnihdgcfamoplaaGreatPa4
set_option maxRecDepth 1000000
set_option maxHeartbeats 8000000
set_option linter.all false
namespace Go.Proofs.YtnihdgcfamoplaaGreat
open Go.RowKit Go.Sort Go.Lib
structure Uc (L L' : List (Int × Int)) (now : Int) (f : Int → Int) (t : Int) (i : Nat) : Prop where
 sm : Sm L' now f
 here : (i < L'.length ∧ tA L' i = t) ∨ (i = L'.length ∧ t = 1152921504606846976)
 alt : ∀ X Y : Int → Prop, jq L X → (∀ s, X s → Y s) → Y t → jq L' Y
 len : L'.length ≤ L.length + 1
 pre : ∀ m, m < L.length → tA L m < t → m < L'.length ∧ tA L' m = tA L m
structure Sq (L L' : List (Int × Int)) (now : Int) (f : Int → Int) (i : Nat) : Prop where
 sm : Sm L' now f
 alt : ∀ X Y : Int → Prop, jq L X → (∀ s, X s → Y s ∨ (i < L.length ∧ s = tA L i)) → jq L' Y
 len : L'.length ≤ L.length
 pre : ∀ m, m < i → m < L.length → m < L'.length ∧ tA L' m = tA L m
section
variable {w : World} {p g : Nat} {L : List (Int × Int)} {aO now : Int} {f : Int → Int}
theorem jq.mono {X Y : Int → Prop} (h : jq L X) (hX : ∀ s, X s → Y s) : jq L Y := fun i hi hY => h i hi fun hx => hY (hX _ hx)
theorem Gj (t : Int) (hs : Sm L now f) (hn : now ≤ t) (ht : t ≤ 1152921504606846976) (hl : L.length ≤ 900) (h : PW w p g L aO) :
  Calls Tryz.prog 187 #[.pointer (some ⟨p, 0, none⟩), .int .i64 t] w fun e w' => ∃ (i g' : Nat) (L' : List (Int × Int)), e = .returned (.int .i64 i) ∧ PW w' p g' L' aO ∧ (g' = g ∨ w.heap.size ≤ g') ∧ Off p g w w' ∧ Uc L L' now f t i := by
 by_cases hF : t = 1152921504606846976
 ·subst hF
  refine (Et h).mono ?_
  rintro e w' ⟨rfl, rfl⟩
  exact ⟨L.length, g, L, rfl, h, .inl rfl, Off.refl _ _ _, ⟨hs, .inr ⟨rfl, rfl⟩, fun X Y hX Eu _ => hX.mono Eu, by omega, fun m hm _ => ⟨hm, rfl⟩⟩⟩
 ·obtain ⟨i, hi⟩ := hs.ix t
  by_cases he : tA L i = t
  ·refine (Jo t (by omega) hi he hs (by omega) h).mono ?_
   rintro e w' ⟨rfl, hb⟩
   exact ⟨i, g, L, rfl, h.kept hb, .inl rfl, Off.of_below hb, ⟨hs, .inl ⟨hi.lt, he⟩, fun X Y hX Eu _ => hX.mono Eu, by omega, fun m hm _ => ⟨hm, rfl⟩⟩⟩
  ·refine (OH t (by omega) hi he hs hl h).mono ?_
   rintro e w' ⟨rfl, g', h1, h2, h3⟩
   have hil := hi.lt
   have hll := mQ (L := L) (k := i + 1) (x := (t, tV L i)) (by omega)
   have hle := hi.u6 hs hn
   refine ⟨i + 1, g', jk L (i + 1) (t, tV L i), by rw [show ((i + 1 : Nat) : Int) = (i : Int) + 1 by omega], h1, h2, h3, ⟨hs.ins hi hn he (by omega), .inl ⟨by omega, ?_⟩, fun X Y hX Eu hY => jq.ins hX hil Eu hY, by omega, fun m hm hlt => ⟨by omega, ?_⟩⟩⟩
   ·rw [yV (by omega), if_neg (by omega), if_pos rfl]
   ·have FI : m ≤ i := by
     rcases Nat.lt_or_ge i m with h4 | h4
     ·have := hi.nx (by omega)
      have := hs.le (i := i + 1) (j := m) h4 hm
      omega
     ·exact h4
    rw [yV (by omega), if_pos (by omega)]
theorem CE (i : Nat) (hs : Sm L now f) (hl : L.length ≤ 1000) (hil : i ≤ L.length) (h : PW w p g L aO) :
  Calls Tryz.prog 188 #[.pointer (some ⟨p, 0, none⟩), .int .i64 i] w fun e w' => ∃ L' : List (Int × Int), e = .returned (.tuple #[]) ∧ PW w' p g L' aO ∧ Off p g w w' ∧ Sq L L' now f i := by
 by_cases hy : 0 < i ∧ i < L.length ∧ tV L i = tV L (i - 1)
 ·obtain ⟨h0, h1, h2⟩ := hy
  refine (Mf i h hl h0 h1 h2).mono ?_
  rintro e w' ⟨rfl, h3, h4⟩
  have hll := qd h1
  refine ⟨_, rfl, h3, h4, ⟨hs.del h0 h1 h2, fun X Y hX Eu => jq.del hX h0 h1 h2 (fun s hx => ?_) (fun m hm uy => ?_) (fun m hm => ?_), by omega, fun m hm uy => ⟨by omega, ?_⟩⟩⟩
  ·rcases Eu s hx with h5 | ⟨_, h5⟩
   ·exact .inl h5
   ·exact .inr h5
  ·have := hs.lt hm uy; omega
  ·have := hs.lt hm h1; omega
  ·rw [Du h1, if_pos hm]
 ·refine (OG i h hl hil hy).mono ?_
  rintro e w' ⟨rfl, hb⟩
  refine ⟨L, rfl, h.kept hb, Off.of_below hb, ⟨hs, fun X Y hX Eu m hm hY => ?_, Nat.le_refl _, fun m _ uy => ⟨uy, rfl⟩⟩⟩
  by_cases hx : X (tA L (m + 1))
  ·rcases Eu _ hx with h5 | ⟨h5, h6⟩
   ·exact absurd h5 hY
   ·have e1 : m + 1 = i := by
     rcases Nat.lt_trichotomy (m + 1) i with h7 | h7 | h7
     ·have := hs.lt h7 h5; omega
     ·exact h7
     ·have := hs.lt h7 hm; omega
    intro e2
    refine hy ⟨by omega, h5, ?_⟩
    rw [← e1, Nat.add_sub_cancel]
    exact e2.symm
  ·exact hX m hm hx
theorem QO {i : Nat} (v : Int) (h : PW w p g L aO) (hi : i < L.length) : PW (w.setCell ⟨g, i * 2 + 1, none⟩ (.int .i64 v)) p g (L.set i (tA L i, v)) aO := by
 obtain ⟨cap, F⟩ := h.facts
 refine ⟨cap, ?_, ?_⟩
 ·rw [List.length_set, Below.heap_setCell w ⟨g, i * 2 + 1, none⟩ _ p F.pg]
  exact F.obj
 ·have h1 := (F.own.stored (i * 2 + 1) (.int .i64 v)).1
  rw [Gb, List.length_set]
  have e : (aY L).set (i * 2) (.int .i64 (tA L i)) = aY L := by
   have hg := (Aj (Ak hi)).1
   obtain ⟨hlt, hv⟩ := List.getElem?_eq_some_iff.1 hg
   rw [← hv]
   exact List.set_getElem_self hlt
  show World.ownsRow _ 0 _ 2 _ _ (((aY L).set (i * 2) (.int .i64 (tA L i))).set (i * 2 + 1) (.int .i64 v))
  rw [e]
  exact h1
theorem QP {i : Nat} {v : Int} (hi : i < L.length) (m : Nat) : tA (L.set i (tA L i, v)) m = tA L m := by
 unfold tA
 rw [List.getD_eq_getElem?_getD, List.getD_eq_getElem?_getD, List.getElem?_set]
 split
 ·rename_i e; subst e; simp [hi]
 ·rfl
theorem KI {i : Nat} {a v : Int} (hi : i < L.length) (m : Nat) : tV (L.set i (a, v)) m = if m = i then v else tV L m := by
 unfold tV
 rw [List.getD_eq_getElem?_getD, List.getD_eq_getElem?_getD, List.getElem?_set]
 by_cases e : i = m
 ·subst e; simp [hi]
 ·rw [if_neg e, if_neg (by omega)]
theorem Jp (a b n : Int) (hC : Can L now f) (ha : now ≤ a) (hab : a < b) (hb : b ≤ 1152921504606846976) (hf : ∀ t, now ≤ t → -1000 ≤ f t ∧ f t ≤ 1000) (hn : -1000 ≤ n ∧ n ≤ 1000) (hl : L.length ≤ 800) (h : PW w p g L aO) :
  Calls Tryz.prog 177 #[.pointer (some ⟨p, 0, none⟩), .int .i64 a, .int .i64 b, .int .i64 n] w fun e w' => e = .returned (.tuple #[]) ∧ ∃ (g' : Nat) (L' : List (Int × Int)), PW w' p g' L' aO ∧ (g' = g ∨ w.heap.size ≤ g') ∧ Off p g w w' ∧ Can L' now (fun t => f t + had a b n t) ∧ L'.length ≤ L.length + 2 := by
 have nM := iZ
 have hcut := Gj a hC.sm ha (by omega) (by omega) h
 go_enter Tryz.func177, Tryz.ntmps177
 go_wp2_with fail
 go_at_call 187
 refine hcut.mono ?_
 clear hcut
 rintro e w1 ⟨i, g1, L1, rfl, h1, hg1, ho1, xe⟩
 have hl1 := xe.len
 have hcut := Gj b xe.sm (by omega) hb (by omega) h1
 go_wp2_with fail
 go_at_call 187
 refine hcut.mono ?_
 clear hcut
 rintro e w2 ⟨j, g2, L2, rfl, h2, hg2, ho2, hC2⟩
 have hl2 := hC2.len
 have hi1 : i < L1.length ∧ tA L1 i = a := by
  rcases xe.here with h3 | ⟨h3, h4⟩
  ·exact h3
  ·omega
 obtain ⟨hi2, hia⟩ := hC2.pre i hi1.1 (by omega)
 rw [hi1.2] at hia
 have hij : i ≤ j := by
  rcases hC2.here with ⟨h3, h4⟩ | ⟨h3, _⟩
  ·exact Nat.le_of_lt (hC2.sm.Nz hi2 h3 (by omega))
  ·omega
 have hjl : j ≤ L2.length := by
  rcases hC2.here with ⟨h3, _⟩ | ⟨h3, _⟩ <;> omega
 have Jq : jq L2 (fun s => s = a ∨ s = b) := hC2.alt (fun s => s = a) _ (xe.alt _ _ hC.alt (fun s hs => hs.elim) rfl) (fun s hs => .inl hs) (.inr rfl)
 have hgw : g2 = g ∨ w.heap.size ≤ g2 := by have := ho1.size; omega
 have pz : Off p g w w2 := ho1.trans ho2 hg1
 have hv2 : ∀ m, m < L2.length → -1000 ≤ tV L2 m ∧ tV L2 m ≤ 1000 := fun m hm => by
  rw [← hC2.sm.rep m (tA L2 m) hm (Int.le_refl _) (fun hx => hC2.sm.inc m hx)]
  exact hf _ (hC2.sm.yU hm)
 have Ud := Lib.hid hl1
 have Ue := Lib.hid hl2
 replace hi1 := Lib.hid hi1
 replace hia := Lib.hid hia
 replace Jq := Lib.hid Jq
 replace hgw := Lib.hid hgw
 replace pz := Lib.hid pz
 replace hf := Lib.hid hf
 replace hv2 := Lib.hid hv2
 clear h h1 ho1 ho2 hg1 hg2
 have hL2 : L2.length ≤ 900 := by omega
 clear hl1 hl2
 go_wp2_with fail
 go_loopw [10] (fun kk wr => ∃ (q : Nat) (Lk : List (Int × Int)), i ≤ q ∧ q ≤ j ∧ kk = .int .i64 q ∧ PW wr p g2 Lk aO ∧ yX L2 Lk i q n ∧ Off p g2 w2 wr) (fun kk _ => j - (intOf kk).toNat)
 case atStart => exact ⟨i, L2, Nat.le_refl _, hij, rfl, h2, ⟨rfl, fun _ => rfl, fun m _ => by rw [if_neg (by omega)]; omega⟩, Off.refl _ _ _⟩
 case round =>
  obtain ⟨q, Lk, WH, hqj, rfl, QQ, hR, hoff⟩ := hrel
  by_cases hlt : q < j
  ·have Mg : q < Lk.length := by rw [hR.len]; omega
   obtain ⟨cap, F⟩ := QQ.facts
   have c0 := F.c0
   have s1 := (step_cells F.own Mg).2
   have fz := F.own.frozenAt (q * 2 + 1)
   have hv : tV Lk q = tV L2 q := by rw [hR.v q (by omega), if_neg (by omega)]; omega
   rw [hv] at s1
   have hvb := hv2.out q (by omega)
   obtain ⟨x, hx⟩ : ∃ x, x = tV L2 q := ⟨_, rfl⟩
   rw [← hx] at s1 hvb
   have hw1 : IntKind.i64.wrap (x + n) = x + n := IntWalk.i64_in _ (by omega)
   have hw2 : IntKind.i64.wrap ((q : Int) + 1) = (q : Int) + 1 := IntWalk.i64_in _ (by omega)
   have b1 : (0 : Int) ≤ q := by omega
   have b2 : (q : Int) < (Lk.length : Int) := by omega
   have b3 : (q : Int) < (j : Int) := by omega
   have hnew := QO (x + n) QQ Mg
   have Jr : Off p g2 w2 (wr.setCell ⟨g2, q * 2 + 1, none⟩ (.int .i64 (x + n))) := hoff.setCell (.inr (.inl rfl))
   have Su : yX L2 (Lk.set q (tA Lk q, x + n)) i (q + 1) n := by
    refine ⟨by rw [List.length_set]; exact hR.len, fun m => by rw [QP Mg]; exact hR.a m, fun m hm => ?_⟩
    rw [KI Mg]
    by_cases e : m = q
    ·subst e; rw [if_pos rfl, if_pos (by omega), ← hx]
    ·rw [if_neg e, hR.v m hm]
     by_cases hc : i ≤ m ∧ m < q
     ·rw [if_pos hc, if_pos (by omega)]
     ·rw [if_neg hc, if_neg (by omega)]
   replace hnew := Lib.hid hnew
   replace Jr := Lib.hid Jr
   replace Su := Lib.hid Su
   replace hx := Lib.hid hx
   replace hv := Lib.hid hv
   clear F QQ hR hoff
   go_wp2_with fail
   go_roundw
   case rel => exact ⟨q + 1, _, by omega, by omega, by go_num, hnew.out, Su.out, Jr.out⟩
   case measure => simp [intOf]; omega
  ·obtain rfl : q = j := by omega
   have hs3 : Sm Lk now (fun t => f t + had a b n t) := hC2.sm.raise hR hi2 hia.out hC2.here
   have Js : jq Lk (fun s => s = a ∨ s = b) := Jq.out.raise hR hia.out hC2.here (fun s hs => hs) (.inl rfl) (.inr rfl)
   have hll := hR.len
   have hj1 := CE q hs3 (by omega) (by omega) QQ
   have hlt' : ¬ ((q : Int) < (q : Int)) := by omega
   have Uf := Lib.hid hR.a
   clear hR
   replace hs3 := Lib.hid hs3
   replace Js := Lib.hid Js
   replace hll := Lib.hid hll
   go_wp2_with fail
   go_at_call 188
   refine hj1.mono ?_
   clear hj1
   rintro e w4 ⟨L4, rfl, h4, rY, QR⟩
   have hb4 : (q < Lk.length ∧ b = tA Lk q) ∨ b = 1152921504606846976 := by
    rcases hC2.here with ⟨h5, h6⟩ | ⟨_, h6⟩
    ·exact .inl ⟨by rw [hll.out]; exact h5, by rw [Uf.out]; exact h6.symm⟩
    ·exact .inr h6
   have Jt : jq L4 (fun s => s = a ∨ s = 1152921504606846976) := QR.alt _ _ Js.out fun s hs => by
    rcases hs with rfl | rfl
    ·exact .inl (.inl rfl)
    ·rcases hb4 with ⟨h5, h6⟩ | h6
     ·exact .inr ⟨h5, h6⟩
     ·exact .inl (.inr h6)
   have Ug : i < q := by
    rcases hC2.here with ⟨h5, h6⟩ | ⟨h5, h6⟩
    ·exact hC2.sm.Nz hi2 h5 (by have := hia.out; omega)
    ·omega
   obtain ⟨hi4, KJ⟩ := QR.pre i Ug (by rw [hll.out]; exact hi2)
   rw [Uf.out, hia.out] at KJ
   have hl4 := QR.len
   have hj2 := CE i QR.sm (by have := hll.out; omega) (Nat.le_of_lt hi4) h4
   replace KJ := Lib.hid KJ
   replace Jt := Lib.hid Jt
   replace hb4 := Lib.hid hb4
   go_wp2_with fail
   go_at_call 188
   refine hj2.mono ?_
   clear hj2
   rintro e w5 ⟨L5, rfl, h5, Au, yM⟩
   have OJ : jq L5 (fun s => s = 1152921504606846976) := yM.alt _ _ Jt.out fun s hs => by
    rcases hs with rfl | rfl
    ·exact .inr ⟨hi4, KJ.out.symm⟩
    ·exact .inl rfl
   have KL : Hid (Can L5 now (fun t => f t + had a b n t)) := ⟨yM.sm, fun m hm _ => OJ m hm fun e => by have := yM.sm.top (m + 1) hm; omega⟩
   have hl5 : Hid (L5.length ≤ L.length + 2) := by
    show _ ≤ _
    have := yM.len
    have := hll.out
    have := Ud.out
    have := Ue.out
    omega
   have pq : Hid (Off p g w w5) := (pz.out.trans (((hoff.trans rY (.inl rfl)).trans Au (.inl rfl))) hgw.out)
   clear OJ yM Au rY h4
   replace h5 := Lib.hid h5
   go_wp2_with fail
   go_end0
   exact ⟨rfl, g2, L5, h5.out, hgw.out, pq.out, KL.out, hl5.out⟩
end
end Go.Proofs.YtnihdgcfamoplaaGreat

namespace Go.Proofs.YtnihdgcfamoplaaGreat
open Go.RowKit Go.Sort Go.Lib
section
variable {L : List (Int × Int)} {now : Int} {f : Int → Int}
theorem iB.mono (hs : Sm L now f) {s t : Int} {i j : Nat} (hi : iB L s i) (hj : iB L t j) (hst : s ≤ t) : i ≤ j := by
 rcases Nat.lt_or_ge j i with h1 | h1
 ·have h2 := hj.nx (by have := hi.lt; omega)
  have h3 := hi.le (by omega)
  have h4 := hs.le (i := j + 1) (j := i) h1 hi.lt
  omega
 ·exact h1
theorem CF (hs : Sm L now f) {lo hi : Int} {i j : Nat} (h1 : iB L lo i) (h2 : iB L (hi - 1) j) (hn : now ≤ lo) (hlt : lo < hi) :
  i ≤ j ∧ (∀ t, lo ≤ t → t < hi → ∃ q, i ≤ q ∧ q ≤ j ∧ f t = tV L q) ∧ ∀ q, i ≤ q → q ≤ j → ∃ t, lo ≤ t ∧ t < hi ∧ f t = tV L q := by
 have hij := h1.mono hs h2 (by omega)
 refine ⟨hij, fun t h3 h4 => ?_, fun q h3 h4 => ?_⟩
 ·obtain ⟨q, hq⟩ := hs.ix t
  exact ⟨q, h1.mono hs hq h3, hq.mono hs h2 (by omega), hq.val hs (by omega)⟩
 ·have hjl := h2.lt
  have Mg : q < L.length := by omega
  have hjle := h2.u6 hs (by omega)
  have hqj := hs.le h4 hjl
  have hnx : q + 1 < L.length → lo < tA L (q + 1) := fun hx => by
   have h5 := h1.nx (by omega)
   have h6 := hs.le (i := i + 1) (j := q + 1) (by omega) hx
   omega
  refine ⟨max (tA L q) lo, by omega, by omega, hs.rep q _ Mg (by omega) fun hx => ?_⟩
  have := hnx hx
  have := hs.inc q hx
  omega
end
section
variable {w : World} {p g : Nat} {L : List (Int × Int)} {aO now : Int} {f : Int → Int}
theorem BB (a b : Int) (T9 : -9223372036854775808 ≤ b ∧ b ≤ 9223372036854775807) (hs : Sm L now f) (hn : 0 ≤ now) (hl : L.length ≤ 1000) (h : PW w p g L aO) :
  Calls Tryz.prog 111 #[.pointer (some ⟨p, 0, none⟩), .int .i64 a, .int .i64 b] w fun e w' => ∃ m : Int, e = .returned (.int .i64 m) ∧ BL f (max a now) b m ∧ Below w.heap.size w w' := by
 have hno := fJ h hs.pos
 by_cases hab : b ≤ max a now
 ·have hp := Ap a b h hs.pos (by rw [hs.hd]; exact hab)
  have hB : Hid (BL f (max a now) b 64) := ⟨Int.le_refl _, fun t h1 h2 => by omega, .inl rfl⟩
  go_enter Tryz.func111, Tryz.ntmps111
  go_wp2_with (first | (go_at_call 58; go_must (refine hno.mono ?_); rintro e w' ⟨rfl, rfl⟩) | (go_at_call 130; go_must (refine hp.mono ?_); rintro e w' ⟨rfl, rfl⟩))
  go_loopw [7, 17] (fun u i wr => u = .int .i64 64 ∧ i = .int .i64 0 ∧ wr = w) (fun _ _ _ => 0)
  case atStart => exact ⟨rfl, rfl, rfl⟩
  case round =>
   obtain ⟨rfl, rfl, rfl⟩ := hrel
   go_wp2_with fail
   go_ret
   exact ⟨64, rfl, hB.out, Below.refl _ _⟩
 ·obtain ⟨m0, hm0⟩ : ∃ m0, m0 = max a now := ⟨_, rfl⟩
  obtain ⟨i, hi⟩ := hs.ix m0
  obtain ⟨j, hj⟩ := hs.ix (b - 1)
  obtain ⟨hij, hall, hone⟩ := CF hs hi hj (by omega) (by omega)
  rw [← hm0] at hab ⊢
  obtain ⟨cap, F⟩ := h.facts
  have hp := Aq a b m0 (by rw [hs.hd]; exact hm0.symm) (by omega) (by omega) hi hj hij hs hl h F
  have hjl := hj.lt
  obtain ⟨c, hc⟩ : ∃ c, c = j + 1 - i := ⟨_, rfl⟩
  obtain ⟨cc, hcc⟩ : ∃ cc, cc = cap - i := ⟨_, rfl⟩
  rw [← hc, ← hcc] at hp
  have qW := F.own
  clear F
  replace hi := Lib.hid hi
  replace hj := Lib.hid hj
  replace hall := Lib.hid hall
  replace hone := Lib.hid hone
  replace hc := Lib.hid hc
  replace hcc := Lib.hid hcc
  replace hm0 := Lib.hid hm0
  go_enter Tryz.func111, Tryz.ntmps111
  go_wp2_with (go_at_call 58; go_must (refine hno.mono ?_); rintro e w' ⟨rfl, rfl⟩)
  go_at_call 130
  refine hp.mono ?_
  clear hp hno
  rintro e w1 ⟨rfl, hb1⟩
  go_wp2_with fail
  go_loopw [7, 17] (fun u k wr => ∃ (q : Nat) (m : Int), q ≤ c ∧ k = .int .i64 q ∧ u = .int .i64 m ∧ m ≤ 64 ∧ (∀ r, r < q → m ≤ tV L (i + r)) ∧ (m = 64 ∨ ∃ r, r < q ∧ m = tV L (i + r)) ∧ Below w.heap.size w wr) (fun _ k _ => c - (intOf k).toNat)
  case atStart => exact ⟨0, 64, Nat.zero_le _, rfl, rfl, Int.le_refl _, fun r hr => by omega, .inl rfl, hb1⟩
  case round =>
   obtain ⟨q, m, hq, rfl, rfl, Uh, hlo, hex, hbr⟩ := hrel
   by_cases hlt : q < c
   ·have hcv := hc.out
    have hown := dF qW hbr
    obtain ⟨s0, s1⟩ := step_cells hown (show i + q < L.length by omega)
    rw [Nat.add_mul] at s0 s1
    obtain ⟨x, hx⟩ : ∃ x, x = tV L (i + q) := ⟨_, rfl⟩
    obtain ⟨y, hy⟩ : ∃ y, y = tA L (i + q) := ⟨_, rfl⟩
    rw [← hx] at s1
    rw [← hy] at s0
    have hsz := hbr.size
    have hw2 : IntKind.i64.wrap ((q : Int) + 1) = (q : Int) + 1 := IntWalk.i64_in _ (by omega)
    have b1 : (0 : Int) ≤ q := by omega
    have b2 : (q : Int) < (c : Int) := by omega
    have hbd : Below w.heap.size w (wr.alloc (.cells #[.int .i64 y, .int .i64 x] 102)) := hbr.alloc hsz _
    have hlo2 : Hid (∀ r, r < q + 1 → min m x ≤ tV L (i + r)) := fun r hr => by
     rcases Nat.lt_or_ge r q with h5 | h5
     ·have := hlo r h5; omega
     ·have : r = q := by omega
      subst this; rw [← hx]; omega
    have Ui : Hid (min m x = 64 ∨ ∃ r, r < q + 1 ∧ min m x = tV L (i + r)) := by
     show _ ∨ _
     rcases Int.lt_or_le x m with h5 | h5
     ·exact .inr ⟨q, by omega, by rw [← hx]; omega⟩
     ·have e : min m x = m := by omega
      rw [e]
      rcases hex with h6 | ⟨r, h6, h7⟩
      ·exact .inl h6
      ·exact .inr ⟨r, by omega, h7⟩
    replace hx := Lib.hid hx
    replace hy := Lib.hid hy
    clear hlo hex hcv hown
    go_wp2_with fail
    go_roundw
    case rel => exact ⟨q + 1, min m x, by omega, by go_num, rfl, by omega, hlo2.out, Ui.out, hbd⟩
    case measure => simp [intOf]; omega
   ·obtain rfl : q = c := by omega
    have hB : Hid (BL f m0 b m) := by
     refine ⟨Uh, fun t h1 h2 => ?_, ?_⟩
     ·obtain ⟨r, h3, h4, h5⟩ := hall.out t h1 h2
      have := hlo (r - i) (by have := hc.out; omega)
      rw [show i + (r - i) = r by omega] at this
      omega
     ·rcases hex with h6 | ⟨r, h6, h7⟩
      ·exact .inl h6
      ·obtain ⟨t, h3, h4, h5⟩ := hone.out (i + r) (by omega) (by have := hc.out; omega)
       exact .inr ⟨t, h3, h4, by omega⟩
    clear hlo hex
    go_wp2_with fail
    go_ret
    exact ⟨m, rfl, hB.out, hbr⟩
end
def OL (f : Int → Int) (now a b n e : Int) (f' : Int → Int) (dv : Int) : Prop :=
 ((b ≤ a ∨ 1152921504606846976 < b ∨ n < -64 ∨ 64 < n) ∧ e = 1 ∧ f' = f ∧ dv = 0) ∨
 (¬ (b ≤ a ∨ 1152921504606846976 < b ∨ n < -64 ∨ 64 < n) ∧ (b ≤ max a now ∨ n = 0) ∧ e = 0 ∧ f' = f ∧ dv = 0) ∨
 (¬ (b ≤ a ∨ 1152921504606846976 < b ∨ n < -64 ∨ 64 < n) ∧ ¬ (b ≤ max a now ∨ n = 0) ∧ (∃ t, max a now ≤ t ∧ t < b ∧ (f t + n < 0 ∨ 64 < f t + n)) ∧ e = 5 ∧ f' = f ∧ dv = 0) ∨
 (¬ (b ≤ a ∨ 1152921504606846976 < b ∨ n < -64 ∨ 64 < n) ∧ ¬ (b ≤ max a now ∨ n = 0) ∧ (∀ t, max a now ≤ t → t < b → 0 ≤ f t + n ∧ f t + n ≤ 64) ∧ e = 0 ∧ f' = (fun t => f t + had (max a now) b n t) ∧ dv = 1)
end Go.Proofs.YtnihdgcfamoplaaGreat

namespace Go.Proofs.YtnihdgcfamoplaaGreat
open Go.RowKit Go.Sort Go.Lib
section
variable {w : World} {p g : Nat} {L : List (Int × Int)} {aO now : Int} {f : Int → Int}
theorem KM (v : Int) (h : PW w p g L aO) : PW (w.setCell ⟨p, 1, none⟩ (.int .i64 v)) p g L v := by
 obtain ⟨cap, F⟩ := h.facts
 have hlt := F.pl
 have h1' : w.heap[p] = _ := (Array.getElem?_eq_some_iff.1 F.obj).2
 refine ⟨cap, by simp [World.setCell, hlt, Array.getElem_modify, h1'], ze F.own (fun k hk => by cases hk; exact fun e => F.pg e.symm) 1 _⟩
def bX (w : World) (p g : Nat) (L : List (Int × Int)) (aO now : Int) (f : Int → Int) (a b n : Int) (e : Ending) (w' : World) : Prop :=
 ∃ (r dv : Int) (f' : Int → Int) (g' : Nat) (L' : List (Int × Int)), e = .returned (.int .i64 r) ∧ OL f now a b n r f' dv ∧ PW w' p g' L' (aO + dv) ∧ Can L' now f' ∧ (g' = g ∨ w.heap.size ≤ g') ∧ Off p g w w' ∧ L'.length ≤ L.length + 2
theorem bX.same {a b n r : Int} {w' : World} (h : PW w p g L aO) (hC : Can L now f) (hR : OL f now a b n r f 0) (hb : Below w.heap.size w w') : bX w p g L aO now f a b n (.returned (.int .i64 r)) w' :=
 ⟨r, 0, f, g, L, rfl, hR, by rw [Int.add_zero]; exact h.kept hb, hC, .inl rfl, Off.of_below hb, by omega⟩
theorem OM (a b n : Int) (hC : Can L now f) (h : PW w p g L aO) (hbad : b ≤ a ∨ 1152921504606846976 < b ∨ n < -64 ∨ 64 < n) :
  Calls Tryz.prog 152 #[.pointer (some ⟨p, 0, none⟩), .int .i64 a, .int .i64 b, .int .i64 n] w (bX w p g L aO now f a b n) := by
 have hno := fJ h hC.sm.pos
 have hfin : Hid (bX w p g L aO now f a b n (.returned (.int .i64 1)) w) := bX.same h hC (.inl ⟨hbad, rfl, rfl, rfl⟩) (Below.refl _ _)
 by_cases h1 : b ≤ a
 ·go_enter Tryz.func152, Tryz.ntmps152
  go_wp2_with (go_at_call 58; go_must (refine hno.mono ?_); rintro e w' ⟨rfl, rfl⟩)
  go_ret
  exact hfin.out
 ·by_cases h2 : 1152921504606846976 < b
  ·go_enter Tryz.func152, Tryz.ntmps152
   go_wp2_with (go_at_call 58; go_must (refine hno.mono ?_); rintro e w' ⟨rfl, rfl⟩)
   go_ret
   exact hfin.out
  ·by_cases h3 : n < -64
   ·go_enter Tryz.func152, Tryz.ntmps152
    go_wp2_with (go_at_call 58; go_must (refine hno.mono ?_); rintro e w' ⟨rfl, rfl⟩)
    go_ret
    exact hfin.out
   ·have h4 : 64 < n := by omega
    go_enter Tryz.func152, Tryz.ntmps152
    go_wp2_with (go_at_call 58; go_must (refine hno.mono ?_); rintro e w' ⟨rfl, rfl⟩)
    go_ret
    exact hfin.out
theorem Mh (a b n : Int) (hC : Can L now f) (h : PW w p g L aO) (hok : ¬ (b ≤ a ∨ 1152921504606846976 < b ∨ n < -64 ∨ 64 < n)) (hz : b ≤ max a now) :
  Calls Tryz.prog 152 #[.pointer (some ⟨p, 0, none⟩), .int .i64 a, .int .i64 b, .int .i64 n] w (bX w p g L aO now f a b n) := by
 have hno := fJ h hC.sm.pos
 have hp := Ap a b h hC.sm.pos (by rw [hC.sm.hd]; exact hz)
 have hfin : Hid (bX w p g L aO now f a b n (.returned (.int .i64 0)) w) := bX.same h hC (.inr (.inl ⟨hok, .inl hz, rfl, rfl, rfl⟩)) (Below.refl _ _)
 have h1 : ¬ (b ≤ a) := by omega
 have h2 : ¬ (1152921504606846976 < b) := by omega
 have h3 : ¬ (n < -64) := by omega
 have h4 : ¬ (64 < n) := by omega
 clear hok hz
 go_enter Tryz.func152, Tryz.ntmps152
 go_wp2_with (first | (go_at_call 58; go_must (refine hno.mono ?_); rintro e w' ⟨rfl, rfl⟩) | (go_at_call 130; go_must (refine hp.mono ?_); rintro e w' ⟨rfl, rfl⟩))
 go_ret
 exact hfin.out
theorem Mi (a b n : Int) (hC : Can L now f) (hn0 : 0 ≤ now) (hf : ∀ t, now ≤ t → 0 ≤ f t ∧ f t ≤ 64) (vN : 0 ≤ aO ∧ aO ≤ 1000000) (hl : L.length ≤ 800) (h : PW w p g L aO) (hok : ¬ (b ≤ a ∨ 1152921504606846976 < b ∨ n < -64 ∨ 64 < n)) (hz : ¬ b ≤ max a now) :
  Calls Tryz.prog 152 #[.pointer (some ⟨p, 0, none⟩), .int .i64 a, .int .i64 b, .int .i64 n] w (bX w p g L aO now f a b n) := by
 have hno := fJ h hC.sm.pos
 obtain ⟨m0, hm0⟩ : ∃ m0, m0 = max a now := ⟨_, rfl⟩
 obtain ⟨i, hi⟩ := hC.sm.ix m0
 obtain ⟨j, hj⟩ := hC.sm.ix (b - 1)
 obtain ⟨hij, hall, hone⟩ := CF hC.sm hi hj (by omega) (by omega)
 obtain ⟨cap, F⟩ := h.facts
 have hp := Aq a b m0 (by rw [hC.sm.hd]; exact hm0.symm) (by omega) (by omega) hi hj hij hC.sm (by omega) h F
 have hjl := hj.lt
 obtain ⟨c, hc⟩ : ∃ c, c = j + 1 - i := ⟨_, rfl⟩
 obtain ⟨cc, hcc⟩ : ∃ cc, cc = cap - i := ⟨_, rfl⟩
 rw [← hc, ← hcc] at hp
 have qW := F.own
 clear F
 have h1 : ¬ (b ≤ a) := by omega
 have h2 : ¬ (1152921504606846976 < b) := by omega
 have h3 : ¬ (n < -64) := by omega
 have h4 : ¬ (64 < n) := by omega
 have hc0 : ((c : Int) == 0) = false := beq_eq_false_iff_ne.2 (by omega)
 have hc0' : ¬ ((c : Int) = 0) := by omega
 have Sv : Hid (now ≤ m0 ∧ m0 < b) := by show _ ∧ _; omega
 replace hi := Lib.hid hi
 replace hj := Lib.hid hj
 replace hall := Lib.hid hall
 replace hone := Lib.hid hone
 replace hc := Lib.hid hc
 replace hcc := Lib.hid hcc
 replace hf := Lib.hid hf
 by_cases hn : n = 0
 ·have hfin : Hid (∀ w1, Below w.heap.size w w1 → bX w p g L aO now f a b n (.returned (.int .i64 0)) w1) := fun w1 hb => bX.same h hC (.inr (.inl ⟨hok, .inr hn, rfl, rfl, rfl⟩)) hb
  clear hok hz
  subst hn
  replace hm0 := Lib.hid hm0
  go_enter Tryz.func152, Tryz.ntmps152
  go_wp2_with (first | (go_at_call 58; go_must (refine hno.mono ?_); rintro e w' ⟨rfl, rfl⟩) | (go_at_call 130; go_must (refine hp.mono ?_); rintro e w1 ⟨rfl, hb1⟩))
  go_ret
  exact hfin.out _ hb1
 ·have hn' : (n == 0) = false := beq_eq_false_iff_ne.2 hn
  have hz' : ¬ (b ≤ max a now ∨ n = 0) := by omega
  have hbad : Hid (∀ w1 t, Below w.heap.size w w1 → m0 ≤ t → t < b → (f t + n < 0 ∨ 64 < f t + n) → bX w p g L aO now f a b n (.returned (.int .i64 5)) w1) := fun w1 t hb h5 h6 h7 => bX.same h hC (.inr (.inr (.inl ⟨hok, hz', ⟨t, by omega, h6, h7⟩, rfl, rfl, rfl⟩))) hb
  have hgood : Hid ((∀ t, m0 ≤ t → t < b → 0 ≤ f t + n ∧ f t + n ≤ 64) → OL f now a b n 0 (fun t => f t + had m0 b n t) 1) := fun hx => .inr (.inr (.inr ⟨hok, hz', fun t h5 h6 => hx t (by omega) h6, rfl, by rw [hm0], rfl⟩))
  have Vo : max a (tA L 0) = m0 := by rw [hC.sm.hd]; exact hm0.symm
  clear hok hz hz'
  replace hm0 := Lib.hid hm0
  go_enter Tryz.func152, Tryz.ntmps152
  go_wp2_with (go_at_call 58; go_must (refine hno.mono ?_); rintro e w' ⟨rfl, rfl⟩)
  go_at_call 130
  refine hp.mono ?_
  clear hp hno
  rintro e w1 ⟨rfl, hb1⟩
  go_wp2_with fail
  go_loopw [43] (fun k wr => ∃ (q : Nat), q ≤ c ∧ k = .int .i64 q ∧ (∀ r, r < q → 0 ≤ tV L (i + r) + n ∧ tV L (i + r) + n ≤ 64) ∧ Below w.heap.size w wr) (fun k _ => c - (intOf k).toNat)
  case atStart => exact ⟨0, Nat.zero_le _, rfl, fun r hr => by omega, hb1⟩
  case round =>
   obtain ⟨q, hq, rfl, hlo, hbr⟩ := hrel
   by_cases hlt : q < c
   ·have hcv := hc.out
    have hown := dF qW hbr
    obtain ⟨s0, s1⟩ := step_cells hown (show i + q < L.length by omega)
    rw [Nat.add_mul] at s0 s1
    have Uj := hone.out (i + q) (by omega) (by omega)
    obtain ⟨x, hx⟩ : ∃ x, x = tV L (i + q) := ⟨_, rfl⟩
    obtain ⟨y, hy⟩ : ∃ y, y = tA L (i + q) := ⟨_, rfl⟩
    rw [← hx] at s1 Uj
    rw [← hy] at s0
    obtain ⟨t, ht1, ht2, ht3⟩ := Uj
    have pW := hf.out t (by have := Sv.out; omega)
    rw [ht3] at pW
    have hsz := hbr.size
    have hw1 : IntKind.i64.wrap (x + n) = x + n := IntWalk.i64_in _ (by omega)
    have hw2 : IntKind.i64.wrap ((q : Int) + 1) = (q : Int) + 1 := IntWalk.i64_in _ (by omega)
    have b1 : (0 : Int) ≤ q := by omega
    have b2 : (q : Int) < (c : Int) := by omega
    have hbd : Below w.heap.size w (wr.alloc (.cells #[.int .i64 y, .int .i64 x] 102)) := hbr.alloc hsz _
    have Av : Hid (x + n < 0 ∨ 64 < x + n → ∀ w1, Below w.heap.size w w1 → bX w p g L aO now f a b n (.returned (.int .i64 5)) w1) := fun h5 w1 h6 => hbad.out w1 t h6 ht1 ht2 (by rw [ht3]; exact h5)
    clear hbad
    by_cases h5 : x + n < 0
    ·have hh := Av.out (.inl h5) _ hbd
     replace hh := Lib.hid hh
     replace hx := Lib.hid hx
     replace hy := Lib.hid hy
     replace ht3 := Lib.hid ht3
     clear hlo hcv hown Av
     go_wp2_with fail
     go_ret
     exact hh.out
    ·by_cases h6 : 64 < x + n
     ·have hh := Av.out (.inr h6) _ hbd
      replace hh := Lib.hid hh
      replace hx := Lib.hid hx
      replace hy := Lib.hid hy
      replace ht3 := Lib.hid ht3
      clear hlo hcv hown Av
      go_wp2_with fail
      go_ret
      exact hh.out
     ·have hlo2 : Hid (∀ r, r < q + 1 → 0 ≤ tV L (i + r) + n ∧ tV L (i + r) + n ≤ 64) := fun r hr => by
       rcases Nat.lt_or_ge r q with h7 | h7
       ·exact hlo r h7
       ·have : r = q := by omega
        subst this; rw [← hx]; omega
      replace hx := Lib.hid hx
      replace hy := Lib.hid hy
      replace ht3 := Lib.hid ht3
      clear hlo hcv hown Av
      go_wp2_with fail
      go_roundw
      case rel => exact ⟨q + 1, by omega, by go_num, hlo2.out, hbd⟩
      case measure => simp [intOf]; omega
   ·obtain rfl : q = c := by omega
    have hR := hgood.out fun t h5 h6 => by
     obtain ⟨r, h7, h8, h9⟩ := hall.out t h5 h6
     have := hlo (r - i) (by have := hc.out; omega)
     rw [show i + (r - i) = r by omega] at this
     rw [h9]; exact this
    have Sw := h.kept hbr
    have hnw := nY Sw hC.sm.pos
    have hsh := Jp m0 b n hC Sv.out.1 Sv.out.2 (by omega) (fun t ht => by have := hf.out t ht; omega) (by omega) hl Sw
    have hwv : IntKind.i64.wrap (aO + 1) = aO + 1 := IntWalk.i64_in _ (by omega)
    replace hR := Lib.hid hR
    clear hlo hbad hgood h qW Sw
    go_wp2_with (go_at_call 25; go_must (refine hnw.mono ?_); rintro e w' ⟨rfl, rfl⟩)
    go_at_call 177
    refine hsh.mono ?_
    clear hsh hnw
    rintro e w5 ⟨rfl, g5, L5, h5, hg5, Au, gu, hl5⟩
    obtain ⟨cap5, F5⟩ := h5.facts
    have c1 := F5.c1
    have fz := F5.fz 1
    clear F5
    have hnew := KM (aO + 1) h5
    have hpost : Hid (bX w p g L aO now f a b n (.returned (.int .i64 0)) (w5.setCell ⟨p, 1, none⟩ (.int .i64 (aO + 1)))) :=
     ⟨0, 1, _, g5, L5, rfl, hR.out, hnew, gu, by have := hbr.size; omega, ((Off.of_below hbr).trans Au (.inl rfl)).setCell (.inl rfl), hl5⟩
    clear hnew h5 gu Au hg5 hl5 hR
    go_wp2_with fail
    go_ret
    exact hpost.out
theorem yn (a b n : Int) (hC : Can L now f) (hn0 : 0 ≤ now) (hf : ∀ t, now ≤ t → 0 ≤ f t ∧ f t ≤ 64) (vN : 0 ≤ aO ∧ aO ≤ 1000000) (hl : L.length ≤ 800) (h : PW w p g L aO) :
  Calls Tryz.prog 152 #[.pointer (some ⟨p, 0, none⟩), .int .i64 a, .int .i64 b, .int .i64 n] w (bX w p g L aO now f a b n) := by
 by_cases hbad : b ≤ a ∨ 1152921504606846976 < b ∨ n < -64 ∨ 64 < n
 ·exact OM a b n hC h hbad
 ·by_cases hz : b ≤ max a now
  ·exact Mh a b n hC h hbad hz
  ·exact Mi a b n hC hn0 hf vN hl h hbad hz
end
end Go.Proofs.YtnihdgcfamoplaaGreat

namespace Go.Proofs.YtnihdgcfamoplaaGreat
open Go.RowKit Go.Sort Go.Lib
section
variable {w : World} {p g : Nat} {L : List (Int × Int)} {aO now : Int} {f : Int → Int}
theorem bX.ahead {a b n : Int} {w0 w' : World} {e : Ending} (h : bX w p g L aO now f a b n e w') (hb : Below w0.heap.size w0 w) : bX w0 p g L aO now f a b n e w' := by
 obtain ⟨r, dv, f', g', L', h1, h2, h3, h4, h5, h6, h7⟩ := h
 exact ⟨r, dv, f', g', L', h1, h2, h3, h4, by have := hb.size; omega, (Off.of_below hb).trans h6 (.inl rfl), h7⟩
theorem yo (a b n k : Int) (hn : 0 ≤ n ∧ n ≤ 64) (hk : k = 1 ∨ k = -1) (hC : Can L now f) (hn0 : 0 ≤ now) (hf : ∀ t, now ≤ t → 0 ≤ f t ∧ f t ≤ 64) (vN : 0 ≤ aO ∧ aO ≤ 1000000) (hl : L.length ≤ 800) (h : PW w p g L aO) :
  Calls Tryz.prog 131 #[.pointer (some ⟨p, 0, none⟩), .agg #[.int .i64 a, .int .i64 b, .int .i64 n], .int .i64 k] w (bX w p g L aO now f a b (k * n)) := by
 obtain ⟨m, hm⟩ : ∃ m, m = k * n := ⟨_, rfl⟩
 have hmw : IntKind.i64.wrap (k * n) = m := by rw [← hm]; exact IntWalk.i64_in _ (by rcases hk with rfl | rfl <;> omega)
 have hb1 : Below w.heap.size w (w.alloc (.cells #[.int .i64 a, .int .i64 b, .int .i64 n] 152)) := (Below.refl _ _).alloc (Nat.le_refl _) _
 have h1 := h.kept hb1
 have hno := fJ h1 hC.sm.pos
 have hadd := yn a b m hC hn0 hf vN hl h1
 rw [← hm]
 have hn1 : ¬ (n < 0) := by omega
 have hn2 : ¬ (64 < n) := by omega
 replace hm := Lib.hid hm
 replace hf := Lib.hid hf
 clear hk hn h
 go_enter Tryz.func131, Tryz.ntmps131
 go_wp2_with (go_at_call 58; go_must (refine hno.mono ?_); rintro e w' ⟨rfl, rfl⟩)
 go_at_call 152
 refine hadd.mono ?_
 clear hadd hno
 intro e w2 hp
 obtain ⟨r, dv, f', g', L', rfl, hrest⟩ := hp
 have hfin : Hid (bX w p g L aO now f a b m (.returned (.int .i64 r)) w2) := bX.ahead (w := w.alloc (.cells #[.int .i64 a, .int .i64 b, .int .i64 n] 152)) ⟨r, dv, f', g', L', rfl, hrest⟩ hb1
 clear hrest h1 hb1
 go_wp2_with fail
 go_ret
 exact hfin.out
theorem Ev (a b n : Int) (hn : 0 ≤ n ∧ n ≤ 64) (hC : Can L now f) (hn0 : 0 ≤ now) (hf : ∀ t, now ≤ t → 0 ≤ f t ∧ f t ≤ 64) (vN : 0 ≤ aO ∧ aO ≤ 1000000) (hl : L.length ≤ 800) (h : PW w p g L aO) :
  Calls Tryz.prog 132 #[.pointer (some ⟨p, 0, none⟩), .agg #[.int .i64 a, .int .i64 b, .int .i64 n]] w (bX w p g L aO now f a b (-n)) := by
 have hb1 : Below w.heap.size w (w.alloc (.cells #[.int .i64 a, .int .i64 b, .int .i64 n] 152)) := (Below.refl _ _).alloc (Nat.le_refl _) _
 have hch := yo a b n (-1) hn (.inr rfl) hC hn0 hf vN hl (h.kept hb1)
 rw [show (-1 : Int) * n = -n by omega] at hch
 replace hf := Lib.hid hf
 clear hn h
 go_enter Tryz.func132, Tryz.ntmps132
 go_wp2_with fail
 go_at_call 131
 refine hch.mono ?_
 clear hch
 intro e w2 hp
 obtain ⟨r, dv, f', g', L', rfl, hrest⟩ := hp
 have hfin : Hid (bX w p g L aO now f a b (-n) (.returned (.int .i64 r)) w2) := bX.ahead (w := w.alloc (.cells #[.int .i64 a, .int .i64 b, .int .i64 n] 152)) ⟨r, dv, f', g', L', rfl, hrest⟩ hb1
 clear hrest hb1
 go_wp2_with fail
 go_ret
 exact hfin.out
theorem Ew (a b n : Int) (hn : 0 ≤ n ∧ n ≤ 64) (hC : Can L now f) (hn0 : 0 ≤ now) (hf : ∀ t, now ≤ t → 0 ≤ f t ∧ f t ≤ 64) (vN : 0 ≤ aO ∧ aO ≤ 1000000) (hl : L.length ≤ 800) (h : PW w p g L aO) :
  Calls Tryz.prog 112 #[.pointer (some ⟨p, 0, none⟩), .agg #[.int .i64 a, .int .i64 b, .int .i64 n]] w (bX w p g L aO now f a b n) := by
 have hb1 : Below w.heap.size w (w.alloc (.cells #[.int .i64 a, .int .i64 b, .int .i64 n] 152)) := (Below.refl _ _).alloc (Nat.le_refl _) _
 have hch := yo a b n 1 hn (.inl rfl) hC hn0 hf vN hl (h.kept hb1)
 rw [show (1 : Int) * n = n by omega] at hch
 replace hf := Lib.hid hf
 clear hn h
 go_enter Tryz.func112, Tryz.ntmps112
 go_wp2_with fail
 go_at_call 131
 refine hch.mono ?_
 clear hch
 intro e w2 hp
 obtain ⟨r, dv, f', g', L', rfl, hrest⟩ := hp
 have hfin : Hid (bX w p g L aO now f a b n (.returned (.int .i64 r)) w2) := bX.ahead (w := w.alloc (.cells #[.int .i64 a, .int .i64 b, .int .i64 n] 152)) ⟨r, dv, f', g', L', rfl, hrest⟩ hb1
 clear hrest hb1
 go_wp2_with fail
 go_ret
 exact hfin.out
theorem Gl (n : Int) (w : World) (h : 0 ≤ n ∧ n ≤ 64) : Calls Tryz.prog 69 #[.int .i64 n] w fun e w' => ∃ p g : Nat, e = .returned (.tuple #[.pointer (some ⟨p, 0, none⟩), .int .i64 0]) ∧ PW w' p g [(0, n)] 0 ∧ w.heap.size ≤ p ∧ w.heap.size ≤ g ∧ Below w.heap.size w w' := by
 have h1 : ¬ (n < 0) := by omega
 have h2 : ¬ (64 < n) := by omega
 have hp : Hid (∀ w2, w2 = ((w.alloc (.cells #[.int .i64 0, .int .i64 n] 102)).alloc (.cells #[.slice (some ⟨w.heap.size, 0, none⟩) 1 1, .int .i64 0] 104)) → PW w2 (w.heap.size + 1) w.heap.size [(0, n)] 0) := by
  rintro w2 rfl
  have ho : (w.alloc (.cells #[.int .i64 0, .int .i64 n] 102)).ownsRow 0 102 2 (.slice (some ⟨w.heap.size, 0, none⟩) 1 1) 1 (aY [(0, n)]) := zb (vs := [.int .i64 0, .int .i64 n]) rfl (Nat.zero_le _) rfl (by decide)
  refine ⟨1, ?_, dF ho ((Below.refl _ _).alloc (Nat.le_refl _) _)⟩
  have := heap_alloc_new (w.alloc (.cells #[.int .i64 0, .int .i64 n] 102)) (.cells #[.slice (some ⟨w.heap.size, 0, none⟩) 1 1, .int .i64 0] 104)
  simpa using this
 have hb : Below w.heap.size w ((w.alloc (.cells #[.int .i64 0, .int .i64 n] 102)).alloc (.cells #[.slice (some ⟨w.heap.size, 0, none⟩) 1 1, .int .i64 0] 104)) := ((Below.refl _ _).alloc (Nat.le_refl _) _).alloc (by simp) _
 clear h
 go_enter Tryz.func69, Tryz.ntmps69
 go_wp2_with fail
 go_ret2
 exact ⟨w.heap.size + 1, rfl, w.heap.size, hp.out _ rfl, by omega, Nat.le_refl _, hb⟩
theorem OO (n : Int) : Can [(0, n)] 0 (fun _ => n) :=
 ⟨⟨by simp, rfl, fun i hi => by simp at hi, fun i hi => by simp at hi; subst hi; simp [tA], fun i t hi _ _ => by simp at hi; subst hi; simp [tV]⟩, fun i hi => by simp at hi⟩
end
end Go.Proofs.YtnihdgcfamoplaaGreat

namespace Go.Proofs.YtnihdgcfamoplaaGreat
open Go.RowKit Go.Sort Go.Lib
def Ro (now t e now' dv : Int) : Prop :=
 ((t < now ∨ 1099511627776 < t) ∧ e = 5 ∧ now' = now ∧ dv = 0) ∨ (¬ (t < now ∨ 1099511627776 < t) ∧ t = now ∧ e = 0 ∧ now' = now ∧ dv = 0) ∨ (¬ (t < now ∨ 1099511627776 < t) ∧ t ≠ now ∧ e = 0 ∧ now' = t ∧ dv = 1)
section
variable {w : World} {p g : Nat} {L : List (Int × Int)} {aO now : Int} {f : Int → Int}
theorem OP {cap : Nat} (k : Nat) (ho : w.ownsRow 0 102 2 (.slice (some ⟨g, 0, none⟩) L.length cap) L.length (aY L)) (hl : L.length ≤ 1000) (hk : k ≤ L.length) :
  Calls Tryz.prog 185 #[.slice (some ⟨g, 0, none⟩) L.length cap, .int .i64 0, .int .i64 k] w fun e w' => e = .returned (.slice (some ⟨g, 0, none⟩) (L.length - k) cap) ∧ w'.ownsRow 0 102 2 (.slice (some ⟨g, 0, none⟩) (L.length - k) cap) (L.length - k) (aY (L.drop k)) ∧ Off g g w w' := by
 have h := ym 0 k ho hl (Nat.zero_le _) hk
 rw [List.take_zero, xD, List.length_drop] at h
 exact h
theorem OQ (t : Int) (h : PW w p g L aO) (hi : 0 < L.length) : PW (w.setCell ⟨g, 0, none⟩ (.int .i64 t)) p g (L.set 0 (t, tV L 0)) aO := by
 obtain ⟨cap, F⟩ := h.facts
 refine ⟨cap, ?_, ?_⟩
 ·rw [List.length_set, Below.heap_setCell w ⟨g, 0, none⟩ _ p F.pg]
  exact F.obj
 ·have h1 := (F.own.stored 0 (.int .i64 t)).1
  rw [Gb, List.length_set]
  have e : ((aY L).set 0 (.int .i64 t)).set 1 (.int .i64 (tV L 0)) = (aY L).set 0 (.int .i64 t) := by
   have hg := (Aj (Ak hi)).2
   obtain ⟨hlt, hv⟩ := List.getElem?_eq_some_iff.1 hg
   rw [List.set_comm _ _ (by decide)]
   have h2 : (aY L).set 1 (.int .i64 (tV L 0)) = aY L := by
    have hv' : (aY L)[1]'(by simpa using hlt) = .int .i64 (tV L 0) := by simpa using hv
    rw [← hv']
    exact List.set_getElem_self _
   rw [h2]
  show World.ownsRow _ 0 _ 2 _ _ (((aY L).set 0 (.int .i64 t)).set 1 (.int .i64 (tV L 0)))
  rw [e]
  exact h1
def Gm (w : World) (g : Nat) (L : List (Int × Int)) (k cap : Nat) : List Value → World → Prop
 | [], W => Below w.heap.size w W
 | _ :: _, W => W.ownsRow 0 102 2 (.slice (some ⟨g, 0, none⟩) (L.length - k) cap) (L.length - k) (aY (L.drop k)) ∧ Off g g w W
theorem Gm.ext {w : World} {g : Nat} {L : List (Int × Int)} {k cap : Nat} : ∀ (vs : List Value) (W W' : World), Reg2.Ext W W' → Gm w g L k cap vs W → Gm w g L k cap vs W' := by
 intro vs W W' he h
 cases vs with
 | nil => exact Below.trans h (he.mono (Below.size h))
 | cons v vs => exact ⟨dF h.1 he, h.2.oM he⟩
def nZ (w : World) (p g : Nat) (L : List (Int × Int)) (aO now : Int) (f : Int → Int) (t : Int) (e : Ending) (w' : World) : Prop :=
 ∃ (r dv now' : Int) (L' : List (Int × Int)), e = .returned (.int .i64 r) ∧ Ro now t r now' dv ∧ PW w' p g L' (aO + dv) ∧ Can L' now' f ∧ Off p g w w' ∧ L'.length ≤ L.length
theorem Uk (t : Int) (hC : Can L now f) (h : PW w p g L aO) (hbad : t < now ∨ 1099511627776 < t) :
  Calls Tryz.prog 170 #[.pointer (some ⟨p, 0, none⟩), .int .i64 t] w (nZ w p g L aO now f t) := by
 have hno := fJ h hC.sm.pos
 have hnw := nY h hC.sm.pos
 rw [hC.sm.hd] at hnw
 have hfin : Hid (nZ w p g L aO now f t (.returned (.int .i64 5)) w) := ⟨5, 0, now, L, rfl, .inl ⟨hbad, rfl, rfl, rfl⟩, by rw [Int.add_zero]; exact h, hC, Off.refl _ _ _, Nat.le_refl _⟩
 by_cases h1 : t < now
 ·go_enter Tryz.func170, Tryz.ntmps170
  go_wp2_with (first | (go_at_call 58; go_must (refine hno.mono ?_); rintro e w' ⟨rfl, rfl⟩) | (go_at_call 25; go_must (refine hnw.mono ?_); rintro e w' ⟨rfl, rfl⟩))
  go_ret
  exact hfin.out
 ·have h2 : 1099511627776 < t := by omega
  clear hbad
  go_enter Tryz.func170, Tryz.ntmps170
  go_wp2_with (first | (go_at_call 58; go_must (refine hno.mono ?_); rintro e w' ⟨rfl, rfl⟩) | (go_at_call 25; go_must (refine hnw.mono ?_); rintro e w' ⟨rfl, rfl⟩))
  go_ret
  exact hfin.out
theorem Mj (hC : Can L now f) (h : PW w p g L aO) (hm : now ≤ 1099511627776) :
  Calls Tryz.prog 170 #[.pointer (some ⟨p, 0, none⟩), .int .i64 now] w (nZ w p g L aO now f now) := by
 have hno := fJ h hC.sm.pos
 have hnw := nY h hC.sm.pos
 rw [hC.sm.hd] at hnw
 have hfin : Hid (nZ w p g L aO now f now (.returned (.int .i64 0)) w) := ⟨0, 0, now, L, rfl, .inr (.inl ⟨by omega, rfl, rfl, rfl, rfl⟩), by rw [Int.add_zero]; exact h, hC, Off.refl _ _ _, Nat.le_refl _⟩
 have h1 : ¬ (now < now) := by omega
 have h2 : ¬ (1099511627776 < now) := by omega
 go_enter Tryz.func170, Tryz.ntmps170
 go_wp2_with (first | (go_at_call 58; go_must (refine hno.mono ?_); rintro e w' ⟨rfl, rfl⟩) | (go_at_call 25; go_must (refine hnw.mono ?_); rintro e w' ⟨rfl, rfl⟩))
 go_ret
 exact hfin.out
theorem QS (t : Int) (hC : Can L now f) (h : PW w p g L aO) (vN : 0 ≤ aO ∧ aO ≤ 1000000) (hl : L.length ≤ 1000) (hlt : now < t) (hm : t ≤ 1099511627776) :
  Calls Tryz.prog 170 #[.pointer (some ⟨p, 0, none⟩), .int .i64 t] w (nZ w p g L aO now f t) := by
 have nM := iZ
 have hno := fJ h hC.sm.pos
 have hnw := nY h hC.sm.pos
 rw [hC.sm.hd] at hnw
 obtain ⟨k, hk⟩ := hC.sm.ix t
 have hkl := hk.lt
 obtain ⟨cap, F⟩ := h.facts
 have c0 := F.c0
 have pl := F.pl
 have pg := F.pg
 have qW := F.own
 have Gi := F.obj
 clear F
 have h1 : ¬ (t < now) := by omega
 have h2 : ¬ (1099511627776 < t) := by omega
 have h3 : (t == now) = false := beq_eq_false_iff_ne.2 (by omega)
 have hwv : IntKind.i64.wrap (aO + 1) = aO + 1 := IntWalk.i64_in _ (by omega)
 have KL : Hid (∀ L' : List (Int × Int), L' = (L.drop k).set 0 (t, tV (L.drop k) 0) → Can L' t f ∧ L'.length ≤ L.length ∧ 0 < L'.length) := by
  rintro L' rfl
  have hdl : (L.drop k).length = L.length - k := List.length_drop
  have hd0 : 0 < (L.drop k).length := by omega
  have gD : ∀ m, tA (L.drop k) m = tA L (m + k) ∧ tV (L.drop k) m = tV L (m + k) := fun m => by
   unfold tA tV
   rw [List.getD_eq_getElem?_getD, List.getD_eq_getElem?_getD, List.getElem?_drop, Nat.add_comm]
   exact ⟨rfl, rfl⟩
  refine ⟨hC.later hk (by omega) (by omega) (by rw [List.length_set]; exact hdl) ?_ (fun m hm0 => ?_) (fun m => ?_), by rw [List.length_set]; omega, by rw [List.length_set]; omega⟩
  ·unfold tA; rw [List.getD_eq_getElem?_getD, List.getElem?_set_self hd0]; rfl
  ·rw [← (gD m).1]
   unfold tA; rw [List.getD_eq_getElem?_getD, List.getD_eq_getElem?_getD, List.getElem?_set, if_neg (by omega)]
  ·rw [KI hd0, ← (gD m).2]
   split
   ·rename_i e; subst e; rfl
   ·rfl
 replace hk := Lib.hid hk
 go_enter Tryz.func170, Tryz.ntmps170
 go_wp2_with (first | (go_at_call 58; go_must (refine hno.mono ?_); rintro e w' ⟨rfl, rfl⟩) | (go_at_call 25; go_must (refine hnw.mono ?_); rintro e w' ⟨rfl, rfl⟩))
 refine Reg2.tO 9 44 [[],[af],[af,ae],[af,ae,ae],[af,ae,ae,ae],[af,af,af,af,af],[af,af,af,af,af,af],[af,af,af,af,af,ae,ae],[af,ae,ae,ae,ae,ae,ae,ae]] [0, 0, 0, 0, 1, 0, 0, 2, 3]
  [.pure, .pure, .pure, .pure, .mU (.slice (some ⟨g, 0, none⟩) L.length cap), .pure, .pure, .pinned Unit () (fun _ => .int .i64 k) (fun _ _ => True), .major Unit () (fun _ => .slice (some ⟨g, 0, none⟩) (L.length - k) cap)]
  (fun W => Off g g w W) (Gm w g L k cap) (fun W W' => Off g g W W') (by kernel_rfl) (by kernel_rfl) rfl rfl Gm.ext ?_ ?_ ?_ ?_ ?_ ?_
 ·intro a b he hb; exact hb.oM he
 ·intro a b hg hb; exact hb.trans hg (.inl rfl)
 ·refine ⟨trivial, trivial, trivial, trivial, ⟨?_, ?_⟩, trivial, trivial, ⟨?_, ?_⟩, trivial, trivial⟩
  all_goals (intro x a b hk hx; exact trivial)
 ·exact (Off.refl _ _ _).drew
 ·exact (Below.refl _ _).drew
 dsimp only [Reg2.mk, List.zip, List.zipWith, List.take]
 repeat (refine' Reg2.ai _ (by rfl) (fun wz => ?_) ?_; rotate_left; (go_simp; first | rfl | rw [if_neg (by omega)]); simp only [Act.put, xA, xB, xC]; (try simp only [xD]); (try simp only [xE]))
 refine Reg2.pm (fun wz hI hF => ?_) (fun x4 => ?_) (by rfl)
 ·have d0 : wz.cell? ⟨p, 0, none⟩ = _ := (hI.cell (a := ⟨p, 0, none⟩) pl pg pg).trans c0
  go_wp2_with fail
  exact ⟨_, rfl, ⟨(), rfl, trivial⟩, Reg2.Ext.refl _⟩
 simp only [Act.put, xA, xB, xC]; (try simp only [xD]); (try simp only [xE]); (try simp only [id])
 repeat (refine' Reg2.ai _ (by rfl) (fun wz => ?_) ?_; rotate_left; (go_simp; first | rfl | rw [if_neg (by omega)]); simp only [Act.put, xA, xB, xC]; (try simp only [xD]); (try simp only [xE]))
 refine Reg2.pp (fun wz hI hS hF => ?_) (fun x7 => ?_) (by rfl)
 ·have hS1 : Below w.heap.size w wz := hS
  go_wp2_with (go_at_call 151; go_must (refine (wV t hk.out hC.sm hl (h.kept hS1)).mono ?_); rintro e w1 ⟨rfl, Ao⟩)
  exact ⟨_, rfl, ⟨(), rfl, trivial⟩, Ao⟩
 simp only [Act.put, xA, xB, xC]; (try simp only [xD]); (try simp only [xE]); (try simp only [id])
 refine Reg2.pj (fun wz hI hS hF => ?_) (fun x8 => ?_) (by rfl)
 ·have hS1 : Below w.heap.size w wz := hS
  go_wp2_with (go_at_call 185; go_must (refine (OP k (dF qW hS1) hl (Nat.le_of_lt hkl)).mono ?_); rintro e w5 ⟨rfl, Sn, OI⟩)
  exact ⟨_, rfl, ⟨⟨(), rfl⟩, Sn, (Off.of_below hS1).trans OI (.inl rfl)⟩, OI⟩
 simp only [Act.put, xA, xB, xC]; (try simp only [xD]); (try simp only [xE]); (try simp only [id])
 refine Reg2.aA ?_
 intro w3 HI3 I4 _
 obtain ⟨ho3, qF⟩ := I4
 have hp3 := Gi
 rw [← qF.block p pl pg pg] at hp3
 have d0 : w3.cell? ⟨p, 0, none⟩ = _ := (qF.cell (a := ⟨p, 0, none⟩) pl pg pg).trans c0
 have dz : w3.frozen? ⟨p, 0, none⟩ = false := by simp [World.frozen?, hp3]
 obtain ⟨w4, hw4⟩ : ∃ w4, w4 = w3.setCell ⟨p, 0, none⟩ (.slice (some ⟨g, 0, none⟩) (L.length - k) cap) := ⟨_, rfl⟩
 have Sy : PW w4 p g (L.drop k) aO := by
  rw [hw4]
  have := Es (L' := L.drop k) hp3 (cap' := cap) (g' := g) (by rw [List.length_drop]; exact ho3)
  rw [List.length_drop] at this
  exact this
 have qE : Off p g w w4 := by rw [hw4]; exact qF.mono.setCell (.inl rfl)
 have hd0 : 0 < (L.drop k).length := by rw [List.length_drop]; omega
 have QT := OQ t Sy hd0
 have pq := qE.setCell (j := 0) (v := .int .i64 t) (.inr (.inl rfl))
 obtain ⟨cap4, F4⟩ := Sy.facts
 have k0 := F4.c0
 have s0 := (step_cells F4.own hd0).1
 have z0 := F4.own.frozenAt 0
 rw [Nat.zero_mul] at s0
 obtain ⟨w5, Am⟩ : ∃ w5, w5 = w4.setCell ⟨g, 0, none⟩ (.int .i64 t) := ⟨_, rfl⟩
 rw [← Am] at QT pq
 obtain ⟨cap5, F5⟩ := QT.facts
 have k1 := F5.c1
 have z1 := F5.fz 1
 have Ul := KM (aO + 1) QT
 have OT := pq.setCell (j := 1) (v := .int .i64 (aO + 1)) (.inl rfl)
 obtain ⟨hc1, hc2, hc3⟩ := KL.out _ rfl
 have hfin : Hid (nZ w p g L aO now f t (.returned (.int .i64 0)) (w5.setCell ⟨p, 1, none⟩ (.int .i64 (aO + 1)))) := ⟨0, 1, t, _, rfl, .inr (.inr ⟨by omega, by omega, rfl, rfl, rfl⟩), Ul, hc1, OT, hc2⟩
 have hdp : (0 : Int) < ((L.drop k).length : Int) := by omega
 obtain ⟨nn, hnn⟩ : ∃ nn, nn = (L.drop k).length := ⟨_, rfl⟩
 obtain ⟨xx, Mk⟩ : ∃ xx, xx = tA (L.drop k) 0 := ⟨_, rfl⟩
 rw [← hnn] at k0 hdp
 rw [← Mk] at s0
 clear HI3 ho3 qF hp3 c0 qW Gi Sy qE QT pq F4 F5 Ul OT hc1 hc2 hc3 KL h hnw hno
 replace hnn := Lib.hid hnn
 replace Mk := Lib.hid Mk
 dsimp only [List.drop]
 show wpList _ _ _ [_, _, _] _ _
 subst hw4
 subst Am
 go_wp2_with fail
 go_ret
 exact hfin.out
end
end Go.Proofs.YtnihdgcfamoplaaGreat

namespace Go.Proofs.YtnihdgcfamoplaaGreat
open Go.RowKit Go.Lib Go.Sort
structure Pg where
 now : Int
 J : List Jb
 T : List Int
 f : Int → Int
 cl : Bool
def dY (c t d p : Nat) (v : Value) (g : Nat) (k : Nat) : Prop := k = c ∨ k = t ∨ k = d ∨ k = p ∨ v.ownBlock = some k ∨ k = g
def PR (w : World) (p g : Nat) (a : Nat) (m : Int) (now : Int) (f : Int → Int) : Prop :=
 ∃ S aO, PW w p g S aO ∧ Can S now f ∧ S.length ≤ a ∧ 0 ≤ aO ∧ aO ≤ m
structure CW (w : World) (c t d p : Nat) (v : Value) (g : Nat) (a : Nat) (m : Int) (P : Pg) : Prop where
 cell : w.heap[c]? = some (.cells #[.pointer (some ⟨t, 0, none⟩), .pointer (some ⟨d, 0, none⟩), .pointer (some ⟨p, 0, none⟩), .bool true, .bool P.cl] 52 (0, 0))
 fe : TV w t v P.J
 nodes : TW w d P.T
 mq : PR w p g a m P.now P.f
structure CS (w w' : World) (c t d p : Nat) (v : Value) (g : Nat) (v' : Value) (g' : Nat) : Prop where
 off : gH (dY c t d p v g) w w'
 grew : mf w (dY c t d p v g) (dY c t d p v' g')
section
variable {w w' w1 w2 : World} {c t d p g g' g1 g2 a a' : Nat} {v v' v1 v2 : Value} {m m' : Int} {P : Pg}
theorem CS.refl (w : World) : CS w w c t d p v g v g := ⟨gH.refl _ _, mf.refl _ _⟩
theorem CS.of_below (h : Below w.heap.size w w1) : CS w w1 c t d p v g v g := ⟨gH.of_below h, mf.refl _ _⟩
theorem CS.trans (h : CS w w1 c t d p v g v1 g1) (h' : CS w1 w2 c t d p v1 g1 v2 g2) : CS w w2 c t d p v g v2 g2 :=
 ⟨h.off.trans h'.off h.grew, h.grew.trans h'.grew h.off.size⟩
theorem CS.heap (h : CS w w1 c t d p v g v1 g1) {k : Nat} (hk : k < w.heap.size) (hn : ¬ dY c t d p v g k) : w1.heap[k]? = w.heap[k]? := h.off.block k hk hn
theorem CS.below {B : Nat} (h : CS w w1 c t d p v g v1 g1) (hS : ∀ k, dY c t d p v g k → B ≤ k) (hB : B ≤ w.heap.size) : Below B w w1 := h.off.below hS hB
theorem CS.lo {B : Nat} (h : CS w w1 c t d p v g v1 g1) (hS : ∀ k, dY c t d p v g k → B ≤ k) (hB : B ≤ w.heap.size) : ∀ k, dY c t d p v1 g1 k → B ≤ k := fun k hk => (h.grew k hk).elim (hS k) (fun hle => Nat.le_trans hB hle)
theorem PW.at {S : List (Int × Int)} {aO : Int} (h : PW w p g S aO) : ∃ cs, w.heap[p]? = some (.cells cs 104 (0, 0)) := by obtain ⟨cap, h1, _⟩ := h; exact ⟨_, h1⟩
theorem PW.Um {S : List (Int × Int)} {aO : Int} (h : PW w p g S aO) : ∃ cs, w.heap[g]? = some (.cells cs 102 (0, 0)) := by
 obtain ⟨cap, _, h2⟩ := h
 exact oQ h2 rfl
theorem CW.types (h : CW w c t d p v g a m P) {k : Nat} (hk : dY c t d p v g k) : ∃ cs T, w.heap[k]? = some (.cells cs T (0, 0)) ∧
  ((k = c ∧ T = 52) ∨ (k = t ∧ T = 99) ∨ (k = d ∧ T = 106) ∨ (k = p ∧ T = 104) ∨ (v.ownBlock = some k ∧ T = 63) ∨ (k = g ∧ T = 102)) := by
 obtain ⟨S, aO, hp, _⟩ := h.mq
 rcases hk with rfl | rfl | rfl | rfl | hv | rfl
 ·exact ⟨_, _, h.cell, .inl ⟨rfl, rfl⟩⟩
 ·exact ⟨_, _, h.fe.cell, .inr (.inl ⟨rfl, rfl⟩)⟩
 ·exact ⟨_, _, h.nodes, .inr (.inr (.inl ⟨rfl, rfl⟩))⟩
 ·obtain ⟨cs, h1⟩ := hp.at; exact ⟨_, _, h1, .inr (.inr (.inr (.inl ⟨rfl, rfl⟩)))⟩
 ·obtain ⟨cs, h1⟩ := oQ h.fe.own hv; exact ⟨_, _, h1, .inr (.inr (.inr (.inr (.inl ⟨hv, rfl⟩))))⟩
 ·obtain ⟨cs, h1⟩ := hp.Um; exact ⟨_, _, h1, .inr (.inr (.inr (.inr (.inr ⟨rfl, rfl⟩))))⟩
theorem CW.lt (h : CW w c t d p v g a m P) {k : Nat} (hk : dY c t d p v g k) : k < w.heap.size := by
 obtain ⟨cs, T, h1, _⟩ := h.types hk
 exact ay h1
theorem CW.other (h : CW w c t d p v g a m P) {k : Nat} {cs : Array Value} {T : TypeId} {fz : Nat × Nat} (hk : w.heap[k]? = some (.cells cs T fz)) (hT : T ≠ 52 ∧ T ≠ 99 ∧ T ≠ 106 ∧ T ≠ 104 ∧ T ≠ 63 ∧ T ≠ 102) : ¬ dY c t d p v g k := by
 intro hf
 obtain ⟨cs', T', h1, h2⟩ := h.types hf
 rw [hk] at h1
 have e := (Obj.cells.inj (Option.some.inj h1)).2.1
 subst e
 obtain ⟨a1, a2, a3, a4, a5, a6⟩ := hT
 rcases h2 with ⟨_, e⟩ | ⟨_, e⟩ | ⟨_, e⟩ | ⟨_, e⟩ | ⟨_, e⟩ | ⟨_, e⟩
 ·exact a1 e
 ·exact a2 e
 ·exact a3 e
 ·exact a4 e
 ·exact a5 e
 ·exact a6 e
theorem CW.kept (h : CW w c t d p v g a m P) (hb : Below w.heap.size w w') : CW w' c t d p v g a m P := by
 obtain ⟨S, aO, hp, hrest⟩ := h.mq
 exact ⟨(hb.block c (h.lt (.inl rfl))).trans h.cell, h.fe.kept hb, h.nodes.kept hb, S, aO, hp.kept hb, hrest⟩
theorem CW.wider (h : CW w c t d p v g a m P) (ha : a ≤ a') (hm : m ≤ m') : CW w c t d p v g a' m' P := by
 obtain ⟨S, aO, hp, h1, h2, h3, h4⟩ := h.mq
 exact ⟨h.cell, h.fe, h.nodes, S, aO, hp, h1, by omega, h3, by omega⟩
theorem CW.ne (h : CW w c t d p v g a m P) : c ≠ t ∧ c ≠ d ∧ c ≠ p ∧ c ≠ g ∧ t ≠ d ∧ t ≠ p ∧ t ≠ g ∧ d ≠ p ∧ d ≠ g ∧ p ≠ g ∧ v.ownBlock ≠ some c ∧ v.ownBlock ≠ some t ∧ v.ownBlock ≠ some d ∧ v.ownBlock ≠ some p ∧ v.ownBlock ≠ some g := by
 obtain ⟨S, aO, hp, _⟩ := h.mq
 obtain ⟨c1, hp1⟩ := hp.at
 obtain ⟨c2, hp2⟩ := hp.Um
 have hv : ∀ k, v.ownBlock = some k → ∃ cur, w.heap[k]? = some (.cells cur 63 (0, 0)) := fun k hk => oQ h.fe.own hk
 have hc := h.cell
 have hj := h.fe.cell
 have hn : w.heap[d]? = _ := h.nodes
 refine ⟨Put.bR hc hj (by decide), Put.bR hc hn (by decide), Put.bR hc hp1 (by decide), Put.bR hc hp2 (by decide), Put.bR hj hn (by decide), Put.bR hj hp1 (by decide), Put.bR hj hp2 (by decide), Put.bR hn hp1 (by decide), Put.bR hn hp2 (by decide), Put.bR hp1 hp2 (by decide), ?_, ?_, ?_, ?_, ?_⟩ <;> (intro e; obtain ⟨cur, hc1⟩ := hv _ e)
 ·exact Put.bR hc1 hc (by decide) rfl
 ·exact Put.bR hc1 hj (by decide) rfl
 ·exact Put.bR hc1 hn (by decide) rfl
 ·exact Put.bR hc1 hp1 (by decide) rfl
 ·exact Put.bR hc1 hp2 (by decide) rfl
theorem CW.aC (h : CW w c t d p v g a m P) {J' : List Jb} (ht : TV w' t v' J') (hq : dL t v.ownBlock w w') (hn : dV w v.ownBlock v'.ownBlock) : CW w' c t d p v' g a m { P with J := J' } ∧ CS w w' c t d p v g v' g := by
 obtain ⟨S, aO, hp, hrest⟩ := h.mq
 obtain ⟨n1, n2, n3, n4, n5, n6, n7, n8, n9, n10, n11, n12, n13, n14, n15⟩ := h.ne
 have lt := fun {k : Nat} (hk : dY c t d p v g k) => h.lt hk
 obtain ⟨cap, hp1, hp2⟩ := hp
 refine ⟨⟨(hq.block c (lt (.inl rfl)) n1 n11).trans h.cell, ht, ?_, S, aO, ⟨cap, (hq.block p (lt (.inr (.inr (.inr (.inl rfl))))) (Ne.symm n6) n14).trans hp1, bL hp2 fun k hk => ?_⟩, hrest⟩, ⟨hq.os, hq.tape, hq.output, hq.size, fun k hk hf => hq.block k hk (fun e => hf (.inr (.inl e))) (fun e => hf (.inr (.inr (.inr (.inr (.inl e))))))⟩, fun k hk => ?_⟩
 ·exact (hq.block d (lt (.inr (.inr (.inl rfl)))) (Ne.symm n5) n13).trans h.nodes
 ·have e : k = g := by simpa [Value.ownBlock] using hk.symm
  subst e
  exact hq.block k (lt (.inr (.inr (.inr (.inr (.inr rfl)))))) (Ne.symm n7) n15
 ·rcases hk with e | e | e | e | e | e
  ·exact .inl (.inl e)
  ·exact .inl (.inr (.inl e))
  ·exact .inl (.inr (.inr (.inl e)))
  ·exact .inl (.inr (.inr (.inr (.inl e))))
  ·rcases hn with hn | ⟨q, hq1, hq2⟩
   ·exact .inl (.inr (.inr (.inr (.inr (.inl (hn ▸ e))))))
   ·rw [hq1] at e; cases e; exact .inr hq2
  ·exact .inl (.inr (.inr (.inr (.inr (.inr e)))))
theorem CW.node (h : CW w c t d p v g a m P) {T' : List Int} (ht : TW w' d T') (ho : jE d w w') : CW w' c t d p v g a m { P with T := T' } ∧ CS w w' c t d p v g v g := by
 obtain ⟨S, aO, hp, hrest⟩ := h.mq
 obtain ⟨n1, n2, n3, n4, n5, n6, n7, n8, n9, n10, n11, n12, n13, n14, n15⟩ := h.ne
 obtain ⟨cap, hp1, hp2⟩ := hp
 refine ⟨⟨(ho.block c n2).trans h.cell, ⟨(ho.block t n5).trans h.fe.cell, bL h.fe.own fun k hk => ho.block k (fun e => n13 (e ▸ hk))⟩, ht, S, aO, ⟨cap, (ho.block p (Ne.symm n8)).trans hp1, bL hp2 fun k hk => ?_⟩, hrest⟩, ⟨ho.os, ho.tape, ho.output, Nat.le_of_eq ho.size.symm, fun k _ hf => ho.block k (fun e => hf (.inr (.inr (.inl e))))⟩, mf.refl _ _⟩
 have e : k = g := by simpa [Value.ownBlock] using hk.symm
 subst e
 exact ho.block k (Ne.symm n9)
theorem CW.profile (h : CW w c t d p v g a m P) {now' : Int} {f' : Int → Int} (hp' : PR w' p g' a' m' now' f') (ho : Off p g w w') (hg : g' = g ∨ w.heap.size ≤ g') : CW w' c t d p v g' a' m' { P with now := now', f := f' } ∧ CS w w' c t d p v g v g' := by
 obtain ⟨n1, n2, n3, n4, n5, n6, n7, n8, n9, n10, n11, n12, n13, n14, n15⟩ := h.ne
 have lt := fun {k : Nat} (hk : dY c t d p v g k) => h.lt hk
 refine ⟨⟨(ho.block c (lt (.inl rfl)) n3 n4).trans h.cell, ⟨(ho.block t (lt (.inr (.inl rfl))) n6 n7).trans h.fe.cell, bL h.fe.own fun k hk => ho.block k (lt (.inr (.inr (.inr (.inr (.inl hk)))))) (fun e => n14 (e ▸ hk)) (fun e => n15 (e ▸ hk))⟩, (ho.block d (lt (.inr (.inr (.inl rfl)))) n8 n9).trans h.nodes, hp'⟩, ⟨ho.os, ho.tape, ho.output, ho.size, fun k hk hf => ho.block k hk (fun e => hf (.inr (.inr (.inr (.inl e))))) (fun e => hf (.inr (.inr (.inr (.inr (.inr e))))))⟩, fun k hk => ?_⟩
 rcases hk with e | e | e | e | e | e
 ·exact .inl (.inl e)
 ·exact .inl (.inr (.inl e))
 ·exact .inl (.inr (.inr (.inl e)))
 ·exact .inl (.inr (.inr (.inr (.inl e))))
 ·exact .inl (.inr (.inr (.inr (.inr (.inl e)))))
 ·rcases hg with hg | hg
  ·exact .inl (.inr (.inr (.inr (.inr (.inr (e.trans hg))))))
  ·exact .inr (e ▸ hg)
theorem CW.close (h : CW w c t d p v g a m P) : CW (w.setCell ⟨c, 4, none⟩ (.bool true)) c t d p v g a m { P with cl := true } ∧ CS w (w.setCell ⟨c, 4, none⟩ (.bool true)) c t d p v g v g := by
 obtain ⟨S, aO, hp, hrest⟩ := h.mq
 obtain ⟨n1, n2, n3, n4, n5, n6, n7, n8, n9, n10, n11, n12, n13, n14, n15⟩ := h.ne
 obtain ⟨cap, hp1, hp2⟩ := hp
 have blk : ∀ k, k ≠ c → (w.setCell ⟨c, 4, none⟩ (.bool true)).heap[k]? = w.heap[k]? := fun k hk => Below.heap_setCell w ⟨c, 4, none⟩ _ k hk
 refine ⟨⟨?_, ⟨(blk t (Ne.symm n1)).trans h.fe.cell, bL h.fe.own fun k hk => blk k (fun e => n11 (e ▸ hk))⟩, (blk d (Ne.symm n2)).trans h.nodes, S, aO, ⟨cap, (blk p (Ne.symm n3)).trans hp1, bL hp2 fun k hk => ?_⟩, hrest⟩, ⟨rfl, rfl, rfl, by simp, fun k _ hf => blk k (fun e => hf (.inl e))⟩, mf.refl _ _⟩
 ·have hlt := h.lt (.inl rfl)
  have hc := h.cell
  have h1 : w.heap[c] = _ := (Array.getElem?_eq_some_iff.1 hc).2
  simp [World.setCell, hlt, Array.getElem_modify, h1]
 ·have e : k = g := by simpa [Value.ownBlock] using hk.symm
  subst e
  exact blk k (Ne.symm n4)
theorem CW.c0 (h : CW w c t d p v g a m P) : w.cell? ⟨c, 0, none⟩ = some (.pointer (some ⟨t, 0, none⟩)) := by simp [World.cell?, h.cell]
theorem CW.c1 (h : CW w c t d p v g a m P) : w.cell? ⟨c, 1, none⟩ = some (.pointer (some ⟨d, 0, none⟩)) := by simp [World.cell?, h.cell]
theorem CW.c2 (h : CW w c t d p v g a m P) : w.cell? ⟨c, 2, none⟩ = some (.pointer (some ⟨p, 0, none⟩)) := by simp [World.cell?, h.cell]
theorem CW.c3 (h : CW w c t d p v g a m P) : w.cell? ⟨c, 3, none⟩ = some (.bool true) := by simp [World.cell?, h.cell]
theorem CW.c4 (h : CW w c t d p v g a m P) : w.cell? ⟨c, 4, none⟩ = some (.bool P.cl) := by simp [World.cell?, h.cell]
theorem CW.fz (h : CW w c t d p v g a m P) (j : Nat) : w.frozen? ⟨c, j, none⟩ = false := by simp [World.frozen?, h.cell]
end
end Go.Proofs.YtnihdgcfamoplaaGreat

namespace Go.Proofs.YtnihdgcfamoplaaGreat
open Go.RowKit Go.Lib Go.Sort
section
variable {w w' w1 w2 : World} {c t d p g a : Nat} {v : Value} {m : Int} {P : Pg}
structure PK (P : Pg) : Prop where
 now : 0 ≤ P.now ∧ P.now ≤ 1099511627776
 few : P.J.length ≤ 900
 st : ∀ j ∈ P.J, 1 ≤ j.st ∧ j.st ≤ 6
 lim : ∀ j ∈ P.J, 1 ≤ j.lim ∧ j.lim ≤ 1048576
 qG : gU P.T
 f : ∀ t, P.now ≤ t → 0 ≤ P.f t ∧ P.f t ≤ 64
def fq (w : World) (c t d p : Nat) (v : Value) (g a : Nat) (m : Int) (r : Value) (P' : Pg) (e : Ending) (w' : World) : Prop :=
 e = .returned r ∧ ∃ v' g', CW w' c t d p v' g' a m P' ∧ CS w w' c t d p v g v' g'
theorem xg (h : CW w c t d p v g a m P) {x y n : Int} {e : Ending} {S : List (Int × Int)} {aO : Int} (hl : S.length ≤ a) (hv0 : 0 ≤ aO) (hv : aO ≤ m) (hp : bX w p g S aO P.now P.f x y n e w') (F : Int → Int)
  (hxy : x < y) (hy : y ≤ 1152921504606846976) (hn : -64 ≤ n ∧ n ≤ 64) (hF : ∀ t, P.now ≤ t → F t = P.f t + had (max x P.now) y n t) (hr : ∀ t, P.now ≤ t → 0 ≤ F t ∧ F t ≤ 64) :
  fq w c t d p v g (a + 2) (m + 1) (.int .i64 0) { P with f := F } e w' := by
 obtain ⟨r, dv, f', g', L', rfl, hA, hP, hC, hg, ho, hlen⟩ := hp
 have key : r = 0 ∧ (∀ t, P.now ≤ t → f' t = F t) ∧ 0 ≤ dv ∧ dv ≤ 1 := by
  rcases hA with ⟨h1, _⟩ | ⟨_, h2, rfl, rfl, rfl⟩ | ⟨_, _, ⟨u, h3, h4, h5⟩, _⟩ | ⟨_, _, _, rfl, rfl, rfl⟩
  ·omega
  ·refine ⟨rfl, fun t ht => ?_, by omega, by omega⟩
   rw [hF t ht]
   have e0 : had (max x P.now) y n t = 0 := by
    rcases h2 with h2 | h2
    ·unfold had
     rw [if_neg]
     rintro ⟨h3, h4⟩
     have hy0 : y ≤ P.now := by omega
     rcases h4 with h4 | h4
     ·omega
     ·have := hC.sm.top 0 hC.sm.pos
      rw [hC.sm.hd] at this
      omega
    ·unfold had; rw [h2]; split <;> rfl
   omega
  ·exfalso
   have h6 := hF u (by omega)
   have h7 : had (max x P.now) y n u = n := by unfold had; rw [if_pos ⟨h3, .inl h4⟩]
   have h8 := hr u (by omega)
   omega
  ·exact ⟨rfl, fun t ht => (hF t ht).symm, by omega, by omega⟩
 obtain ⟨rfl, hf, d1, d2⟩ := key
 obtain ⟨hC2, hS⟩ := h.profile (now' := P.now) (f' := F) (a' := a + 2) (m' := m + 1) ⟨L', aO + dv, hP, hC.congr hf, by omega, by omega, by omega⟩ ho hg
 exact ⟨rfl, v, g', hC2, hS⟩
theorem rZ (h : CW w c t d p v g a m P) (hk : PK P) (ha : a ≤ 800) (hm : m ≤ 1000000) (x y n : Int) (F : Int → Int) (hxy : x < y) (hy : y ≤ 1152921504606846976) (hn : 0 ≤ n ∧ n ≤ 64)
  (hF : ∀ t, P.now ≤ t → F t = P.f t + had (max x P.now) y n t) (hr : ∀ t, P.now ≤ t → 0 ≤ F t ∧ F t ≤ 64) :
  Calls Tryz.prog 112 #[.pointer (some ⟨p, 0, none⟩), .agg #[.int .i64 x, .int .i64 y, .int .i64 n]] w (fq w c t d p v g (a + 2) (m + 1) (.int .i64 0) { P with f := F }) := by
 obtain ⟨S, aO, hp, hC, hl, h0, h1⟩ := h.mq
 exact (Ew x y n hn hC hk.now.1 hk.f ⟨h0, by omega⟩ (by omega) hp).mono fun e w2 hq => xg h hl h0 h1 hq F hxy hy (by omega) hF hr
theorem Gn (h : CW w c t d p v g a m P) (hk : PK P) (ha : a ≤ 800) (hm : m ≤ 1000000) (x y n : Int) (F : Int → Int) (hxy : x < y) (hy : y ≤ 1152921504606846976) (hn : 0 ≤ n ∧ n ≤ 64)
  (hF : ∀ t, P.now ≤ t → F t = P.f t + had (max x P.now) y (-n) t) (hr : ∀ t, P.now ≤ t → 0 ≤ F t ∧ F t ≤ 64) :
  Calls Tryz.prog 132 #[.pointer (some ⟨p, 0, none⟩), .agg #[.int .i64 x, .int .i64 y, .int .i64 n]] w (fq w c t d p v g (a + 2) (m + 1) (.int .i64 0) { P with f := F }) := by
 obtain ⟨S, aO, hp, hC, hl, h0, h1⟩ := h.mq
 exact (Ev x y n hn hC hk.now.1 hk.f ⟨h0, by omega⟩ (by omega) hp).mono fun e w2 hq => xg h hl h0 h1 hq F hxy hy (by omega) hF hr
theorem KN (h : CW w c t d p v g a m P) (hk : PK P) (ha : a ≤ 800) (hm : m ≤ 1000000) (x y n : Int) (F : Int → Int) (hxy : x < y) (hy : y ≤ 1152921504606846976) (hn : -64 ≤ n ∧ n ≤ 64)
  (hF : ∀ t, P.now ≤ t → F t = P.f t + had (max x P.now) y n t) (hr : ∀ t, P.now ≤ t → 0 ≤ F t ∧ F t ≤ 64) :
  Calls Tryz.prog 152 #[.pointer (some ⟨p, 0, none⟩), .int .i64 x, .int .i64 y, .int .i64 n] w (fq w c t d p v g (a + 2) (m + 1) (.int .i64 0) { P with f := F }) := by
 obtain ⟨S, aO, hp, hC, hl, h0, h1⟩ := h.mq
 exact (yn x y n hC hk.now.1 hk.f ⟨h0, by omega⟩ (by omega) hp).mono fun e w2 hq => xg h hl h0 h1 hq F hxy hy hn hF hr
theorem yt (h : CW w c t d p v g a m P) (hk : PK P) (ha : a ≤ 800) (hm : m ≤ 1000000) (x : Int) (h1 : P.now ≤ x) (h2 : x ≤ 1099511627776) :
  Calls Tryz.prog 170 #[.pointer (some ⟨p, 0, none⟩), .int .i64 x] w (fq w c t d p v g a (m + 1) (.int .i64 0) { P with now := x }) := by
 obtain ⟨S, aO, hp, hC, hl, v0, v1⟩ := h.mq
 have fin : ∀ {e : Ending} {w2 : World}, nZ w p g S aO P.now P.f x e w2 → fq w c t d p v g a (m + 1) (.int .i64 0) { P with now := x } e w2 := by
  rintro e w2 ⟨r, dv, now', L', rfl, hA, hP, hC2, ho, hlen⟩
  have key : r = 0 ∧ now' = x ∧ 0 ≤ dv ∧ dv ≤ 1 := by unfold Ro at hA; omega
  obtain ⟨rfl, rfl, d1, d2⟩ := key
  obtain ⟨a1, a2⟩ := h.profile (now' := now') (f' := P.f) (g' := g) (a' := a) (m' := m + 1) ⟨L', aO + dv, hP, hC2, by omega, by omega, by omega⟩ ho (.inl rfl)
  exact ⟨rfl, v, g, a1, a2⟩
 rcases Int.lt_or_eq_of_le h1 with h3 | h3
 ·exact (QS x hC hp ⟨v0, by omega⟩ (by omega) h3 h2).mono fun e w2 hq => fin hq
 ·subst h3
  exact (Mj hC hp h2).mono fun e w2 hq => fin hq
theorem fP (h : CW w c t d p v g a m P) : Calls Tryz.prog 25 #[.pointer (some ⟨p, 0, none⟩)] w fun e w' => e = .returned (.int .i64 P.now) ∧ w = w' := by
 obtain ⟨S, aO, hp, hC, _⟩ := h.mq
 have := nY hp hC.sm.pos
 rw [hC.sm.hd] at this
 exact this
theorem og (h : CW w c t d p v g a m P) {e0 id : Int} {ok : Jb → Bool} {ch : Jb → Jb} {e : Ending} (hp : kC w t v P.J e0 id ok ch e w') : fq w c t d p v g a m (.int .i64 (bM P.J e0 id ok)) { P with J := cu P.J e0 id ok ch } e w' := by
 obtain ⟨rfl, h1, h2⟩ := hp
 obtain ⟨a1, a2⟩ := h.aC h1 h2 (.inl rfl)
 exact ⟨rfl, v, g, a1, a2⟩
theorem CG (h : CW w c t d p v g a m P) (id : Int) : Calls Tryz.prog 141 #[.pointer (some ⟨t, 0, none⟩), .int .i64 id] w (fq w c t d p v g a m (.int .i64 (bM P.J 0 id fun j : Jb => decide (j.state = 1))) { P with J := cu P.J 0 id (fun j : Jb => decide (j.state = 1)) oU }) :=
 (Oe h.fe id).mono fun _ _ hp => og h hp
theorem CJ (h : CW w c t d p v g a m P) (id : Int) : Calls Tryz.prog 143 #[.pointer (some ⟨t, 0, none⟩), .int .i64 id] w (fq w c t d p v g a m (.int .i64 (bM P.J 0 id fun j : Jb => decide (j.state = 2))) { P with J := cu P.J 0 id (fun j : Jb => decide (j.state = 2)) nS }) :=
 (FP h.fe id).mono fun _ _ hp => og h hp
theorem CK (h : CW w c t d p v g a m P) (id x : Int) : Calls Tryz.prog 154 #[.pointer (some ⟨t, 0, none⟩), .int .i64 id, .int .i64 x] w (fq w c t d p v g a m (.int .i64 (bM P.J (gM x) id fun j : Jb => decide (j.state = 1))) { P with J := cu P.J (gM x) id (fun j : Jb => decide (j.state = 1)) (kr x) }) :=
 (Og h.fe id x).mono fun _ _ hp => og h hp
theorem Ju (h : CW w c t d p v g a m P) (hk : PK P) (id x n : Int) : Calls Tryz.prog 179 #[.pointer (some ⟨t, 0, none⟩), .int .i64 id, .int .i64 x, .int .u64 n] w (fq w c t d p v g a m (.int .i64 (bM P.J (fZ x) id fun j : Jb => decide (j.state = 1))) { P with J := cu P.J (fZ x) id (fun j : Jb => decide (j.state = 1)) (kQ x n) }) :=
 (Lx h.fe id x n hk.lim).mono fun _ _ hp => og h hp
theorem si (h : CW w c t d p v g a m P) (hk : PK P) (id s x : Int) : Calls Tryz.prog 139 #[.pointer (some ⟨t, 0, none⟩), .int .i64 id, .int .i64 s, .int .i64 x] w (fq w c t d p v g a m (.int .i64 (bM P.J (bA s x) id (eU s))) { P with J := cu P.J (bA s x) id (eU s) (bO s x) }) :=
 (I5 h.fe id s x hk.st).mono fun _ _ hp => og h hp
theorem oN (h : CW w c t d p v g a m P) (hk : PK P) (r : Rq) : Calls Tryz.prog 137 #[.pointer (some ⟨t, 0, none⟩), .agg (encR r).toArray] w (fq w c t d p v g a m (.tuple #[.int .i64 (kP P.J r), .int .i64 (iL P.J r)]) { P with J := oI P.J r }) :=
 (IY h.fe hk.st hk.few r).mono fun _ _ hp => by
  obtain ⟨rfl, v', h1, h2, h3⟩ := hp
  obtain ⟨a1, a2⟩ := h.aC h1 h2 h3
  exact ⟨rfl, v', g, a1, a2⟩
theorem Ml (h : CW w c t d p v g a m P) (hk : PK P) (n : Int) (hn : -9223372036854775808 ≤ n ∧ n ≤ 9223372036854775807) : Calls Tryz.prog 178 #[.pointer (some ⟨d, 0, none⟩), .int .i64 n] w fun e w' => ∃ (s : Nat) (x : Int) (T' : List Int), oW P.T n s x T' ∧ gU T' ∧ fq w c t d p v g a m (.tuple #[.int .u64 s, .int .i64 x]) { P with T := T' } e w' :=
 (Ma n hn h.nodes hk.qG).mono fun _ _ hp => by
  obtain ⟨ho, s, x, l', rfl, h1, h2, h3, h4⟩ := hp
  obtain ⟨a1, a2⟩ := h.node h2 ho
  exact ⟨s, x, l', h1, h3, rfl, v, g, a1, a2⟩
theorem CL (h : CW w c t d p v g a m P) (hk : PK P) (u : Nat) (hu : u < 18446744073709551616) : Calls Tryz.prog 164 #[.pointer (some ⟨d, 0, none⟩), .int .u64 u] w fun e w' => ∃ (n x : Int) (T' : List Int), Ag P.T u n x T' ∧ gU T' ∧ fq w c t d p v g a m (.tuple #[.int .i64 n, .int .i64 x]) { P with T := T' } e w' :=
 (Mc u hu h.nodes hk.qG).mono fun _ _ hp => by
  obtain ⟨ho, n, x, l', rfl, h1, h2, h3, h4⟩ := hp
  obtain ⟨a1, a2⟩ := h.node h2 ho
  exact ⟨n, x, l', h1, h3, rfl, v, g, a1, a2⟩
theorem Jv (h : CW w c t d p v g a m P) (hk : PK P) (n : Int) (hn : -9223372036854775808 ≤ n ∧ n ≤ 9223372036854775807) : Calls Tryz.prog 165 #[.pointer (some ⟨d, 0, none⟩), .int .i64 n] w fun e w' => ∃ (x : Int) (T' : List Int), lT P.T n true x T' ∧ gU T' ∧ fq w c t d p v g a m (.int .i64 x) { P with T := T' } e w' :=
 (Jh n hn h.nodes hk.qG).mono fun _ _ hp => by
  obtain ⟨ho, x, l', rfl, h1, h2, h3, h4⟩ := hp
  obtain ⟨a1, a2⟩ := h.node h2 ho
  exact ⟨x, l', h1, h3, rfl, v, g, a1, a2⟩
theorem Gp (h : CW w c t d p v g a m P) (hk : PK P) (n : Int) (hn : -9223372036854775808 ≤ n ∧ n ≤ 9223372036854775807) : Calls Tryz.prog 146 #[.pointer (some ⟨d, 0, none⟩), .int .i64 n] w fun e w' => ∃ (x : Int) (T' : List Int), lT P.T n false x T' ∧ gU T' ∧ fq w c t d p v g a m (.int .i64 x) { P with T := T' } e w' :=
 (F7 n hn h.nodes hk.qG).mono fun _ _ hp => by
  obtain ⟨ho, x, l', rfl, h1, h2, h3, h4⟩ := hp
  obtain ⟨a1, a2⟩ := h.node h2 ho
  exact ⟨x, l', h1, h3, rfl, v, g, a1, a2⟩
end
end Go.Proofs.YtnihdgcfamoplaaGreat

namespace Go.Proofs.YtnihdgcfamoplaaGreat
open Go.RowKit Go.Lib
def dA (M : Md) : List Int := (List.range M.dr.length).map fun k : Nat => aU M (k : Int)
def ak (M : Md) : Pg := ⟨M.now, M.L, dA M, fun t => az M t 0, M.cl⟩
section
variable {M : Md}
theorem bB : (dA M).length = M.dr.length := by simp [dA]
theorem dm (i : Nat) : (dA M).getD i 0 = aU M (i : Int) := by
 by_cases h : i < M.dr.length
 ·simp [dA, List.getD_eq_getElem?_getD, h]
 ·rw [gY h]
  simp [dA, List.getD_eq_getElem?_getD, h]
theorem BC {n : Nat} (hn : n < M.dr.length) : 1 ≤ aU M n ∧ aU M n ≤ 4 := by
 rw [eQ hn]
 split <;> split <;> omega
theorem oh {l l' : List Int} (h1 : l.length = l'.length) (h2 : ∀ i, i < l.length → l.getD i 0 = l'.getD i 0) : l = l' := by
 refine List.ext_getElem h1 fun i a b => ?_
 have := h2 i a
 simpa [List.getD_eq_getElem?_getD, a, b] using this
theorem Ex {M' : Md} {l : List Int} (h1 : l.length = M'.dr.length) (h2 : ∀ i, i < l.length → l.getD i 0 = aU M' (i : Int)) : l = dA M' :=
 oh (by rw [bB, h1]) fun i hi => by rw [h2 i hi, dm]
theorem Gq (h : aG M) (h1 : 1 ≤ M.dr.length) : gU (dA M) :=
 ⟨by rw [bB]; exact h1, by rw [bB]; exact h.mb.nn, fun i hi => by rw [dm]; exact BC (by rw [bB] at hi; exact hi)⟩
theorem fC (h : aG M) (h1 : 1 ≤ M.dr.length) (h2 : M.L.length ≤ 900) : PK (ak M) :=
 ⟨h.mb.now, h2, fun j hj => ⟨(h.one j hj).2.2.2.1, (h.one j hj).2.2.2.2⟩, fun j hj => ⟨(h.one j hj).2.2.1, (h.mb.lim j hj).2⟩, Gq h h1, fun t ht => ⟨h.free t ht, by have := zF h t; have := h.mb.nn; show az M t 0 ≤ 64; omega⟩⟩
theorem tC (i : Nat) : gT (dA M) i = decide (aU M (i : Int) = 1) := by unfold gT; rw [dm]
theorem qH (f : Nat → Bool) (k : Nat) : aQ f k = (List.range k).countP f := by
 induction k with
 | zero => rfl
 | succ k ih =>
  rw [List.range_succ, List.countP_append, List.countP_cons, List.countP_nil, ← ih]
  simp only [aQ]
  split <;> simp_all
theorem Ey (wid : Int) (hw : 0 ≤ wid) (k : Nat) : (lowGo M wid k).2 = min (aQ (gT (dA M)) k : Int) wid := by
 induction k with
 | zero => show (0 : Int) = min (0 : Int) wid; omega
 | succ k ih =>
  have e := tC (M := M) k
  simp only [lowGo]
  by_cases h1 : aU M (k : Int) = 1
  ·rw [decide_eq_true h1] at e
   have hc : aQ (gT (dA M)) (k + 1) = aQ (gT (dA M)) k + 1 := by simp [aQ, e]
   by_cases h2 : (lowGo M wid k).2 < wid
   ·rw [if_pos ⟨h2, h1⟩]
    show (lowGo M wid k).2 + 1 = _
    omega
   ·rw [if_neg (fun h => h2 h.1)]
    omega
  ·rw [decide_eq_false h1] at e
   have hc : aQ (gT (dA M)) (k + 1) = aQ (gT (dA M)) k := by simp [aQ, e]
   rw [if_neg (fun h => h1 h.2), hc]
   exact ih
theorem Aw (wid : Int) (hw : 0 ≤ wid) (k n : Nat) : cO (lowGo M wid k).1 n = (decide (n < k) && gV (dA M) wid n) := by
 induction k with
 | zero => simp [lowGo, cO]
 | succ k ih =>
  have hcond : ((lowGo M wid k).2 < wid ∧ aU M (k : Int) = 1) ↔ gV (dA M) wid k = true := by
   unfold gV
   rw [tC, Ey wid hw k]
   simp only [Bool.and_eq_true, decide_eq_true_eq]
   constructor
   ·rintro ⟨h1, h2⟩
    exact ⟨h2, by omega⟩
   ·rintro ⟨h1, h2⟩
    exact ⟨by omega, h1⟩
  simp only [lowGo]
  by_cases h : (lowGo M wid k).2 < wid ∧ aU M (k : Int) = 1
  ·rw [if_pos h]
   show cO ((lowGo M wid k).1 + 2 ^ k) n = _
   rw [sP (mZ M wid k).1, ih]
   have ht := hcond.1 h
   by_cases e : n = k
   ·subst e; simp [ht]
   ·have e2 : (n < k + 1) ↔ (n < k) := by omega
    simp [e, e2]
  ·rw [if_neg h, ih]
   have ht : gV (dA M) wid k = false := by rw [← Bool.not_eq_true]; exact fun h2 => h (hcond.2 h2)
   by_cases e : n = k
   ·subst e; simp [ht]
   ·have e2 : (n < k + 1) ↔ (n < k) := by omega
    simp [e2]
theorem Jw (wid : Int) (hw : 0 ≤ wid) (hn : M.dr.length ≤ 64) : aP (gV (dA M) wid) = iy M wid := by
 refine jY (Nat.lt_of_lt_of_le (mZ M wid M.dr.length).1 (Nat.pow_le_pow_right (show 0 < 2 by decide) hn)) fun i hi => ?_
 rw [← kv]
 unfold iy
 rw [Aw wid hw]
 by_cases h : i < M.dr.length
 ·simp [h]
 ·have : gV (dA M) wid i = false := by
   unfold gV
   rw [tC, gY h]
   simp
  simp [h, this]
theorem Jy {i : Nat} (hi : i < M.L.length) (hst : (M.L.getD i default).st ≠ 3) (hn : M.dr.length ≤ 64) (hw : 1 ≤ (M.L.getD i default).wid)
  (hidle : (M.L.getD i default).wid ≤ ((List.range M.dr.length).countP fun n : Nat => decide (aU M n = 1) : Nat)) {s : Nat} {x : Int} {T' : List Int} (h : oW (dA M) (M.L.getD i default).wid s x T') :
  s = iy M (M.L.getD i default).wid ∧ x = 0 ∧ T' = dA (aV M i) := by
 have hc : (M.L.getD i default).wid ≤ aQ (gT (dA M)) (dA M).length := by
  rw [qH, bB]
  have e : gT (dA M) = fun n : Nat => decide (aU M n = 1) := funext tC
  rw [e]; exact hidle
 obtain ⟨h1, h2, h3⟩ := h.good hw hc
 refine ⟨by rw [h1]; exact Jw _ (by omega) hn, h2, ?_⟩
 rw [h3]
 have hl : (eY (dA M) (M.L.getD i default).wid).length = M.dr.length := by unfold eY; rw [List.length_mapIdx, bB]
 refine Ex (by rw [hl]; rfl) fun k hk => ?_
 rw [hl] at hk
 unfold eY
 rw [jM, if_pos (by rw [bB]; exact hk), dm, Bn hi hst]
 have hb : cO (iy M (M.L.getD i default).wid) k = gV (dA M) (M.L.getD i default).wid k := by
  unfold iy
  rw [Aw _ (by omega)]
  simp [hk]
 rw [hb]
theorem CO (h : aG M) {i : Nat} {y : Jb} (hi : i < M.L.length) (hst : (M.L.getD i default).st = 3) (hy : y.st ≠ 3) {n x : Int} {T' : List Int} (hg : Ag (dA M) (M.L.getD i default).bN.toNat n x T') :
  n = ((List.range M.dr.length).countP (fun k => cO (M.L.getD i default).bN.toNat k && !(M.dr.getD k false)) : Nat) ∧ x = 0 ∧ T' = dA { M with L := M.L.set i y } := by
 have hmem := bg hi
 have hlt := (h.runs _ hmem hst).2.2
 have hold : ∀ k : Nat, cO (M.L.getD i default).bN.toNat k = true → k < M.dr.length ∧ holderL M.L k = i := fun k hk => by
  refine ⟨?_, uh h.kL hi (by unfold aK; simp [hst, hk, -List.getD_eq_getElem?_getD])⟩
  rcases Nat.lt_or_ge k M.dr.length with h1 | h1
  ·exact h1
  ·rw [Cg hlt h1] at hk; cases hk
 have OU : ∀ k : Nat, cO (M.L.getD i default).bN.toNat k = true → aU M k = if M.dr.getD k false = true then 3 else 2 := fun k hk => by
  obtain ⟨h1, h2⟩ := hold k hk
  rw [eQ h1, if_pos (by rw [h2]; omega)]
 have hin : BA (dA M) (M.L.getD i default).bN.toNat 2 3 64 := fun k _ hk => by
  rw [← kv] at hk
  refine ⟨by rw [bB]; exact (hold k hk).1, ?_⟩
  rw [dm, OU k hk]
  split
  ·exact .inr rfl
  ·exact .inl rfl
 obtain ⟨h1, h2, h3⟩ := hg.good hin
 refine ⟨?_, h2, ?_⟩
 ·rw [h1]
  unfold nW
  rw [bB]
  congr 1
  refine List.countP_congr fun k _ => ?_
  rw [← kv, dm]
  cases hk : cO (M.L.getD i default).bN.toNat k with
  | false => simp
  | true =>
   rw [OU k hk]
   cases M.dr.getD k false <;> simp
 ·rw [h3]
  refine Ex (by rw [List.length_mapIdx, bB]) fun k hk => ?_
  rw [List.length_mapIdx] at hk
  have hkl : k < M.dr.length := by rw [bB] at hk; exact hk
  rw [jM, if_pos hk, dm, Fy h.kL hi hst hy]
  unfold nU
  rw [← kv]
  cases hh : cO (M.L.getD i default).bN.toNat k with
  | false => simp
  | true =>
   rw [OU k hh]
   cases M.dr.getD k false <;> simp [hkl]
theorem Gs {k : Nat} (hk : k < M.dr.length) {b : Bool} (hb : M.dr.getD k false = !b) {x : Int} {T' : List Int} (h : lT (dA M) (k : Int) b x T') : x = 0 ∧ T' = dA { M with dr := M.dr.set k b } := by
 have hd : b = decide ((dA M).getD (k : Int).toNat 0 < 3) := by
  rw [Int.toNat_natCast, dm, eQ hk, hb]
  cases b <;> (by_cases h1 : 0 ≤ holderL M.L k <;> simp [h1])
 obtain ⟨h1, h2⟩ := h.good (by omega) (by rw [bB]; omega) hd
 refine ⟨h1, ?_⟩
 rw [h2, Int.toNat_natCast, dm]
 refine Ex (by rw [List.length_set, bB, List.length_set]) fun q hq => ?_
 rw [List.length_set] at hq
 rw [kT, dm, Bo hk, eQ hk, hb]
 by_cases e : q = k
 ·subst e
  rw [if_pos ⟨rfl, hq⟩, if_pos rfl]
  unfold jP
  cases b <;> (by_cases h1 : 0 ≤ holderL M.L q <;> simp [h1])
 ·rw [if_neg (fun h => e h.1), if_neg e]
end
end Go.Proofs.YtnihdgcfamoplaaGreat

namespace Go.Proofs.YtnihdgcfamoplaaGreat
open Go.RowKit Go.Lib
open Go.ChangeShapes Go.WideShapes Go.ChangeAt Go.Deep
structure Ry where
 err : Int
 id : Int
 state : Int
 start : Int
 stop : Int
 plan : Int
 a : Int
 b : Int
 c : Int
deriving DecidableEq
def bU (r : Ry) : List Value := [.int .i64 r.err, .int .i64 r.id, .int .i64 r.state, .int .i64 r.start, .int .i64 r.stop, .int .i64 r.plan, .int .i64 r.a, .int .i64 r.b, .int .i64 r.c]
theorem uO : ∀ w, Sem.run Tryz.prog (Go.sizeOf 39) w = .ok 9 w := Tryz.sizeOf39
theorem jd (r : Ry) : (bU r).length = 9 := rfl
theorem xh (r : Ry) : ∀ v ∈ bU r, v.oneCell' = true := by
 intro v hv
 simp [bU] at hv
 rcases hv with rfl | rfl | rfl | rfl | rfl | rfl | rfl | rfl | rfl <;> rfl
section
end
end Go.Proofs.YtnihdgcfamoplaaGreat

namespace Go.Proofs.YtnihdgcfamoplaaGreat
open Go.RowKit
end Go.Proofs.YtnihdgcfamoplaaGreat

namespace Go.Proofs.YtnihdgcfamoplaaGreat
open Go.RowKit
structure Only (b : Nat) (w w' : World) : Prop where
 os : w'.os = w.os
 tape : w'.tape = w.tape
 output : w'.output = w.output
 size : w'.heap.size = w.heap.size
 block : ∀ k : Nat, k ≠ b → w'.heap[k]? = w.heap[k]?
theorem Only.setCell (b off : Nat) (w : World) (v : Value) : Only b w (w.setCell ⟨b, off, none⟩ v) :=
 ⟨rfl, rfl, rfl, by simp [World.setCell], fun k hk => Below.heap_setCell _ _ _ _ hk⟩
theorem Only.below {b B : Nat} {w w' : World} (h : Only b w w') (hB : B ≤ b) : Below B w w' :=
 ⟨h.os, h.tape, h.output, Nat.le_of_eq h.size.symm, fun k hk => h.block k (by omega)⟩
end Go.Proofs.YtnihdgcfamoplaaGreat

namespace Go.Proofs.YtnihdgcfamoplaaGreat
open Go.RowKit
def Ay : Ry := ⟨0, 0, 0, 0, 0, 0, 0, 0, 0⟩
end Go.Proofs.YtnihdgcfamoplaaGreat

namespace Go.Proofs.YtnihdgcfamoplaaGreat
open Go.RowKit
def iG (j : Jb) : Ry := ⟨0, j.1, j.2.2.2.2.2.1, j.2.2.2.2.2.2.1, j.2.2.2.2.2.2.2.1, j.2.2.2.2.2.2.2.2.1, j.2.2.1, j.2.2.2.2.1, 0⟩
end Go.Proofs.YtnihdgcfamoplaaGreat

namespace Go.Proofs.YtnihdgcfamoplaaGreat
open Go.RowKit Go.Lib
section
variable {w : World}
theorem xk (a b c : Int) (w : World) : Calls Tryz.prog 115 #[.int .i64 a, .int .i64 b, .int .i64 c] w fun e w' => e = .returned (.agg (bU ⟨0, 0, 0, 0, 0, 0, a, b, c⟩).toArray) ∧ Below w.heap.size w w' := by
 simp only [bU]
 go_enter Tryz.func115, Tryz.ntmps115
 go_wp2_with fail
 (try simp only [Exit.inBlock, Exit.then])
 refine fB rfl rfl rfl (heap_alloc_new w _) Tryz.underlying39 rfl (by kernel_rfl) ⟨rfl, ?_⟩
 exact (Below.refl _ _).alloc (Nat.le_refl _) _
theorem Gt (q : Int) (w : World) : Calls Tryz.prog 47 #[.int .i64 q] w fun e w' => e = .returned (.agg (bU ⟨q, 0, 0, 0, 0, 0, 0, 0, 0⟩).toArray) ∧ Below w.heap.size w w' := by
 simp only [bU]
 go_enter Tryz.func47, Tryz.ntmps47
 go_wp2_with fail
 (try simp only [Exit.inBlock, Exit.then])
 refine fB rfl rfl rfl (heap_alloc_new w _) Tryz.underlying39 rfl (by kernel_rfl) ⟨rfl, ?_⟩
 exact (Below.refl _ _).alloc (Nat.le_refl _) _
theorem Mm (j : Jb) (w : World) : Calls Tryz.prog 155 #[.agg (ag j).toArray] w fun e w' => e = .returned (.tuple #[.int .i64 j.2.2.1, .int .i64 j.2.2.2.2.1, .int .i64 0]) ∧ Below w.heap.size w w' := by
 obtain ⟨x1, x2, x3, x4, x5, x6, x7, x8, x9, x0⟩ := j
 simp only [ag]
 obtain ⟨wB, yN⟩ : ∃ wB, wB = w.alloc (.cells #[.int .i64 x1, .int .i64 x2, .int .i64 x3, .int .i64 x4, .int .i64 x5, .int .i64 x6, .int .i64 x7, .int .i64 x8, .int .i64 x9, .int .u64 x0] 63) := ⟨_, rfl⟩
 have hb1 : Hid (Below w.heap.size w wB) := by show Below _ _ _; rw [yN]; exact (Below.refl _ _).alloc (Nat.le_refl _) _
 have hA : wB.heap[w.heap.size]? = some (.cells #[.int .i64 x1, .int .i64 x2, .int .i64 x3, .int .i64 x4, .int .i64 x5, .int .i64 x6, .int .i64 x7, .int .i64 x8, .int .i64 x9, .int .u64 x0] 63 (0, 0)) := by rw [yN]; exact heap_alloc_new w _
 have c2 : wB.cell? ⟨w.heap.size, 2, none⟩ = some (.int .i64 x3) := by simp [World.cell?, hA]
 have c4 : wB.cell? ⟨w.heap.size, 4, none⟩ = some (.int .i64 x5) := by simp [World.cell?, hA]
 clear hA
 go_enter Tryz.func155, Tryz.ntmps155
 go_wp2_with fail
 rw [← yN]
 replace yN := Lib.hid yN
 go_region
 go_wp2_with fail
 go_ret3
 exact ⟨rfl, hb1.out.drew⟩
end
end Go.Proofs.YtnihdgcfamoplaaGreat

namespace Go.Proofs.YtnihdgcfamoplaaGreat
open Go.RowKit Go.Lib
def iH (w : World) (b : Nat) (r : Ry) : Prop := w.heap[b]? = some (.cells (bU r).toArray 39 (0, 0))
theorem iH.at {w : World} {b : Nat} {r : Ry} (h : iH w b r) (j : Nat) (u : Value) (hj : (bU r)[j]? = some u) : w.cell? ⟨b, j, none⟩ = some u := by
 simp [World.cell?, show w.heap[b]? = _ from h, hj]
theorem iH.free {w : World} {b : Nat} {r : Ry} (h : iH w b r) (j : Nat) : w.frozen? ⟨b, j, none⟩ = false := by simp [World.frozen?, show w.heap[b]? = _ from h]
theorem iH.below {w w' : World} {b B : Nat} {r : Ry} (h : iH w b r) (hb : Below B w w') (hB : b < B) : iH w' b r := (hb.block b hB).trans h
theorem iH.store {w : World} {b : Nat} {r : Ry} (h : iH w b r) (x : Ry) : Sem.run Tryz.prog (storeCells ⟨b, 0, none⟩ (bU x) 0) w = .ok () (w.setRow b (bU x).toArray) ∧ iH (w.setRow b (bU x).toArray) b x := by
 refine ⟨?_, setRow_heap w b _ _ _ _ h⟩
 have hst := run_storeCells_at Tryz.prog b 0 39 (bU x) 0 (bU r).toArray w h (by simp [bU]) (xh x)
 simp only [Nat.add_zero] at hst
 rw [hst]
 rfl
theorem iH.put {w : World} {b : Nat} {r r' : Ry} (h : iH w b r) (j : Nat) (v : Value) (he : (bU r).toArray.setIfInBounds j v = (bU r').toArray) : iH (w.setCell ⟨b, j, none⟩ v) b r' := by
 have := heap_put (i := j) h v
 rw [he] at this
 exact this
theorem iH.other {w : World} {b g j : Nat} {v : Value} {r : Ry} (h : iH w b r) (hg : b ≠ g) : iH (w.setCell ⟨g, j, none⟩ v) b r := (Below.heap_setCell _ _ _ _ hg).trans h
theorem sj {B g : Nat} {w0 w : World} (hb : Below B w0 w) (hBg : B ≤ g) (j : Nat) (u : Value) : Below B w0 (w.setCell ⟨g, j, none⟩ u) := hb.trans ((Only.setCell g j w u).below hBg)
theorem qa {B g : Nat} {w0 w : World} (hb : Below B w0 w) (hBg : B ≤ g) (cs : Array Value) : Below B w0 (w.setRow g cs) := hb.trans ((⟨rfl, rfl, rfl, by simp, fun k hk => setRow_other w g k _ hk⟩ : Only g w (w.setRow g cs)).below hBg)
theorem Gu {w : World} {b : Nat} {x3 x5 : Int} (h : iH w b ⟨0, 0, 0, 0, 0, 0, x3, x5, 0⟩) (x1 x6 x7 x8 x9 : Int) : iH (((((w.setCell ⟨b, 1, none⟩ (.int .i64 x1)).setCell ⟨b, 2, none⟩ (.int .i64 x6)).setCell ⟨b, 3, none⟩ (.int .i64 x7)).setCell ⟨b, 4, none⟩ (.int .i64 x8)).setCell ⟨b, 5, none⟩ (.int .i64 x9)).drew b ⟨0, x1, x6, x7, x8, x9, x3, x5, 0⟩ := by
 have h1 : iH (w.setCell ⟨b, 1, none⟩ (.int .i64 x1)) b ⟨0, x1, 0, 0, 0, 0, x3, x5, 0⟩ := h.put 1 _ rfl
 have h2 : iH ((w.setCell ⟨b, 1, none⟩ (.int .i64 x1)).setCell ⟨b, 2, none⟩ (.int .i64 x6)) b ⟨0, x1, x6, 0, 0, 0, x3, x5, 0⟩ := h1.put 2 _ rfl
 clear h h1
 generalize (w.setCell ⟨b, 1, none⟩ (.int .i64 x1)).setCell ⟨b, 2, none⟩ (.int .i64 x6) = W at *
 have h3 : iH (W.setCell ⟨b, 3, none⟩ (.int .i64 x7)) b ⟨0, x1, x6, x7, 0, 0, x3, x5, 0⟩ := h2.put 3 _ rfl
 have h4 : iH ((W.setCell ⟨b, 3, none⟩ (.int .i64 x7)).setCell ⟨b, 4, none⟩ (.int .i64 x8)) b ⟨0, x1, x6, x7, x8, 0, x3, x5, 0⟩ := h3.put 4 _ rfl
 clear h2 h3
 generalize (W.setCell ⟨b, 3, none⟩ (.int .i64 x7)).setCell ⟨b, 4, none⟩ (.int .i64 x8) = V at *
 exact h4.put 5 _ rfl
theorem QU (j : Jb) (w : World) : Calls Tryz.prog 134 #[.agg (ag j).toArray] w fun e w' => e = .returned (.agg (bU (iG j)).toArray) ∧ Below w.heap.size w w' := by
 have hw := fun W => Mm j W
 have ht := fun W => xk j.2.2.1 j.2.2.2.2.1 0 W
 have lJ := ax j
 have zJ := bG
 obtain ⟨k10, hk10⟩ : ∃ k, k = 10 := ⟨_, rfl⟩
 rw [← hk10] at lJ zJ
 replace hk10 := Lib.hid hk10
 obtain ⟨wA, aB⟩ : ∃ wA, wA = (w.alloc (.cells (ag j).toArray 63)).alloc (.cells (bU Ay).toArray 39) := ⟨_, rfl⟩
 have bC : Hid (Below w.heap.size w wA) := by show Below _ _ _; rw [aB]; exact ((Below.refl _ _).alloc (Nat.le_refl _) _).alloc (by simp) _
 have hsA : wA.heap.size = w.heap.size + 2 := by rw [aB]; simp
 have kG : wA.heap[w.heap.size]? = some (.cells (ag j).toArray 63 (0, 0)) := by rw [aB]; exact bP (heap_alloc_new w _)
 have ic : iH wA (w.heap.size + 1) Ay := by rw [aB]; exact heap_alloc2_new w _ _
 have ld := pE (k := k10) kG lJ
 rw [aB] at ld
 replace hsA := Lib.hid hsA
 obtain ⟨x1, x2, x3, x4, x5, x6, x7, x8, x9, x0⟩ := j
 simp only [ag, bU, Ay, iG] at *
 go_enter Tryz.func134, Tryz.ntmps134
 go_wp2_with fail
 go_at_call 155
 refine (hw _).mono ?_
 rw [← aB]
 rintro e w1 ⟨rfl, hb1⟩
 clear hw ld
 go_wp2_with fail
 go_at_call 115
 refine (ht _).mono ?_
 rintro e w2 ⟨rfl, hb2⟩
 clear ht
 obtain ⟨w3, hw3⟩ : ∃ w3, w3 = w2.alloc (.cells #[.int .i64 0, .int .i64 0, .int .i64 0, .int .i64 0, .int .i64 0, .int .i64 0, .int .i64 x3, .int .i64 x5, .int .i64 0] 39) := ⟨_, rfl⟩
 have hb3 : Below wA.heap.size wA w3 := by rw [hw3]; exact (hb1.trans (hb2.mono hb1.size)).alloc (by have := hb1.size; have := hb2.size; omega) _
 have hJ3 : w3.heap[w.heap.size]? = some (.cells (ag (x1, x2, x3, x4, x5, x6, x7, x8, x9, x0)).toArray 63 (0, 0)) := (hb3.block _ (ay kG)).trans kG
 have Mo : iH w3 (w.heap.size + 1) Ay := ic.below hb3 (ay ic)
 have tX : iH w3 w2.heap.size ⟨0, 0, 0, 0, 0, 0, x3, x5, 0⟩ := by rw [hw3]; exact heap_alloc_new w2 _
 have hs2 : Hid (wA.heap.size ≤ w2.heap.size) := by show _ ≤ _; have := hb1.size; have := hb2.size; omega
 have j0 : w3.cell? ⟨w.heap.size, 0, none⟩ = some (.int .i64 x1) := by simp [World.cell?, hJ3, ag]
 have j5 : w3.cell? ⟨w.heap.size, 5, none⟩ = some (.int .i64 x6) := by simp [World.cell?, hJ3, ag]
 have j6 : w3.cell? ⟨w.heap.size, 6, none⟩ = some (.int .i64 x7) := by simp [World.cell?, hJ3, ag]
 have j7 : w3.cell? ⟨w.heap.size, 7, none⟩ = some (.int .i64 x8) := by simp [World.cell?, hJ3, ag]
 have j8 : w3.cell? ⟨w.heap.size, 8, none⟩ = some (.int .i64 x9) := by simp [World.cell?, hJ3, ag]
 have t1 := tX.at 1 (.int .i64 0) rfl
 have t2 := tX.at 2 (.int .i64 0) rfl
 have t3 := tX.at 3 (.int .i64 0) rfl
 have t4 := tX.at 4 (.int .i64 0) rfl
 have t5 := tX.at 5 (.int .i64 0) rfl
 have f1 := tX.free 1
 have f2 := tX.free 2
 have f3 := tX.free 3
 have f4 := tX.free 4
 have f5 := tX.free 5
 have hne : ¬ w.heap.size = w2.heap.size := by have := ay kG; have := hs2.out; omega
 replace hJ3 := Lib.hid hJ3
 replace Mo := Lib.hid Mo
 replace tX := Lib.hid tX
 replace hb3 := Lib.hid hb3
 clear hb1 hb2 kG ic
 go_wp2_with fail
 rw [← hw3]
 replace hw3 := Lib.hid hw3
 replace aB := Lib.hid aB
 go_region
 obtain ⟨w6, vK⟩ : ∃ w6, w6 = (((((w3.setCell ⟨w2.heap.size, 1, none⟩ (.int .i64 x1)).setCell ⟨w2.heap.size, 2, none⟩ (.int .i64 x6)).setCell ⟨w2.heap.size, 3, none⟩ (.int .i64 x7)).setCell ⟨w2.heap.size, 4, none⟩ (.int .i64 x8)).setCell ⟨w2.heap.size, 5, none⟩ (.int .i64 x9)).drew := ⟨_, rfl⟩
 have hs3 : w.heap.size + 2 ≤ w2.heap.size := by have := hs2.out; have := hsA.out; omega
 have yL : iH w6 w2.heap.size ⟨0, x1, x6, x7, x8, x9, x3, x5, 0⟩ := by
  rw [vK]
  exact Gu tX.out x1 x6 x7 x8 x9
 have LA : iH w6 (w.heap.size + 1) Ay := by
  rw [vK]
  exact ((((Mo.out.other (by omega)).other (by omega)).other (by omega)).other (by omega)).other (by omega)
 have hb6 : Hid (Below w.heap.size w w6) := by
  show Below _ _ _
  rw [vK]
  exact (sj (sj (sj (sj (sj (bC.out.trans (hb3.out.mono (by have := hsA.out; omega))) (by omega) 1 _) (by omega) 2 _) (by omega) 3 _) (by omega) 4 _) (by omega) 5 _).drew
 rw [← vK]
 clear vK
 have zR := uO
 obtain ⟨k9, bW⟩ : ∃ k, k = 9 := ⟨_, rfl⟩
 rw [← bW] at zR
 replace bW := Lib.hid bW
 have ld := pE (k := k9) yL (by rw [bW.out]; rfl)
 obtain ⟨hst, Un⟩ := LA.store ⟨0, x1, x6, x7, x8, x9, x3, x5, 0⟩
 have lq : Hid (Below w.heap.size w (w6.setRow (w.heap.size + 1) (bU ⟨0, x1, x6, x7, x8, x9, x3, x5, 0⟩).toArray)) := qa hb6.out (by omega) _
 have WI : (bU ⟨0, x1, x6, x7, x8, x9, x3, x5, 0⟩).length = k9 := by rw [bW.out]; rfl
 have Vp : Hid (#[.int .i64 0, .int .i64 x1, .int .i64 x6, .int .i64 x7, .int .i64 x8, .int .i64 x9, .int .i64 x3, .int .i64 x5, .int .i64 0] = (bU ⟨0, x1, x6, x7, x8, x9, x3, x5, 0⟩).toArray) := rfl
 have Uo : Hid ((w6.setRow (w.heap.size + 1) (bU ⟨0, x1, x6, x7, x8, x9, x3, x5, 0⟩).toArray).heap[w.heap.size + 1]? = some (.cells (bU ⟨0, x1, x6, x7, x8, x9, x3, x5, 0⟩).toArray 39 (0, 0))) := Un
 clear LA yL Un
 have Vq := Lib.hid (jd ⟨0, x1, x6, x7, x8, x9, x3, x5, 0⟩)
 generalize bU ⟨0, x1, x6, x7, x8, x9, x3, x5, 0⟩ = cY at *
 go_wp2_with fail
 (try simp only [Exit.inBlock, Exit.then])
 refine fB rfl rfl rfl Uo.out Tryz.underlying39 rfl ?_ ⟨by rw [Vp.out], lq.out⟩
 rw [List.size_toArray, Vq.out]
 kernel_rfl
end Go.Proofs.YtnihdgcfamoplaaGreat

namespace Go.Proofs.YtnihdgcfamoplaaGreat
open Go.RowKit Go.Lib Go.Sort
structure Wk where
 ah : Rq
 kH : Int
 dR : Int
 left : Value
 aC : Jb
 idle : Int
 target : Int
 rep : Ry
 ok : Bool
def gm (R : Wk) : List Value := encR R.ah ++ ([.int .i64 R.kH, .int .i64 R.dR, R.left] ++ (ag R.aC ++ ([.int .i64 R.idle, .int .i64 R.target] ++ (bU R.rep ++ [.bool R.ok]))))
def Sz : Rq := ⟨0, 0, 0, 0, 0, 0, false, 0, 0⟩
def gW : Jb := (0, 0, 0, 0, 0, 0, 0, 0, 0, 0)
def mY : Ry := ⟨0, 0, 0, 0, 0, 0, 0, 0, 0⟩
def bY (w : World) (b : Nat) (R : Wk) : Prop := w.heap[b]? = some (.cells (gm R).toArray 124 (0, 0))
section
variable {w w' w1 w2 : World} {b c t d p g a g' g1 g2 a' : Nat} {v v' v1 v2 : Value} {m m' : Int} {P P' : Pg} {R R' : Wk}
theorem CP (R : Wk) : (gm R).length = 34 := rfl
theorem bY.lt (h : bY w b R) : b < w.heap.size := ay h
theorem bY.at (h : bY w b R) (j : Nat) (u : Value) (hj : (gm R)[j]? = some u) : w.cell? ⟨b, j, none⟩ = some u := by
 simp [World.cell?, show w.heap[b]? = _ from h, hj]
theorem bY.free (h : bY w b R) (j : Nat) : w.frozen? ⟨b, j, none⟩ = false := by simp [World.frozen?, show w.heap[b]? = _ from h]
theorem bY.put (h : bY w b R) (j : Nat) (u : Value) (he : (gm R).set j u = gm R') : bY (w.setCell ⟨b, j, none⟩ u) b R' := by
 refine (heap_put h u).trans ?_
 rw [xA, he]
theorem bY.left (h : bY w b R) (u : Value) : bY (w.setCell ⟨b, 11, none⟩ u) b { R with left := u } := h.put 11 u rfl
theorem bY.idle (h : bY w b R) (n : Int) : bY (w.setCell ⟨b, 22, none⟩ (.int .i64 n)) b { R with idle := n } := h.put 22 _ rfl
theorem bY.target (h : bY w b R) (n : Int) : bY (w.setCell ⟨b, 23, none⟩ (.int .i64 n)) b { R with target := n } := h.put 23 _ rfl
theorem bY.Rp (h : bY w b R) (x : Bool) : bY (w.setCell ⟨b, 33, none⟩ (.bool x)) b { R with ok := x } := h.put 33 _ rfl
theorem bY.plan (h : bY w b R) (n : Int) : bY (w.setCell ⟨b, 20, none⟩ (.int .i64 n)) b { R with aC := R.aC.aI n } := h.put 20 _ rfl
theorem vO {w : World} {g : Nat} {cs : Array Value} {t : TypeId} {fr : Nat × Nat} (h : w.heap[g]? = some (.cells cs t fr)) (cs' : Array Value) : (w.setRow g cs').heap[g]? = some (.cells cs' t fr) := by
 simp [World.setRow, Array.getElem?_modify, h]
theorem bY.Ez (h : bY w b R) (x : Ry) : Sem.run Tryz.prog (storeCells ⟨b, 24, none⟩ (bU x) 0) w = .ok () (w.setRow b (gm { R with rep := x }).toArray) ∧ bY (w.setRow b (gm { R with rep := x }).toArray) b { R with rep := x } := by
 have hst := run_storeCells_at Tryz.prog b 24 124 (bU x) 0 (gm R).toArray w h (by simp [CP, jd]) (xh x)
 refine ⟨hst.trans ?_, vO h _⟩
 congr 3
theorem bY.su (h : bY w b R) (x : Jb) : Sem.run Tryz.prog (storeCells ⟨b, 12, none⟩ (ag x) 0) w = .ok () (w.setRow b (gm { R with aC := x }).toArray) ∧ bY (w.setRow b (gm { R with aC := x }).toArray) b { R with aC := x } := by
 have hst := run_storeCells_at Tryz.prog b 12 124 (ag x) 0 (gm R).toArray w h (by simp [CP, ax]) (dJ x)
 refine ⟨hst.trans ?_, vO h _⟩
 congr 3
theorem vP {w : World} {g off k : Nat} {all cs : List Value} {t : TypeId} (h : w.heap[g]? = some (.cells all.toArray t (0, 0))) (hk : cs.length = k) (hc : ∀ j u, cs[j]? = some u → all[off + j]? = some u) :
  Sem.run Tryz.prog (loadCellsFrom ⟨g, off, none⟩ 0 k #[]) w = .ok cs.toArray w :=
 run_loadCellsFrom_list Tryz.prog w _ _ k hk fun j u hj => by
  rw [Go.WideShapes.add_plain]
  have := hc j u hj
  simp [World.cell?, h, this]
theorem bY.mr (h : bY w b R) {k : Nat} (hk : (encR R.ah).length = k) : Sem.run Tryz.prog (loadCellsFrom ⟨b, 0, none⟩ 0 k #[]) w = .ok (encR R.ah).toArray w :=
 vP h hk fun j u hj => by
  obtain ⟨hlt, _⟩ := List.getElem?_eq_some_iff.1 hj
  rw [Nat.zero_add]; unfold gm; rw [List.getElem?_append_left hlt]; exact hj
theorem bY.mD (h : bY w b R) {k : Nat} (hk : (ag R.aC).length = k) : Sem.run Tryz.prog (loadCellsFrom ⟨b, 12, none⟩ 0 k #[]) w = .ok (ag R.aC).toArray w :=
 vP h hk fun j u hj => by
  have hlt : j < 10 := (List.getElem?_eq_some_iff.1 hj).1
  show (encR R.ah ++ ([_, _, _] ++ (ag R.aC ++ _)))[12 + j]? = _
  rw [List.getElem?_append_right (by show 9 ≤ _; omega), List.getElem?_append_right (by show 3 ≤ 12 + j - 9; omega), List.getElem?_append_left (by show 12 + j - 9 - 3 < 10; omega)]
  have e : 12 + j - (encR R.ah).length - [Value.int .i64 R.kH, .int .i64 R.dR, R.left].length = j := by show 12 + j - 9 - 3 = j; omega
  rw [e]; exact hj
def Az (b c t d p : Nat) (v : Value) (g : Nat) (k : Nat) : Prop := k = b ∨ dY c t d p v g k
structure SW (w : World) (b c t d p : Nat) (v : Value) (g a : Nat) (m : Int) (R : Wk) (P : Pg) : Prop where
 wk : bY w b R
 cw : CW w c t d p v g a m P
structure WS (w w' : World) (b c t d p : Nat) (v : Value) (g : Nat) (v' : Value) (g' : Nat) : Prop where
 off : gH (Az b c t d p v g) w w'
 grew : mf w (Az b c t d p v g) (Az b c t d p v' g')
theorem SW.apart (h : SW w b c t d p v g a m R P) : ¬ dY c t d p v g b := h.cw.other h.wk (by decide)
theorem WS.refl (w : World) : WS w w b c t d p v g v g := ⟨gH.refl _ _, mf.refl _ _⟩
theorem WS.of_below (h : Below w.heap.size w w1) : WS w w1 b c t d p v g v g := ⟨gH.of_below h, mf.refl _ _⟩
theorem WS.trans (h : WS w w1 b c t d p v g v1 g1) (h' : WS w1 w2 b c t d p v1 g1 v2 g2) : WS w w2 b c t d p v g v2 g2 :=
 ⟨h.off.trans h'.off h.grew, h.grew.trans h'.grew h.off.size⟩
theorem WS.dC (h : CS w w1 c t d p v g v1 g1) : WS w w1 b c t d p v g v1 g1 :=
 ⟨⟨h.off.os, h.off.tape, h.off.output, h.off.size, fun k hk hf => h.off.block k hk fun h2 => hf (.inr h2)⟩, fun k hk => hk.elim (fun e => .inl (.inl e)) fun hf => (h.grew k hf).elim (fun h2 => .inl (.inr h2)) .inr⟩
theorem WS.heap (h : WS w w1 b c t d p v g v1 g1) {k : Nat} (hk : k < w.heap.size) (hn : ¬ Az b c t d p v g k) : w1.heap[k]? = w.heap[k]? := h.off.block k hk hn
theorem WS.bD (ho : gH (fun k => k = b) w w1) : WS w w1 b c t d p v g v g := ⟨⟨ho.os, ho.tape, ho.output, ho.size, fun k hk hf => ho.block k hk fun e => hf (.inl e)⟩, mf.refl _ _⟩
theorem SW.kept (h : SW w b c t d p v g a m R P) (hb : Below w.heap.size w w1) : SW w1 b c t d p v g a m R P := ⟨(hb.block b h.wk.lt).trans h.wk, h.cw.kept hb⟩
theorem SW.core (h : SW w b c t d p v g a m R P) (hc : CW w1 c t d p v1 g1 a' m' P') (hs : CS w w1 c t d p v g v1 g1) : SW w1 b c t d p v1 g1 a' m' R P' := ⟨(hs.heap h.wk.lt h.apart).trans h.wk, hc⟩
theorem CW.OV (h : CW w c t d p v g a m P) (ho : gH (fun k => k = b) w w1) (hb : ¬ dY c t d p v g b) : CW w1 c t d p v g a m P := by
 have blk : ∀ k, dY c t d p v g k → w1.heap[k]? = w.heap[k]? := fun k hk => ho.block k (h.lt hk) (fun e => hb (e ▸ hk))
 obtain ⟨S, aO, ⟨cap, hp1, hp2⟩, hrest⟩ := h.mq
 refine ⟨(blk c (.inl rfl)).trans h.cell, ⟨(blk t (.inr (.inl rfl))).trans h.fe.cell, bL h.fe.own fun k hk => blk k (.inr (.inr (.inr (.inr (.inl hk)))))⟩, (blk d (.inr (.inr (.inl rfl)))).trans h.nodes, S, aO, ⟨cap, (blk p (.inr (.inr (.inr (.inl rfl))))).trans hp1, bL hp2 fun k hk => ?_⟩, hrest⟩
 have e : k = g := by simpa [Value.ownBlock] using hk.symm
 exact blk k (.inr (.inr (.inr (.inr (.inr e)))))
theorem SW.work (h : SW w b c t d p v g a m R P) (hw : bY w1 b R') (ho : gH (fun k => k = b) w w1) : SW w1 b c t d p v g a m R' P := ⟨hw, h.cw.OV ho h.apart⟩
theorem dw (w : World) (j : Nat) (u : Value) : gH (fun k => k = b) w (w.setCell ⟨b, j, none⟩ u) := ⟨rfl, rfl, rfl, by simp, fun k _ hk => Below.heap_setCell w ⟨b, j, none⟩ u k hk⟩
theorem cz (w : World) (cs : Array Value) : gH (fun k => k = b) w (w.setRow b cs) := ⟨rfl, rfl, rfl, by simp, fun k _ hk => setRow_other w b k _ hk⟩
theorem fQ (h : gH (fun k => k = b) w w1) (h' : gH (fun k => k = b) w1 w2) : gH (fun k => k = b) w w2 := h.trans h' (mf.refl _ _)
def au (w : World) (b c t d p : Nat) (v : Value) (g a : Nat) (m : Int) (L : Value) (R' : Wk) (P' : Pg) (e : Ending) (w' : World) : Prop :=
 e = .returned L ∧ ∃ v' g', SW w' b c t d p v' g' a m R' P' ∧ WS w w' b c t d p v g v' g'
end
end Go.Proofs.YtnihdgcfamoplaaGreat

namespace Go.Proofs.YtnihdgcfamoplaaGreat
open Go.RowKit Go.Lib Go.Sort
def fH (k : Nat) : Value := .func (.func k) #[] #[]
section
variable {w w' w1 w2 : World} {b c t d p g a : Nat} {v : Value} {m : Int} {P P' : Pg} {R R' : Wk}
theorem kW (h : CW w c t d p v g a m P) : Calls Tryz.prog 51 #[.pointer (some ⟨c, 0, none⟩)] w fun e w' => e = .returned (.bool false) ∧ w = w' := by
 have c3 := h.c3
 clear h
 go_enter Tryz.func51, Tryz.ntmps51
 go_wp2_with fail
 go_ret
 exact ⟨rfl, rfl⟩
theorem iT (h : CW w c t d p v g a m P) : Calls Tryz.prog 21 #[.pointer (some ⟨c, 0, none⟩)] w fun e w' => e = .returned (.bool P.cl) ∧ w = w' := by
 have c4 := h.c4
 have hno := kW h
 clear h
 go_enter Tryz.func21, Tryz.ntmps21
 go_wp2_with (go_at_call 51; go_must (refine hno.mono ?_); rintro e w' ⟨rfl, rfl⟩)
 go_ret
 exact ⟨rfl, rfl⟩
theorem Gv (h : bY w b R) (l : Bool) (hl : R.left = .nilFunc ∧ l = true ∨ (∃ k, R.left = fH k) ∧ l = false) : Calls Tryz.prog 94 #[.pointer (some ⟨b, 0, none⟩)] w fun e w' => e = .returned (.bool l) ∧ w = w' := by
 have c11 := h.at 11 R.left rfl
 clear h
 have e1 : ∀ w, Sem.run Tryz.prog (binOp .eql 122 .nilFunc .nilFunc) w = .ok (.bool true) w := fun w => rfl
 have e2 : ∀ k w, Sem.run Tryz.prog (binOp .eql 122 (.func (.func k) #[] #[]) .nilFunc) w = .ok (.bool false) w := fun k w => rfl
 rcases hl with ⟨hl, rfl⟩ | ⟨⟨k, hl⟩, rfl⟩
 ·rw [hl] at c11
  go_enter Tryz.func94, Tryz.ntmps94
  go_wp2_with fail
  go_ret
  exact ⟨rfl, rfl⟩
 ·rw [hl] at c11
  unfold fH at *
  go_enter Tryz.func94, Tryz.ntmps94
  go_wp2_with fail
  go_ret
  exact ⟨rfl, rfl⟩
theorem ik (h : bY w b R) (q : Int) : Calls Tryz.prog 95 #[.pointer (some ⟨b, 0, none⟩), .int .i64 q] w fun e w' => e = .returned .nilFunc ∧ bY w' b { R with rep := ⟨q, 0, 0, 0, 0, 0, 0, 0, 0⟩, ok := false } ∧ gH (fun k => k = b) w w' := by
 have hf := Gt q w
 generalize hx : (⟨q, 0, 0, 0, 0, 0, 0, 0, 0⟩ : Ry) = x at *
 have zY := uO
 obtain ⟨k9, bW⟩ : ∃ k, k = 9 := ⟨_, rfl⟩
 rw [← bW] at zY
 have lY := jd x
 rw [← bW] at lY
 have hk0 : ¬ k9 = 0 := by omega
 replace bW := Lib.hid bW
 clear hx
 go_enter Tryz.func95, Tryz.ntmps95
 go_wp2_with fail
 go_at_call 47
 refine hf.mono ?_
 clear hf
 rintro e w1 ⟨rfl, hb1⟩
 have hW1 : bY w1 b R := (hb1.block b h.lt).trans h
 obtain ⟨st, hW2⟩ := hW1.Ez x
 have hW3 := hW2.Rp false
 have WJ := hW2.free 33
 have ho : gH (fun k => k = b) w ((w1.setRow b (gm { R with rep := x }).toArray).setCell ⟨b, 33, none⟩ (.bool false)) := fQ (gH.of_below hb1) (fQ (cz w1 _) (dw _ 33 _))
 have Vr := hW2.at 33 (.bool R.ok) rfl
 generalize gm { R with rep := x } = W2 at *
 go_wp2_with fail
 go_ret
 exact ⟨rfl, hW3, ho⟩
end
end Go.Proofs.YtnihdgcfamoplaaGreat

namespace Go.Proofs.YtnihdgcfamoplaaGreat
open Go.RowKit Go.Lib Go.Sort
section
variable {w w' w1 w2 : World} {b c t d p g a : Nat} {v : Value} {m : Int} {P P' : Pg} {R R' : Wk}
theorem Gw {k a' : Nat} {m' : Int} {L : Value} {l : Bool} (h : SW w b c t d p v g a m R P) (hl : R.left = fH k) (hl' : R'.left = fH k) (hL : L = .nilFunc ∧ l = true ∨ (∃ k, L = fH k) ∧ l = false)
  (hk : ∀ args w, Sem.run Tryz.prog (callFunc k args) w = .ok (.enter k args) w)
  (hp : Calls Tryz.prog k #[.pointer (some ⟨b, 0, none⟩), .pointer (some ⟨c, 0, none⟩)] w (au w b c t d p v g a' m' L R' P')) :
  Calls Tryz.prog 71 #[.pointer (some ⟨b, 0, none⟩), .pointer (some ⟨c, 0, none⟩)] w fun e w' => e = .returned (.bool l) ∧ ∃ v' g', SW w' b c t d p v' g' a' m' { R' with left := L } P' ∧ WS w w' b c t d p v g v' g' := by
 have hd := Gv h.wk false (.inr ⟨⟨k, hl⟩, rfl⟩)
 have hn := kW h.cw
 have c11 := h.wk.at 11 R.left rfl
 rw [hl] at c11
 unfold fH at c11
 go_enter Tryz.func71, Tryz.ntmps71
 go_wp2_with (first | (go_at_call 94; go_must (refine hd.mono ?_); rintro e w' ⟨rfl, rfl⟩) | (go_at_call 51; go_must (refine hn.mono ?_); rintro e w' ⟨rfl, rfl⟩))
 refine hp.mono ?_
 clear hp
 rintro e w1 ⟨rfl, v1, g1, hS, hW⟩
 have hW2 := hS.wk.left L
 have c11' := hS.wk.at 11 R'.left rfl
 rw [hl'] at c11'
 unfold fH at c11'
 have f11 := hS.wk.free 11
 have hd2 := Gv hW2 l hL
 have hS2 := hS.work hW2 (dw w1 11 L)
 have fin := hW.trans (WS.bD (dw w1 11 L))
 clear hW hW2 hS hd hn h c11
 rcases hL with ⟨rfl, rfl⟩ | ⟨⟨k2, rfl⟩, rfl⟩
 ·go_wp2_with (go_at_call 94; go_must (refine hd2.mono ?_); rintro e w' ⟨rfl, rfl⟩)
  go_ret
  exact ⟨rfl, v1, g1, hS2, fin⟩
 ·unfold fH at *
  go_wp2_with (go_at_call 94; go_must (refine hd2.mono ?_); rintro e w' ⟨rfl, rfl⟩)
  go_ret
  exact ⟨rfl, v1, g1, hS2, fin⟩
end
end Go.Proofs.YtnihdgcfamoplaaGreat

namespace Go.Proofs.YtnihdgcfamoplaaGreat
open Go.RowKit
def hd (v : Int) : Int := max 0 (min v 1152921504606846976)
theorem tF (v : Int) : 0 ≤ hd v ∧ hd v ≤ 1152921504606846976 := by unfold hd; omega
theorem ui (v : Int) (w : World) :
  Calls Tryz.prog 150 #[.int .i64 v] w fun e w' => e = .returned (.int .i64 (hd v)) ∧ w = w' := by
 go_enter Tryz.func150, Tryz.ntmps150
 go_wp2
 go_ret
 exact ⟨rfl, rfl⟩
theorem AA (a b : Int) (w : World) :
  Calls Tryz.prog 147 #[.int .i64 a, .int .i64 b] w fun e w' => e = .returned (.int .i64 (hd (hd a - hd b))) ∧ w = w' := by
 have ha := tF a
 have hb := tF b
 go_enter Tryz.func147, Tryz.ntmps147
 go_wp2_with (go_at_call 150; go_must (refine (ui _ _).mono ?_); rintro e w' ⟨rfl, rfl⟩)
 go_ret
 exact ⟨rfl, rfl⟩
end Go.Proofs.YtnihdgcfamoplaaGreat

namespace Go.Proofs.YtnihdgcfamoplaaGreat
open Go.RowKit
theorem QV (a : Int) (w : World) (ha : -9223372036854775808 ≤ a ∧ a ≤ 9223372036854775807) :
  Calls Tryz.prog 109 #[.int .i64 a] w fun e w' => e = .returned (.bool (decide (0 ≤ a ∧ a ≤ 1099511627776))) ∧ w = w' := by
 by_cases h0 : 0 ≤ a
 ·go_enter Tryz.func109, Tryz.ntmps109
  go_wp2
  go_ret
  exact ⟨by simp [h0], rfl⟩
 ·go_enter Tryz.func109, Tryz.ntmps109
  go_wp2
  go_ret
  exact ⟨by simp; omega, rfl⟩
end Go.Proofs.YtnihdgcfamoplaaGreat

namespace Go.Proofs.YtnihdgcfamoplaaGreat
open Go.RowKit
def uj (l : List Int) : Int := l.foldl (fun s v => hd (s + hd v)) 0
def jZ (l : List Int) : Int := l.foldl min 1152921504606846976
theorem AB (l : List Int) (z : Int) : uj (l ++ [z]) = hd (uj l + hd z) := by unfold uj; rw [List.foldl_append]; rfl
theorem EA (l : List Int) (z : Int) : jZ (l ++ [z]) = min (jZ l) z := by unfold jZ; rw [List.foldl_append]; rfl
theorem Gx (l : List Int) : 0 ≤ uj l ∧ uj l ≤ 1152921504606846976 := by
 rcases List.eq_nil_or_concat l with rfl | ⟨m, z, rfl⟩
 ·decide
 ·rw [List.concat_eq_append, AB]; exact tF _
theorem OW (v : Value) (zs : List Int) (w : World) (h : oL w v zs) :
  Calls Tryz.prog 129 #[v] w fun e w' => e = .returned (.int .i64 (uj zs)) ∧ w = w' := by
 obtain ⟨⟨ao, cap, rfl, hlc, hcm, hcells⟩, hfit⟩ := h
 have Eb : cap ≤ 9223372036854775807 := by unfold maxLen at hcm; omega
 clear hfit hcm
 go_enter Tryz.func129, Tryz.ntmps129
 go_wp2_with fail
 go_loopw [3, 8] (fun s i wr => ∃ (k : Nat), k ≤ zs.length ∧ i = .int .i64 k ∧ s = .int .i64 (uj (zs.take k)) ∧ wr = w) (fun _ i _ => zs.length - (intOf i).toNat)
 case atStart => exact ⟨0, Nat.zero_le _, rfl, rfl, rfl⟩
 case round =>
  obtain ⟨k, hk, rfl, rfl, rfl⟩ := hrel
  by_cases hlt : k < zs.length
  ·obtain ⟨b, off, rfl, hbw, hcell⟩ := hcells (by rintro rfl; simp at hlt)
   obtain ⟨z, hz⟩ : ∃ z, z = zs.getD k 0 := ⟨_, rfl⟩
   have hcw : wr.cell? ⟨b, off + k, none⟩ = some (.int .i64 z) := by rw [hz]; exact hcell k hlt
   have hs := Gx (zs.take k)
   have hh := tF z
   have hn : Hid (hd (uj (zs.take k) + hd z) = uj (zs.take (k + 1))) := by show _ = _; rw [Ab hlt, AB, hz]
   clear hz hcell hcells
   go_wp2_with (go_at_call 150; go_must (refine (ui _ _).mono ?_); rintro e w' ⟨rfl, rfl⟩)
   go_roundw
   case rel => exact ⟨k + 1, by omega, by go_num, congrArg (Value.int .i64) hn.out, trivial⟩
   case measure => simp [intOf]; omega
  ·obtain rfl : k = zs.length := by omega
   rw [List.take_of_length_le (Nat.le_refl _)]
   go_wp2_with fail
   go_ret
   exact ⟨rfl, rfl⟩
theorem Jz (v : Value) (zs : List Int) (w : World) (h : oL w v zs) :
  Calls Tryz.prog 184 #[v] w fun e w' => e = .returned (.int .i64 (jZ zs)) ∧ w = w' := by
 obtain ⟨⟨ao, cap, rfl, hlc, hcm, hcells⟩, hfit⟩ := h
 have Eb : cap ≤ 9223372036854775807 := by unfold maxLen at hcm; omega
 clear hfit hcm
 go_enter Tryz.func184, Tryz.ntmps184
 go_wp2_with fail
 go_loopw [3, 8] (fun s i wr => ∃ (k : Nat), k ≤ zs.length ∧ i = .int .i64 k ∧ s = .int .i64 (jZ (zs.take k)) ∧ wr = w) (fun _ i _ => zs.length - (intOf i).toNat)
 case atStart => exact ⟨0, Nat.zero_le _, rfl, rfl, rfl⟩
 case round =>
  obtain ⟨k, hk, rfl, rfl, rfl⟩ := hrel
  by_cases hlt : k < zs.length
  ·obtain ⟨b, off, rfl, hbw, hcell⟩ := hcells (by rintro rfl; simp at hlt)
   obtain ⟨z, hz⟩ : ∃ z, z = zs.getD k 0 := ⟨_, rfl⟩
   have hcw : wr.cell? ⟨b, off + k, none⟩ = some (.int .i64 z) := by rw [hz]; exact hcell k hlt
   have hn : Hid (min (jZ (zs.take k)) z = jZ (zs.take (k + 1))) := by show _ = _; rw [Ab hlt, EA, hz]
   clear hz hcell hcells
   go_wp2_with fail
   go_roundw
   case rel => exact ⟨k + 1, by omega, by go_num, congrArg (Value.int .i64) hn.out, trivial⟩
   case measure => simp [intOf]; omega
  ·obtain rfl : k = zs.length := by omega
   rw [List.take_of_length_le (Nat.le_refl _)]
   go_wp2_with fail
   go_ret
   exact ⟨rfl, rfl⟩
theorem OX (w : World) (x y : Int) (e : TypeId) (hx : -9223372036854775808 ≤ x ∧ x ≤ 9223372036854775807) (hy : -9223372036854775808 ≤ y ∧ y ≤ 9223372036854775807) :
  oL (w.alloc (.cells #[.int .i64 x, .int .i64 y] e)) (.slice (some ⟨w.heap.size, 0, none⟩) 2 2) [x, y] := by
 refine ⟨⟨_, _, rfl, by simp, by decide, fun _ => ⟨w.heap.size, 0, rfl, by simp, fun i hi => ?_⟩⟩, fun z hz => ?_⟩
 ·have hi : i = 0 ∨ i = 1 := by simp at hi; omega
  rcases hi with rfl | rfl <;> go_simp
 ·simp at hz
  rcases hz with rfl | rfl
  ·exact hx
  ·exact hy
end Go.Proofs.YtnihdgcfamoplaaGreat

namespace Go.Proofs.YtnihdgcfamoplaaGreat
open Go.RowKit Go.Lib Go.Sort
theorem jV : ∀ w, Sem.run Tryz.prog (Go.sizeOf 152) w = .ok 3 w := Tryz.sizeOf152
theorem OY : ∀ w, Sem.run Tryz.prog (isAgg 152) w = .ok true w := Tryz.isAgg152
theorem eu {w : World} {b k : Nat} {cs : List Value} {t : TypeId} (h : w.heap[b]? = some (.cells cs.toArray t (0, 0))) (hk : cs.length = k) : Sem.run Tryz.prog (loadCellsFrom ⟨b, 0, none⟩ 0 k #[]) w = .ok cs.toArray w :=
 vP h hk fun j u hj => by rw [Nat.zero_add]; exact hj
theorem xm {fn : Func} {q u : Tmp} {b : Nat} {tmps : Array Value} {w : World} {cs : List Value} (h : fn.results = #[.cell q 152, .tmp u]) (ha : tmps.getD q undef = .pointer (some ⟨b, 0, none⟩)) (hb : w.heap[b]? = some (.cells cs.toArray 152 (0, 0))) (hl : cs.length = 3) :
  (results fn tmps).run Tryz.prog w = .ok (.tuple #[.agg cs.toArray, tmps.getD u undef]) w := by
 have h1 : Sem.run Tryz.prog (loadCells ⟨b, 0, none⟩ 3) w = .ok cs.toArray w := eu hb hl
 rw [results_cell_tmp h, ha]
 simp only [loadVar, asAddr, Sem.run_bind, Sem.run_pure, Result.andThen_ok, OY, jV, h1, if_true]
def aN (j : Jb) : List Value := if aj j = true then [.int .i64 j.aD, .int .i64 (j.aD + j.lim), .int .i64 j.wid] else [.int .i64 0, .int .i64 0, .int .i64 0]
section
variable {w : World}
theorem Mq (j : Jb) (h : aj j = false) : Calls Tryz.prog 110 #[.agg (ag j).toArray] w fun e w' => e = .returned (.tuple #[.agg (aN j).toArray, .bool (aj j)]) ∧ Below w.heap.size w w' := by
 unfold aN
 rw [h, if_neg (by decide)]
 obtain ⟨x1, x2, x3, x4, x5, x6, x7, x8, x9, x0⟩ := j
 have hk : x6 ≠ 1 ∨ (x6 = 1 ∧ x9 < 0) := by
  by_cases e : x6 = 1
  ·refine .inr ⟨e, ?_⟩
   rcases Int.lt_or_le x9 0 with h1 | h1
   ·exact h1
   ·have : aj (x1, x2, x3, x4, x5, x6, x7, x8, x9, x0) = true := aT.2 ⟨e, h1⟩
    rw [this] at h; cases h
  ·exact .inl e
 clear h
 rw [BU]
 have hb2 : Below w.heap.size w ((w.alloc (.cells #[.int .i64 x1, .int .i64 x2, .int .i64 x3, .int .i64 x4, .int .i64 x5, .int .i64 x6, .int .i64 x7, .int .i64 x8, .int .i64 x9, .int .u64 x0] 63)).alloc (.cells #[.int .i64 0, .int .i64 0, .int .i64 0] 152)) := ((Below.refl _ _).alloc (Nat.le_refl _) _).alloc (by simp) _
 rcases hk with h1 | ⟨rfl, h2⟩
 ·have d1 : (x6 != 1) = true := by simp [h1]
  go_enter Tryz.func110, Tryz.ntmps110
  go_wp2_with fail
  refine bodyPost_ret (xm rfl rfl (heap_alloc2_new w _ _) rfl) rfl ⟨rfl, hb2⟩
 ·go_enter Tryz.func110, Tryz.ntmps110
  go_wp2_with fail
  refine bodyPost_ret (xm rfl rfl (heap_alloc2_new w _ _) rfl) rfl ⟨rfl, hb2⟩
theorem yu {w w' : World} {v : Value} {zs : List Int} (h : oL w v zs) (hb : Below w.heap.size w w') : oL w' v zs := by
 obtain ⟨⟨ao, cap, e, h1, h2, h3⟩, hf⟩ := h
 refine ⟨⟨ao, cap, e, h1, h2, fun hz => ?_⟩, hf⟩
 obtain ⟨b, off, e2, h4, h5⟩ := h3 hz
 exact ⟨b, off, e2, Nat.lt_of_lt_of_le h4 hb.size, fun i hi => by rw [← h5 i hi]; simp only [World.cell?, hb.block b h4]⟩
theorem JA (j : Jb) (h : aj j = true) (hp : j.aD ≤ 1099511627776) (hl : 0 ≤ j.lim ∧ j.lim ≤ 1048576) : Calls Tryz.prog 110 #[.agg (ag j).toArray] w fun e w' => e = .returned (.tuple #[.agg (aN j).toArray, .bool (aj j)]) ∧ Below w.heap.size w w' := by
 unfold aN
 rw [h, if_pos rfl]
 obtain ⟨hs, hp0⟩ := aT.1 h
 obtain ⟨x1, x2, x3, x4, x5, x6, x7, x8, x9, x0⟩ := j
 obtain rfl : x6 = 1 := hs
 replace hp0 : 0 ≤ x9 := hp0
 replace hp : x9 ≤ 1099511627776 := hp
 replace hl : 0 ≤ x4 ∧ x4 ≤ 1048576 := hl
 have hsum : uj [x9, x4] = x9 + x4 := by show hd (hd (0 + hd x9) + hd x4) = _; unfold hd; omega
 show Calls _ _ _ _ fun e w' => e = .returned (.tuple #[.agg #[.int .i64 x9, .int .i64 (x9 + x4), .int .i64 x3], .bool true]) ∧ Below w.heap.size w w'
 clear h
 rw [BU]
 obtain ⟨wA, aB⟩ : ∃ wA, wA = ((w.alloc (.cells #[.int .i64 x1, .int .i64 x2, .int .i64 x3, .int .i64 x4, .int .i64 x5, .int .i64 1, .int .i64 x7, .int .i64 x8, .int .i64 x9, .int .u64 x0] 63)).alloc (.cells #[.int .i64 0, .int .i64 0, .int .i64 0] 152)) := ⟨_, rfl⟩
 have bC : Below w.heap.size w wA := by rw [aB]; exact ((Below.refl _ _).alloc (Nat.le_refl _) _).alloc (by simp) _
 have hsA : wA.heap.size = w.heap.size + 2 := by rw [aB]; simp
 have hJ : Hid (wA.heap[w.heap.size]? = some (.cells #[.int .i64 x1, .int .i64 x2, .int .i64 x3, .int .i64 x4, .int .i64 x5, .int .i64 1, .int .i64 x7, .int .i64 x8, .int .i64 x9, .int .u64 x0] 63 (0, 0))) := by show _ = _; rw [aB]; exact bP (heap_alloc_new w _)
 have hS : wA.heap[w.heap.size + 1]? = some (.cells #[.int .i64 0, .int .i64 0, .int .i64 0] 152 (0, 0)) := by rw [aB]; exact heap_alloc2_new w _ _
 have LD : Hid (∀ W, Below wA.heap.size wA W → W.heap[w.heap.size]? = some (.cells #[.int .i64 x1, .int .i64 x2, .int .i64 x3, .int .i64 x4, .int .i64 x5, .int .i64 1, .int .i64 x7, .int .i64 x8, .int .i64 x9, .int .u64 x0] 63 (0, 0))) := fun W hW => (hW.block _ (by omega)).trans hJ.out
 have hAdd := fun (v : Value) (W : World) (hv : oL W v [x9, x4]) => OW v [x9, x4] W hv
 rw [hsum] at hAdd
 replace hsum := Lib.hid hsum
 replace aB := Lib.hid aB
 replace bC := Lib.hid bC
 go_enter Tryz.func110, Tryz.ntmps110
 go_wp2_with fail
 rw [← aB.out]
 refine Reg2.rd wA 10 24 [[],[ae],[af,af],[af,af,ae],[af,af,af,af],[af,af,af,af,ae],[af,af,ae,ae,ae,ae],[af,af,ae,ae,ae,ae,ae],[af,af,af,af,af,af,af,af],[af,af,af,af,af,af,af,af,ae]] [0, 1, 0, 1, 0, 1, 1, 1, 0, 1] [.pure, .mU (.int .i64 x9), .pure, .mU (.int .i64 x9), .pure, .mU (.int .i64 x4), .minor Nat 0 (fun k => .slice (some ⟨k, 0, none⟩) 2 2) (fun k W => oL W (.slice (some ⟨k, 0, none⟩) 2 2) [x9, x4]), .mU (.int .i64 (x9 + x4)), .pure, .mU (.int .i64 x3)] (by kernel_rfl) (by kernel_rfl) rfl rfl ⟨trivial, Reg2.tt, trivial, Reg2.tt, trivial, Reg2.tt, ⟨fun k a b he hp => yu hp he, fun k a b he hp => yu hp he⟩, Reg2.tt, trivial, Reg2.tt, trivial⟩ ⟨rfl, rfl, rfl, Nat.le_refl _, fun _ _ => rfl⟩ ?_
 dsimp only [Reg2.mk, List.zip, List.zipWith, List.take]
 repeat (refine' Reg2.ai _ (by rfl) (fun wz => ?_) ?_; rotate_left; (go_simp; first | rfl | rw [if_neg (by omega)]); simp only [Act.put, xA, xB, xC]; (try simp only [xD]); (try simp only [xE]); (try simp only [id]))
 refine Reg2.pm (fun wz hI hF => ?_) (fun r1 => ?_) (by rfl)
 ·have q0 : wz.cell? ⟨w.heap.size, 8, none⟩ = some (.int .i64 x9) := by simp [World.cell?, LD.out wz hI]
  go_wp2_with fail
  first | exact ⟨_, rfl, rfl, Reg2.Ext.refl _⟩ | exact ⟨_, rfl, ⟨(), rfl, trivial⟩, Reg2.Ext.refl _⟩
 simp only [Act.put, xA, xB, xC]; (try simp only [xD]); (try simp only [xE]); (try simp only [id])
 repeat (refine' Reg2.ai _ (by rfl) (fun wz => ?_) ?_; rotate_left; (go_simp; first | rfl | rw [if_neg (by omega)]); simp only [Act.put, xA, xB, xC]; (try simp only [xD]); (try simp only [xE]); (try simp only [id]))
 refine Reg2.pm (fun wz hI hF => ?_) (fun r3 => ?_) (by rfl)
 ·have q0 : wz.cell? ⟨w.heap.size, 8, none⟩ = some (.int .i64 x9) := by simp [World.cell?, LD.out wz hI]
  go_wp2_with fail
  first | exact ⟨_, rfl, rfl, Reg2.Ext.refl _⟩ | exact ⟨_, rfl, ⟨(), rfl, trivial⟩, Reg2.Ext.refl _⟩
 simp only [Act.put, xA, xB, xC]; (try simp only [xD]); (try simp only [xE]); (try simp only [id])
 repeat (refine' Reg2.ai _ (by rfl) (fun wz => ?_) ?_; rotate_left; (go_simp; first | rfl | rw [if_neg (by omega)]); simp only [Act.put, xA, xB, xC]; (try simp only [xD]); (try simp only [xE]); (try simp only [id]))
 refine Reg2.pm (fun wz hI hF => ?_) (fun r5 => ?_) (by rfl)
 ·have q0 : wz.cell? ⟨w.heap.size, 3, none⟩ = some (.int .i64 x4) := by simp [World.cell?, LD.out wz hI]
  go_wp2_with fail
  first | exact ⟨_, rfl, rfl, Reg2.Ext.refl _⟩ | exact ⟨_, rfl, ⟨(), rfl, trivial⟩, Reg2.Ext.refl _⟩
 simp only [Act.put, xA, xB, xC]; (try simp only [xD]); (try simp only [xE]); (try simp only [id])
 refine Reg2.pm (fun wz hI hF => ?_) (fun r6 => ?_) (by rfl)
 ·have pa := OX wz x9 x4 2 (by omega) (by omega)
  go_wp2_with fail
  exact ⟨_, rfl, ⟨_, rfl, pa⟩, (Reg2.Ext.refl _).alloc (Nat.le_refl _) _⟩
 simp only [Act.put, xA, xB, xC]; (try simp only [xD]); (try simp only [xE]); (try simp only [id])
 refine Reg2.pm (fun wz hI hF => ?_) (fun r7 => ?_) (by rfl)
 ·have hv := hF.2.2.2.2.1
  go_wp2_with (go_at_call 129; go_must (refine (hAdd _ wz hv).mono ?_); rintro e w' ⟨rfl, rfl⟩)
  first | exact ⟨_, rfl, rfl, Reg2.Ext.refl _⟩ | exact ⟨_, rfl, ⟨(), rfl, trivial⟩, Reg2.Ext.refl _⟩
 simp only [Act.put, xA, xB, xC]; (try simp only [xD]); (try simp only [xE]); (try simp only [id])
 repeat (refine' Reg2.ai _ (by rfl) (fun wz => ?_) ?_; rotate_left; (go_simp; first | rfl | rw [if_neg (by omega)]); simp only [Act.put, xA, xB, xC]; (try simp only [xD]); (try simp only [xE]); (try simp only [id]))
 refine Reg2.pm (fun wz hI hF => ?_) (fun r9 => ?_) (by rfl)
 ·have q0 : wz.cell? ⟨w.heap.size, 2, none⟩ = some (.int .i64 x3) := by simp [World.cell?, LD.out wz hI]
  go_wp2_with fail
  first | exact ⟨_, rfl, rfl, Reg2.Ext.refl _⟩ | exact ⟨_, rfl, ⟨(), rfl, trivial⟩, Reg2.Ext.refl _⟩
 simp only [Act.put, xA, xB, xC]; (try simp only [xD]); (try simp only [xE]); (try simp only [id])
 refine Reg2.aA ?_
 intro w7 jN _ jW
 clear jW
 dsimp only [List.drop]
 have gG : w7.heap[w.heap.size + 1]? = some (.cells #[.int .i64 0, .int .i64 0, .int .i64 0] 152 (0, 0)) := (jN.block _ (by omega)).trans hS
 have lq := bC.out.trans (jN.mono bC.out.size)
 have c0 : w7.cell? ⟨w.heap.size + 1, 0, none⟩ = some (.int .i64 0) := by simp [World.cell?, gG]
 have c1 : w7.cell? ⟨w.heap.size + 1, 1, none⟩ = some (.int .i64 0) := by simp [World.cell?, gG]
 have c2 : w7.cell? ⟨w.heap.size + 1, 2, none⟩ = some (.int .i64 0) := by simp [World.cell?, gG]
 have f0 : w7.frozen? ⟨w.heap.size + 1, 0, none⟩ = false := by simp [World.frozen?, gG]
 have f1 : w7.frozen? ⟨w.heap.size + 1, 1, none⟩ = false := by simp [World.frozen?, gG]
 have f2 : w7.frozen? ⟨w.heap.size + 1, 2, none⟩ = false := by simp [World.frozen?, gG]
 have gB := heap_put (i := 2) (heap_put (i := 1) (heap_put (i := 0) gG (.int .i64 x9)) (.int .i64 (x9 + x4))) (.int .i64 x3)
 have tY : Below w.heap.size w (((w7.setCell ⟨w.heap.size + 1, 0, none⟩ (.int .i64 x9)).setCell ⟨w.heap.size + 1, 1, none⟩ (.int .i64 (x9 + x4))).setCell ⟨w.heap.size + 1, 2, none⟩ (.int .i64 x3)) := ((lq.setCell (by show _ ≤ w.heap.size + 1; omega) _).setCell (by show _ ≤ w.heap.size + 1; omega) _).setCell (by show _ ≤ w.heap.size + 1; omega) _
 go_wp2_with fail
 refine bodyPost_ret (xm rfl rfl gB rfl) rfl ⟨rfl, tY⟩
theorem kE (j : Jb) (hp : j.aD ≤ 1099511627776) (hl : 0 ≤ j.lim ∧ j.lim ≤ 1048576) : Calls Tryz.prog 110 #[.agg (ag j).toArray] w fun e w' => e = .returned (.tuple #[.agg (aN j).toArray, .bool (aj j)]) ∧ Below w.heap.size w w' := by
 cases h : aj j with
 | false => have := Mq (w := w) j h; rw [h] at this; exact this
 | true => have := JA (w := w) j h hp hl; rw [h] at this; exact this
end
end Go.Proofs.YtnihdgcfamoplaaGreat

namespace Go.Proofs.YtnihdgcfamoplaaGreat
open Go.RowKit Go.Lib Go.Sort
section
variable {w : World} {b c t d p g a : Nat} {v : Value} {m : Int} {P : Pg} {R : Wk}
theorem nA (h : SW w b c t d p v g a m R P) (id : Int) : Calls Tryz.prog 114 #[.pointer (some ⟨b, 0, none⟩), .pointer (some ⟨c, 0, none⟩), .int .i64 id] w fun e w' =>
  e = .returned (.agg (ag (bH P.J id)).toArray) ∧ bY w' b { R with rep := iG (bH P.J id) } ∧ gH (fun k => k = b) w w' := by
 have zE := bG
 have zY := uO
 obtain ⟨k, hk⟩ : ∃ k, k = 10 := ⟨_, rfl⟩
 obtain ⟨k9, bW⟩ : ∃ k, k = 9 := ⟨_, rfl⟩
 rw [← hk] at zE
 rw [← bW] at zY
 have hk0 : ¬ k9 = 0 := by omega
 have hk1 : ¬ k = 0 := by omega
 obtain ⟨wA, aB⟩ : ∃ wA, wA = w.alloc (.cells #[.int .i64 0, .int .i64 0, .int .i64 0, .int .i64 0, .int .i64 0, .int .i64 0, .int .i64 0, .int .i64 0, .int .i64 0, .int .u64 0] 63) := ⟨_, rfl⟩
 have bC : Below w.heap.size w wA := by rw [aB]; exact (Below.refl _ _).alloc (Nat.le_refl _) _
 have hsA : wA.heap.size = w.heap.size + 1 := by rw [aB]; simp
 have SA : wA.heap[w.heap.size]? = some (.cells (ag gW).toArray 63 (0, 0)) := by rw [aB]; exact heap_alloc_new w _
 have hA := h.kept bC
 have c0 := hA.cw.c0
 have hget := gq hA.cw.fe id
 obtain ⟨y, hy⟩ : ∃ y, y = bH P.J id := ⟨_, rfl⟩
 rw [← hy]
 unfold gZ at hget
 rw [← hy] at hget
 replace hy := Lib.hid hy
 have lY := ax y
 rw [← hk] at lY
 replace hk := Lib.hid hk
 rw [aB] at c0 hget
 have Rs := fun W => QU y W
 have lR := jd (iG y)
 rw [← bW] at lR
 replace bW := Lib.hid bW
 have ST : Hid (∀ W : World, Sem.run Tryz.prog (storeCells ⟨W.heap.size, 0, none⟩ (ag y) 0) (W.alloc (.cells #[.int .i64 0, .int .i64 0, .int .i64 0, .int .i64 0, .int .i64 0, .int .i64 0, .int .i64 0, .int .i64 0, .int .i64 0, .int .u64 0] 63)) = .ok () (W.alloc (.cells (ag y).toArray 63))) := fun W => dD W W.heap.size (ag y) (ag gW) 63 rfl rfl (dJ y)
 have JS : Hid (∀ {q : Nat} {W : World}, W.heap[q]? = some (.cells (ag gW).toArray 63 (0, 0)) → Sem.run Tryz.prog (storeCells ⟨q, 0, none⟩ (ag y) 0) W = .ok () (W.setRow q (ag y).toArray)) := fun hq => nH hq
 have SB : Hid ((ag y).toArray.size = 10) := Lib.hid rfl
 generalize ag y = cY at *
 go_enter Tryz.func114, Tryz.ntmps114
 go_wp2_with fail
 go_at_call 33
 refine hget.mono ?_
 clear hget
 rw [← aB]
 rintro e w1 ⟨rfl, hg1⟩
 replace aB := Lib.hid aB
 have hb1 := hg1.below
 have st1 := ST.out w1
 obtain ⟨w2, hw2⟩ : ∃ w2, w2 = w1.alloc (.cells cY.toArray 63) := ⟨_, rfl⟩
 rw [← hw2] at st1
 have hb2 : Below wA.heap.size wA w2 := by rw [hw2]; exact hb1.alloc hb1.size _
 have h2 := hA.kept hb2
 have hx2 : w2.heap[w.heap.size]? = some (.cells (ag gW).toArray 63 (0, 0)) := (hb2.block _ (by omega)).trans SA
 have hz2 : w2.heap[w1.heap.size]? = some (.cells cY.toArray 63 (0, 0)) := by rw [hw2]; exact heap_alloc_new w1 _
 have Vs := eu hz2 lY
 have hs1 := hb1.size
 have hs2 : w2.heap.size = w1.heap.size + 1 := by rw [hw2]; simp
 replace hw2 := Lib.hid hw2
 go_wp2_with fail
 go_at_call 134
 refine (Rs w2).mono ?_
 clear Rs
 rintro e w3 ⟨rfl, hb3⟩
 have h3 := h2.kept hb3
 obtain ⟨Vt, Uq⟩ := h3.wk.Ez (iG y)
 have hbb := h.wk.lt
 have hx3 : w3.heap[w.heap.size]? = some (.cells (ag gW).toArray 63 (0, 0)) := (hb3.block _ (by omega)).trans hx2
 have hz3 : w3.heap[w1.heap.size]? = some (.cells cY.toArray 63 (0, 0)) := (hb3.block _ (by omega)).trans hz2
 obtain ⟨w4, hw4⟩ : ∃ w4, w4 = w3.setRow b (gm { R with rep := iG y }).toArray := ⟨_, rfl⟩
 rw [← hw4] at Vt Uq
 have hx4 : w4.heap[w.heap.size]? = some (.cells (ag gW).toArray 63 (0, 0)) := by rw [hw4, setRow_other w3 b _ _ (by omega)]; exact hx3
 have yO : w4.heap[w1.heap.size]? = some (.cells cY.toArray 63 (0, 0)) := by rw [hw4, setRow_other w3 b _ _ (by omega)]; exact hz3
 have rY : gH (fun k => k = b) w w4 := by rw [hw4]; exact fQ (gH.of_below (bC.trans ((hb2.trans (hb3.mono hb2.size)).mono bC.size))) (cz w3 _)
 have Vu := eu yO lY
 have WK := JS.out hx4
 have Vv : bY (w4.setRow w.heap.size cY.toArray) b { R with rep := iG y } := (setRow_other w4 w.heap.size b _ (by omega)).trans Uq
 have Au : gH (fun k => k = b) w (w4.setRow w.heap.size cY.toArray) := ⟨rY.os, rY.tape, rY.output, by simpa using rY.size, fun k hk2 hn => by rw [setRow_other w4 w.heap.size k _ (by omega)]; exact rY.block k hk2 hn⟩
 have hx5 := vO hx4 cY.toArray
 replace hw4 := Lib.hid hw4
 go_wp2_with fail
 refine fB rfl rfl rfl hx5 Tryz.underlying63 rfl (by rw [SB.out]; kernel_rfl) ⟨rfl, Vv, Au⟩
end
end Go.Proofs.YtnihdgcfamoplaaGreat

namespace Go.Proofs.YtnihdgcfamoplaaGreat
open Go.RowKit Go.Lib Go.Sort
theorem CQ {q p : Jb → Bool} : ∀ {L : List Jb} {i : Nat}, i < (L.filter q).length → (∀ k, k < i → p ((L.filter q)[k]!) = false) → p ((L.filter q)[i]!) = true → ∃ n, L.findIdx? (fun j => q j && p j) = some n ∧ n < L.length ∧ L.getD n default = (L.filter q)[i]! := by
 intro L
 induction L with
 | nil => intro i hi; simp at hi
 | cons x L ih =>
  intro i hi hno hp
  cases hq : q x with
  | false =>
   have e : (x :: L).filter q = L.filter q := by simp [hq]
   rw [e] at hi hp hno ⊢
   obtain ⟨n, h1, h2, h3⟩ := ih hi hno hp
   refine ⟨n + 1, ?_, by simp; omega, by simpa using h3⟩
   rw [List.findIdx?_cons]
   simp [hq, h1]
  | true =>
   have e : (x :: L).filter q = x :: L.filter q := by simp [hq]
   rw [e] at hi hp hno ⊢
   cases i with
   | zero =>
    have hx : p x = true := by simpa using hp
    refine ⟨0, ?_, by simp, by simp⟩
    rw [List.findIdx?_cons]
    simp [hq, hx]
   | succ i =>
    have hx : p x = false := by simpa using hno 0 (by omega)
    obtain ⟨n, h1, h2, h3⟩ := ih (i := i) (by simpa using hi) (fun k hk => by simpa using hno (k + 1) (by omega)) (by simpa using hp)
    refine ⟨n + 1, ?_, by simp; omega, by simpa using h3⟩
    rw [List.findIdx?_cons]
    simp [hx, h1]
theorem Gy {q p : Jb → Bool} {L : List Jb} (hno : ∀ k, k < (L.filter q).length → p ((L.filter q)[k]!) = false) : L.findIdx? (fun j => q j && p j) = none := by
 rw [List.findIdx?_eq_none_iff]
 intro x hx
 cases hq : q x with
 | false => rfl
 | true =>
  obtain ⟨k, hk, e⟩ := List.mem_iff_getElem.1 (List.mem_filter.2 ⟨hx, hq⟩)
  have := hno k hk
  rw [getElem!_pos _ k hk, e] at this
  simpa using this
section
variable {M : Md}
theorem qI (h : aG M) {i : Nat} (hi : i < M.L.length) (hp : aj (M.L.getD i default) = true) (t : Int) :
  az { M with L := M.L.set i ((M.L.getD i default).aI (-1)) } t 0 = az M t 0 + had (max (M.L.getD i default).aD M.now) ((M.L.getD i default).aD + (M.L.getD i default).lim) (M.L.getD i default).wid t := by
 have hm := bg hi
 have hid := h.ids i hi
 have hpl := h.plan _ hm
 have h1 := h.mb.aD _ hm
 have h2 := h.mb.lim _ hm
 have h0 := (aT.1 hp).2
 rw [iK hi, dP (j := (M.L.getD i default).aI (-1)) (by unfold aj; simp [Jb.aI, Jb.aD]), lF hp (by omega)]
 generalize M.L.getD i default = x at *
 have e : max x.aD M.now = x.aD := by omega
 rw [e]
 unfold had
 have e2 : ¬ (x.aD + x.lim = 1152921504606846976) := by omega
 simp only [e2, or_false]
 omega
theorem EB {i : Nat} (hi : i < M.L.length) : dA { M with L := M.L.set i ((M.L.getD i default).aI (-1)) } = dA M := by
 refine oh (by rw [bB, bB]) fun n hn => ?_
 rw [dm, dm, oF (y := (M.L.getD i default).aI (-1)) hi Iff.rfl rfl]
theorem uP (h : aG M) (t : Int) (ht : M.now ≤ t) : 0 ≤ az M t 0 ∧ az M t 0 ≤ 64 := ⟨h.free t ht, by have := zF h t; have := h.mb.nn; omega⟩
end
def Mr (w : World) (c t d p : Nat) (v : Value) (g a : Nat) (m : Int) (M : Md) (o : Option Nat) (e : Ending) (w' : World) : Prop :=
 (o = none ∧ e = .returned (.bool false) ∧ Below w.heap.size w w') ∨
 ∃ i, o = some i ∧ fq w c t d p v g (a + 2) (m + 1) (.bool true) (ak { M with L := M.L.set i ((M.L.getD i default).aI (-1)) }) e w'
section
variable {w : World} {c t d p g a : Nat} {v : Value} {m : Int} {M : Md}
theorem uQ (h : CW w c t d p v g a m (ak M)) (hI : aG M) (h1 : 1 ≤ M.dr.length) (hll : M.L.length ≤ 900) (ha : a ≤ 800) (hm : m ≤ 1000000) (lv : Value) (l : List Jb) (q : Jb → Bool) (hr : aF ag 10 w lv l) (hl : l = M.L.filter q) :
  Calls Tryz.prog 159 #[.pointer (some ⟨c, 0, none⟩), lv] w (Mr w c t d p v g a m M (M.L.findIdx? fun j => q j && aj j)) := by
 have zE := bG
 have zS := jV
 obtain ⟨k, hk⟩ : ∃ k, k = 10 := ⟨_, rfl⟩
 obtain ⟨k3, hk3⟩ : ∃ k, k = 3 := ⟨_, rfl⟩
 rw [← hk] at zE
 rw [← hk3] at zS
 have hk0 : ¬ k = 0 := by omega
 have yx : ¬ k3 = 0 := by omega
 replace hk := Lib.hid hk
 replace hk3 := Lib.hid hk3
 have hC := Lib.hid h
 have hlt : Hid (∀ k, dY c t d p v g k → k < w.heap.size) := fun k hk => h.lt hk
 have qZ := Lib.hid (fC hI h1 hll)
 have hmem : Hid (∀ i, i < l.length → l[i]! ∈ M.L) := fun i hi => by
  have : l[i]! ∈ l := by rw [getElem!_pos l i hi]; exact List.getElem_mem _
  have h2 : l[i]! ∈ M.L.filter q := hl ▸ this
  exact (List.mem_filter.1 h2).1
 obtain ⟨ao, cap, rfl, q1, q2, q3⟩ := hr
 obtain ⟨n, hn⟩ : ∃ n, l.length = n := ⟨_, rfl⟩
 have hnl : n ≤ 900 := by rw [← hn, hl]; exact Nat.le_trans (List.length_filter_le _ _) hll
 rw [hn] at q1 q3 ⊢
 have HQ : Hid (0 < n → ∃ b off, ao = some ⟨b, off, none⟩ ∧ mo w b off l) := fun hp => by
  obtain ⟨b, off, e1, e2, e3⟩ := q3 hp
  exact ⟨b, off, e1, e2, e3⟩
 have Eb : cap ≤ 9223372036854775807 := by unfold maxLen at q2; omega
 replace hn := Lib.hid hn
 replace hl := Lib.hid hl
 clear q2 q3 h
 go_enter Tryz.func159, Tryz.ntmps159
 go_wp2_with fail
 go_loopw [11] (fun ii wr => ∃ (i : Nat), i ≤ n ∧ ii = .int .i64 i ∧ Below w.heap.size w wr ∧ Hid (∀ j, j < i → aj l[j]! = false)) (fun ii _ => n - (intOf ii).toNat)
 case atStart => exact ⟨0, Nat.zero_le _, rfl, Below.refl _ _, Lib.hid fun j hj => absurd hj (Nat.not_lt_zero _)⟩
 case round =>
  obtain ⟨i, hin, rfl, hbr, hno⟩ := hrel
  by_cases hlt2 : i < n
  ·have b2 : (i : Int) < (n : Int) := by omega
   have wi : IntKind.i64.wrap ((i : Int) + 1) = (i : Int) + 1 := by rw [IntKind.wrap_i64]; omega
   obtain ⟨gb, off, rfl, hJ⟩ := HQ.out (by omega)
   have qX := hJ.below hbr
   have iO : i < l.length := by have := hn.out; omega
   have LI := qX.load hk.out iO
   have hxm := hmem.out i iO
   obtain ⟨x, hx⟩ : ∃ x, x = l[i]! := ⟨_, rfl⟩
   rw [← hx] at LI hxm
   replace hx := Lib.hid hx
   have lI := ax x
   rw [← hk.out] at lI
   have hpx := hI.mb.aD x hxm
   have hlx := hI.mb.lim x hxm
   have st : Sem.run Tryz.prog (storeCells ⟨wr.heap.size, 0, none⟩ (ag x) 0) (wr.alloc (.cells #[.int .i64 0, .int .i64 0, .int .i64 0, .int .i64 0, .int .i64 0, .int .i64 0, .int .i64 0, .int .i64 0, .int .i64 0, .int .u64 0] 63)) = .ok () (wr.alloc (.cells (ag x).toArray 63)) := dD wr wr.heap.size (ag x) (ag gW) 63 rfl rfl (dJ x)
   obtain ⟨w1, hw1⟩ : ∃ w1, w1 = wr.alloc (.cells (ag x).toArray 63) := ⟨_, rfl⟩
   have hb1 : Below w.heap.size w w1 := by rw [hw1]; exact hbr.alloc hbr.size _
   have hs1 : w1.heap.size = wr.heap.size + 1 := by rw [hw1]; simp
   have hz1 : w1.heap[wr.heap.size]? = some (.cells (ag x).toArray 63 (0, 0)) := by rw [hw1]; exact heap_alloc_new wr _
   have ld1 := eu hz1 lI
   have Ur : (ag x)[0]? = some (.int .i64 x.id) := rfl
   have hpl := kE (w := w1) x hpx.2 ⟨hlx.1, hlx.2⟩
   generalize hcI : ag x = cI at *
   replace hcI := Lib.hid hcI
   rw [← hw1] at st
   replace hw1 := Lib.hid hw1
   go_wp2_with fail
   go_at_call 110
   refine hpl.mono ?_
   clear hpl st LI ld1
   rintro e w2 ⟨rfl, hb2⟩
   have Rt : Below w.heap.size w w2 := hb1.trans (hb2.mono hb1.size)
   have hz2 : w2.heap[wr.heap.size]? = some (.cells cI.toArray 63 (0, 0)) := (hb2.block _ (by omega)).trans hz1
   have lS : (aN x).length = 3 := by unfold aN; split <;> rfl
   have oS : ∀ u ∈ aN x, u.oneCell' = true := by unfold aN; split <;> (intro u hu; simp at hu; rcases hu with rfl | rfl | rfl <;> rfl)
   have st2 : Sem.run Tryz.prog (storeCells ⟨w2.heap.size, 0, none⟩ (aN x) 0) (w2.alloc (.cells #[.int .i64 0, .int .i64 0, .int .i64 0] 152)) = .ok () (w2.alloc (.cells (aN x).toArray 152)) := dD w2 w2.heap.size (aN x) [.int .i64 0, .int .i64 0, .int .i64 0] 152 rfl lS oS
   rw [← hk3.out] at lS
   have hsp := Lib.hid (rfl : aN x = aN x)
   generalize kI : aN x = cS at lS st2 ⊢
   replace kI := Lib.hid kI
   obtain ⟨w3, hw3⟩ : ∃ w3, w3 = w2.alloc (.cells cS.toArray 152) := ⟨_, rfl⟩
   have hb3 : Below w2.heap.size w2 w3 := by rw [hw3]; exact (Below.refl _ _).alloc (Nat.le_refl _) _
   have CR : Below w.heap.size w w3 := Rt.trans (hb3.mono Rt.size)
   have hs2 := hb2.size
   have hs3 : w3.heap.size = w2.heap.size + 1 := by rw [hw3]; simp
   have hz3 : Hid (w3.heap[wr.heap.size]? = some (.cells cI.toArray 63 (0, 0))) := (hb3.block _ (by omega)).trans hz2
   have hy3 : Hid (w3.heap[w2.heap.size]? = some (.cells cS.toArray 152 (0, 0))) := by show _ = _; rw [hw3]; exact heap_alloc_new w2 _
   rw [← hw3] at st2
   replace hw3 := Lib.hid hw3
   cases hP : aj x with
   | false =>
    go_wp2_with fail
    go_roundw
    case rel => exact ⟨i + 1, by omega, by go_num, CR, Lib.hid fun j hj => by
     rcases Nat.lt_succ_iff_lt_or_eq.1 hj with h5 | h5
     ·exact hno.out j h5
     ·subst h5; rw [← hx.out]; exact hP⟩
    case measure => simp [intOf]; omega
   | true =>
    have hkey := CQ (q := q) (p := aj) (L := M.L) (i := i) (by rw [← hl.out]; exact iO) (fun j hj => by rw [← hl.out]; exact hno.out j hj) (by rw [← hl.out, ← hx.out]; exact hP)
    obtain ⟨f, hf1, hf2, hf3⟩ := hkey
    rw [← hl.out, ← hx.out] at hf3
    have hfree := Lib.hid (qI hI hf2 (by rw [hf3]; exact hP))
    have hinv := Lib.hid (hI.vE hf2)
    have hcore := Lib.hid (EB (M := M) hf2)
    have Gz := Lib.hid (hI.ids f hf2)
    rw [hf3] at hfree hinv hcore Gz
    have hf1 := Lib.hid hf1
    have Ru := Lib.hid (hC.out.kept CR)
    go_wp2_with fail
    refine Reg2.rd w3 5 35 [[],[ae],[ae,ae],[ae,ae,ae],[af,af,af,af]] [0, 0, 0, 1, 1] [.pure, .pure, .pure, .mU (.pointer (some ⟨p, 0, none⟩)), .mU (.agg cS.toArray)] (by kernel_rfl) (by kernel_rfl) rfl rfl ⟨trivial, trivial, trivial, Reg2.tt, Reg2.tt, trivial⟩ ⟨rfl, rfl, rfl, Nat.le_refl _, fun _ _ => rfl⟩ ?_
    dsimp only [Reg2.mk, List.zip, List.zipWith, List.take]
    repeat (refine' Reg2.ai _ (by rfl) (fun wz => ?_) ?_; rotate_left; (go_simp; first | rfl | rw [if_neg (by omega)]); simp only [Act.put, xA, xB, xC]; (try simp only [xD]); (try simp only [xE]); (try simp only [id]))
    refine Reg2.pm (fun wz hI hF => ?_) (fun r3 => ?_) (by rfl)
    ·have c0 := (Ru.out.kept hI).c2
     go_wp2_with fail
     first | exact ⟨_, rfl, rfl, Reg2.Ext.refl _⟩ | exact ⟨_, rfl, ⟨(), rfl, trivial⟩, Reg2.Ext.refl _⟩
    simp only [Act.put, xA, xB, xC]; (try simp only [xD]); (try simp only [xE]); (try simp only [id])
    refine Reg2.pm (fun wz hI hF => ?_) (fun r4 => ?_) (by rfl)
    ·have d0 := eu ((hI.block _ (ay hy3.out)).trans hy3.out) lS
     go_wp2_with fail
     first | exact ⟨_, rfl, rfl, Reg2.Ext.refl _⟩ | exact ⟨_, rfl, ⟨(), rfl, trivial⟩, Reg2.Ext.refl _⟩
    simp only [Act.put, xA, xB, xC]; (try simp only [xD]); (try simp only [xE]); (try simp only [id])
    refine Reg2.aA ?_
    intro w4 HI4 _ dI
    clear dI
    dsimp only [List.drop]
    have ow := Ru.out.kept HI4
    have hb4 := CR.trans (HI4.mono CR.size)
    have yO : w4.heap[wr.heap.size]? = some (.cells cI.toArray 63 (0, 0)) := (HI4.block _ (by omega)).trans hz3.out
    have hrel := rZ ow qZ.out ha hm x.aD (x.aD + x.lim) x.wid (fun t => az { M with L := M.L.set f (x.aI (-1)) } t 0) (by have := hI.one x hxm; have : 1 ≤ x.lim := this.2.2.1; omega) (by omega) (by have := hI.mb.wid x hxm; omega) (fun t _ => hfree.out t) (fun t ht => uP hinv.out t ht)
    have lD : cS = [.int .i64 x.aD, .int .i64 (x.aD + x.lim), .int .i64 x.wid] := by rw [← kI.out]; unfold aN; rw [if_pos hP]
    clear kI
    subst lD
    go_wp2_with fail
    go_at_call 112
    refine hrel.mono ?_
    clear hrel
    rintro e w5 ⟨rfl, v5, g5, gu, hS5⟩
    have FQ : Hid (w5.heap[wr.heap.size]? = some (.cells cI.toArray 63 (0, 0))) := (hS5.heap (ay yO) (fun hf => by have := hlt.out _ hf; have := hbr.size; omega)).trans yO
    replace gu := Lib.hid gu
    go_wp2_with fail
    refine Reg2.rd w5 6 35 [[],[ae],[ae,ae],[ae,ae,ae],[af,af,af,af],[af,af,af,af,ae]] [0, 0, 0, 1, 0, 1] [.pure, .pure, .pure, .mU (.pointer (some ⟨t, 0, none⟩)), .pure, .mU (.int .i64 x.id)] (by kernel_rfl) (by kernel_rfl) rfl rfl ⟨trivial, trivial, trivial, Reg2.tt, trivial, Reg2.tt, trivial⟩ ⟨rfl, rfl, rfl, Nat.le_refl _, fun _ _ => rfl⟩ ?_
    dsimp only [Reg2.mk, List.zip, List.zipWith, List.take]
    repeat (refine' Reg2.ai _ (by rfl) (fun wz => ?_) ?_; rotate_left; (go_simp; first | rfl | rw [if_neg (by omega)]); simp only [Act.put, xA, xB, xC]; (try simp only [xD]); (try simp only [xE]); (try simp only [id]))
    refine Reg2.pm (fun wz hI hF => ?_) (fun r3 => ?_) (by rfl)
    ·have c0 := (gu.out.kept hI).c0
     go_wp2_with fail
     first | exact ⟨_, rfl, rfl, Reg2.Ext.refl _⟩ | exact ⟨_, rfl, ⟨(), rfl, trivial⟩, Reg2.Ext.refl _⟩
    simp only [Act.put, xA, xB, xC]; (try simp only [xD]); (try simp only [xE]); (try simp only [id])
    repeat (refine' Reg2.ai _ (by rfl) (fun wz => ?_) ?_; rotate_left; (go_simp; first | rfl | rw [if_neg (by omega)]); simp only [Act.put, xA, xB, xC]; (try simp only [xD]); (try simp only [xE]); (try simp only [id]))
    refine Reg2.pm (fun wz hI hF => ?_) (fun r5 => ?_) (by rfl)
    ·have q0 : wz.cell? ⟨wr.heap.size, 0, none⟩ = some (.int .i64 x.id) := by simp [World.cell?, (hI.block _ (ay FQ.out)).trans FQ.out, Ur]
     go_wp2_with fail
     first | exact ⟨_, rfl, rfl, Reg2.Ext.refl _⟩ | exact ⟨_, rfl, ⟨(), rfl, trivial⟩, Reg2.Ext.refl _⟩
    simp only [Act.put, xA, xB, xC]; (try simp only [xD]); (try simp only [xE]); (try simp only [id])
    refine Reg2.aA ?_
    intro w6 GA _ dI
    clear dI
    dsimp only [List.drop]
    have GD := gu.out.kept GA
    have OZ := CK GD x.id (-1)
    go_wp2_with fail
    go_at_call 154
    refine OZ.mono ?_
    clear OZ
    rintro e w7 ⟨rfl, v7, g7, yP, gG⟩
    have hst := aT.1 hP
    have hpe : gM (-1) = 0 := by decide
    have D9 : bM M.L (gM (-1)) x.id (fun j : Jb => decide (j.state = 1)) = 0 := by
     unfold bM
     rw [Gz.out, if_neg (by rw [hpe]; decide), if_neg (by omega), if_neg (by omega), show ((f : Int) + 1 - 1).toNat = f by omega, if_pos]
     rw [getElem!_pos M.L f hf2]
     have : M.L[f] = x := by rw [← hf3]; simp [List.getD, hf2]
     rw [this]
     exact decide_eq_true hst.1
    have Vw : ({ ({ ak M with f := fun t => az { M with L := M.L.set f (x.aI (-1)) } t 0 } : Pg) with J := cu M.L (gM (-1)) x.id (fun j : Jb => decide (j.state = 1)) (kr (-1)) } : Pg) = ak { M with L := M.L.set f (x.aI (-1)) } := by
     have e1 : cu M.L (gM (-1)) x.id (fun j : Jb => decide (j.state = 1)) (kr (-1)) = M.L.set f (x.aI (-1)) := by
      unfold cu
      rw [if_pos D9, Gz.out, show ((f : Int) + 1 - 1).toNat = f by omega, getElem!_pos M.L f hf2]
      have : M.L[f] = x := by rw [← hf3]; simp [List.getD, hf2]
      rw [this]
      rfl
     rw [e1]
     unfold ak
     rw [hcore.out]
    have hfin : CW w7 c t d p v7 g7 (a + 2) (m + 1) (ak { M with L := M.L.set f (x.aI (-1)) }) := Vw ▸ yP
    have hSS : CS w w7 c t d p v g v7 g7 := ((CS.of_below (CR.trans (HI4.mono CR.size))).trans hS5).trans ((CS.of_below GA).trans gG)
    go_wp2_with fail
    go_ret
    exact .inr ⟨f, hf1.out, rfl, v7, g7, by rw [hf3]; exact hfin, hSS⟩
  ·have e : i = n := by omega
   subst e
   have hfi := hid (Gy (q := q) (p := aj) (L := M.L) (fun j hj => by rw [← hl.out]; exact hno.out j (by rw [← hn.out, hl.out]; exact hj)))
   go_wp2_with fail
   go_ret
   exact .inl ⟨hfi.out, rfl, hbr⟩
end
end Go.Proofs.YtnihdgcfamoplaaGreat

namespace Go.Proofs.YtnihdgcfamoplaaGreat
open Go.RowKit Go.Lib Go.Sort
theorem JB {j : Jb} (h : j.id ≠ 0) : (fun x : Jb => (aJ j x && decide (x.state ∈ [(1 : Int)])) && aj x) = pK j := by
 funext x
 unfold pK
 cases hp : aj x with
 | false => simp
 | true =>
  have : x.state = 1 := (aT.1 hp).1
  simp [h, this]
theorem GG : (fun x : Jb => decide (x.state ∈ [(1 : Int)]) && aj x) = pK kF := by
 funext x
 unfold pK
 cases hp : aj x with
 | false => simp
 | true =>
  have h1 : x.state = 1 := (aT.1 hp).1
  have h2 : kF.id = 0 := rfl
  simp [h1, h2]
section
variable {w : World} {b c t d p g a : Nat} {v : Value} {m : Int} {M : Md} {R : Wk}
def Ms (w : World) (b c t d p : Nat) (v : Value) (g a : Nat) (m : Int) (R : Wk) (M : Md) (k : Nat) (o : Option Nat) (e : Ending) (w' : World) : Prop :=
 (o = none ∧ au w b c t d p v g a m .nilFunc R (ak M) e w') ∨
 ∃ i, o = some i ∧ au w b c t d p v g (a + 2) (m + 1) (fH k) R (ak { M with L := M.L.set i ((M.L.getD i default).aI (-1)) }) e w'
theorem vQ (h : SW w b c t d p v g a m R (ak M)) (hI : aG M) (h1 : 1 ≤ M.dr.length) (hll : M.L.length ≤ 900) (ha : a ≤ 800) (hm : m ≤ 1000000) (hid : R.aC.id ≠ 0) :
  Calls Tryz.prog 138 #[.pointer (some ⟨b, 0, none⟩), .pointer (some ⟨c, 0, none⟩)] w (Ms w b c t d p v g a m R M 138 (dU R.aC M.L)) := by
 have zE := bG
 obtain ⟨k, hk⟩ : ∃ k, k = 10 := ⟨_, rfl⟩
 rw [← hk] at zE
 have hk0 : ¬ k = 0 := by omega
 have lJ := ax R.aC
 rw [← hk] at lJ
 replace hk := Lib.hid hk
 have hS := Lib.hid h
 have hin := fun (W : World) (hW : Below w.heap.size w W) (u : Value) (hu : aF enc1 1 W u [1]) => uH (h.kept hW).cw.fe (by show M.L.length ≤ 1000; omega) hu
 have hlen : (M.L.filter fun j : Jb => decide (j.state ∈ [(1 : Int)])).length ≤ 900 := Nat.le_trans (List.length_filter_le _ _) hll
 have hbe := fun (W : World) (u : Value) (hu : aF ag 10 W u (M.L.filter fun j : Jb => decide (j.state ∈ [(1 : Int)]))) => FL R.aC u _ W hu hlen
 have hint : Hid (∀ W : World, aF enc1 1 (W.alloc (.cells #[.int .i64 1] 3)) (.slice (some ⟨W.heap.size, 0, none⟩) 1 1) [1]) := fun W => fV W W.heap.size [1] rfl (by decide)
 have SE : Hid (∀ W, Below w.heap.size w W → Sem.run Tryz.prog (loadCellsFrom ⟨b, 12, none⟩ 0 k #[]) W = .ok (ag R.aC).toArray W) := fun W hW => (h.kept hW).wk.mD lJ
 have QW := List.filter_filter (p := aJ R.aC) (q := fun j : Jb => decide (j.state ∈ [(1 : Int)])) (l := M.L)
 have hhit := JB hid
 generalize hL1 : (M.L.filter fun j : Jb => decide (j.state ∈ [(1 : Int)])) = L1 at *
 generalize hL2 : L1.filter (aJ R.aC) = L2 at *
 have hdr := fun (W : World) (u : Value) (hC : CW W c t d p v g a m (ak M)) (hu : aF ag 10 W u L2) => uQ hC hI h1 hll ha hm u L2 _ hu QW
 have hin' := fun (W : World) (hW : Below w.heap.size w W) (u : Value) (hu : aF enc1 1 W u [1]) => (hin W hW u hu)
 rw [show (ak M).J = M.L from rfl, hL1] at hin
 generalize ag R.aC = cJ at *
 replace hL1 := Lib.hid hL1
 replace hL2 := Lib.hid hL2
 replace QW := Lib.hid QW
 replace hhit := Lib.hid hhit
 clear h hin' hlen
 go_enter Tryz.func138, Tryz.ntmps138
 go_wp2_with fail
 refine Reg2.rd w 12 18 [[],[af],[af,ae],[af,ae,ae],[af,ae,ae,ae],[af,af,af,af,af],[af,af,af,af,af,ae],[af,af,af,af,af,ae,ae],[af,af,af,af,af,ae,ae,ae],[af,af,af,af,af,af,af,af,af],[af,af,af,af,af,ae,ae,ae,ae,ae],[af,ae,ae,ae,ae,ae,ae,ae,ae,ae,ae]] [0, 0, 0, 0, 1, 0, 0, 0, 1, 1, 1, 1] [.pure, .pure, .pure, .pure, .mU (.agg cJ.toArray), .pure, .pure, .pure, .mU (.pointer (some ⟨t, 0, none⟩)), .minor Nat 0 (fun k => .slice (some ⟨k, 0, none⟩) 1 1) (fun k W => aF enc1 1 W (.slice (some ⟨k, 0, none⟩) 1 1) [1]), .minor Value (.bool false) (fun x => x) (fun x W => aF ag 10 W x L1), .minor Value (.bool false) (fun x => x) (fun x W => aF ag 10 W x L2)] (by kernel_rfl) (by kernel_rfl) rfl rfl ⟨trivial, trivial, trivial, trivial, Reg2.tt, trivial, trivial, trivial, Reg2.tt, ⟨fun k a b he hp => hp.below he, fun k a b he hp => hp.below he⟩, ⟨fun k a b he hp => hp.below he, fun k a b he hp => hp.below he⟩, ⟨fun k a b he hp => hp.below he, fun k a b he hp => hp.below he⟩, trivial⟩ ⟨rfl, rfl, rfl, Nat.le_refl _, fun _ _ => rfl⟩ ?_
 dsimp only [Reg2.mk, List.zip, List.zipWith, List.take]
 repeat (refine' Reg2.ai _ (by rfl) (fun wz => ?_) ?_; rotate_left; (go_simp; first | rfl | rw [if_neg (by omega)]); simp only [Act.put, xA, xB, xC]; (try simp only [xD]); (try simp only [xE]); (try simp only [id]))
 refine Reg2.pm (fun wz hI hF => ?_) (fun r4 => ?_) (by rfl)
 ·have d0 := SE.out wz hI
  go_wp2_with fail
  first | exact ⟨_, rfl, rfl, Reg2.Ext.refl _⟩ | exact ⟨_, rfl, ⟨(), rfl, trivial⟩, Reg2.Ext.refl _⟩
 simp only [Act.put, xA, xB, xC]; (try simp only [xD]); (try simp only [xE]); (try simp only [id])
 repeat (refine' Reg2.ai _ (by rfl) (fun wz => ?_) ?_; rotate_left; (go_simp; first | rfl | rw [if_neg (by omega)]); simp only [Act.put, xA, xB, xC]; (try simp only [xD]); (try simp only [xE]); (try simp only [id]))
 refine Reg2.pm (fun wz hI hF => ?_) (fun r8 => ?_) (by rfl)
 ·have c0 := (hS.out.cw.kept hI).c0
  go_wp2_with fail
  first | exact ⟨_, rfl, rfl, Reg2.Ext.refl _⟩ | exact ⟨_, rfl, ⟨(), rfl, trivial⟩, Reg2.Ext.refl _⟩
 simp only [Act.put, xA, xB, xC]; (try simp only [xD]); (try simp only [xE]); (try simp only [id])
 refine Reg2.pm (fun wz hI hF => ?_) (fun r9 => ?_) (by rfl)
 ·have pa := hint.out wz
  go_wp2_with fail
  exact ⟨_, rfl, ⟨_, rfl, pa⟩, (Reg2.Ext.refl _).alloc (Nat.le_refl _) _⟩
 simp only [Act.put, xA, xB, xC]; (try simp only [xD]); (try simp only [xE]); (try simp only [id])
 refine Reg2.pm (fun wz hI hF => ?_) (fun wR => ?_) (by rfl)
 ·have hv := hF.2.2.2.2.1
  go_wp2_with (go_at_call 64; go_must (refine (hin wz hI _ hv).mono ?_); rintro e w' ⟨u, rfl, ho, hb5⟩)
  exact ⟨_, rfl, ⟨_, rfl, aF.jh ho ax rfl rfl⟩, hb5⟩
 simp only [Act.put, xA, xB, xC]; (try simp only [xD]); (try simp only [xE]); (try simp only [id])
 refine Reg2.pm (fun wz hI hF => ?_) (fun Mt => ?_) (by rfl)
 ·have hv := hF.2.2.2.2.2.2.2.2.2.1
  go_wp2_with (go_at_call 160; go_must (refine (hbe wz _ hv).mono ?_); rintro e w' ⟨u, rfl, ho, hb5⟩)
  exact ⟨_, rfl, ⟨_, rfl, ho⟩, hb5⟩
 simp only [Act.put, xA, xB, xC]; (try simp only [xD]); (try simp only [xE]); (try simp only [id])
 refine Reg2.aA ?_
 intro w7 jN _ jW
 have hv7 := jW.2.2.2.2.2.2.2.2.2.2.2.1
 clear jW
 dsimp only [List.drop]
 have gG := hS.out.kept jN
 have hd7 := hdr w7 _ gG.cw hv7
 go_wp2_with fail
 go_at_call 159
 refine hd7.mono ?_
 clear hd7
 rintro e w8 (⟨ho, rfl, tY⟩ | ⟨i, ho, rfl, v8, g8, SF, gB⟩)
 ·have hfin := gG.kept tY
  go_wp2_with fail
  go_ret
  exact .inl ⟨by unfold dU; rw [← hhit.out]; exact ho, rfl, v, g, hfin, WS.of_below (jN.trans (tY.mono jN.size))⟩
 ·have hfin := gG.core SF gB
  go_wp2_with fail
  go_ret
  exact .inr ⟨i, by unfold dU; rw [← hhit.out]; exact ho, rfl, v8, g8, hfin, (WS.of_below jN).trans (WS.dC gB)⟩
end
end Go.Proofs.YtnihdgcfamoplaaGreat

namespace Go.Proofs.YtnihdgcfamoplaaGreat
open Go.RowKit Go.Lib
theorem AJ (k : Int) (w : World) : Calls Tryz.prog 48 #[.int .i64 k] w fun e w' => e = .returned (.bool (decide (1 ≤ k) && decide (k ≤ 13))) ∧ w = w' := by
 by_cases h1 : 1 ≤ k
 ·have d1 : decide (1 ≤ k) = true := decide_eq_true h1
  go_enter Tryz.func48, Tryz.ntmps48
  go_wp2_with fail
  go_ret
  exact ⟨by simp [h1], rfl⟩
 ·have d1 : decide (1 ≤ k) = false := decide_eq_false h1
  go_enter Tryz.func48, Tryz.ntmps48
  go_wp2_with fail
  go_ret
  exact ⟨by simp, rfl⟩
def jl (k : Int) : Bool := decide (k = 6) || decide (k = 10) || decide (k = 11) || decide (k = 12)
theorem CU (k : Int) (w : World) : Calls Tryz.prog 100 #[.int .i64 k] w fun e w' => e = .returned (.bool (jl k)) ∧ w = w' := by
 by_cases h6 : k = 6
 ·subst h6
  go_enter Tryz.func100, Tryz.ntmps100
  go_wp2_with fail
  go_ret
  exact ⟨rfl, rfl⟩
 by_cases h10 : k = 10
 ·subst h10
  go_enter Tryz.func100, Tryz.ntmps100
  go_wp2_with fail
  go_ret
  exact ⟨rfl, rfl⟩
 by_cases h11 : k = 11
 ·subst h11
  go_enter Tryz.func100, Tryz.ntmps100
  go_wp2_with fail
  go_ret
  exact ⟨rfl, rfl⟩
 by_cases h12 : k = 12
 ·subst h12
  go_enter Tryz.func100, Tryz.ntmps100
  go_wp2_with fail
  go_ret
  exact ⟨rfl, rfl⟩
 have e : jl k = false := by simp [jl, h6, h10, h11, h12]
 rw [e]
 have t6 : (k == 6) = false := beq_eq_false_iff_ne.2 h6
 have t10 : (k == 10) = false := beq_eq_false_iff_ne.2 h10
 have t11 : (k == 11) = false := beq_eq_false_iff_ne.2 h11
 have t12 : (k == 12) = false := beq_eq_false_iff_ne.2 h12
 clear h6 h10 h11 h12 e
 go_enter Tryz.func100, Tryz.ntmps100
 go_wp2_with fail
 go_ret
 exact ⟨rfl, rfl⟩
end Go.Proofs.YtnihdgcfamoplaaGreat

namespace Go.Proofs.YtnihdgcfamoplaaGreat
open Go.RowKit Go.Lib
def kX (r : Rq) : Rq :=
 if r.kind = 1 then ⟨r.kind, 0, r.user, r.width, r.limit, r.prio, r.held, 0, 0⟩
 else if r.kind = 2 ∨ r.kind = 3 ∨ r.kind = 4 ∨ r.kind = 5 ∨ r.kind = 6 then ⟨r.kind, r.id, 0, 0, 0, 0, false, 0, 0⟩
 else if r.kind = 7 ∨ r.kind = 8 then ⟨r.kind, 0, 0, 0, 0, 0, false, r.node, 0⟩
 else if r.kind = 9 then ⟨r.kind, 0, 0, 0, 0, 0, false, 0, r.till⟩
 else ⟨r.kind, 0, 0, 0, 0, 0, false, 0, 0⟩
theorem O0 (x2 x3 x4 x5 x6 : Int) (x7 : Bool) (x8 x9 : Int) (w : World) : Calls Tryz.prog 82 #[.agg #[.int .i64 1, .int .i64 x2, .int .i64 x3, .int .i64 x4, .int .i64 x5, .int .i64 x6, .bool x7, .int .i64 x8, .int .i64 x9]] w fun e w' => e = .returned (.agg #[.int .i64 1, .int .i64 0, .int .i64 x3, .int .i64 x4, .int .i64 x5, .int .i64 x6, .bool x7, .int .i64 0, .int .i64 0]) ∧ Below w.heap.size w w' := by
 go_enter Tryz.func82, Tryz.ntmps82
 go_wp2_with fail
 go_region
 all_goals (try go_wp2_with fail)
 refine fB rfl rfl rfl (show (World.drew _).heap[_]? = _ from bP (heap_alloc2_new w _ _)) Tryz.underlying32 rfl (by kernel_rfl) ⟨rfl, ?_⟩
 exact ((((Below.refl _ _).alloc (Nat.le_refl _) _).alloc (by simp) _).alloc (by simp; omega) _).drew
theorem O1 (x2 x3 x4 x5 x6 : Int) (x7 : Bool) (x8 x9 : Int) (w : World) : Calls Tryz.prog 82 #[.agg #[.int .i64 2, .int .i64 x2, .int .i64 x3, .int .i64 x4, .int .i64 x5, .int .i64 x6, .bool x7, .int .i64 x8, .int .i64 x9]] w fun e w' => e = .returned (.agg #[.int .i64 2, .int .i64 x2, .int .i64 0, .int .i64 0, .int .i64 0, .int .i64 0, .bool false, .int .i64 0, .int .i64 0]) ∧ Below w.heap.size w w' := by
 go_enter Tryz.func82, Tryz.ntmps82
 go_wp2_with fail
 refine fB rfl rfl rfl (bP (heap_alloc2_new w _ _)) Tryz.underlying32 rfl (by kernel_rfl) ⟨rfl, ?_⟩
 exact ((((Below.refl _ _).alloc (Nat.le_refl _) _).alloc (by simp) _).alloc (by simp; omega) _)
theorem O3 (x2 x3 x4 x5 x6 : Int) (x7 : Bool) (x8 x9 : Int) (w : World) : Calls Tryz.prog 82 #[.agg #[.int .i64 3, .int .i64 x2, .int .i64 x3, .int .i64 x4, .int .i64 x5, .int .i64 x6, .bool x7, .int .i64 x8, .int .i64 x9]] w fun e w' => e = .returned (.agg #[.int .i64 3, .int .i64 x2, .int .i64 0, .int .i64 0, .int .i64 0, .int .i64 0, .bool false, .int .i64 0, .int .i64 0]) ∧ Below w.heap.size w w' := by
 go_enter Tryz.func82, Tryz.ntmps82
 go_wp2_with fail
 refine fB rfl rfl rfl (bP (heap_alloc2_new w _ _)) Tryz.underlying32 rfl (by kernel_rfl) ⟨rfl, ?_⟩
 exact ((((Below.refl _ _).alloc (Nat.le_refl _) _).alloc (by simp) _).alloc (by simp; omega) _)
theorem O4 (x2 x3 x4 x5 x6 : Int) (x7 : Bool) (x8 x9 : Int) (w : World) : Calls Tryz.prog 82 #[.agg #[.int .i64 4, .int .i64 x2, .int .i64 x3, .int .i64 x4, .int .i64 x5, .int .i64 x6, .bool x7, .int .i64 x8, .int .i64 x9]] w fun e w' => e = .returned (.agg #[.int .i64 4, .int .i64 x2, .int .i64 0, .int .i64 0, .int .i64 0, .int .i64 0, .bool false, .int .i64 0, .int .i64 0]) ∧ Below w.heap.size w w' := by
 go_enter Tryz.func82, Tryz.ntmps82
 go_wp2_with fail
 refine fB rfl rfl rfl (bP (heap_alloc2_new w _ _)) Tryz.underlying32 rfl (by kernel_rfl) ⟨rfl, ?_⟩
 exact ((((Below.refl _ _).alloc (Nat.le_refl _) _).alloc (by simp) _).alloc (by simp; omega) _)
theorem O5 (x2 x3 x4 x5 x6 : Int) (x7 : Bool) (x8 x9 : Int) (w : World) : Calls Tryz.prog 82 #[.agg #[.int .i64 5, .int .i64 x2, .int .i64 x3, .int .i64 x4, .int .i64 x5, .int .i64 x6, .bool x7, .int .i64 x8, .int .i64 x9]] w fun e w' => e = .returned (.agg #[.int .i64 5, .int .i64 x2, .int .i64 0, .int .i64 0, .int .i64 0, .int .i64 0, .bool false, .int .i64 0, .int .i64 0]) ∧ Below w.heap.size w w' := by
 go_enter Tryz.func82, Tryz.ntmps82
 go_wp2_with fail
 refine fB rfl rfl rfl (bP (heap_alloc2_new w _ _)) Tryz.underlying32 rfl (by kernel_rfl) ⟨rfl, ?_⟩
 exact ((((Below.refl _ _).alloc (Nat.le_refl _) _).alloc (by simp) _).alloc (by simp; omega) _)
theorem O6 (x2 x3 x4 x5 x6 : Int) (x7 : Bool) (x8 x9 : Int) (w : World) : Calls Tryz.prog 82 #[.agg #[.int .i64 6, .int .i64 x2, .int .i64 x3, .int .i64 x4, .int .i64 x5, .int .i64 x6, .bool x7, .int .i64 x8, .int .i64 x9]] w fun e w' => e = .returned (.agg #[.int .i64 6, .int .i64 x2, .int .i64 0, .int .i64 0, .int .i64 0, .int .i64 0, .bool false, .int .i64 0, .int .i64 0]) ∧ Below w.heap.size w w' := by
 go_enter Tryz.func82, Tryz.ntmps82
 go_wp2_with fail
 refine fB rfl rfl rfl (bP (heap_alloc2_new w _ _)) Tryz.underlying32 rfl (by kernel_rfl) ⟨rfl, ?_⟩
 exact ((((Below.refl _ _).alloc (Nat.le_refl _) _).alloc (by simp) _).alloc (by simp; omega) _)
theorem O7 (x2 x3 x4 x5 x6 : Int) (x7 : Bool) (x8 x9 : Int) (w : World) : Calls Tryz.prog 82 #[.agg #[.int .i64 7, .int .i64 x2, .int .i64 x3, .int .i64 x4, .int .i64 x5, .int .i64 x6, .bool x7, .int .i64 x8, .int .i64 x9]] w fun e w' => e = .returned (.agg #[.int .i64 7, .int .i64 0, .int .i64 0, .int .i64 0, .int .i64 0, .int .i64 0, .bool false, .int .i64 x8, .int .i64 0]) ∧ Below w.heap.size w w' := by
 go_enter Tryz.func82, Tryz.ntmps82
 go_wp2_with fail
 refine fB rfl rfl rfl (bP (heap_alloc2_new w _ _)) Tryz.underlying32 rfl (by kernel_rfl) ⟨rfl, ?_⟩
 exact ((((Below.refl _ _).alloc (Nat.le_refl _) _).alloc (by simp) _).alloc (by simp; omega) _)
theorem O8 (x2 x3 x4 x5 x6 : Int) (x7 : Bool) (x8 x9 : Int) (w : World) : Calls Tryz.prog 82 #[.agg #[.int .i64 8, .int .i64 x2, .int .i64 x3, .int .i64 x4, .int .i64 x5, .int .i64 x6, .bool x7, .int .i64 x8, .int .i64 x9]] w fun e w' => e = .returned (.agg #[.int .i64 8, .int .i64 0, .int .i64 0, .int .i64 0, .int .i64 0, .int .i64 0, .bool false, .int .i64 x8, .int .i64 0]) ∧ Below w.heap.size w w' := by
 go_enter Tryz.func82, Tryz.ntmps82
 go_wp2_with fail
 refine fB rfl rfl rfl (bP (heap_alloc2_new w _ _)) Tryz.underlying32 rfl (by kernel_rfl) ⟨rfl, ?_⟩
 exact ((((Below.refl _ _).alloc (Nat.le_refl _) _).alloc (by simp) _).alloc (by simp; omega) _)
theorem O9 (x2 x3 x4 x5 x6 : Int) (x7 : Bool) (x8 x9 : Int) (w : World) : Calls Tryz.prog 82 #[.agg #[.int .i64 9, .int .i64 x2, .int .i64 x3, .int .i64 x4, .int .i64 x5, .int .i64 x6, .bool x7, .int .i64 x8, .int .i64 x9]] w fun e w' => e = .returned (.agg #[.int .i64 9, .int .i64 0, .int .i64 0, .int .i64 0, .int .i64 0, .int .i64 0, .bool false, .int .i64 0, .int .i64 x9]) ∧ Below w.heap.size w w' := by
 go_enter Tryz.func82, Tryz.ntmps82
 go_wp2_with fail
 refine fB rfl rfl rfl (bP (heap_alloc2_new w _ _)) Tryz.underlying32 rfl (by kernel_rfl) ⟨rfl, ?_⟩
 exact ((((Below.refl _ _).alloc (Nat.le_refl _) _).alloc (by simp) _).alloc (by simp; omega) _)
theorem Mv (x1 : Int) (x2 x3 x4 x5 x6 : Int) (x7 : Bool) (x8 x9 : Int) (w : World) (h1 : x1 ≠ 1) (h2 : x1 ≠ 2) (h3 : x1 ≠ 3) (h4 : x1 ≠ 4) (h5 : x1 ≠ 5) (h6 : x1 ≠ 6) (h7 : x1 ≠ 7) (h8 : x1 ≠ 8) (h9 : x1 ≠ 9) : Calls Tryz.prog 82 #[.agg #[.int .i64 x1, .int .i64 x2, .int .i64 x3, .int .i64 x4, .int .i64 x5, .int .i64 x6, .bool x7, .int .i64 x8, .int .i64 x9]] w fun e w' => e = .returned (.agg #[.int .i64 x1, .int .i64 0, .int .i64 0, .int .i64 0, .int .i64 0, .int .i64 0, .bool false, .int .i64 0, .int .i64 0]) ∧ Below w.heap.size w w' := by
 have t1 : (x1 == 1) = false := beq_eq_false_iff_ne.2 h1
 have t2 : (x1 == 2) = false := beq_eq_false_iff_ne.2 h2
 have t3 : (x1 == 3) = false := beq_eq_false_iff_ne.2 h3
 have t4 : (x1 == 4) = false := beq_eq_false_iff_ne.2 h4
 have t5 : (x1 == 5) = false := beq_eq_false_iff_ne.2 h5
 have t6 : (x1 == 6) = false := beq_eq_false_iff_ne.2 h6
 have t7 : (x1 == 7) = false := beq_eq_false_iff_ne.2 h7
 have t8 : (x1 == 8) = false := beq_eq_false_iff_ne.2 h8
 have t9 : (x1 == 9) = false := beq_eq_false_iff_ne.2 h9
 clear h1 h2 h3 h4 h5 h6 h7 h8 h9
 go_enter Tryz.func82, Tryz.ntmps82
 go_wp2_with fail
 refine fB rfl rfl rfl (bP (heap_alloc2_new w _ _)) Tryz.underlying32 rfl (by kernel_rfl) ⟨rfl, ?_⟩
 exact ((((Below.refl _ _).alloc (Nat.le_refl _) _).alloc (by simp) _).alloc (by simp; omega) _)
theorem Mw (r : Rq) (w : World) : Calls Tryz.prog 82 #[.agg (encR r).toArray] w fun e w' => e = .returned (.agg (encR (kX r)).toArray) ∧ Below w.heap.size w w' := by
 obtain ⟨x1, x2, x3, x4, x5, x6, x7, x8, x9⟩ := r
 by_cases h1 : x1 = 1
 ·subst h1
  exact O0 x2 x3 x4 x5 x6 x7 x8 x9 w
 by_cases h2 : x1 = 2
 ·subst h2
  exact O1 x2 x3 x4 x5 x6 x7 x8 x9 w
 by_cases h3 : x1 = 3
 ·subst h3
  exact O3 x2 x3 x4 x5 x6 x7 x8 x9 w
 by_cases h4 : x1 = 4
 ·subst h4
  exact O4 x2 x3 x4 x5 x6 x7 x8 x9 w
 by_cases h5 : x1 = 5
 ·subst h5
  exact O5 x2 x3 x4 x5 x6 x7 x8 x9 w
 by_cases h6 : x1 = 6
 ·subst h6
  exact O6 x2 x3 x4 x5 x6 x7 x8 x9 w
 by_cases h7 : x1 = 7
 ·subst h7
  exact O7 x2 x3 x4 x5 x6 x7 x8 x9 w
 by_cases h8 : x1 = 8
 ·subst h8
  exact O8 x2 x3 x4 x5 x6 x7 x8 x9 w
 by_cases h9 : x1 = 9
 ·subst h9
  exact O9 x2 x3 x4 x5 x6 x7 x8 x9 w
 have e : kX ⟨x1, x2, x3, x4, x5, x6, x7, x8, x9⟩ = ⟨x1, 0, 0, 0, 0, 0, false, 0, 0⟩ := by simp [kX, h1, h2, h3, h4, h5, h6, h7, h8, h9]
 rw [e]
 exact Mv x1 x2 x3 x4 x5 x6 x7 x8 x9 w h1 h2 h3 h4 h5 h6 h7 h8 h9
end Go.Proofs.YtnihdgcfamoplaaGreat
