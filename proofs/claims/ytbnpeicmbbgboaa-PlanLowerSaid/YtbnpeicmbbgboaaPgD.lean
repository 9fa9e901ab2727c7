/-
  Own walks: what is left of a planner, its choices, its next items.
-/
import Derived.Test.YtbnpeicmbbgboaaPgC
namespace Go.Proofs.Ytbnpeicmbbgboaa
set_option maxRecDepth 8000
open Go.RowKit Go.Sort Go.Lib

/-- Items that are left, in a block of items. -/
def LeftAt (w : World) (lv : Value) (l : List It) : Prop :=
  RowAt encI 4 w lv l ∧ ∀ b off n cap, lv = .slice (some ⟨b, off, none⟩) n cap → ∃ cur, w.heap[b]? = some (Obj.cells cur 36 (0, 0))

section
variable {w w' : World} {lv : Value} {l : List It}
theorem LeftAt.kept (h : LeftAt w lv l) (hk : KeptI w w') : LeftAt w' lv l := by
  obtain ⟨⟨ao, cap, rfl, q1, q2, q3⟩, h2⟩ := h
  refine ⟨⟨ao, cap, rfl, q1, q2, fun hp => ?_⟩, fun b off n cap e => ?_⟩
  · obtain ⟨b, off, rfl, hlt, hc⟩ := q3 hp
    obtain ⟨cur, hb⟩ := h2 b off _ _ rfl
    refine ⟨b, off, rfl, Nat.lt_of_lt_of_le hlt hk.size, fun i s j u hi hj => ?_⟩
    rw [← hc i s j u hi hj]
    simp [World.cell?, hb, hk.at_ _ _ hb]
  · obtain ⟨cur, hb⟩ := h2 b off n cap e
    exact ⟨cur, hk.at_ _ _ hb⟩
theorem LeftAt.of_own {base n : Nat} {xs : List Value} (h : w.ownsRow base 36 4 lv n xs) (hx : xs = l.flatMap encI) (hn : n = l.length) : LeftAt w lv l :=
  ⟨RowAt.of_own h (fun _ => rfl) hx hn, fun b off m cap e => by subst e; exact own_at h rfl⟩
theorem LeftAt.shape (h : LeftAt w lv l) : ∃ ao cap, lv = .slice ao l.length cap ∧ l.length ≤ cap ∧ cap ≤ maxLen := by
  obtain ⟨⟨ao, cap, rfl, q1, q2, _⟩, _⟩ := h
  exact ⟨ao, cap, rfl, q1, q2⟩
/-- The first one, and what is left behind it. -/
theorem LeftAt.head {x : It} (h : LeftAt w lv (x :: l)) : ∃ b off cap, lv = .slice (some ⟨b, off, none⟩) (l.length + 1) cap ∧ l.length + 1 ≤ cap ∧ cap ≤ maxLen ∧
    (w.cell? ⟨b, off, none⟩ = some (.int .i64 x.id) ∧ w.cell? ⟨b, off + 1, none⟩ = some (.int .i64 x.wd) ∧ w.cell? ⟨b, off + 2, none⟩ = some (.int .i64 x.lim) ∧ w.cell? ⟨b, off + 3, none⟩ = some (.int .i64 x.pl)) ∧
    LeftAt w (.slice (if cap = 1 then some ⟨b, off, none⟩ else some ⟨b, off + 4, none⟩) l.length (cap - 1)) l := by
  obtain ⟨⟨ao, cap, rfl, q1, q2, q3⟩, h2⟩ := h
  obtain ⟨b, off, rfl, hlt, hc⟩ := q3 (by simp)
  obtain ⟨cur, hb⟩ := h2 b off _ _ rfl
  rw [List.length_cons] at q1
  refine ⟨b, off, cap, by rw [List.length_cons], q1, q2, ?_, ⟨_, _, rfl, by omega, by omega, fun hp => ?_⟩, fun b2 off2 n2 cap2 e => ?_⟩
  · have h3 := item_at hc (k := 0) rfl
    simpa using h3
  · have hc1 : ¬ cap = 1 := by omega
    refine ⟨b, off + 4, by rw [if_neg hc1], hlt, fun i s j u hi hj => ?_⟩
    have := hc (i + 1) s j u (by simpa using hi) hj
    rw [← this]
    congr 2
    omega
  · split at e <;> (injection e with e1; injection e1 with e1; injection e1 with e1; subst e1; exact ⟨cur, hb⟩)
end

section
variable {B : Nat} {w w' : World} {z p g : Nat} {lv cv : Value} {L : List (Int × Int)} {ver now : Int} {f : Int → Int} {cs : List (Int × Int)} {a : Nat} {m : Int} {l : List It}

theorem PlW.left (h : PlW B w z p g lv cv L ver now f cs a m) (lv' : Value) : PlW B (w.setCell ⟨z, 1, none⟩ lv') z p g lv' cv L ver now f cs a m ∧ Below B w (w.setCell ⟨z, 1, none⟩ lv') ∧ KeptI w (w.setCell ⟨z, 1, none⟩ lv') := by
  obtain ⟨cap, Z⟩ := h.x.facts
  obtain ⟨cur, hgh, _⟩ := own_heap Z.own
  have hS : Off z z w (w.setCell ⟨z, 1, none⟩ lv') := (Off.refl z z w).setCell (.inl rfl)
  refine ⟨⟨h.bz, by rw [heap_put h.obj]; rfl, h.x.off hS ⟨pf_apart_types Z.obj h.obj (by decide), pf_apart_types Z.obj h.obj (by decide)⟩ ⟨pf_apart_types hgh h.obj (by decide), pf_apart_types hgh h.obj (by decide)⟩, h.can, h.fr, h.now0, h.ll, h.v, h.bp, h.bg, ?_⟩, (Below.refl B w).setCell h.bz _, ⟨by simp, fun k cur3 hk => ?_⟩⟩
  · refine own_far h.ch (fun k hk => ?_) 1 lv'
    obtain ⟨cur3, hk3⟩ := own_at h.ch hk
    exact pf_apart_types hk3 h.obj (by decide)
  · rw [Below.heap_setCell w ⟨z, 1, none⟩ lv' k (pf_apart_types hk h.obj (by decide))]
    exact hk

theorem Left_fn (h : PlW B w z p g lv cv L ver now f cs a m) (hl : LeftAt w lv l) :
    Calls Try.prog 17 #[.pointer (some ⟨z, 0, none⟩)] w fun e w' => e = .returned (.int .i64 l.length) ∧ w = w' := by
  obtain ⟨ao, cap, rfl, q1, q2⟩ := hl.shape
  have c1 : w.cell? ⟨z, 1, none⟩ = some (.slice ao l.length cap) := by simp [World.cell?, h.obj]
  clear h hl q1 q2
  go_enter Try.func17, Try.ntmps17
  go_wp2_with fail
  go_ret
  exact ⟨rfl, rfl⟩
theorem Left_nil (w : World) : Calls Try.prog 17 #[.pointer none] w fun e w' => e = .returned (.int .i64 0) ∧ w = w' := by
  go_enter Try.func17, Try.ntmps17
  go_wp2_with fail
  go_ret
  exact ⟨rfl, rfl⟩

theorem Choices_fn (h : PlW B w z p g lv cv L ver now f cs a m) (hl : cs.length ≤ 1000) :
    Calls Try.prog 20 #[.pointer (some ⟨z, 0, none⟩)] w (ClonePC w cs) := by
  have hc := CloneC_fn (RowAt.of_own (enc := enc2) h.ch (fun _ => rfl) rfl rfl) hl
  obtain ⟨ao, cap, rfl, _⟩ := own_shape h.ch
  have c2 : w.cell? ⟨z, 2, none⟩ = some (.slice ao cs.length cap) := by simp [World.cell?, h.obj]
  clear h
  go_enter Try.func20, Try.ntmps20
  go_wp2_with fail
  go_at_call 34
  refine hc.mono ?_
  clear hc
  rintro e w1 ⟨v1, rfl, ho, hb⟩
  clear c2
  go_wp2_with fail
  go_ret
  exact ⟨_, rfl, ho, hb⟩
theorem Choices_nil (w : World) : Calls Try.prog 20 #[.pointer none] w fun e w' => e = .returned (.slice none 0 0) ∧ w = w' := by
  go_enter Try.func20, Try.ntmps20
  go_wp2_with fail
  go_ret
  exact ⟨rfl, rfl⟩

/-- What the next items make. -/
def NextPost (B : Nat) (w : World) (z p : Nat) (now : Int) (f : Int → Int) (cs : List (Int × Int)) (a : Nat) (m : Int) (l : List It) (n : Int) (e : Ending) (w' : World) : Prop :=
  ∃ K : Nat, (K : Int) = max 0 (min n l.length) ∧ e = .returned (.int .i64 K) ∧ ∃ (g' : Nat) (lv' cv' : Value) (L' : List (Int × Int)) (ver' : Int) (f' : Int → Int) (c : List (Int × Int)),
    PlW B w' z p g' lv' cv' L' ver' now f' (cs ++ c) (a + 4 * K) (m + 2 * K) ∧ LeftAt w' lv' (l.drop K) ∧ PlansR now (l.take K) f f' c ∧ Below B w w'

set_option maxRecDepth 1000000 in
set_option maxHeartbeats 8000000 in
theorem Next_fn (n : Int) (h : PlW B w z p g lv cv L ver now f cs a m) (hl : LeftAt w lv l) (hok : ∀ x ∈ l, x.ok) (ha : a + 4 * l.length ≤ 700) (hm : m + 2 * l.length ≤ 900000) (hm0 : 0 ≤ m) (hcs : cs.length + l.length ≤ 1000) :
    Calls Try.prog 16 #[.pointer (some ⟨z, 0, none⟩), .int .i64 n] w (NextPost B w z p now f cs a m l n) := by
  obtain ⟨K, hK⟩ : ∃ K : Nat, (K : Int) = max 0 (min n l.length) := ⟨(max 0 (min n l.length)).toNat, by omega⟩
  have hKl : K ≤ l.length := by omega
  have hlf := Left_fn h hl
  have hP0 := Lib.hid h
  have hL0 := Lib.hid hl
  have hK2 : max 0 (min n (l.length : Int)) = (K : Int) := hK.symm
  replace hK := Lib.hid hK
  replace hok := Lib.hid hok
  have hkk : (K : Int) ≤ 9223372036854775807 := by omega
  have hlen : l.length ≤ 1000 := by omega
  clear h hl
  go_enter Try.func16, Try.ntmps16
  go_wp2_with (go_at_call 17; go_must (refine hlf.mono ?_); rintro e w' ⟨rfl, rfl⟩)
  clear hlf hK2
  go_loopw [11] (fun ii wr => ∃ (i : Nat) (g' : Nat) (lv' cv' : Value) (L' : List (Int × Int)) (ver' : Int) (f' : Int → Int) (c : List (Int × Int)), i ≤ K ∧ ii = .int .i64 i ∧ Hid (PlW B wr z p g' lv' cv' L' ver' now f' (cs ++ c) (a + 4 * i) (m + 2 * i)) ∧ Hid (LeftAt wr lv' (l.drop i)) ∧ Hid (PlansR now (l.take i) f f' c) ∧ Hid (Below B w wr)) (fun ii _ => K - (intOf ii).toNat)
  case atStart => exact ⟨0, g, lv, cv, L, ver, f, [], Nat.zero_le _, rfl, by rw [List.append_nil]; simpa using hP0, by simpa using hL0, ⟨rfl, rfl⟩, Below.refl _ _⟩
  case round =>
    obtain ⟨i, g1, lv1, cv1, L1, ver1, f1, c1, hi, rfl, hP1, hL1, hR1, hb1⟩ := hrel
    by_cases hlt : i < K
    · obtain ⟨x, hx⟩ : ∃ x, l[i]? = some x := ⟨_, List.getElem?_eq_getElem (by omega)⟩
      have hd : l.drop i = x :: l.drop (i + 1) := by
        obtain ⟨h1, rfl⟩ := List.getElem?_eq_some_iff.1 hx
        exact List.drop_eq_getElem_cons h1
      have htk := take_snoc hx
      have hL1' := hL1.out
      rw [hd] at hL1'
      obtain ⟨b, off, cap, rfl, q1, q2, ⟨k0, k1, k2, k3⟩, hL2⟩ := hL1'.head
      have hc1 : wr.cell? ⟨z, 1, none⟩ = some (.slice (some ⟨b, off, none⟩) ((l.drop (i + 1)).length + 1) cap) := by simp [World.cell?, hP1.out.obj]
      obtain ⟨r, hr⟩ : ∃ r, r = l.drop (i + 1) := ⟨_, rfl⟩
      have hplan := plan_fn x (hok.out x (List.mem_of_getElem? hx)) hP1.out (by omega) (by omega) (by
        have h1 := PlansR.len _ hR1.out
        rw [List.length_take] at h1
        rw [List.length_append]
        omega)
      rw [← hr] at hc1 hL2
      have hd' : Hid (l.drop (i + 1) = r) := hr.symm
      obtain ⟨rn, hrn⟩ : ∃ rn, rn = r.length := ⟨_, rfl⟩
      rw [← hrn] at hc1 hL2
      have hrl : i + 1 + rn = l.length := by rw [hrn, hr, List.length_drop]; omega
      have q3 : rn + 1 ≤ cap := by rw [hrn, hr]; exact q1
      clear hr q1 hL1' hd
      replace hrn := Lib.hid hrn
      replace hL2 := Lib.hid hL2
      replace htk := Lib.hid htk
      replace hx := Lib.hid hx
      go_wp2_with fail
      go_at_call 29
      refine hplan.mono ?_
      clear hplan k0 k1 k2 k3 hc1
      rintro e w2 ⟨rfl, g2, cv2, L2, ver2, f2, c2, hP2, hR2, hb2, hk2⟩
      have hc1 : w2.cell? ⟨z, 1, none⟩ = some (.slice (some ⟨b, off, none⟩) (rn + 1) cap) := by
        have := hP2.obj
        have hrn2 := hrn.out
        have hd2 := hd'.out
        rw [hd2, ← hrn2] at this
        simp [World.cell?, this]
      have hz1 : w2.frozen? ⟨z, 1, none⟩ = false := by simp [World.frozen?, hP2.obj]
      have hL3 := hL2.out.kept hk2
      obtain ⟨lv3, hlv3⟩ : ∃ lv3, lv3 = Value.slice (if cap = 1 then some ⟨b, off, none⟩ else some ⟨b, off + 4, none⟩) rn (cap - 1) := ⟨_, rfl⟩
      rw [← hlv3] at hL3
      obtain ⟨hP3, hb3, hk3⟩ := hP2.left lv3
      replace hL3 := Lib.hid (hL3.kept hk3)
      replace hP3 := Lib.hid hP3
      have hb3 := Lib.hid ((hb1.out.trans hb2).trans hb3)
      have hR3 : Hid (PlansR now (l.take (i + 1)) f f2 (c1 ++ c2)) := by rw [htk.out]; exact hR1.out.snoc _ hR2
      clear hP2 hL2 hk2 hk3 hb2 hR2 hP1 hL1 hR1 hb1
      subst hlv3
      go_wp2_with fail
      go_roundw
      case rel =>
        refine ⟨i + 1, g2, .slice (if cap = 1 then some ⟨b, off, none⟩ else some ⟨b, off + 4, none⟩) rn (cap - 1), cv2, L2, ver2, f2, c1 ++ c2, by omega, by go_num, ?_, ?_, hR3, hb3⟩
        · have h1 := hP3.out
          rw [List.append_assoc, show a + 4 * i + 4 = a + 4 * (i + 1) by omega, show m + 2 * (i : Int) + 2 = m + 2 * ((i + 1 : Nat) : Int) by omega] at h1
          exact h1
        · rw [hd'.out]; exact hL3
      case measure => simp [intOf]; omega
    · obtain rfl : i = K := by omega
      have hfin : Hid (NextPost B w z p now f cs a m l n (.returned (.int .i64 i)) wr) := ⟨i, hK.out, rfl, g1, lv1, cv1, L1, ver1, f1, c1, hP1.out, hL1.out, hR1.out, hb1.out⟩
      clear hP1 hL1 hR1 hb1 hP0 hL0
      go_wp2_with fail
      go_ret
      exact hfin.out
end

end Go.Proofs.Ytbnpeicmbbgboaa
