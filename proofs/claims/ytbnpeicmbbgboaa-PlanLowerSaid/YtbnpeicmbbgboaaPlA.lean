/-
  Own words and walks: the document's profile in memory, how many are free at a time, and the times at which that may change.
-/
import Derived.Test.YtbnpeicmbbgboaaPfP
namespace Go.Proofs.Ytbnpeicmbbgboaa
set_option maxRecDepth 8000
open Go.RowKit Go.Sort Go.Lib

def spV (l : List Sp) : List Value := l.flatMap enc3
theorem spV_length (l : List Sp) : (spV l).length = l.length * 3 := by
  induction l with
  | nil => rfl
  | cons a l ih => show (enc3 a ++ spV l).length = _; rw [List.length_append, ih, List.length_cons]; simp [enc3]; omega
theorem spV_get {l : List Sp} {i : Nat} {s : Sp} (h : l[i]? = some s) : (spV l)[i * 3]? = some (.int .i64 s.a) ∧ (spV l)[i * 3 + 1]? = some (.int .i64 s.b) ∧ (spV l)[i * 3 + 2]? = some (.int .i64 s.n) := by
  induction l generalizing i with
  | nil => simp at h
  | cons a l ih =>
    have e : spV (a :: l) = enc3 a ++ spV l := by simp [spV]
    rw [e]
    rcases i with _ | i
    · simp at h; subst h; exact ⟨rfl, rfl, rfl⟩
    · have := ih (i := i) (by simpa using h)
      have hl : (enc3 a).length = 3 := rfl
      rw [List.getElem?_append_right (by omega), List.getElem?_append_right (by omega), List.getElem?_append_right (by omega), hl]
      rw [show (i + 1) * 3 - 3 = i * 3 by omega, show (i + 1) * 3 + 1 - 3 = i * 3 + 1 by omega, show (i + 1) * 3 + 2 - 3 = i * 3 + 2 by omega]
      exact this
theorem take_snoc {α : Type} {l : List α} {k : Nat} {s : α} (h : l[k]? = some s) : l.take (k + 1) = l.take k ++ [s] := by
  obtain ⟨hk, rfl⟩ := List.getElem?_eq_some_iff.1 h
  rw [List.take_succ_eq_append_getElem hk]

/-- The document's profile in memory. -/
def QW (B : Nat) (w : World) (q : Nat) (F now : Int) (E : List Sp) (ver : Int) : Prop :=
  B ≤ q ∧ ∃ v, w.heap[q]? = some (.cells #[.int .i64 F, .int .i64 now, v, .int .i64 ver] 61 (0, 0)) ∧ w.ownsRow B 63 3 v E.length (spV E)

structure QFacts (B : Nat) (w : World) (q : Nat) (F now : Int) (E : List Sp) (ver : Int) (ao : Option Addr) (cap : Nat) : Prop where
  obj : w.heap[q]? = some (.cells #[.int .i64 F, .int .i64 now, .slice ao E.length cap, .int .i64 ver] 61 (0, 0))
  bq : B ≤ q
  own : w.ownsRow B 63 3 (.slice ao E.length cap) E.length (spV E)
  c0 : w.cell? ⟨q, 0, none⟩ = some (.int .i64 F)
  c1 : w.cell? ⟨q, 1, none⟩ = some (.int .i64 now)
  c2 : w.cell? ⟨q, 2, none⟩ = some (.slice ao E.length cap)
  c3 : w.cell? ⟨q, 3, none⟩ = some (.int .i64 ver)
  fz : ∀ j, w.frozen? ⟨q, j, none⟩ = false
  ql : q < w.heap.size
  ad : 0 < E.length → ∃ h, ao = some ⟨h, 0, none⟩

section
variable {B : Nat} {w w' : World} {q : Nat} {F now : Int} {E : List Sp} {ver : Int}

theorem QW.facts (h : QW B w q F now E ver) : ∃ ao cap, QFacts B w q F now E ver ao cap := by
  obtain ⟨h0, v, h1, h2⟩ := h
  obtain ⟨ao, cap, rfl, h3⟩ := own_shape h2
  exact ⟨ao, cap, h1, h0, h2, by simp [World.cell?, h1], by simp [World.cell?, h1], by simp [World.cell?, h1], by simp [World.cell?, h1], fun j => by simp [World.frozen?, h1], pf_lt_of_heap h1, h3⟩
theorem QW.kept (h : QW B w q F now E ver) (hb : Below w.heap.size w w') : QW B w' q F now E ver := by
  obtain ⟨h0, v, h1, h2⟩ := h
  exact ⟨h0, v, by rw [hb.block q (pf_lt_of_heap h1)]; exact h1, pf_own_kept h2 hb⟩
theorem span_cells {h cap i : Nat} (ho : w.ownsRow B 63 3 (.slice (some ⟨h, 0, none⟩) E.length cap) E.length (spV E)) {s : Sp} (hs : E[i]? = some s) :
    w.cell? ⟨h, i * 3, none⟩ = some (.int .i64 s.a) ∧ w.cell? ⟨h, i * 3 + 1, none⟩ = some (.int .i64 s.b) ∧ w.cell? ⟨h, i * 3 + 2, none⟩ = some (.int .i64 s.n) := by
  obtain ⟨h0, h1, h2⟩ := spV_get hs
  have c0 := ho.cells (g := h) rfl _ _ h0
  have c1 := ho.cells (g := h) rfl _ _ h1
  have c2 := ho.cells (g := h) rfl _ _ h2
  rw [Go.WideShapes.add_plain] at c0 c1 c2
  simp only [Nat.zero_add] at c0 c1 c2
  exact ⟨c0, c1, c2⟩

set_option maxRecDepth 100000 in
set_option maxHeartbeats 1000000 in
theorem PAt_any (t : Int) (h : QW B w q F now E ver) (hE : ∀ s ∈ E, SpOk s) (hl : E.length ≤ 60) (hF : 0 ≤ F ∧ F ≤ 64) :
    Calls Try.prog 33 #[.pointer (some ⟨q, 0, none⟩), .int .i64 t] w fun e w' => e = .returned (.int .i64 (raw F E (max t now))) ∧ w = w' := by
  obtain ⟨ao, cap, Q⟩ := h.facts
  have c0 := Q.c0
  have c1 := Q.c1
  have c2 := Q.c2
  obtain ⟨m, hm⟩ : ∃ m, m = max t now := ⟨_, rfl⟩
  rw [← hm]
  have main : ∀ u, (u = t ∧ now ≤ t ∧ m = t) ∨ (u = now ∧ t < now ∧ m = now) → Calls Try.prog 33 #[.pointer (some ⟨q, 0, none⟩), .int .i64 t] w fun e w' => e = .returned (.int .i64 (raw F E m)) ∧ w = w' := by
    intro u hu
    rcases hu with ⟨_, h1, hm2⟩ | ⟨_, h1, hm2⟩
    · have h1' : ¬ (t < now) := by omega
      subst hm2
      replace hm := Lib.hid hm
      go_enter Try.func33, Try.ntmps33
      go_wp2_with fail
      go_loopw [5, 6] (fun u i wr => ∃ (k : Nat), k ≤ E.length ∧ i = .int .i64 k ∧ u = .int .i64 (raw F (E.take k) m) ∧ wr = w) (fun _ i _ => E.length - (intOf i).toNat)
      case atStart => exact ⟨0, Nat.zero_le _, rfl, by rw [List.take_zero, raw_nil], rfl⟩
      case round =>
        obtain ⟨k, hk, rfl, rfl, rfl⟩ := hrel
        by_cases hlt : k < E.length
        · obtain ⟨hb, rfl⟩ := Q.ad (by omega)
          obtain ⟨s, hs⟩ : ∃ s, E[k]? = some s := ⟨_, List.getElem?_eq_getElem hlt⟩
          obtain ⟨s0, s1, s2⟩ := span_cells Q.own hs
          have hso := hE s (List.mem_of_getElem? hs)
          have hn := hso.n
          have hr := raw_range (E := E.take k) (fun x hx => hE x (List.mem_of_mem_take hx)) m
          have hkl : (E.take k).length ≤ 60 := by rw [List.length_take]; omega
          have hrw : raw F (E.take k) m = F + ((E.take k).map (hadS m)).sum := rfl
          have hstep : raw F (E.take (k + 1)) m = raw F (E.take k) m + had s.a s.b s.n m := by rw [take_snoc hs, raw_snoc]
          obtain ⟨x, hx⟩ : ∃ x, x = raw F (E.take k) m := ⟨_, rfl⟩
          rw [← hx] at hstep ⊢
          rw [← hx] at hrw
          have hxb : -5000 ≤ x ∧ x ≤ 5000 := by omega
          obtain ⟨sa, sb, sn⟩ := s
          dsimp only at s0 s1 s2 hn hstep
          have hw1 : IntKind.i64.wrap (x + sn) = x + sn := IntWalk.i64_in _ (by omega)
          have hw2 : IntKind.i64.wrap ((k : Int) + 1) = (k : Int) + 1 := IntWalk.i64_in _ (by omega)
          have b1 : (0 : Int) ≤ k := by omega
          have b2 : (k : Int) < (E.length : Int) := by omega
          clear hr hrw hs hso h hE
          replace hx := Lib.hid hx
          by_cases hA : sa ≤ m
          · have dA : decide (sa ≤ m) = true := decide_eq_true hA
            by_cases hB : m < sb
            · have dB : decide (m < sb) = true := decide_eq_true hB
              have HN : Hid (raw F (E.take (k + 1)) m = x + sn) := by show _ = _; rw [hstep, had, if_pos ⟨hA, .inl hB⟩]
              clear hstep
              go_wp2_with fail
              go_roundw
              case rel => exact ⟨k + 1, by omega, by go_num, by rw [HN.out], trivial⟩
              case measure => simp [intOf]; omega
            · have dB : decide (m < sb) = false := decide_eq_false hB
              by_cases hC : sb = 1152921504606846976
              · subst hC
                have HN : Hid (raw F (E.take (k + 1)) m = x + sn) := by show _ = _; rw [hstep, had, if_pos ⟨hA, .inr rfl⟩]
                clear hstep
                go_wp2_with fail
                go_roundw
                case rel => exact ⟨k + 1, by omega, by go_num, by rw [HN.out], trivial⟩
                case measure => simp [intOf]; omega
              · have dC : (sb == 1152921504606846976) = false := beq_eq_false_iff_ne.2 hC
                have HN : Hid (raw F (E.take (k + 1)) m = x) := by show _ = _; rw [hstep, had, if_neg (by omega)]; omega
                clear hstep
                go_wp2_with fail
                go_roundw
                case rel => exact ⟨k + 1, by omega, by go_num, by rw [HN.out], trivial⟩
                case measure => simp [intOf]; omega
          · have dA : decide (sa ≤ m) = false := decide_eq_false hA
            have HN : Hid (raw F (E.take (k + 1)) m = x) := by show _ = _; rw [hstep, had, if_neg (by omega)]; omega
            clear hstep
            go_wp2_with fail
            go_roundw
            case rel => exact ⟨k + 1, by omega, by go_num, by rw [HN.out], trivial⟩
            case measure => simp [intOf]; omega
        · obtain rfl : k = E.length := by omega
          rw [List.take_of_length_le (Nat.le_refl _)]
          go_wp2_with fail
          go_ret
          exact ⟨rfl, rfl⟩
    · have h1' := h1
      subst hm2
      replace hm := Lib.hid hm
      go_enter Try.func33, Try.ntmps33
      go_wp2_with fail
      go_loopw [5, 6] (fun u i wr => ∃ (k : Nat), k ≤ E.length ∧ i = .int .i64 k ∧ u = .int .i64 (raw F (E.take k) m) ∧ wr = w) (fun _ i _ => E.length - (intOf i).toNat)
      case atStart => exact ⟨0, Nat.zero_le _, rfl, by rw [List.take_zero, raw_nil], rfl⟩
      case round =>
        obtain ⟨k, hk, rfl, rfl, rfl⟩ := hrel
        by_cases hlt : k < E.length
        · obtain ⟨hb, rfl⟩ := Q.ad (by omega)
          obtain ⟨s, hs⟩ : ∃ s, E[k]? = some s := ⟨_, List.getElem?_eq_getElem hlt⟩
          obtain ⟨s0, s1, s2⟩ := span_cells Q.own hs
          have hso := hE s (List.mem_of_getElem? hs)
          have hn := hso.n
          have hr := raw_range (E := E.take k) (fun x hx => hE x (List.mem_of_mem_take hx)) m
          have hkl : (E.take k).length ≤ 60 := by rw [List.length_take]; omega
          have hrw : raw F (E.take k) m = F + ((E.take k).map (hadS m)).sum := rfl
          have hstep : raw F (E.take (k + 1)) m = raw F (E.take k) m + had s.a s.b s.n m := by rw [take_snoc hs, raw_snoc]
          obtain ⟨x, hx⟩ : ∃ x, x = raw F (E.take k) m := ⟨_, rfl⟩
          rw [← hx] at hstep ⊢
          rw [← hx] at hrw
          have hxb : -5000 ≤ x ∧ x ≤ 5000 := by omega
          obtain ⟨sa, sb, sn⟩ := s
          dsimp only at s0 s1 s2 hn hstep
          have hw1 : IntKind.i64.wrap (x + sn) = x + sn := IntWalk.i64_in _ (by omega)
          have hw2 : IntKind.i64.wrap ((k : Int) + 1) = (k : Int) + 1 := IntWalk.i64_in _ (by omega)
          have b1 : (0 : Int) ≤ k := by omega
          have b2 : (k : Int) < (E.length : Int) := by omega
          clear hr hrw hs hso h hE
          replace hx := Lib.hid hx
          by_cases hA : sa ≤ m
          · have dA : decide (sa ≤ m) = true := decide_eq_true hA
            by_cases hB : m < sb
            · have dB : decide (m < sb) = true := decide_eq_true hB
              have HN : Hid (raw F (E.take (k + 1)) m = x + sn) := by show _ = _; rw [hstep, had, if_pos ⟨hA, .inl hB⟩]
              clear hstep
              go_wp2_with fail
              go_roundw
              case rel => exact ⟨k + 1, by omega, by go_num, by rw [HN.out], trivial⟩
              case measure => simp [intOf]; omega
            · have dB : decide (m < sb) = false := decide_eq_false hB
              by_cases hC : sb = 1152921504606846976
              · subst hC
                have HN : Hid (raw F (E.take (k + 1)) m = x + sn) := by show _ = _; rw [hstep, had, if_pos ⟨hA, .inr rfl⟩]
                clear hstep
                go_wp2_with fail
                go_roundw
                case rel => exact ⟨k + 1, by omega, by go_num, by rw [HN.out], trivial⟩
                case measure => simp [intOf]; omega
              · have dC : (sb == 1152921504606846976) = false := beq_eq_false_iff_ne.2 hC
                have HN : Hid (raw F (E.take (k + 1)) m = x) := by show _ = _; rw [hstep, had, if_neg (by omega)]; omega
                clear hstep
                go_wp2_with fail
                go_roundw
                case rel => exact ⟨k + 1, by omega, by go_num, by rw [HN.out], trivial⟩
                case measure => simp [intOf]; omega
          · have dA : decide (sa ≤ m) = false := decide_eq_false hA
            have HN : Hid (raw F (E.take (k + 1)) m = x) := by show _ = _; rw [hstep, had, if_neg (by omega)]; omega
            clear hstep
            go_wp2_with fail
            go_roundw
            case rel => exact ⟨k + 1, by omega, by go_num, by rw [HN.out], trivial⟩
            case measure => simp [intOf]; omega
        · obtain rfl : k = E.length := by omega
          rw [List.take_of_length_le (Nat.le_refl _)]
          go_wp2_with fail
          go_ret
          exact ⟨rfl, rfl⟩
  rcases Int.lt_or_le t now with h1 | h1
  · exact main now (.inr ⟨rfl, h1, by omega⟩)
  · exact main t (.inl ⟨rfl, h1, by omega⟩)
end

end Go.Proofs.Ytbnpeicmbbgboaa
