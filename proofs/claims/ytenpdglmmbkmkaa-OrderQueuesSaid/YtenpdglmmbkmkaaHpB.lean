/-
  Own walk: the heap's way down.
-/
import Derived.Test.YtenpdglmmbkmkaaHpA
namespace Go.Proofs.Ytenpdglmmbkmkaa
open Go.RowKit Go.Sort Go.Lib Go.Shelf

theorem ix_zero (a b : Int) (w : World) : Sem.run Try.prog (Instr.index 53 (.agg #[.int .i64 a, .int .i64 b]) (.int .i64 0)) w = .ok (.int .i64 a) w := by kernel_rfl
theorem ix_one (a b : Int) (w : World) : Sem.run Try.prog (Instr.index 53 (.agg #[.int .i64 a, .int .i64 b]) (.int .i64 1)) w = .ok (.int .i64 b) w := by kernel_rfl

section
variable {α : Type} [Inhabited α] {enc : α → List Value} {lt : α → α → Bool} {w : World} {p g off cap : Nat} {d d0 : Array α}

set_option maxHeartbeats 8000000 in
set_option maxRecDepth 1000000 in
theorem sink_fn (k : Nat) (zE : ∀ w, Sem.run Try.prog (Go.sizeOf 24) w = .ok k w) (n i q : Nat) (os : Array Obj) (hE : EncOk enc k) (hS : SWO lt) (hL : LessOk Try.prog 9 enc lt) (h : HpAt enc k w p g off cap n d0) (hs : d.size = n) (hi : i ≤ n) (hn : n ≤ 100000) (hdn : Hp.Dn lt n i d) :
    Calls Try.prog 24 #[.pointer (some ⟨p, 0, none⟩), .int .i64 i] (sortWorldK enc k w g off q d os) (HeapPost enc k w g off n lt d) := by
  have hmix := mixedS
  have SWP : Hid _ := fun (x y q : Nat) (os : Array Obj) (d : Array α) (hs : d.size = n) (hx : x < n) (hy : y < n) => qswap_fn k zE n x y q os hE h hs hx hy
  have LES : Hid _ := fun (x y q : Nat) (os : Array Obj) (d : Array α) (hs : d.size = n) (hx : x < n) (hy : y < n) => less_class (q := q) (os := os) hE hL h hs hx hy
  have FAR : Hid _ := fun (q : Nat) (os : Array Obj) (d : Array α) => h.far (d := d) (q := q) (os := os)
  clear h hL
  replace hS := Lib.hid hS
  replace hE := Lib.hid hE
  go_enter Try.func24, Try.ntmps24
  go_wp2_with fail
  go_loopw [1] (fun ii wr => ∃ (i qi : Nat) (di : Array α) (oi : Array Obj), ii = .int .i64 i ∧ i ≤ n ∧ di.size = n ∧ wr = sortWorldK enc k w g off qi di oi ∧ Hid (Hp.Dn lt n i di) ∧ Hid (di.toList.Perm d.toList)) (fun ii _ => n - (intOf ii).toNat)
  case atStart => exact ⟨i, q, d, os, rfl, hi, hs, rfl, hdn, List.Perm.refl _⟩
  case round =>
    clear hdn hs hi
    obtain ⟨i, qi, di, oi, rfl, hin, hsi, rfl, HD, HP⟩ := hrel
    obtain ⟨m, hm⟩ : ∃ m, m = 2 * i := ⟨_, rfl⟩
    obtain ⟨c1, hc1⟩ : ∃ c, c = m + 1 := ⟨_, rfl⟩
    obtain ⟨c2, hc2⟩ : ∃ c, c = m + 2 := ⟨_, rfl⟩
    have w1 : IntKind.i64.wrap (2 * (i : Int)) = (m : Int) := by rw [IntKind.wrap_i64]; omega
    have w2 : IntKind.i64.wrap ((m : Int) + 1) = (c1 : Int) := by rw [IntKind.wrap_i64]; omega
    have w3 : IntKind.i64.wrap ((m : Int) + 2) = (c2 : Int) := by rw [IntKind.wrap_i64]; omega
    have ic1 : i < c1 := by omega
    have ic2 : i < c2 := by omega
    have kc1 : c1 ≤ 200005 := by omega
    have kc2 : c2 ≤ 200005 := by omega
    have lc1 : c1 ≤ 2 * i + 2 := by omega
    have lc2 : c2 ≤ 2 * i + 2 := by omega
    have ec1 : Hid (c1 = 2 * i + 1 + 0) := by show _ = _; omega
    have ec2 : Hid (c2 = 2 * i + 1 + 1) := by show _ = _; omega
    clear hm hc1 hc2
    have hst : Hid (∃ q0 o0, sortWorldK enc k w g off qi di oi = sortWorldK enc k w g off q0 di o0) := ⟨qi, oi, rfl⟩
    generalize sortWorldK enc k w g off qi di oi = wq at *
    go_wp2_with fail
    go_loopw [4, 15] (fun ff tt wr2 => ∃ (f t qj : Nat) (oj : Array Obj), ff = .int .i64 f ∧ tt = .int .i64 t ∧ t ≤ 2 ∧ wr2 = sortWorldK enc k w g off qj di oj ∧ Hid (Hp.Bst lt n i di t f) ∧ f ≤ 2 * i + 2) (fun _ tt _ => 2 - (intOf tt).toNat)
    case atStart =>
      obtain ⟨q0, o0, e0⟩ := hst.out
      exact ⟨i, 0, q0, o0, rfl, rfl, by omega, e0, Hp.Bst.start, by omega⟩
    case round =>
      clear hst
      obtain ⟨f, t, qj, oj, rfl, rfl, ht2, rfl, HB, hfi⟩ := hrel
      rcases (by omega : t = 0 ∨ t = 1 ∨ t = 2) with rfl | rfl | rfl
      · rw [show ((0 : Nat) : Int) = 0 from rfl]
        have ix := fun w => ix_zero c1 c2 w
        have hB := HB
        by_cases hcn : c1 < n
        · have g1 : (c1 : Int) < (n : Int) := by omega
          have d1 : decide ((c1 : Int) < (n : Int)) = true := decide_eq_true g1
          have hfn : f < n := by
            by_cases e : f = i
            · omega
            · exact HB.out.inn e
          have g2 : (f : Int) < (n : Int) := by omega
          obtain ⟨hcls, li, lp, hless⟩ := LES.out c1 f qj oj di hsi hcn hfn
          have hcc := FAR.out qj oj di
          have CLS : Hid _ := hcls
          clear hcls
          have lA := hE.out.len di[c1]!
          have lB := hE.out.len di[f]!
          generalize hlv : lt di[c1]! di[f]! = bv at *
          replace hlv := Lib.hid hlv
          generalize enc di[c1]! = cA at *
          generalize enc di[f]! = cB at *
          generalize hwq : sortWorldK enc k w g off qj di oj = wq at *
          replace hwq := Lib.hid hwq
          go_wp2_with fail
          go_quiet_grown ((go_at_call 9; exact Calls.grown_of (hless _ _)))
          clear hless li lp hcc
          have hw2 := CLS.out nq osq
          generalize grow (wq.drewN nq) osq = w2 at hw2 ⊢
          replace hw2 := Lib.hid hw2
          cases bv with
          | false =>
            have HB2 : Hid (Hp.Bst lt n i di 1 f) := HB.out.no (t := 0) (fun _ => by rw [show 2 * i + 1 + 0 = c1 from ec1.out.symm]; exact hlv.out)
            go_wp2_with fail
            go_roundw
            case rel => exact ⟨f, 1, _, _, rfl, by go_num, by omega, hw2.out, HB2, by omega⟩
            case measure => simp [intOf]
          | true =>
            have HB2 : Hid (Hp.Bst lt n i di 1 c1) := by
              have := HB.out.yes hS.out (t := 0) (by omega) (by have := ec1.out; omega) (by rw [show 2 * i + 1 + 0 = c1 from ec1.out.symm]; exact hlv.out)
              rw [show 2 * i + 1 + 0 = c1 from ec1.out.symm] at this
              exact this
            go_wp2_with fail
            go_roundw
            case rel => exact ⟨c1, 1, _, _, rfl, by go_num, by omega, hw2.out, HB2, by omega⟩
            case measure => simp [intOf]
        · have g1 : ¬ (c1 : Int) < (n : Int) := by omega
          have d1 : decide (c1 < n) = false := decide_eq_false hcn
          have hcc : ∀ n', ((sortWorldK enc k w g off qj di oj).drewN n').cell? ⟨p, 0, none⟩ = some (.slice (some ⟨g, off, none⟩) n cap) := fun n' => by have := FAR.out qj oj di n' #[]; rw [grow_empty] at this; exact this
          have HB2 : Hid (Hp.Bst lt n i di 1 f) := HB.out.no (t := 0) (fun h => absurd h (by have := ec1.out; omega))
          have CLS : Hid (∀ n', (sortWorldK enc k w g off qj di oj).drewN n' = sortWorldK enc k w g off (qj + n') di (oj ++ #[])) := fun n' => by rw [← sortWorldK_grown_c enc k w g off qj n' di oj #[], grow_empty]
          generalize hwq : sortWorldK enc k w g off qj di oj = wq at *
          replace hwq := Lib.hid hwq
          clear LES SWP FAR w1 w2 w3 hcn g1
          go_wp2_with fail
          go_quiet (fail)
          go_wp2_with fail
          go_roundw
          case rel => exact ⟨f, 1, _, _, rfl, by go_num, by omega, CLS.out nq, HB2, by omega⟩
          case measure => simp [intOf]
      · rw [show ((1 : Nat) : Int) = 1 from rfl]
        have ix := fun w => ix_one c1 c2 w
        have hB := HB
        by_cases hcn : c2 < n
        · have g1 : (c2 : Int) < (n : Int) := by omega
          have d1 : decide ((c2 : Int) < (n : Int)) = true := decide_eq_true g1
          have hfn : f < n := by
            by_cases e : f = i
            · omega
            · exact HB.out.inn e
          have g2 : (f : Int) < (n : Int) := by omega
          obtain ⟨hcls, li, lp, hless⟩ := LES.out c2 f qj oj di hsi hcn hfn
          have hcc := FAR.out qj oj di
          have CLS : Hid _ := hcls
          clear hcls
          have lA := hE.out.len di[c2]!
          have lB := hE.out.len di[f]!
          generalize hlv : lt di[c2]! di[f]! = bv at *
          replace hlv := Lib.hid hlv
          generalize enc di[c2]! = cA at *
          generalize enc di[f]! = cB at *
          generalize hwq : sortWorldK enc k w g off qj di oj = wq at *
          replace hwq := Lib.hid hwq
          go_wp2_with fail
          go_quiet_grown ((go_at_call 9; exact Calls.grown_of (hless _ _)))
          clear hless li lp hcc
          have hw2 := CLS.out nq osq
          generalize grow (wq.drewN nq) osq = w2 at hw2 ⊢
          replace hw2 := Lib.hid hw2
          cases bv with
          | false =>
            have HB2 : Hid (Hp.Bst lt n i di 2 f) := HB.out.no (t := 1) (fun _ => by rw [show 2 * i + 1 + 1 = c2 from ec2.out.symm]; exact hlv.out)
            go_wp2_with fail
            go_roundw
            case rel => exact ⟨f, 2, _, _, rfl, by go_num, by omega, hw2.out, HB2, by omega⟩
            case measure => simp [intOf]
          | true =>
            have HB2 : Hid (Hp.Bst lt n i di 2 c2) := by
              have := HB.out.yes hS.out (t := 1) (by omega) (by have := ec2.out; omega) (by rw [show 2 * i + 1 + 1 = c2 from ec2.out.symm]; exact hlv.out)
              rw [show 2 * i + 1 + 1 = c2 from ec2.out.symm] at this
              exact this
            go_wp2_with fail
            go_roundw
            case rel => exact ⟨c2, 2, _, _, rfl, by go_num, by omega, hw2.out, HB2, by omega⟩
            case measure => simp [intOf]
        · have g1 : ¬ (c2 : Int) < (n : Int) := by omega
          have d1 : decide (c2 < n) = false := decide_eq_false hcn
          have hcc : ∀ n', ((sortWorldK enc k w g off qj di oj).drewN n').cell? ⟨p, 0, none⟩ = some (.slice (some ⟨g, off, none⟩) n cap) := fun n' => by have := FAR.out qj oj di n' #[]; rw [grow_empty] at this; exact this
          have HB2 : Hid (Hp.Bst lt n i di 2 f) := HB.out.no (t := 1) (fun h => absurd h (by have := ec2.out; omega))
          have CLS : Hid (∀ n', (sortWorldK enc k w g off qj di oj).drewN n' = sortWorldK enc k w g off (qj + n') di (oj ++ #[])) := fun n' => by rw [← sortWorldK_grown_c enc k w g off qj n' di oj #[], grow_empty]
          generalize hwq : sortWorldK enc k w g off qj di oj = wq at *
          replace hwq := Lib.hid hwq
          clear LES SWP FAR w1 w2 w3 hcn g1
          go_wp2_with fail
          go_quiet (fail)
          go_wp2_with fail
          go_roundw
          case rel => exact ⟨f, 2, _, _, rfl, by go_num, by omega, CLS.out nq, HB2, by omega⟩
          case measure => simp [intOf]
      · by_cases hf : f = i
        · subst hf
          have hfin : Hid (HeapPost enc k w g off n lt d (.returned (.tuple #[])) (sortWorldK enc k w g off qj di oj)) := ⟨rfl, qj, oj, di, rfl, hsi, HD.out.stop HB.out, HP.out⟩
          generalize sortWorldK enc k w g off qj di oj = wq2 at *
          clear LES SWP FAR
          go_wp2_with fail
          refine bodyPost_ret (results_none rfl _ _ _) rfl ?_
          exact hfin.out
        · have b1 : ((f : Int) == (i : Int)) = false := beq_eq_false_iff_ne.2 (by omega)
          have hfn : f < n := HB.out.inn hf
          have hif : i < f := by have := HB.out.one; omega
          have hsw := SWP.out i f qj oj di hsi (by omega) hfn
          have HD2 : Hid (Hp.Dn lt n f (swp di i f)) := HD.out.go hS.out HB.out hf (by omega)
          have HP2 : Hid ((swp di i f).toList.Perm d.toList) := (Hp.swp_perm di (by omega) (by omega)).trans HP.out
          have hs2 : (swp di i f).size = n := by rw [swp_size]; exact hsi
          generalize sortWorldK enc k w g off qj di oj = wq2 at *
          clear LES SWP FAR
          go_wp2_with (go_at_call 28; go_must (refine hsw.mono ?_); rintro e9 w9 ⟨rfl, q9, rfl⟩)
          go_roundw
          case rel => exact ⟨f, q9, swp di i f, oj, rfl, by omega, hs2, rfl, HD2, HP2⟩
          case measure => simp [intOf]; omega

end
end Go.Proofs.Ytenpdglmmbkmkaa
