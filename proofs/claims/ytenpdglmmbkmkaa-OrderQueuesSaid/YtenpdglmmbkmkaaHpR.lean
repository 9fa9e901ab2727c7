/-
  Own walk: the heap's way up.
-/
import Derived.Test.YtenpdglmmbkmkaaHpA
namespace Go.Proofs.Ytenpdglmmbkmkaa
open Go.RowKit Go.Sort Go.Lib Go.Shelf

section
variable {α : Type} [Inhabited α] {enc : α → List Value} {lt : α → α → Bool} {w : World} {p g off cap : Nat} {d d0 : Array α}

set_option maxHeartbeats 4000000 in
set_option maxRecDepth 1000000 in
theorem rise_fn (k : Nat) (zE : ∀ w, Sem.run Try.prog (Go.sizeOf 24) w = .ok k w) (n i q : Nat) (os : Array Obj) (hE : EncOk enc k) (hS : SWO lt) (hL : LessOk Try.prog 9 enc lt) (h : HpAt enc k w p g off cap n d0) (hs : d.size = n) (hi : i < n) (hn : n ≤ 100000) (hup : Hp.Up lt n i d) :
    Calls Try.prog 25 #[.pointer (some ⟨p, 0, none⟩), .int .i64 i] (sortWorldK enc k w g off q d os) (HeapPost enc k w g off n lt d) := by
  have hmix := mixedS
  have SWP : Hid _ := fun (x y q : Nat) (os : Array Obj) (d : Array α) (hs : d.size = n) (hx : x < n) (hy : y < n) => qswap_fn k zE n x y q os hE h hs hx hy
  have LES : Hid _ := fun (x y q : Nat) (os : Array Obj) (d : Array α) (hs : d.size = n) (hx : x < n) (hy : y < n) => less_class (q := q) (os := os) hE hL h hs hx hy
  have FAR : Hid _ := fun (q : Nat) (os : Array Obj) (d : Array α) => h.far (d := d) (q := q) (os := os)
  clear h hL
  replace hS := Lib.hid hS
  replace hE := Lib.hid hE
  go_enter Try.func25, Try.ntmps25
  go_wp2_with fail
  go_loopw [1] (fun ii wr => ∃ (i qi : Nat) (di : Array α) (oi : Array Obj), ii = .int .i64 i ∧ i < n ∧ di.size = n ∧ wr = sortWorldK enc k w g off qi di oi ∧ Hid (Hp.Up lt n i di) ∧ Hid (di.toList.Perm d.toList)) (fun ii _ => (intOf ii).toNat)
  case atStart => exact ⟨i, q, d, os, rfl, hi, hs, rfl, hup, List.Perm.refl _⟩
  case round =>
    clear hup hs hi
    obtain ⟨i, qi, di, oi, rfl, hin, hsi, rfl, HU, HP⟩ := hrel
    by_cases h0 : i = 0
    · have b1 : ¬ (0 : Int) < (i : Int) := by omega
      have hfin : Hid (HeapPost enc k w g off n lt d (.returned (.tuple #[])) (sortWorldK enc k w g off qi di oi)) := ⟨rfl, qi, oi, di, rfl, hsi, HU.out.stop (.inl h0), HP.out⟩
      generalize sortWorldK enc k w g off qi di oi = wq at *
      clear LES SWP FAR
      go_wp2_with fail
      go_end0
      exact hfin.out
    · have b1 : (0 : Int) < (i : Int) := by omega
      obtain ⟨im, him⟩ : ∃ im, im = i - 1 := ⟨_, rfl⟩
      obtain ⟨par, hpar⟩ : ∃ par, par = im / 2 := ⟨_, rfl⟩
      have w1 : IntKind.i64.wrap ((i : Int) - 1) = (im : Int) := by rw [IntKind.wrap_i64]; omega
      have w2 : IntKind.i64.wrap (par : Int) = (par : Int) := by rw [IntKind.wrap_i64]; omega
      have w3 : (im : Int).tdiv 2 = (par : Int) := by rw [Int.tdiv_eq_ediv_of_nonneg (by omega)]; omega
      have hpe : Hid ((i - 1) / 2 = par) := by show _ = _; rw [hpar, him]
      have hpn : par < n := by omega
      have hpi : par < i := by omega
      have jx : (i : Int) < (n : Int) := by omega
      have jy : (par : Int) < (n : Int) := by omega
      obtain ⟨hcls, li, lp, hless⟩ := LES.out i par qi oi di hsi hin hpn
      have hcc := FAR.out qi oi di
      have CLS : Hid _ := hcls
      have lA := hE.out.len di[i]!
      have lB := hE.out.len di[par]!
      clear him hpar hcls
      cases hlv : lt di[i]! di[par]! with
      | false =>
        rw [hlv] at hless
        have hfin : Hid (∀ n' os', HeapPost enc k w g off n lt d (.returned (.tuple #[])) (grow ((sortWorldK enc k w g off qi di oi).drewN n') os')) := fun n' os' => by
          rw [CLS.out]
          exact ⟨rfl, _, _, di, rfl, hsi, HU.out.stop (.inr (by rw [hpe.out]; exact hlv)), HP.out⟩
        generalize enc di[i]! = cA at *
        generalize enc di[par]! = cB at *
        generalize sortWorldK enc k w g off qi di oi = wq at *
        clear LES SWP FAR
        go_wp2_with fail
        go_quiet_grown ((go_at_call 9; exact Calls.grown_of (hless _ _)))
        go_wp2_with fail
        go_end0
        exact hfin.out _ _
      | true =>
        rw [hlv] at hless
        have hsw : Hid (∀ n' os', Calls Try.prog 28 #[.pointer (some ⟨p, 0, none⟩), .int .i64 i, .int .i64 par] (grow ((sortWorldK enc k w g off qi di oi).drewN n') os') fun e w' => ∃ q9 o9, e = .returned (.tuple #[]) ∧ w' = sortWorldK enc k w g off q9 (swp di i par) o9) := fun n' os' => by
          rw [CLS.out]
          refine (SWP.out i par _ _ di hsi hin hpn).mono ?_
          rintro e w' ⟨he, q9, hw⟩
          exact ⟨q9, _, he, hw⟩
        have HU2 : Hid (Hp.Up lt n par (swp di i par)) := by
          have := HU.out.go hS.out (by omega) hin (by omega) (by rw [hpe.out]; exact hlv)
          rw [hpe.out] at this
          exact this
        have HP2 : Hid ((swp di i par).toList.Perm d.toList) := (Hp.swp_perm di (by omega) (by omega)).trans HP.out
        have hs2 : (swp di i par).size = n := by rw [swp_size]; exact hsi
        generalize enc di[i]! = cA at *
        generalize enc di[par]! = cB at *
        generalize sortWorldK enc k w g off qi di oi = wq at *
        clear LES SWP FAR
        go_wp2_with fail
        go_quiet_grown ((go_at_call 9; exact Calls.grown_of (hless _ _)))
        go_wp2_with (go_at_call 28; go_must (refine (hsw.out _ _).mono ?_); rintro e9 w9 ⟨q9, o9, rfl, rfl⟩)
        go_roundw
        case rel => exact ⟨par, q9, swp di i par, o9, by go_num, hpn, hs2, rfl, HU2, HP2⟩
        case measure => simp [intOf]; omega

end
end Go.Proofs.Ytenpdglmmbkmkaa
