/-
  Own walk: the law of what is a history.
-/
import Derived.Test.YtdlfbkiihkhmmaaHiI
import Derived.Test.YtdlfbkiihkhmmaaReg
namespace Go.Proofs.Ytdlfbkiihkhmmaa
set_option maxRecDepth 8000
open Go.RowKit Go.Lib Put

/-- What the law keeps: the last kind of a task's events among the first k; whether all so far was right. -/
def lastN (r : List Ev) (t : Int) : Nat → Int
  | 0 => 0
  | k + 1 => if r[k]!.tk = t ∧ 1 ≤ r[k]!.kd ∧ r[k]!.kd ≤ 3 then r[k]!.kd else lastN r t k
theorem lastN_in (r : List Ev) (t : Int) : ∀ k, 0 ≤ lastN r t k ∧ lastN r t k ≤ 3
  | 0 => by show (0 : Int) ≤ 0 ∧ (0 : Int) ≤ 3; omega
  | k + 1 => by
    have := lastN_in r t k
    show 0 ≤ (if r[k]!.tk = t ∧ 1 ≤ r[k]!.kd ∧ r[k]!.kd ≤ 3 then r[k]!.kd else lastN r t k) ∧ (if r[k]!.tk = t ∧ 1 ≤ r[k]!.kd ∧ r[k]!.kd ≤ 3 then r[k]!.kd else lastN r t k) ≤ 3
    split <;> omega
def prevS (r : List Ev) (i : Nat) : Int := if i = 0 then 0 else r[i - 1]!.st
def badE (r : List Ev) (i : Nat) : Bool := decide (r[i]!.kd < 1) || decide (5 < r[i]!.kd) || decide (r[i]!.st < prevS r i)
def okN (r : List Ev) : Nat → Bool
  | 0 => true
  | i + 1 => okN r i && !badE r i && (decide (3 < r[i]!.kd) || decide (r[i]!.kd = lastN r r[i]!.tk i + 1))
theorem okN_no {r : List Ev} {i : Nat} (h : okN r i = false) : ∀ n, i ≤ n → okN r n = false
  | 0, hn => by obtain rfl : i = 0 := by omega
                exact h
  | n + 1, hn => by
    by_cases e : i = n + 1
    · rw [← e]; exact h
    · show (okN r n && !badE r n && _) = false
      rw [okN_no h n (by omega)]; rfl
theorem snd_ok (r : List Ev) : ∀ (m i : Nat), r.length = i + m → okN r i = true → sndGo (prevS r i) (fun t => lastN r t i) (r.drop i) = okN r r.length
  | 0, i, hl, hok => by
    rw [List.drop_of_length_le (by omega), show r.length = i by omega, hok]; rfl
  | m + 1, i, hl, hok => by
    have hi : i < r.length := by omega
    have hdr : r.drop i = r[i]! :: r.drop (i + 1) := by rw [getElem!_pos r i hi, List.drop_eq_getElem_cons hi]
    rw [hdr]
    have hsucc : okN r (i + 1) = (okN r i && !badE r i && (decide (3 < r[i]!.kd) || decide (r[i]!.kd = lastN r r[i]!.tk i + 1))) := rfl
    rw [hok, Bool.true_and] at hsucc
    have hpv : prevS r (i + 1) = r[i]!.st := by unfold prevS; rw [if_neg (by omega)]; rfl
    have hlast : ∀ t, lastN r t (i + 1) = if r[i]!.tk = t ∧ 1 ≤ r[i]!.kd ∧ r[i]!.kd ≤ 3 then r[i]!.kd else lastN r t i := fun _ => rfl
    have ih := snd_ok r m (i + 1) (by omega)
    rw [hpv] at ih
    unfold badE at hsucc
    generalize r[i]! = y at *
    unfold sndGo
    by_cases hb : y.kd < 1 ∨ 5 < y.kd ∨ y.st < prevS r i
    · rw [if_pos hb]
      refine (okN_no ?_ r.length hi).symm
      rw [hsucc]
      rcases hb with h | h | h <;> simp [h]
    · rw [if_neg hb]
      have n1 : ¬ y.kd < 1 := fun h => hb (.inl h)
      have n2 : ¬ 5 < y.kd := fun h => hb (.inr (.inl h))
      have n3 : ¬ y.st < prevS r i := fun h => hb (.inr (.inr h))
      rw [decide_eq_false n1, decide_eq_false n2, decide_eq_false n3] at hsucc
      by_cases h3 : 3 < y.kd
      · rw [if_pos h3]
        rw [decide_eq_true h3] at hsucc
        rw [← ih hsucc]
        congr 1
        funext t
        rw [hlast, if_neg (by omega)]
      · rw [if_neg h3]
        rw [decide_eq_false h3] at hsucc
        by_cases h4 : y.kd = lastN r y.tk i + 1
        · rw [if_pos h4]
          rw [decide_eq_true h4] at hsucc
          rw [← ih hsucc]
          congr 1
          funext t
          rw [hlast]
          unfold updF
          by_cases e : t = y.tk
          · rw [if_pos e, if_pos ⟨e.symm, by omega, by omega⟩]
          · rw [if_neg e, if_neg (fun h => e h.1.symm)]
        · rw [if_neg h4]
          rw [decide_eq_false h4] at hsucc
          exact (okN_no hsucc r.length hi).symm
theorem sound_ok (r : List Ev) : soundF r = okN r r.length := snd_ok r r.length 0 (by omega) rfl

set_option maxRecDepth 100000 in
set_option maxHeartbeats 8000000 in
theorem histSounds_walk (v1 : Value) (lx : List Ev) (w : World) (hr : RowAt encE 24 w v1 lx) (hfit : ∀ x ∈ lx, FitsE x) :
    Calls Try.prog 4 #[v1] w fun e w' => e = .returned (.bool true) ∧ Below w.heap.size w w' := by
  have hrH := Lib.hid hr
  have hfH := Lib.hid hfit
  clear hfit
  obtain ⟨ao, cap, rfl, hlc, hcm, _⟩ := hr
  have hlm : lx.length ≤ 9223372036854775807 := by unfold maxLen at hcm; omega
  have hcM : cap ≤ 9223372036854775807 := by unfold maxLen at hcm; omega
  clear hcm
  go_enter Try.func4, Try.ntmps4
  go_upto_if 10 with fail
  go_cut [0] from 8 (fun u wd => ∃ a5 c5 n5, ∃ r : List Ev, u = .slice a5 n5 c5 ∧ r.length = n5 ∧ n5 ≤ 60 ∧ n5 ≤ c5 ∧ c5 ≤ 9223372036854775807 ∧ Hid (RowAt encE 24 w (.slice a5 n5 c5) r) ∧ Hid (∀ x ∈ r, FitsE x) ∧ w = wd)
  case first =>
    by_cases hlt : 60 < lx.length
    · have hc := hrH.out.cut (n := 60) (by omega)
      have hl2 : Hid ((lx.take 60).length = 60) := by show _ = _; rw [List.length_take]; omega
      replace hc := Lib.hid hc
      have b1 : 60 ≤ cap := by omega
      have b2 : (60 : Int) < (lx.length : Int) := by omega
      clear hlt
      go_wp2_with fail
      go_meet
      case rel => exact ⟨ao, cap, 60, _, rfl, hl2.out, by omega, b1, hcM, hc.out, Lib.hid (fun x hx => hfH.out x (List.mem_of_mem_take hx)), rfl⟩
    · have hl2 : Hid (lx.length ≤ 60) := by show _ ≤ _; omega
      go_wp2_with fail
      go_meet
      case rel => exact ⟨ao, cap, _, _, rfl, rfl, hl2.out, hlc, hcM, hrH.out, hfH, rfl⟩
  case rest =>
    obtain ⟨a5, c5, n, r, rfl, hrn, hn60, hnc5, hc5, hR, hF, rfl⟩ := hcut
    clear hrH hlc hlm hcM hfH
    have zE := zE_ev
    obtain ⟨k24, hk⟩ : ∃ k, k = 24 := ⟨_, rfl⟩
    rw [← hk] at zE
    replace hk := Lib.hid hk
    have HA : Hid (0 < n → ∃ b off, a5 = some ⟨b, off, none⟩) := fun hp => by
      obtain ⟨_, _, e1, _, _, q3⟩ := hR.out
      injection e1 with e1 _ _
      subst e1
      obtain ⟨b, off, e, _⟩ := q3 (by omega)
      exact ⟨b, off, e⟩
    have hre : soundF r = okN r n := by rw [sound_ok, hrn]
    replace hrn := Lib.hid hrn
    replace hre := Lib.hid hre
    go_wp2_with fail
    go_loopw [3, 4] (fun oo ii wr => ∃ (i : Nat), i ≤ n ∧ ii = .int .i64 i ∧ oo = .bool (okN r i) ∧ Hid (Below w.heap.size w wr)) (fun _ ii _ => n - (intOf ii).toNat)
    case atStart => exact ⟨0, Nat.zero_le _, rfl, rfl, Below.refl _ _⟩
    case round =>
      obtain ⟨i, hi, rfl, rfl, hb⟩ := hrel
      have hwi : IntKind.i64.wrap ((i : Int) + 1) = (i : Int) + 1 := IntWalk.i64_in _ (by omega)
      have hbw := hb.out.size
      by_cases hlt : i < n
      · obtain ⟨g, off, rfl⟩ := HA.out (by omega)
        have hiL : i < r.length := by rw [hrn.out]; exact hlt
        have hRr := hR.out.below hb.out
        have LI := ev_row hRr hk.out hiL
        have hprev : Hid (∀ W : World, Below w.heap.size w W → 0 < i → W.cell? ⟨g, off + (i - 1) * 24, none⟩ = some (.int .i64 (prevS r i))) := fun W hW hp => by
          have := ev_cell (i := i - 1) (hR.out.below hW) (by omega) 0 _ rfl
          unfold prevS; rw [if_neg (by omega)]; exact this
        have hsucc : Hid (okN r (i + 1) = (okN r i && !badE r i && (decide (3 < r[i]!.kd) || decide (r[i]!.kd = lastN r r[i]!.tk i + 1)))) := rfl
        have hbad : badE r i = (decide (r[i]!.kd < 1) || decide (5 < r[i]!.kd) || decide (r[i]!.st < prevS r i)) := rfl
        obtain ⟨y, hy⟩ : ∃ y, y = r[i]! := ⟨_, rfl⟩
        rw [← hy] at LI hsucc hbad
        replace hy := Lib.hid hy
        have b0 : (0 : Int) ≤ i := by omega
        have b3 : (i : Int) < (n : Int) := by omega
        obtain ⟨ok, hok⟩ : ∃ ok, okN r i = ok := ⟨_, rfl⟩
        rw [hok] at hsucc ⊢
        replace hok := Lib.hid hok
        clear hRr
        go_upto_if 54 with (refine wpList_store_ev _ rfl _ _ rfl rfl (n := wr.heap.size) (y := y) rfl rfl (heap_alloc_new wr _) (by rfl) ?_
                            intro w1 hn1 hO1)
        have hb1 : Below w.heap.size w w1 := (hb.out.alloc hb.out.size _).trans (hO1.below (by simp; omega) hbw (fun k hk => by cases hk))
        have hs1 := lt_of_at hn1
        clear hO1 LI
        replace hb1 := Lib.hid hb1
        replace hn1 := Lib.hid hn1
        go_cut [54] from 13 to 96 (fun u wd => u = .bool (badE r i) ∧ Hid (Below w1.heap.size w1 wd))
        case first =>
          have hX : Hid (∀ W : World, Below w1.heap.size w1 W → W.heap[wr.heap.size]? = some (.cells (encE y).toArray 36 (0, 0))) := fun W hW => (hW.block _ hs1).trans hn1.out
          obtain ⟨pv, hpv⟩ : ∃ pv, prevS r i = pv := ⟨_, rfl⟩
          rw [hpv] at hbad hprev
          have hp0 : i = 0 → pv = 0 := fun h => by rw [← hpv]; unfold prevS; rw [if_pos h]
          replace hbad := Lib.hid hbad
          clear hpv
          by_cases h1 : y.kd < 1
          · have d1 : decide (y.kd < 1) = true := decide_eq_true h1
            clear hp0
            refine Reg.region_mk 29 104 [[], [true], [true, true], [true, true, true], [true, true, true, true], [true, true, true, true, true], [true, true, true, true, true, true], [true, true, true, true, true, true, true], [true, true, true, true, true, true, true, true], [true, true, true, true, true, true, true, true, true], [true, true, true, true, true, true, true, true, true, true], [true, true, true, true, true, true, true, true, true, true, true], [true, true, true, true, true, true, true, true, true, true, true, true], [true, true, true, true, true, true, true, true, true, true, true, true, true], [true, true, true, true, true, true, true, true, true, true, true, true, true, true], [true, true, true, true, true, true, true, true, true, true, true, true, true, true, true], [true, true, true, true, true, true, true, true, true, true, true, true, true, true, true, true], [true, true, true, true, true, true, true, true, true, true, true, true, true, true, true, true, true], [true, true, true, true, true, true, true, true, true, true, true, true, true, true, true, true, true, true], [true, true, true, true, true, true, true, true, true, true, true, true, true, true, true, true, true, true, true], [true, true, true, true, true, true, true, true, true, true, true, true, true, true, true, true, true, true, true, true], [true, true, true, true, true, true, true, true, true, true, true, true, true, true, true, true, true, true, true, true, true], [true, true, true, true, true, true, true, true, true, true, true, true, true, true, true, true, true, true, true, true, true, true], [true, true, true, true, true, true, true, true, true, true, true, true, true, true, true, true, true, true, true, true, true, false, false], [true, true, true, true, true, true, true, true, true, true, true, true, true, true, true, true, true, true, true, true, true, false, false, false], [true, true, true, true, true, true, true, true, true, true, true, true, true, true, true, true, true, true, true, true, true, false, false, false, true], [true, true, true, true, true, true, true, true, true, true, true, true, true, true, true, true, true, true, true, true, true, false, false, true, true, true], [true, true, true, true, true, true, true, true, true, true, true, true, true, true, true, true, true, true, true, true, true, false, false, true, true, true, true], [true, true, true, true, true, true, true, true, true, true, true, true, true, true, true, true, true, true, true, true, true, false, false, true, true, true, true, true]] [0, 1, 0, 0, 0, 1, 0, 0, 0, 0, 1, 0, 0, 0, 0, 0, 0, 0, 0, 0, 0, 0, 1, 0, 0, 0, 0, 0, 1]
              [.pure, .minor Unit () (fun _ => .int .i64 y.kd) (fun _ _ => True), .pure, .pure, .pure, .minor Unit () (fun _ => .int .i64 y.kd) (fun _ _ => True), .pure, .pure, .pure, .pure, .minor Unit () (fun _ => .int .i64 y.st) (fun _ _ => True), .pure, .pure, .pure, .pure, .pure, .pure, .pure, .pure, .pure, .pure, .pure, .minor Unit () (fun _ => .int .i64 y.st) (fun _ _ => True), .pure, .pure, .pure, .pure, .pure, .minor Unit () (fun _ => .int .i64 pv) (fun _ _ => True)]
              (fun W => Below w1.heap.size w1 W) (fun _ _ => True) (fun a b => Below a.heap.size a b) (by kernel_rfl) (by kernel_rfl) rfl rfl (fun vs a b h hs => trivial) ?_ ?_ ?_ ?_ ?_ ?_
            · intro a b he hb; exact hb.trans (Below.mono he hb.size)
            · intro a b he hb; exact hb.trans (Below.mono he hb.size)
            · exact ⟨trivial, ⟨fun _ _ _ _ _ => trivial, fun _ _ _ _ _ => trivial⟩, trivial, trivial, trivial, ⟨fun _ _ _ _ _ => trivial, fun _ _ _ _ _ => trivial⟩, trivial, trivial, trivial, trivial, ⟨fun _ _ _ _ _ => trivial, fun _ _ _ _ _ => trivial⟩, trivial, trivial, trivial, trivial, trivial, trivial, trivial, trivial, trivial, trivial, trivial, ⟨fun _ _ _ _ _ => trivial, fun _ _ _ _ _ => trivial⟩, trivial, trivial, trivial, trivial, trivial, ⟨fun _ _ _ _ _ => trivial, fun _ _ _ _ _ => trivial⟩, trivial⟩
            · exact (Below.refl _ _).drew
            · trivial
            dsimp only [Reg.mk, List.zip, List.zipWith, List.take]
            repeat (refine' Reg.pass_is _ (by rfl) (fun wz => ?_) ?_; rotate_left; (go_simp; first | rfl | rw [if_neg (by omega)]); simp only [Act.put, List.setIfInBounds_toArray, List.set_cons_zero, List.set_cons_succ]; (try simp only [List.nil_append]); (try simp only [List.cons_append]); (try simp only [id]))
            refine Reg.pass_minor (by rfl) (fun wz hI hF => ?_) (fun r1 => ?_)
            · unfold Reg.One
              have kz := ev_cells (W := wz) (hX.out wz hI) 1 _ rfl
              go_wp2_with fail
              first | exact ⟨_, rfl, rfl, Reg.Ext.refl _⟩ | exact ⟨_, rfl, ⟨(), rfl, trivial⟩, Reg.Ext.refl _⟩
            simp only [Act.put, List.setIfInBounds_toArray, List.set_cons_zero, List.set_cons_succ]; (try simp only [List.nil_append]); (try simp only [List.cons_append]); (try simp only [id])
            refine Reg.pass_is (.bool true) (by rfl) (fun wz => ?_) ?_
            · go_simp
            simp only [Act.put, List.setIfInBounds_toArray, List.set_cons_zero, List.set_cons_succ]; (try simp only [List.nil_append]); (try simp only [List.cons_append]); (try simp only [id])
            repeat (refine' Reg.pass_is _ (by rfl) (fun wz => ?_) ?_; rotate_left; (go_simp; first | rfl | rw [if_neg (by omega)]); simp only [Act.put, List.setIfInBounds_toArray, List.set_cons_zero, List.set_cons_succ]; (try simp only [List.nil_append]); (try simp only [List.cons_append]); (try simp only [id]))
            refine Reg.pass_not (by rfl) ?_
            simp only [Act.put, List.setIfInBounds_toArray, List.set_cons_zero, List.set_cons_succ]; (try simp only [List.nil_append]); (try simp only [List.cons_append]); (try simp only [id])
            refine Reg.pass_minor_no (by rfl) ?_
            simp only [Act.put, List.setIfInBounds_toArray, List.set_cons_zero, List.set_cons_succ]; (try simp only [List.nil_append]); (try simp only [List.cons_append]); (try simp only [id])
            refine Reg.pass_not (by rfl) ?_
            simp only [Act.put, List.setIfInBounds_toArray, List.set_cons_zero, List.set_cons_succ]; (try simp only [List.nil_append]); (try simp only [List.cons_append]); (try simp only [id])
            repeat (refine' Reg.pass_is _ (by rfl) (fun wz => ?_) ?_; rotate_left; (go_simp; first | rfl | rw [if_neg (by omega)]); simp only [Act.put, List.setIfInBounds_toArray, List.set_cons_zero, List.set_cons_succ]; (try simp only [List.nil_append]); (try simp only [List.cons_append]); (try simp only [id]))
            refine Reg.pass_not (by rfl) ?_
            simp only [Act.put, List.setIfInBounds_toArray, List.set_cons_zero, List.set_cons_succ]; (try simp only [List.nil_append]); (try simp only [List.cons_append]); (try simp only [id])
            refine Reg.pass_minor_no (by rfl) ?_
            simp only [Act.put, List.setIfInBounds_toArray, List.set_cons_zero, List.set_cons_succ]; (try simp only [List.nil_append]); (try simp only [List.cons_append]); (try simp only [id])
            refine Reg.pass_not (by rfl) ?_
            simp only [Act.put, List.setIfInBounds_toArray, List.set_cons_zero, List.set_cons_succ]; (try simp only [List.nil_append]); (try simp only [List.cons_append]); (try simp only [id])
            refine Reg.pass_not (by rfl) ?_
            simp only [Act.put, List.setIfInBounds_toArray, List.set_cons_zero, List.set_cons_succ]; (try simp only [List.nil_append]); (try simp only [List.cons_append]); (try simp only [id])
            refine Reg.pass_not (by rfl) ?_
            simp only [Act.put, List.setIfInBounds_toArray, List.set_cons_zero, List.set_cons_succ]; (try simp only [List.nil_append]); (try simp only [List.cons_append]); (try simp only [id])
            refine Reg.pass_not (by rfl) ?_
            simp only [Act.put, List.setIfInBounds_toArray, List.set_cons_zero, List.set_cons_succ]; (try simp only [List.nil_append]); (try simp only [List.cons_append]); (try simp only [id])
            refine Reg.pass_not (by rfl) ?_
            simp only [Act.put, List.setIfInBounds_toArray, List.set_cons_zero, List.set_cons_succ]; (try simp only [List.nil_append]); (try simp only [List.cons_append]); (try simp only [id])
            repeat (refine' Reg.pass_is _ (by rfl) (fun wz => ?_) ?_; rotate_left; (go_simp; first | rfl | rw [if_neg (by omega)]); simp only [Act.put, List.setIfInBounds_toArray, List.set_cons_zero, List.set_cons_succ]; (try simp only [List.nil_append]); (try simp only [List.cons_append]); (try simp only [id]))
            refine Reg.pass_not (by rfl) ?_
            simp only [Act.put, List.setIfInBounds_toArray, List.set_cons_zero, List.set_cons_succ]; (try simp only [List.nil_append]); (try simp only [List.cons_append]); (try simp only [id])
            refine Reg.pass_not (by rfl) ?_
            simp only [Act.put, List.setIfInBounds_toArray, List.set_cons_zero, List.set_cons_succ]; (try simp only [List.nil_append]); (try simp only [List.cons_append]); (try simp only [id])
            refine Reg.pass_not (by rfl) ?_
            simp only [Act.put, List.setIfInBounds_toArray, List.set_cons_zero, List.set_cons_succ]; (try simp only [List.nil_append]); (try simp only [List.cons_append]); (try simp only [id])
            refine Reg.pass_not (by rfl) ?_
            simp only [Act.put, List.setIfInBounds_toArray, List.set_cons_zero, List.set_cons_succ]; (try simp only [List.nil_append]); (try simp only [List.cons_append]); (try simp only [id])
            refine Reg.pass_minor_no (by rfl) ?_
            simp only [Act.put, List.setIfInBounds_toArray, List.set_cons_zero, List.set_cons_succ]; (try simp only [List.nil_append]); (try simp only [List.cons_append]); (try simp only [id])
            refine Reg.pass_not (by rfl) ?_
            simp only [Act.put, List.setIfInBounds_toArray, List.set_cons_zero, List.set_cons_succ]; (try simp only [List.nil_append]); (try simp only [List.cons_append]); (try simp only [id])
            refine Reg.pass_not (by rfl) ?_
            simp only [Act.put, List.setIfInBounds_toArray, List.set_cons_zero, List.set_cons_succ]; (try simp only [List.nil_append]); (try simp only [List.cons_append]); (try simp only [id])
            refine Reg.pass_not (by rfl) ?_
            simp only [Act.put, List.setIfInBounds_toArray, List.set_cons_zero, List.set_cons_succ]; (try simp only [List.nil_append]); (try simp only [List.cons_append]); (try simp only [id])
            refine Reg.pass_not (by rfl) ?_
            simp only [Act.put, List.setIfInBounds_toArray, List.set_cons_zero, List.set_cons_succ]; (try simp only [List.nil_append]); (try simp only [List.cons_append]); (try simp only [id])
            refine Reg.pass_not (by rfl) ?_
            simp only [Act.put, List.setIfInBounds_toArray, List.set_cons_zero, List.set_cons_succ]; (try simp only [List.nil_append]); (try simp only [List.cons_append]); (try simp only [id])
            refine Reg.pass_minor_no (by rfl) ?_
            simp only [Act.put, List.setIfInBounds_toArray, List.set_cons_zero, List.set_cons_succ]; (try simp only [List.nil_append]); (try simp only [List.cons_append]); (try simp only [id])
            refine Reg.pass_end ?_
            intro wb HIb _ _
            dsimp only [List.drop]
            go_wp2_with fail
            go_meet
            case rel => exact ⟨by rw [hbad.out]; simp [h1], HIb⟩
          · have d1 : decide (y.kd < 1) = false := decide_eq_false h1
            by_cases h2 : 5 < y.kd
            · have d2 : decide (5 < y.kd) = true := decide_eq_true h2
              clear hp0
              refine Reg.region_mk 29 104 [[], [true], [true, true], [true, true, true], [true, true, true, true], [true, true, true, true, true], [true, true, true, true, true, true], [true, true, true, true, true, true, true], [true, true, true, true, true, true, true, true], [true, true, true, true, true, true, true, true, true], [true, true, true, true, true, true, true, true, true, true], [true, true, true, true, true, true, true, true, true, true, true], [true, true, true, true, true, true, true, true, true, true, true, true], [true, true, true, true, true, true, true, true, true, true, true, true, true], [true, true, true, true, true, true, true, true, true, true, true, true, true, true], [true, true, true, true, true, true, true, true, true, true, true, true, true, true, true], [true, true, true, true, true, true, true, true, true, true, true, true, true, true, true, true], [true, true, true, true, true, true, true, true, true, true, true, true, true, true, true, true, true], [true, true, true, true, true, true, true, true, true, true, true, true, true, true, true, true, true, true], [true, true, true, true, true, true, true, true, true, true, true, true, true, true, true, true, true, true, true], [true, true, true, true, true, true, true, true, true, true, true, true, true, true, true, true, true, true, true, true], [true, true, true, true, true, true, true, true, true, true, true, true, true, true, true, true, true, true, true, true, true], [true, true, true, true, true, true, true, true, true, true, true, true, true, true, true, true, true, true, true, true, true, true], [true, true, true, true, true, true, true, true, true, true, true, true, true, true, true, true, true, true, true, true, true, false, false], [true, true, true, true, true, true, true, true, true, true, true, true, true, true, true, true, true, true, true, true, true, false, false, false], [true, true, true, true, true, true, true, true, true, true, true, true, true, true, true, true, true, true, true, true, true, false, false, false, true], [true, true, true, true, true, true, true, true, true, true, true, true, true, true, true, true, true, true, true, true, true, false, false, true, true, true], [true, true, true, true, true, true, true, true, true, true, true, true, true, true, true, true, true, true, true, true, true, false, false, true, true, true, true], [true, true, true, true, true, true, true, true, true, true, true, true, true, true, true, true, true, true, true, true, true, false, false, true, true, true, true, true]] [0, 1, 0, 0, 0, 1, 0, 0, 0, 0, 1, 0, 0, 0, 0, 0, 0, 0, 0, 0, 0, 0, 1, 0, 0, 0, 0, 0, 1]
                [.pure, .minor Unit () (fun _ => .int .i64 y.kd) (fun _ _ => True), .pure, .pure, .pure, .minor Unit () (fun _ => .int .i64 y.kd) (fun _ _ => True), .pure, .pure, .pure, .pure, .minor Unit () (fun _ => .int .i64 y.st) (fun _ _ => True), .pure, .pure, .pure, .pure, .pure, .pure, .pure, .pure, .pure, .pure, .pure, .minor Unit () (fun _ => .int .i64 y.st) (fun _ _ => True), .pure, .pure, .pure, .pure, .pure, .minor Unit () (fun _ => .int .i64 pv) (fun _ _ => True)]
                (fun W => Below w1.heap.size w1 W) (fun _ _ => True) (fun a b => Below a.heap.size a b) (by kernel_rfl) (by kernel_rfl) rfl rfl (fun vs a b h hs => trivial) ?_ ?_ ?_ ?_ ?_ ?_
              · intro a b he hb; exact hb.trans (Below.mono he hb.size)
              · intro a b he hb; exact hb.trans (Below.mono he hb.size)
              · exact ⟨trivial, ⟨fun _ _ _ _ _ => trivial, fun _ _ _ _ _ => trivial⟩, trivial, trivial, trivial, ⟨fun _ _ _ _ _ => trivial, fun _ _ _ _ _ => trivial⟩, trivial, trivial, trivial, trivial, ⟨fun _ _ _ _ _ => trivial, fun _ _ _ _ _ => trivial⟩, trivial, trivial, trivial, trivial, trivial, trivial, trivial, trivial, trivial, trivial, trivial, ⟨fun _ _ _ _ _ => trivial, fun _ _ _ _ _ => trivial⟩, trivial, trivial, trivial, trivial, trivial, ⟨fun _ _ _ _ _ => trivial, fun _ _ _ _ _ => trivial⟩, trivial⟩
              · exact (Below.refl _ _).drew
              · trivial
              dsimp only [Reg.mk, List.zip, List.zipWith, List.take]
              repeat (refine' Reg.pass_is _ (by rfl) (fun wz => ?_) ?_; rotate_left; (go_simp; first | rfl | rw [if_neg (by omega)]); simp only [Act.put, List.setIfInBounds_toArray, List.set_cons_zero, List.set_cons_succ]; (try simp only [List.nil_append]); (try simp only [List.cons_append]); (try simp only [id]))
              refine Reg.pass_minor (by rfl) (fun wz hI hF => ?_) (fun r1 => ?_)
              · unfold Reg.One
                have kz := ev_cells (W := wz) (hX.out wz hI) 1 _ rfl
                go_wp2_with fail
                first | exact ⟨_, rfl, rfl, Reg.Ext.refl _⟩ | exact ⟨_, rfl, ⟨(), rfl, trivial⟩, Reg.Ext.refl _⟩
              simp only [Act.put, List.setIfInBounds_toArray, List.set_cons_zero, List.set_cons_succ]; (try simp only [List.nil_append]); (try simp only [List.cons_append]); (try simp only [id])
              refine Reg.pass_is (.bool false) (by rfl) (fun wz => ?_) ?_
              · go_simp
              simp only [Act.put, List.setIfInBounds_toArray, List.set_cons_zero, List.set_cons_succ]; (try simp only [List.nil_append]); (try simp only [List.cons_append]); (try simp only [id])
              repeat (refine' Reg.pass_is _ (by rfl) (fun wz => ?_) ?_; rotate_left; (go_simp; first | rfl | rw [if_neg (by omega)]); simp only [Act.put, List.setIfInBounds_toArray, List.set_cons_zero, List.set_cons_succ]; (try simp only [List.nil_append]); (try simp only [List.cons_append]); (try simp only [id]))
              refine Reg.pass_minor (by rfl) (fun wz hI hF => ?_) (fun r5 => ?_)
              · unfold Reg.One
                have kz := ev_cells (W := wz) (hX.out wz hI) 1 _ rfl
                go_wp2_with fail
                first | exact ⟨_, rfl, rfl, Reg.Ext.refl _⟩ | exact ⟨_, rfl, ⟨(), rfl, trivial⟩, Reg.Ext.refl _⟩
              simp only [Act.put, List.setIfInBounds_toArray, List.set_cons_zero, List.set_cons_succ]; (try simp only [List.nil_append]); (try simp only [List.cons_append]); (try simp only [id])
              refine Reg.pass_is (.bool true) (by rfl) (fun wz => ?_) ?_
              · go_simp
              simp only [Act.put, List.setIfInBounds_toArray, List.set_cons_zero, List.set_cons_succ]; (try simp only [List.nil_append]); (try simp only [List.cons_append]); (try simp only [id])
              repeat (refine' Reg.pass_is _ (by rfl) (fun wz => ?_) ?_; rotate_left; (go_simp; first | rfl | rw [if_neg (by omega)]); simp only [Act.put, List.setIfInBounds_toArray, List.set_cons_zero, List.set_cons_succ]; (try simp only [List.nil_append]); (try simp only [List.cons_append]); (try simp only [id]))
              refine Reg.pass_not (by rfl) ?_
              simp only [Act.put, List.setIfInBounds_toArray, List.set_cons_zero, List.set_cons_succ]; (try simp only [List.nil_append]); (try simp only [List.cons_append]); (try simp only [id])
              refine Reg.pass_minor_no (by rfl) ?_
              simp only [Act.put, List.setIfInBounds_toArray, List.set_cons_zero, List.set_cons_succ]; (try simp only [List.nil_append]); (try simp only [List.cons_append]); (try simp only [id])
              refine Reg.pass_not (by rfl) ?_
              simp only [Act.put, List.setIfInBounds_toArray, List.set_cons_zero, List.set_cons_succ]; (try simp only [List.nil_append]); (try simp only [List.cons_append]); (try simp only [id])
              refine Reg.pass_not (by rfl) ?_
              simp only [Act.put, List.setIfInBounds_toArray, List.set_cons_zero, List.set_cons_succ]; (try simp only [List.nil_append]); (try simp only [List.cons_append]); (try simp only [id])
              refine Reg.pass_not (by rfl) ?_
              simp only [Act.put, List.setIfInBounds_toArray, List.set_cons_zero, List.set_cons_succ]; (try simp only [List.nil_append]); (try simp only [List.cons_append]); (try simp only [id])
              refine Reg.pass_not (by rfl) ?_
              simp only [Act.put, List.setIfInBounds_toArray, List.set_cons_zero, List.set_cons_succ]; (try simp only [List.nil_append]); (try simp only [List.cons_append]); (try simp only [id])
              refine Reg.pass_not (by rfl) ?_
              simp only [Act.put, List.setIfInBounds_toArray, List.set_cons_zero, List.set_cons_succ]; (try simp only [List.nil_append]); (try simp only [List.cons_append]); (try simp only [id])
              repeat (refine' Reg.pass_is _ (by rfl) (fun wz => ?_) ?_; rotate_left; (go_simp; first | rfl | rw [if_neg (by omega)]); simp only [Act.put, List.setIfInBounds_toArray, List.set_cons_zero, List.set_cons_succ]; (try simp only [List.nil_append]); (try simp only [List.cons_append]); (try simp only [id]))
              refine Reg.pass_not (by rfl) ?_
              simp only [Act.put, List.setIfInBounds_toArray, List.set_cons_zero, List.set_cons_succ]; (try simp only [List.nil_append]); (try simp only [List.cons_append]); (try simp only [id])
              refine Reg.pass_not (by rfl) ?_
              simp only [Act.put, List.setIfInBounds_toArray, List.set_cons_zero, List.set_cons_succ]; (try simp only [List.nil_append]); (try simp only [List.cons_append]); (try simp only [id])
              refine Reg.pass_not (by rfl) ?_
              simp only [Act.put, List.setIfInBounds_toArray, List.set_cons_zero, List.set_cons_succ]; (try simp only [List.nil_append]); (try simp only [List.cons_append]); (try simp only [id])
              refine Reg.pass_not (by rfl) ?_
              simp only [Act.put, List.setIfInBounds_toArray, List.set_cons_zero, List.set_cons_succ]; (try simp only [List.nil_append]); (try simp only [List.cons_append]); (try simp only [id])
              refine Reg.pass_minor_no (by rfl) ?_
              simp only [Act.put, List.setIfInBounds_toArray, List.set_cons_zero, List.set_cons_succ]; (try simp only [List.nil_append]); (try simp only [List.cons_append]); (try simp only [id])
              refine Reg.pass_not (by rfl) ?_
              simp only [Act.put, List.setIfInBounds_toArray, List.set_cons_zero, List.set_cons_succ]; (try simp only [List.nil_append]); (try simp only [List.cons_append]); (try simp only [id])
              refine Reg.pass_not (by rfl) ?_
              simp only [Act.put, List.setIfInBounds_toArray, List.set_cons_zero, List.set_cons_succ]; (try simp only [List.nil_append]); (try simp only [List.cons_append]); (try simp only [id])
              refine Reg.pass_not (by rfl) ?_
              simp only [Act.put, List.setIfInBounds_toArray, List.set_cons_zero, List.set_cons_succ]; (try simp only [List.nil_append]); (try simp only [List.cons_append]); (try simp only [id])
              refine Reg.pass_not (by rfl) ?_
              simp only [Act.put, List.setIfInBounds_toArray, List.set_cons_zero, List.set_cons_succ]; (try simp only [List.nil_append]); (try simp only [List.cons_append]); (try simp only [id])
              refine Reg.pass_not (by rfl) ?_
              simp only [Act.put, List.setIfInBounds_toArray, List.set_cons_zero, List.set_cons_succ]; (try simp only [List.nil_append]); (try simp only [List.cons_append]); (try simp only [id])
              refine Reg.pass_minor_no (by rfl) ?_
              simp only [Act.put, List.setIfInBounds_toArray, List.set_cons_zero, List.set_cons_succ]; (try simp only [List.nil_append]); (try simp only [List.cons_append]); (try simp only [id])
              refine Reg.pass_end ?_
              intro wb HIb _ _
              dsimp only [List.drop]
              go_wp2_with fail
              go_meet
              case rel => exact ⟨by rw [hbad.out]; simp [h2], HIb⟩
            · have d2 : decide (5 < y.kd) = false := decide_eq_false h2
              by_cases hz : i = 0
              · have hpv := hp0 hz
                subst hpv
                have dz : ((i : Int) == 0) = true := by simp [hz]
                have dp : decide (0 < (i : Int)) = false := decide_eq_false (by omega)
                have dq : decide (0 < i) = false := decide_eq_false (by omega)
                clear hp0
                replace hz := Lib.hid hz
                by_cases h3 : y.st < 0
                · have d3 : decide (y.st < 0) = true := decide_eq_true h3
                  refine Reg.region_mk 29 104 [[], [true], [true, true], [true, true, true], [true, true, true, true], [true, true, true, true, true], [true, true, true, true, true, true], [true, true, true, true, true, true, true], [true, true, true, true, true, true, true, true], [true, true, true, true, true, true, true, true, true], [true, true, true, true, true, true, true, true, true, true], [true, true, true, true, true, true, true, true, true, true, true], [true, true, true, true, true, true, true, true, true, true, true, true], [true, true, true, true, true, true, true, true, true, true, true, true, true], [true, true, true, true, true, true, true, true, true, true, true, true, true, true], [true, true, true, true, true, true, true, true, true, true, true, true, true, true, true], [true, true, true, true, true, true, true, true, true, true, true, true, true, true, true, true], [true, true, true, true, true, true, true, true, true, true, true, true, true, true, true, true, true], [true, true, true, true, true, true, true, true, true, true, true, true, true, true, true, true, true, true], [true, true, true, true, true, true, true, true, true, true, true, true, true, true, true, true, true, true, true], [true, true, true, true, true, true, true, true, true, true, true, true, true, true, true, true, true, true, true, true], [true, true, true, true, true, true, true, true, true, true, true, true, true, true, true, true, true, true, true, true, true], [true, true, true, true, true, true, true, true, true, true, true, true, true, true, true, true, true, true, true, true, true, true], [true, true, true, true, true, true, true, true, true, true, true, true, true, true, true, true, true, true, true, true, true, false, false], [true, true, true, true, true, true, true, true, true, true, true, true, true, true, true, true, true, true, true, true, true, false, false, false], [true, true, true, true, true, true, true, true, true, true, true, true, true, true, true, true, true, true, true, true, true, false, false, false, true], [true, true, true, true, true, true, true, true, true, true, true, true, true, true, true, true, true, true, true, true, true, false, false, true, true, true], [true, true, true, true, true, true, true, true, true, true, true, true, true, true, true, true, true, true, true, true, true, false, false, true, true, true, true], [true, true, true, true, true, true, true, true, true, true, true, true, true, true, true, true, true, true, true, true, true, false, false, true, true, true, true, true]] [0, 1, 0, 0, 0, 1, 0, 0, 0, 0, 1, 0, 0, 0, 0, 0, 0, 0, 0, 0, 0, 0, 1, 0, 0, 0, 0, 0, 1]
                    [.pure, .minor Unit () (fun _ => .int .i64 y.kd) (fun _ _ => True), .pure, .pure, .pure, .minor Unit () (fun _ => .int .i64 y.kd) (fun _ _ => True), .pure, .pure, .pure, .pure, .minor Unit () (fun _ => .int .i64 y.st) (fun _ _ => True), .pure, .pure, .pure, .pure, .pure, .pure, .pure, .pure, .pure, .pure, .pure, .minor Unit () (fun _ => .int .i64 y.st) (fun _ _ => True), .pure, .pure, .pure, .pure, .pure, .minor Unit () (fun _ => .int .i64 0) (fun _ _ => True)]
                    (fun W => Below w1.heap.size w1 W) (fun _ _ => True) (fun a b => Below a.heap.size a b) (by kernel_rfl) (by kernel_rfl) rfl rfl (fun vs a b h hs => trivial) ?_ ?_ ?_ ?_ ?_ ?_
                  · intro a b he hb; exact hb.trans (Below.mono he hb.size)
                  · intro a b he hb; exact hb.trans (Below.mono he hb.size)
                  · exact ⟨trivial, ⟨fun _ _ _ _ _ => trivial, fun _ _ _ _ _ => trivial⟩, trivial, trivial, trivial, ⟨fun _ _ _ _ _ => trivial, fun _ _ _ _ _ => trivial⟩, trivial, trivial, trivial, trivial, ⟨fun _ _ _ _ _ => trivial, fun _ _ _ _ _ => trivial⟩, trivial, trivial, trivial, trivial, trivial, trivial, trivial, trivial, trivial, trivial, trivial, ⟨fun _ _ _ _ _ => trivial, fun _ _ _ _ _ => trivial⟩, trivial, trivial, trivial, trivial, trivial, ⟨fun _ _ _ _ _ => trivial, fun _ _ _ _ _ => trivial⟩, trivial⟩
                  · exact (Below.refl _ _).drew
                  · trivial
                  dsimp only [Reg.mk, List.zip, List.zipWith, List.take]
                  repeat (refine' Reg.pass_is _ (by rfl) (fun wz => ?_) ?_; rotate_left; (go_simp; first | rfl | rw [if_neg (by omega)]); simp only [Act.put, List.setIfInBounds_toArray, List.set_cons_zero, List.set_cons_succ]; (try simp only [List.nil_append]); (try simp only [List.cons_append]); (try simp only [id]))
                  refine Reg.pass_minor (by rfl) (fun wz hI hF => ?_) (fun r1 => ?_)
                  · unfold Reg.One
                    have kz := ev_cells (W := wz) (hX.out wz hI) 1 _ rfl
                    go_wp2_with fail
                    first | exact ⟨_, rfl, rfl, Reg.Ext.refl _⟩ | exact ⟨_, rfl, ⟨(), rfl, trivial⟩, Reg.Ext.refl _⟩
                  simp only [Act.put, List.setIfInBounds_toArray, List.set_cons_zero, List.set_cons_succ]; (try simp only [List.nil_append]); (try simp only [List.cons_append]); (try simp only [id])
                  refine Reg.pass_is (.bool false) (by rfl) (fun wz => ?_) ?_
                  · go_simp
                  simp only [Act.put, List.setIfInBounds_toArray, List.set_cons_zero, List.set_cons_succ]; (try simp only [List.nil_append]); (try simp only [List.cons_append]); (try simp only [id])
                  repeat (refine' Reg.pass_is _ (by rfl) (fun wz => ?_) ?_; rotate_left; (go_simp; first | rfl | rw [if_neg (by omega)]); simp only [Act.put, List.setIfInBounds_toArray, List.set_cons_zero, List.set_cons_succ]; (try simp only [List.nil_append]); (try simp only [List.cons_append]); (try simp only [id]))
                  refine Reg.pass_minor (by rfl) (fun wz hI hF => ?_) (fun r5 => ?_)
                  · unfold Reg.One
                    have kz := ev_cells (W := wz) (hX.out wz hI) 1 _ rfl
                    go_wp2_with fail
                    first | exact ⟨_, rfl, rfl, Reg.Ext.refl _⟩ | exact ⟨_, rfl, ⟨(), rfl, trivial⟩, Reg.Ext.refl _⟩
                  simp only [Act.put, List.setIfInBounds_toArray, List.set_cons_zero, List.set_cons_succ]; (try simp only [List.nil_append]); (try simp only [List.cons_append]); (try simp only [id])
                  refine Reg.pass_is (.bool false) (by rfl) (fun wz => ?_) ?_
                  · go_simp
                  simp only [Act.put, List.setIfInBounds_toArray, List.set_cons_zero, List.set_cons_succ]; (try simp only [List.nil_append]); (try simp only [List.cons_append]); (try simp only [id])
                  repeat (refine' Reg.pass_is _ (by rfl) (fun wz => ?_) ?_; rotate_left; (go_simp; first | rfl | rw [if_neg (by omega)]); simp only [Act.put, List.setIfInBounds_toArray, List.set_cons_zero, List.set_cons_succ]; (try simp only [List.nil_append]); (try simp only [List.cons_append]); (try simp only [id]))
                  refine Reg.pass_minor (by rfl) (fun wz hI hF => ?_) (fun r10 => ?_)
                  · unfold Reg.One
                    have kz := ev_cells (W := wz) (hX.out wz hI) 0 _ rfl
                    go_wp2_with fail
                    first | exact ⟨_, rfl, rfl, Reg.Ext.refl _⟩ | exact ⟨_, rfl, ⟨(), rfl, trivial⟩, Reg.Ext.refl _⟩
                  simp only [Act.put, List.setIfInBounds_toArray, List.set_cons_zero, List.set_cons_succ]; (try simp only [List.nil_append]); (try simp only [List.cons_append]); (try simp only [id])
                  refine Reg.pass_is (.bool true) (by rfl) (fun wz => ?_) ?_
                  · go_simp
                  simp only [Act.put, List.setIfInBounds_toArray, List.set_cons_zero, List.set_cons_succ]; (try simp only [List.nil_append]); (try simp only [List.cons_append]); (try simp only [id])
                  repeat (refine' Reg.pass_is _ (by rfl) (fun wz => ?_) ?_; rotate_left; (go_simp; first | rfl | rw [if_neg (by omega)]); simp only [Act.put, List.setIfInBounds_toArray, List.set_cons_zero, List.set_cons_succ]; (try simp only [List.nil_append]); (try simp only [List.cons_append]); (try simp only [id]))
                  refine Reg.pass_not (by rfl) ?_
                  simp only [Act.put, List.setIfInBounds_toArray, List.set_cons_zero, List.set_cons_succ]; (try simp only [List.nil_append]); (try simp only [List.cons_append]); (try simp only [id])
                  refine Reg.pass_not (by rfl) ?_
                  simp only [Act.put, List.setIfInBounds_toArray, List.set_cons_zero, List.set_cons_succ]; (try simp only [List.nil_append]); (try simp only [List.cons_append]); (try simp only [id])
                  refine Reg.pass_not (by rfl) ?_
                  simp only [Act.put, List.setIfInBounds_toArray, List.set_cons_zero, List.set_cons_succ]; (try simp only [List.nil_append]); (try simp only [List.cons_append]); (try simp only [id])
                  refine Reg.pass_not (by rfl) ?_
                  simp only [Act.put, List.setIfInBounds_toArray, List.set_cons_zero, List.set_cons_succ]; (try simp only [List.nil_append]); (try simp only [List.cons_append]); (try simp only [id])
                  refine Reg.pass_minor_no (by rfl) ?_
                  simp only [Act.put, List.setIfInBounds_toArray, List.set_cons_zero, List.set_cons_succ]; (try simp only [List.nil_append]); (try simp only [List.cons_append]); (try simp only [id])
                  refine Reg.pass_not (by rfl) ?_
                  simp only [Act.put, List.setIfInBounds_toArray, List.set_cons_zero, List.set_cons_succ]; (try simp only [List.nil_append]); (try simp only [List.cons_append]); (try simp only [id])
                  refine Reg.pass_not (by rfl) ?_
                  simp only [Act.put, List.setIfInBounds_toArray, List.set_cons_zero, List.set_cons_succ]; (try simp only [List.nil_append]); (try simp only [List.cons_append]); (try simp only [id])
                  refine Reg.pass_not (by rfl) ?_
                  simp only [Act.put, List.setIfInBounds_toArray, List.set_cons_zero, List.set_cons_succ]; (try simp only [List.nil_append]); (try simp only [List.cons_append]); (try simp only [id])
                  refine Reg.pass_not (by rfl) ?_
                  simp only [Act.put, List.setIfInBounds_toArray, List.set_cons_zero, List.set_cons_succ]; (try simp only [List.nil_append]); (try simp only [List.cons_append]); (try simp only [id])
                  refine Reg.pass_not (by rfl) ?_
                  simp only [Act.put, List.setIfInBounds_toArray, List.set_cons_zero, List.set_cons_succ]; (try simp only [List.nil_append]); (try simp only [List.cons_append]); (try simp only [id])
                  refine Reg.pass_minor_no (by rfl) ?_
                  simp only [Act.put, List.setIfInBounds_toArray, List.set_cons_zero, List.set_cons_succ]; (try simp only [List.nil_append]); (try simp only [List.cons_append]); (try simp only [id])
                  refine Reg.pass_end ?_
                  intro wb HIb _ _
                  dsimp only [List.drop]
                  go_wp2_with fail
                  go_meet
                  case rel => exact ⟨by rw [hbad.out]; simp [h3], HIb⟩
                · have d3 : decide (y.st < 0) = false := decide_eq_false h3
                  refine Reg.region_mk 29 104 [[], [true], [true, true], [true, true, true], [true, true, true, true], [true, true, true, true, true], [true, true, true, true, true, true], [true, true, true, true, true, true, true], [true, true, true, true, true, true, true, true], [true, true, true, true, true, true, true, true, true], [true, true, true, true, true, true, true, true, true, true], [true, true, true, true, true, true, true, true, true, true, true], [true, true, true, true, true, true, true, true, true, true, true, true], [true, true, true, true, true, true, true, true, true, true, true, true, true], [true, true, true, true, true, true, true, true, true, true, true, true, true, true], [true, true, true, true, true, true, true, true, true, true, true, true, true, true, true], [true, true, true, true, true, true, true, true, true, true, true, true, true, true, true, true], [true, true, true, true, true, true, true, true, true, true, true, true, true, true, true, true, true], [true, true, true, true, true, true, true, true, true, true, true, true, true, true, true, true, true, true], [true, true, true, true, true, true, true, true, true, true, true, true, true, true, true, true, true, true, true], [true, true, true, true, true, true, true, true, true, true, true, true, true, true, true, true, true, true, true, true], [true, true, true, true, true, true, true, true, true, true, true, true, true, true, true, true, true, true, true, true, true], [true, true, true, true, true, true, true, true, true, true, true, true, true, true, true, true, true, true, true, true, true, true], [true, true, true, true, true, true, true, true, true, true, true, true, true, true, true, true, true, true, true, true, true, false, false], [true, true, true, true, true, true, true, true, true, true, true, true, true, true, true, true, true, true, true, true, true, false, false, false], [true, true, true, true, true, true, true, true, true, true, true, true, true, true, true, true, true, true, true, true, true, false, false, false, true], [true, true, true, true, true, true, true, true, true, true, true, true, true, true, true, true, true, true, true, true, true, false, false, true, true, true], [true, true, true, true, true, true, true, true, true, true, true, true, true, true, true, true, true, true, true, true, true, false, false, true, true, true, true], [true, true, true, true, true, true, true, true, true, true, true, true, true, true, true, true, true, true, true, true, true, false, false, true, true, true, true, true]] [0, 1, 0, 0, 0, 1, 0, 0, 0, 0, 1, 0, 0, 0, 0, 0, 0, 0, 0, 0, 0, 0, 1, 0, 0, 0, 0, 0, 1]
                    [.pure, .minor Unit () (fun _ => .int .i64 y.kd) (fun _ _ => True), .pure, .pure, .pure, .minor Unit () (fun _ => .int .i64 y.kd) (fun _ _ => True), .pure, .pure, .pure, .pure, .minor Unit () (fun _ => .int .i64 y.st) (fun _ _ => True), .pure, .pure, .pure, .pure, .pure, .pure, .pure, .pure, .pure, .pure, .pure, .minor Unit () (fun _ => .int .i64 y.st) (fun _ _ => True), .pure, .pure, .pure, .pure, .pure, .minor Unit () (fun _ => .int .i64 0) (fun _ _ => True)]
                    (fun W => Below w1.heap.size w1 W) (fun _ _ => True) (fun a b => Below a.heap.size a b) (by kernel_rfl) (by kernel_rfl) rfl rfl (fun vs a b h hs => trivial) ?_ ?_ ?_ ?_ ?_ ?_
                  · intro a b he hb; exact hb.trans (Below.mono he hb.size)
                  · intro a b he hb; exact hb.trans (Below.mono he hb.size)
                  · exact ⟨trivial, ⟨fun _ _ _ _ _ => trivial, fun _ _ _ _ _ => trivial⟩, trivial, trivial, trivial, ⟨fun _ _ _ _ _ => trivial, fun _ _ _ _ _ => trivial⟩, trivial, trivial, trivial, trivial, ⟨fun _ _ _ _ _ => trivial, fun _ _ _ _ _ => trivial⟩, trivial, trivial, trivial, trivial, trivial, trivial, trivial, trivial, trivial, trivial, trivial, ⟨fun _ _ _ _ _ => trivial, fun _ _ _ _ _ => trivial⟩, trivial, trivial, trivial, trivial, trivial, ⟨fun _ _ _ _ _ => trivial, fun _ _ _ _ _ => trivial⟩, trivial⟩
                  · exact (Below.refl _ _).drew
                  · trivial
                  dsimp only [Reg.mk, List.zip, List.zipWith, List.take]
                  repeat (refine' Reg.pass_is _ (by rfl) (fun wz => ?_) ?_; rotate_left; (go_simp; first | rfl | rw [if_neg (by omega)]); simp only [Act.put, List.setIfInBounds_toArray, List.set_cons_zero, List.set_cons_succ]; (try simp only [List.nil_append]); (try simp only [List.cons_append]); (try simp only [id]))
                  refine Reg.pass_minor (by rfl) (fun wz hI hF => ?_) (fun r1 => ?_)
                  · unfold Reg.One
                    have kz := ev_cells (W := wz) (hX.out wz hI) 1 _ rfl
                    go_wp2_with fail
                    first | exact ⟨_, rfl, rfl, Reg.Ext.refl _⟩ | exact ⟨_, rfl, ⟨(), rfl, trivial⟩, Reg.Ext.refl _⟩
                  simp only [Act.put, List.setIfInBounds_toArray, List.set_cons_zero, List.set_cons_succ]; (try simp only [List.nil_append]); (try simp only [List.cons_append]); (try simp only [id])
                  refine Reg.pass_is (.bool false) (by rfl) (fun wz => ?_) ?_
                  · go_simp
                  simp only [Act.put, List.setIfInBounds_toArray, List.set_cons_zero, List.set_cons_succ]; (try simp only [List.nil_append]); (try simp only [List.cons_append]); (try simp only [id])
                  repeat (refine' Reg.pass_is _ (by rfl) (fun wz => ?_) ?_; rotate_left; (go_simp; first | rfl | rw [if_neg (by omega)]); simp only [Act.put, List.setIfInBounds_toArray, List.set_cons_zero, List.set_cons_succ]; (try simp only [List.nil_append]); (try simp only [List.cons_append]); (try simp only [id]))
                  refine Reg.pass_minor (by rfl) (fun wz hI hF => ?_) (fun r5 => ?_)
                  · unfold Reg.One
                    have kz := ev_cells (W := wz) (hX.out wz hI) 1 _ rfl
                    go_wp2_with fail
                    first | exact ⟨_, rfl, rfl, Reg.Ext.refl _⟩ | exact ⟨_, rfl, ⟨(), rfl, trivial⟩, Reg.Ext.refl _⟩
                  simp only [Act.put, List.setIfInBounds_toArray, List.set_cons_zero, List.set_cons_succ]; (try simp only [List.nil_append]); (try simp only [List.cons_append]); (try simp only [id])
                  refine Reg.pass_is (.bool false) (by rfl) (fun wz => ?_) ?_
                  · go_simp
                  simp only [Act.put, List.setIfInBounds_toArray, List.set_cons_zero, List.set_cons_succ]; (try simp only [List.nil_append]); (try simp only [List.cons_append]); (try simp only [id])
                  repeat (refine' Reg.pass_is _ (by rfl) (fun wz => ?_) ?_; rotate_left; (go_simp; first | rfl | rw [if_neg (by omega)]); simp only [Act.put, List.setIfInBounds_toArray, List.set_cons_zero, List.set_cons_succ]; (try simp only [List.nil_append]); (try simp only [List.cons_append]); (try simp only [id]))
                  refine Reg.pass_minor (by rfl) (fun wz hI hF => ?_) (fun r10 => ?_)
                  · unfold Reg.One
                    have kz := ev_cells (W := wz) (hX.out wz hI) 0 _ rfl
                    go_wp2_with fail
                    first | exact ⟨_, rfl, rfl, Reg.Ext.refl _⟩ | exact ⟨_, rfl, ⟨(), rfl, trivial⟩, Reg.Ext.refl _⟩
                  simp only [Act.put, List.setIfInBounds_toArray, List.set_cons_zero, List.set_cons_succ]; (try simp only [List.nil_append]); (try simp only [List.cons_append]); (try simp only [id])
                  refine Reg.pass_is (.bool false) (by rfl) (fun wz => ?_) ?_
                  · go_simp
                  simp only [Act.put, List.setIfInBounds_toArray, List.set_cons_zero, List.set_cons_succ]; (try simp only [List.nil_append]); (try simp only [List.cons_append]); (try simp only [id])
                  repeat (refine' Reg.pass_is _ (by rfl) (fun wz => ?_) ?_; rotate_left; (go_simp; first | rfl | rw [if_neg (by omega)]); simp only [Act.put, List.setIfInBounds_toArray, List.set_cons_zero, List.set_cons_succ]; (try simp only [List.nil_append]); (try simp only [List.cons_append]); (try simp only [id]))
                  refine Reg.pass_not (by rfl) ?_
                  simp only [Act.put, List.setIfInBounds_toArray, List.set_cons_zero, List.set_cons_succ]; (try simp only [List.nil_append]); (try simp only [List.cons_append]); (try simp only [id])
                  refine Reg.pass_not (by rfl) ?_
                  simp only [Act.put, List.setIfInBounds_toArray, List.set_cons_zero, List.set_cons_succ]; (try simp only [List.nil_append]); (try simp only [List.cons_append]); (try simp only [id])
                  repeat (refine' Reg.pass_is _ (by rfl) (fun wz => ?_) ?_; rotate_left; (go_simp; first | rfl | rw [if_neg (by omega)]); simp only [Act.put, List.setIfInBounds_toArray, List.set_cons_zero, List.set_cons_succ]; (try simp only [List.nil_append]); (try simp only [List.cons_append]); (try simp only [id]))
                  refine Reg.pass_not (by rfl) ?_
                  simp only [Act.put, List.setIfInBounds_toArray, List.set_cons_zero, List.set_cons_succ]; (try simp only [List.nil_append]); (try simp only [List.cons_append]); (try simp only [id])
                  refine Reg.pass_minor_no (by rfl) ?_
                  simp only [Act.put, List.setIfInBounds_toArray, List.set_cons_zero, List.set_cons_succ]; (try simp only [List.nil_append]); (try simp only [List.cons_append]); (try simp only [id])
                  refine Reg.pass_not (by rfl) ?_
                  simp only [Act.put, List.setIfInBounds_toArray, List.set_cons_zero, List.set_cons_succ]; (try simp only [List.nil_append]); (try simp only [List.cons_append]); (try simp only [id])
                  refine Reg.pass_not (by rfl) ?_
                  simp only [Act.put, List.setIfInBounds_toArray, List.set_cons_zero, List.set_cons_succ]; (try simp only [List.nil_append]); (try simp only [List.cons_append]); (try simp only [id])
                  refine Reg.pass_not (by rfl) ?_
                  simp only [Act.put, List.setIfInBounds_toArray, List.set_cons_zero, List.set_cons_succ]; (try simp only [List.nil_append]); (try simp only [List.cons_append]); (try simp only [id])
                  refine Reg.pass_not (by rfl) ?_
                  simp only [Act.put, List.setIfInBounds_toArray, List.set_cons_zero, List.set_cons_succ]; (try simp only [List.nil_append]); (try simp only [List.cons_append]); (try simp only [id])
                  refine Reg.pass_not (by rfl) ?_
                  simp only [Act.put, List.setIfInBounds_toArray, List.set_cons_zero, List.set_cons_succ]; (try simp only [List.nil_append]); (try simp only [List.cons_append]); (try simp only [id])
                  refine Reg.pass_minor_no (by rfl) ?_
                  simp only [Act.put, List.setIfInBounds_toArray, List.set_cons_zero, List.set_cons_succ]; (try simp only [List.nil_append]); (try simp only [List.cons_append]); (try simp only [id])
                  refine Reg.pass_end ?_
                  intro wb HIb _ _
                  dsimp only [List.drop]
                  go_wp2_with fail
                  go_meet
                  case rel => exact ⟨by rw [hbad.out]; simp [h1, h2, h3], HIb⟩
              · obtain ⟨j, hj⟩ : ∃ j, j = i - 1 := ⟨_, rfl⟩
                have kp : Hid (∀ W : World, Below w1.heap.size w1 W → W.cell? ⟨g, off + j * k24, none⟩ = some (.int .i64 pv)) := fun W hW => by
                  have := hprev.out W (Below.add hb1.out hW) (by omega)
                  rw [hk.out]
                  rwa [← hj] at this
                have hwm : IntKind.i64.wrap ((i : Int) - 1) = (j : Int) := by rw [IntWalk.i64_in _ (by omega)]; omega
                have j0 : (0 : Int) ≤ (j : Int) := by omega
                have jn : (j : Int) < (n : Int) := by omega
                have dz : ((i : Int) == 0) = false := by simp; omega
                have dp : decide (0 < (i : Int)) = true := decide_eq_true (by omega)
                have dq : decide (0 < i) = true := decide_eq_true (by omega)
                clear hp0
                replace hz := Lib.hid hz
                replace hj := Lib.hid hj
                by_cases h4 : y.st < 0
                · have d4 : decide (y.st < 0) = true := decide_eq_true h4
                  by_cases h3 : y.st < pv
                  · have d3 : decide (y.st < pv) = true := decide_eq_true h3
                    refine Reg.region_mk 29 104 [[], [true], [true, true], [true, true, true], [true, true, true, true], [true, true, true, true, true], [true, true, true, true, true, true], [true, true, true, true, true, true, true], [true, true, true, true, true, true, true, true], [true, true, true, true, true, true, true, true, true], [true, true, true, true, true, true, true, true, true, true], [true, true, true, true, true, true, true, true, true, true, true], [true, true, true, true, true, true, true, true, true, true, true, true], [true, true, true, true, true, true, true, true, true, true, true, true, true], [true, true, true, true, true, true, true, true, true, true, true, true, true, true], [true, true, true, true, true, true, true, true, true, true, true, true, true, true, true], [true, true, true, true, true, true, true, true, true, true, true, true, true, true, true, true], [true, true, true, true, true, true, true, true, true, true, true, true, true, true, true, true, true], [true, true, true, true, true, true, true, true, true, true, true, true, true, true, true, true, true, true], [true, true, true, true, true, true, true, true, true, true, true, true, true, true, true, true, true, true, true], [true, true, true, true, true, true, true, true, true, true, true, true, true, true, true, true, true, true, true, true], [true, true, true, true, true, true, true, true, true, true, true, true, true, true, true, true, true, true, true, true, true], [true, true, true, true, true, true, true, true, true, true, true, true, true, true, true, true, true, true, true, true, true, true], [true, true, true, true, true, true, true, true, true, true, true, true, true, true, true, true, true, true, true, true, true, false, false], [true, true, true, true, true, true, true, true, true, true, true, true, true, true, true, true, true, true, true, true, true, false, false, false], [true, true, true, true, true, true, true, true, true, true, true, true, true, true, true, true, true, true, true, true, true, false, false, false, true], [true, true, true, true, true, true, true, true, true, true, true, true, true, true, true, true, true, true, true, true, true, false, false, true, true, true], [true, true, true, true, true, true, true, true, true, true, true, true, true, true, true, true, true, true, true, true, true, false, false, true, true, true, true], [true, true, true, true, true, true, true, true, true, true, true, true, true, true, true, true, true, true, true, true, true, false, false, true, true, true, true, true]] [0, 1, 0, 0, 0, 1, 0, 0, 0, 0, 1, 0, 0, 0, 0, 0, 0, 0, 0, 0, 0, 0, 1, 0, 0, 0, 0, 0, 1]
                      [.pure, .minor Unit () (fun _ => .int .i64 y.kd) (fun _ _ => True), .pure, .pure, .pure, .minor Unit () (fun _ => .int .i64 y.kd) (fun _ _ => True), .pure, .pure, .pure, .pure, .minor Unit () (fun _ => .int .i64 y.st) (fun _ _ => True), .pure, .pure, .pure, .pure, .pure, .pure, .pure, .pure, .pure, .pure, .pure, .minor Unit () (fun _ => .int .i64 y.st) (fun _ _ => True), .pure, .pure, .pure, .pure, .pure, .minor Unit () (fun _ => .int .i64 pv) (fun _ _ => True)]
                      (fun W => Below w1.heap.size w1 W) (fun _ _ => True) (fun a b => Below a.heap.size a b) (by kernel_rfl) (by kernel_rfl) rfl rfl (fun vs a b h hs => trivial) ?_ ?_ ?_ ?_ ?_ ?_
                    · intro a b he hb; exact hb.trans (Below.mono he hb.size)
                    · intro a b he hb; exact hb.trans (Below.mono he hb.size)
                    · exact ⟨trivial, ⟨fun _ _ _ _ _ => trivial, fun _ _ _ _ _ => trivial⟩, trivial, trivial, trivial, ⟨fun _ _ _ _ _ => trivial, fun _ _ _ _ _ => trivial⟩, trivial, trivial, trivial, trivial, ⟨fun _ _ _ _ _ => trivial, fun _ _ _ _ _ => trivial⟩, trivial, trivial, trivial, trivial, trivial, trivial, trivial, trivial, trivial, trivial, trivial, ⟨fun _ _ _ _ _ => trivial, fun _ _ _ _ _ => trivial⟩, trivial, trivial, trivial, trivial, trivial, ⟨fun _ _ _ _ _ => trivial, fun _ _ _ _ _ => trivial⟩, trivial⟩
                    · exact (Below.refl _ _).drew
                    · trivial
                    dsimp only [Reg.mk, List.zip, List.zipWith, List.take]
                    repeat (refine' Reg.pass_is _ (by rfl) (fun wz => ?_) ?_; rotate_left; (go_simp; first | rfl | rw [if_neg (by omega)]); simp only [Act.put, List.setIfInBounds_toArray, List.set_cons_zero, List.set_cons_succ]; (try simp only [List.nil_append]); (try simp only [List.cons_append]); (try simp only [id]))
                    refine Reg.pass_minor (by rfl) (fun wz hI hF => ?_) (fun r1 => ?_)
                    · unfold Reg.One
                      have kz := ev_cells (W := wz) (hX.out wz hI) 1 _ rfl
                      go_wp2_with fail
                      first | exact ⟨_, rfl, rfl, Reg.Ext.refl _⟩ | exact ⟨_, rfl, ⟨(), rfl, trivial⟩, Reg.Ext.refl _⟩
                    simp only [Act.put, List.setIfInBounds_toArray, List.set_cons_zero, List.set_cons_succ]; (try simp only [List.nil_append]); (try simp only [List.cons_append]); (try simp only [id])
                    refine Reg.pass_is (.bool false) (by rfl) (fun wz => ?_) ?_
                    · go_simp
                    simp only [Act.put, List.setIfInBounds_toArray, List.set_cons_zero, List.set_cons_succ]; (try simp only [List.nil_append]); (try simp only [List.cons_append]); (try simp only [id])
                    repeat (refine' Reg.pass_is _ (by rfl) (fun wz => ?_) ?_; rotate_left; (go_simp; first | rfl | rw [if_neg (by omega)]); simp only [Act.put, List.setIfInBounds_toArray, List.set_cons_zero, List.set_cons_succ]; (try simp only [List.nil_append]); (try simp only [List.cons_append]); (try simp only [id]))
                    refine Reg.pass_minor (by rfl) (fun wz hI hF => ?_) (fun r5 => ?_)
                    · unfold Reg.One
                      have kz := ev_cells (W := wz) (hX.out wz hI) 1 _ rfl
                      go_wp2_with fail
                      first | exact ⟨_, rfl, rfl, Reg.Ext.refl _⟩ | exact ⟨_, rfl, ⟨(), rfl, trivial⟩, Reg.Ext.refl _⟩
                    simp only [Act.put, List.setIfInBounds_toArray, List.set_cons_zero, List.set_cons_succ]; (try simp only [List.nil_append]); (try simp only [List.cons_append]); (try simp only [id])
                    refine Reg.pass_is (.bool false) (by rfl) (fun wz => ?_) ?_
                    · go_simp
                    simp only [Act.put, List.setIfInBounds_toArray, List.set_cons_zero, List.set_cons_succ]; (try simp only [List.nil_append]); (try simp only [List.cons_append]); (try simp only [id])
                    repeat (refine' Reg.pass_is _ (by rfl) (fun wz => ?_) ?_; rotate_left; (go_simp; first | rfl | rw [if_neg (by omega)]); simp only [Act.put, List.setIfInBounds_toArray, List.set_cons_zero, List.set_cons_succ]; (try simp only [List.nil_append]); (try simp only [List.cons_append]); (try simp only [id]))
                    refine Reg.pass_minor (by rfl) (fun wz hI hF => ?_) (fun r10 => ?_)
                    · unfold Reg.One
                      have kz := ev_cells (W := wz) (hX.out wz hI) 0 _ rfl
                      go_wp2_with fail
                      first | exact ⟨_, rfl, rfl, Reg.Ext.refl _⟩ | exact ⟨_, rfl, ⟨(), rfl, trivial⟩, Reg.Ext.refl _⟩
                    simp only [Act.put, List.setIfInBounds_toArray, List.set_cons_zero, List.set_cons_succ]; (try simp only [List.nil_append]); (try simp only [List.cons_append]); (try simp only [id])
                    refine Reg.pass_is (.bool true) (by rfl) (fun wz => ?_) ?_
                    · go_simp
                    simp only [Act.put, List.setIfInBounds_toArray, List.set_cons_zero, List.set_cons_succ]; (try simp only [List.nil_append]); (try simp only [List.cons_append]); (try simp only [id])
                    repeat (refine' Reg.pass_is _ (by rfl) (fun wz => ?_) ?_; rotate_left; (go_simp; first | rfl | rw [if_neg (by omega)]); simp only [Act.put, List.setIfInBounds_toArray, List.set_cons_zero, List.set_cons_succ]; (try simp only [List.nil_append]); (try simp only [List.cons_append]); (try simp only [id]))
                    refine Reg.pass_minor (by rfl) (fun wz hI hF => ?_) (fun r22 => ?_)
                    · unfold Reg.One
                      have kz := ev_cells (W := wz) (hX.out wz hI) 0 _ rfl
                      go_wp2_with fail
                      first | exact ⟨_, rfl, rfl, Reg.Ext.refl _⟩ | exact ⟨_, rfl, ⟨(), rfl, trivial⟩, Reg.Ext.refl _⟩
                    simp only [Act.put, List.setIfInBounds_toArray, List.set_cons_zero, List.set_cons_succ]; (try simp only [List.nil_append]); (try simp only [List.cons_append]); (try simp only [id])
                    repeat (refine' Reg.pass_is _ (by rfl) (fun wz => ?_) ?_; rotate_left; (go_simp; first | rfl | rw [if_neg (by omega)]); simp only [Act.put, List.setIfInBounds_toArray, List.set_cons_zero, List.set_cons_succ]; (try simp only [List.nil_append]); (try simp only [List.cons_append]); (try simp only [id]))
                    refine Reg.pass_minor (by rfl) (fun wz hI hF => ?_) (fun r28 => ?_)
                    · unfold Reg.One
                      have kq := kp.out wz hI
                      go_wp2_with fail
                      first | exact ⟨_, rfl, rfl, Reg.Ext.refl _⟩ | exact ⟨_, rfl, ⟨(), rfl, trivial⟩, Reg.Ext.refl _⟩
                    simp only [Act.put, List.setIfInBounds_toArray, List.set_cons_zero, List.set_cons_succ]; (try simp only [List.nil_append]); (try simp only [List.cons_append]); (try simp only [id])
                    refine Reg.pass_end ?_
                    intro wb HIb _ _
                    dsimp only [List.drop]
                    go_wp2_with fail
                    go_meet
                    case rel => exact ⟨by rw [hbad.out]; simp [h3], HIb⟩
                  · have d3 : decide (y.st < pv) = false := decide_eq_false h3
                    refine Reg.region_mk 29 104 [[], [true], [true, true], [true, true, true], [true, true, true, true], [true, true, true, true, true], [true, true, true, true, true, true], [true, true, true, true, true, true, true], [true, true, true, true, true, true, true, true], [true, true, true, true, true, true, true, true, true], [true, true, true, true, true, true, true, true, true, true], [true, true, true, true, true, true, true, true, true, true, true], [true, true, true, true, true, true, true, true, true, true, true, true], [true, true, true, true, true, true, true, true, true, true, true, true, true], [true, true, true, true, true, true, true, true, true, true, true, true, true, true], [true, true, true, true, true, true, true, true, true, true, true, true, true, true, true], [true, true, true, true, true, true, true, true, true, true, true, true, true, true, true, true], [true, true, true, true, true, true, true, true, true, true, true, true, true, true, true, true, true], [true, true, true, true, true, true, true, true, true, true, true, true, true, true, true, true, true, true], [true, true, true, true, true, true, true, true, true, true, true, true, true, true, true, true, true, true, true], [true, true, true, true, true, true, true, true, true, true, true, true, true, true, true, true, true, true, true, true], [true, true, true, true, true, true, true, true, true, true, true, true, true, true, true, true, true, true, true, true, true], [true, true, true, true, true, true, true, true, true, true, true, true, true, true, true, true, true, true, true, true, true, true], [true, true, true, true, true, true, true, true, true, true, true, true, true, true, true, true, true, true, true, true, true, false, false], [true, true, true, true, true, true, true, true, true, true, true, true, true, true, true, true, true, true, true, true, true, false, false, false], [true, true, true, true, true, true, true, true, true, true, true, true, true, true, true, true, true, true, true, true, true, false, false, false, true], [true, true, true, true, true, true, true, true, true, true, true, true, true, true, true, true, true, true, true, true, true, false, false, true, true, true], [true, true, true, true, true, true, true, true, true, true, true, true, true, true, true, true, true, true, true, true, true, false, false, true, true, true, true], [true, true, true, true, true, true, true, true, true, true, true, true, true, true, true, true, true, true, true, true, true, false, false, true, true, true, true, true]] [0, 1, 0, 0, 0, 1, 0, 0, 0, 0, 1, 0, 0, 0, 0, 0, 0, 0, 0, 0, 0, 0, 1, 0, 0, 0, 0, 0, 1]
                      [.pure, .minor Unit () (fun _ => .int .i64 y.kd) (fun _ _ => True), .pure, .pure, .pure, .minor Unit () (fun _ => .int .i64 y.kd) (fun _ _ => True), .pure, .pure, .pure, .pure, .minor Unit () (fun _ => .int .i64 y.st) (fun _ _ => True), .pure, .pure, .pure, .pure, .pure, .pure, .pure, .pure, .pure, .pure, .pure, .minor Unit () (fun _ => .int .i64 y.st) (fun _ _ => True), .pure, .pure, .pure, .pure, .pure, .minor Unit () (fun _ => .int .i64 pv) (fun _ _ => True)]
                      (fun W => Below w1.heap.size w1 W) (fun _ _ => True) (fun a b => Below a.heap.size a b) (by kernel_rfl) (by kernel_rfl) rfl rfl (fun vs a b h hs => trivial) ?_ ?_ ?_ ?_ ?_ ?_
                    · intro a b he hb; exact hb.trans (Below.mono he hb.size)
                    · intro a b he hb; exact hb.trans (Below.mono he hb.size)
                    · exact ⟨trivial, ⟨fun _ _ _ _ _ => trivial, fun _ _ _ _ _ => trivial⟩, trivial, trivial, trivial, ⟨fun _ _ _ _ _ => trivial, fun _ _ _ _ _ => trivial⟩, trivial, trivial, trivial, trivial, ⟨fun _ _ _ _ _ => trivial, fun _ _ _ _ _ => trivial⟩, trivial, trivial, trivial, trivial, trivial, trivial, trivial, trivial, trivial, trivial, trivial, ⟨fun _ _ _ _ _ => trivial, fun _ _ _ _ _ => trivial⟩, trivial, trivial, trivial, trivial, trivial, ⟨fun _ _ _ _ _ => trivial, fun _ _ _ _ _ => trivial⟩, trivial⟩
                    · exact (Below.refl _ _).drew
                    · trivial
                    dsimp only [Reg.mk, List.zip, List.zipWith, List.take]
                    repeat (refine' Reg.pass_is _ (by rfl) (fun wz => ?_) ?_; rotate_left; (go_simp; first | rfl | rw [if_neg (by omega)]); simp only [Act.put, List.setIfInBounds_toArray, List.set_cons_zero, List.set_cons_succ]; (try simp only [List.nil_append]); (try simp only [List.cons_append]); (try simp only [id]))
                    refine Reg.pass_minor (by rfl) (fun wz hI hF => ?_) (fun r1 => ?_)
                    · unfold Reg.One
                      have kz := ev_cells (W := wz) (hX.out wz hI) 1 _ rfl
                      go_wp2_with fail
                      first | exact ⟨_, rfl, rfl, Reg.Ext.refl _⟩ | exact ⟨_, rfl, ⟨(), rfl, trivial⟩, Reg.Ext.refl _⟩
                    simp only [Act.put, List.setIfInBounds_toArray, List.set_cons_zero, List.set_cons_succ]; (try simp only [List.nil_append]); (try simp only [List.cons_append]); (try simp only [id])
                    refine Reg.pass_is (.bool false) (by rfl) (fun wz => ?_) ?_
                    · go_simp
                    simp only [Act.put, List.setIfInBounds_toArray, List.set_cons_zero, List.set_cons_succ]; (try simp only [List.nil_append]); (try simp only [List.cons_append]); (try simp only [id])
                    repeat (refine' Reg.pass_is _ (by rfl) (fun wz => ?_) ?_; rotate_left; (go_simp; first | rfl | rw [if_neg (by omega)]); simp only [Act.put, List.setIfInBounds_toArray, List.set_cons_zero, List.set_cons_succ]; (try simp only [List.nil_append]); (try simp only [List.cons_append]); (try simp only [id]))
                    refine Reg.pass_minor (by rfl) (fun wz hI hF => ?_) (fun r5 => ?_)
                    · unfold Reg.One
                      have kz := ev_cells (W := wz) (hX.out wz hI) 1 _ rfl
                      go_wp2_with fail
                      first | exact ⟨_, rfl, rfl, Reg.Ext.refl _⟩ | exact ⟨_, rfl, ⟨(), rfl, trivial⟩, Reg.Ext.refl _⟩
                    simp only [Act.put, List.setIfInBounds_toArray, List.set_cons_zero, List.set_cons_succ]; (try simp only [List.nil_append]); (try simp only [List.cons_append]); (try simp only [id])
                    refine Reg.pass_is (.bool false) (by rfl) (fun wz => ?_) ?_
                    · go_simp
                    simp only [Act.put, List.setIfInBounds_toArray, List.set_cons_zero, List.set_cons_succ]; (try simp only [List.nil_append]); (try simp only [List.cons_append]); (try simp only [id])
                    repeat (refine' Reg.pass_is _ (by rfl) (fun wz => ?_) ?_; rotate_left; (go_simp; first | rfl | rw [if_neg (by omega)]); simp only [Act.put, List.setIfInBounds_toArray, List.set_cons_zero, List.set_cons_succ]; (try simp only [List.nil_append]); (try simp only [List.cons_append]); (try simp only [id]))
                    refine Reg.pass_minor (by rfl) (fun wz hI hF => ?_) (fun r10 => ?_)
                    · unfold Reg.One
                      have kz := ev_cells (W := wz) (hX.out wz hI) 0 _ rfl
                      go_wp2_with fail
                      first | exact ⟨_, rfl, rfl, Reg.Ext.refl _⟩ | exact ⟨_, rfl, ⟨(), rfl, trivial⟩, Reg.Ext.refl _⟩
                    simp only [Act.put, List.setIfInBounds_toArray, List.set_cons_zero, List.set_cons_succ]; (try simp only [List.nil_append]); (try simp only [List.cons_append]); (try simp only [id])
                    refine Reg.pass_is (.bool true) (by rfl) (fun wz => ?_) ?_
                    · go_simp
                    simp only [Act.put, List.setIfInBounds_toArray, List.set_cons_zero, List.set_cons_succ]; (try simp only [List.nil_append]); (try simp only [List.cons_append]); (try simp only [id])
                    repeat (refine' Reg.pass_is _ (by rfl) (fun wz => ?_) ?_; rotate_left; (go_simp; first | rfl | rw [if_neg (by omega)]); simp only [Act.put, List.setIfInBounds_toArray, List.set_cons_zero, List.set_cons_succ]; (try simp only [List.nil_append]); (try simp only [List.cons_append]); (try simp only [id]))
                    refine Reg.pass_minor (by rfl) (fun wz hI hF => ?_) (fun r22 => ?_)
                    · unfold Reg.One
                      have kz := ev_cells (W := wz) (hX.out wz hI) 0 _ rfl
                      go_wp2_with fail
                      first | exact ⟨_, rfl, rfl, Reg.Ext.refl _⟩ | exact ⟨_, rfl, ⟨(), rfl, trivial⟩, Reg.Ext.refl _⟩
                    simp only [Act.put, List.setIfInBounds_toArray, List.set_cons_zero, List.set_cons_succ]; (try simp only [List.nil_append]); (try simp only [List.cons_append]); (try simp only [id])
                    repeat (refine' Reg.pass_is _ (by rfl) (fun wz => ?_) ?_; rotate_left; (go_simp; first | rfl | rw [if_neg (by omega)]); simp only [Act.put, List.setIfInBounds_toArray, List.set_cons_zero, List.set_cons_succ]; (try simp only [List.nil_append]); (try simp only [List.cons_append]); (try simp only [id]))
                    refine Reg.pass_minor (by rfl) (fun wz hI hF => ?_) (fun r28 => ?_)
                    · unfold Reg.One
                      have kq := kp.out wz hI
                      go_wp2_with fail
                      first | exact ⟨_, rfl, rfl, Reg.Ext.refl _⟩ | exact ⟨_, rfl, ⟨(), rfl, trivial⟩, Reg.Ext.refl _⟩
                    simp only [Act.put, List.setIfInBounds_toArray, List.set_cons_zero, List.set_cons_succ]; (try simp only [List.nil_append]); (try simp only [List.cons_append]); (try simp only [id])
                    refine Reg.pass_end ?_
                    intro wb HIb _ _
                    dsimp only [List.drop]
                    go_wp2_with fail
                    go_meet
                    case rel => exact ⟨by rw [hbad.out]; simp [h1, h2, h3], HIb⟩
                · have d4 : decide (y.st < 0) = false := decide_eq_false h4
                  by_cases h3 : y.st < pv
                  · have d3 : decide (y.st < pv) = true := decide_eq_true h3
                    refine Reg.region_mk 29 104 [[], [true], [true, true], [true, true, true], [true, true, true, true], [true, true, true, true, true], [true, true, true, true, true, true], [true, true, true, true, true, true, true], [true, true, true, true, true, true, true, true], [true, true, true, true, true, true, true, true, true], [true, true, true, true, true, true, true, true, true, true], [true, true, true, true, true, true, true, true, true, true, true], [true, true, true, true, true, true, true, true, true, true, true, true], [true, true, true, true, true, true, true, true, true, true, true, true, true], [true, true, true, true, true, true, true, true, true, true, true, true, true, true], [true, true, true, true, true, true, true, true, true, true, true, true, true, true, true], [true, true, true, true, true, true, true, true, true, true, true, true, true, true, true, true], [true, true, true, true, true, true, true, true, true, true, true, true, true, true, true, true, true], [true, true, true, true, true, true, true, true, true, true, true, true, true, true, true, true, true, true], [true, true, true, true, true, true, true, true, true, true, true, true, true, true, true, true, true, true, true], [true, true, true, true, true, true, true, true, true, true, true, true, true, true, true, true, true, true, true, true], [true, true, true, true, true, true, true, true, true, true, true, true, true, true, true, true, true, true, true, true, true], [true, true, true, true, true, true, true, true, true, true, true, true, true, true, true, true, true, true, true, true, true, true], [true, true, true, true, true, true, true, true, true, true, true, true, true, true, true, true, true, true, true, true, true, false, false], [true, true, true, true, true, true, true, true, true, true, true, true, true, true, true, true, true, true, true, true, true, false, false, false], [true, true, true, true, true, true, true, true, true, true, true, true, true, true, true, true, true, true, true, true, true, false, false, false, true], [true, true, true, true, true, true, true, true, true, true, true, true, true, true, true, true, true, true, true, true, true, false, false, true, true, true], [true, true, true, true, true, true, true, true, true, true, true, true, true, true, true, true, true, true, true, true, true, false, false, true, true, true, true], [true, true, true, true, true, true, true, true, true, true, true, true, true, true, true, true, true, true, true, true, true, false, false, true, true, true, true, true]] [0, 1, 0, 0, 0, 1, 0, 0, 0, 0, 1, 0, 0, 0, 0, 0, 0, 0, 0, 0, 0, 0, 1, 0, 0, 0, 0, 0, 1]
                      [.pure, .minor Unit () (fun _ => .int .i64 y.kd) (fun _ _ => True), .pure, .pure, .pure, .minor Unit () (fun _ => .int .i64 y.kd) (fun _ _ => True), .pure, .pure, .pure, .pure, .minor Unit () (fun _ => .int .i64 y.st) (fun _ _ => True), .pure, .pure, .pure, .pure, .pure, .pure, .pure, .pure, .pure, .pure, .pure, .minor Unit () (fun _ => .int .i64 y.st) (fun _ _ => True), .pure, .pure, .pure, .pure, .pure, .minor Unit () (fun _ => .int .i64 pv) (fun _ _ => True)]
                      (fun W => Below w1.heap.size w1 W) (fun _ _ => True) (fun a b => Below a.heap.size a b) (by kernel_rfl) (by kernel_rfl) rfl rfl (fun vs a b h hs => trivial) ?_ ?_ ?_ ?_ ?_ ?_
                    · intro a b he hb; exact hb.trans (Below.mono he hb.size)
                    · intro a b he hb; exact hb.trans (Below.mono he hb.size)
                    · exact ⟨trivial, ⟨fun _ _ _ _ _ => trivial, fun _ _ _ _ _ => trivial⟩, trivial, trivial, trivial, ⟨fun _ _ _ _ _ => trivial, fun _ _ _ _ _ => trivial⟩, trivial, trivial, trivial, trivial, ⟨fun _ _ _ _ _ => trivial, fun _ _ _ _ _ => trivial⟩, trivial, trivial, trivial, trivial, trivial, trivial, trivial, trivial, trivial, trivial, trivial, ⟨fun _ _ _ _ _ => trivial, fun _ _ _ _ _ => trivial⟩, trivial, trivial, trivial, trivial, trivial, ⟨fun _ _ _ _ _ => trivial, fun _ _ _ _ _ => trivial⟩, trivial⟩
                    · exact (Below.refl _ _).drew
                    · trivial
                    dsimp only [Reg.mk, List.zip, List.zipWith, List.take]
                    repeat (refine' Reg.pass_is _ (by rfl) (fun wz => ?_) ?_; rotate_left; (go_simp; first | rfl | rw [if_neg (by omega)]); simp only [Act.put, List.setIfInBounds_toArray, List.set_cons_zero, List.set_cons_succ]; (try simp only [List.nil_append]); (try simp only [List.cons_append]); (try simp only [id]))
                    refine Reg.pass_minor (by rfl) (fun wz hI hF => ?_) (fun r1 => ?_)
                    · unfold Reg.One
                      have kz := ev_cells (W := wz) (hX.out wz hI) 1 _ rfl
                      go_wp2_with fail
                      first | exact ⟨_, rfl, rfl, Reg.Ext.refl _⟩ | exact ⟨_, rfl, ⟨(), rfl, trivial⟩, Reg.Ext.refl _⟩
                    simp only [Act.put, List.setIfInBounds_toArray, List.set_cons_zero, List.set_cons_succ]; (try simp only [List.nil_append]); (try simp only [List.cons_append]); (try simp only [id])
                    refine Reg.pass_is (.bool false) (by rfl) (fun wz => ?_) ?_
                    · go_simp
                    simp only [Act.put, List.setIfInBounds_toArray, List.set_cons_zero, List.set_cons_succ]; (try simp only [List.nil_append]); (try simp only [List.cons_append]); (try simp only [id])
                    repeat (refine' Reg.pass_is _ (by rfl) (fun wz => ?_) ?_; rotate_left; (go_simp; first | rfl | rw [if_neg (by omega)]); simp only [Act.put, List.setIfInBounds_toArray, List.set_cons_zero, List.set_cons_succ]; (try simp only [List.nil_append]); (try simp only [List.cons_append]); (try simp only [id]))
                    refine Reg.pass_minor (by rfl) (fun wz hI hF => ?_) (fun r5 => ?_)
                    · unfold Reg.One
                      have kz := ev_cells (W := wz) (hX.out wz hI) 1 _ rfl
                      go_wp2_with fail
                      first | exact ⟨_, rfl, rfl, Reg.Ext.refl _⟩ | exact ⟨_, rfl, ⟨(), rfl, trivial⟩, Reg.Ext.refl _⟩
                    simp only [Act.put, List.setIfInBounds_toArray, List.set_cons_zero, List.set_cons_succ]; (try simp only [List.nil_append]); (try simp only [List.cons_append]); (try simp only [id])
                    refine Reg.pass_is (.bool false) (by rfl) (fun wz => ?_) ?_
                    · go_simp
                    simp only [Act.put, List.setIfInBounds_toArray, List.set_cons_zero, List.set_cons_succ]; (try simp only [List.nil_append]); (try simp only [List.cons_append]); (try simp only [id])
                    repeat (refine' Reg.pass_is _ (by rfl) (fun wz => ?_) ?_; rotate_left; (go_simp; first | rfl | rw [if_neg (by omega)]); simp only [Act.put, List.setIfInBounds_toArray, List.set_cons_zero, List.set_cons_succ]; (try simp only [List.nil_append]); (try simp only [List.cons_append]); (try simp only [id]))
                    refine Reg.pass_minor (by rfl) (fun wz hI hF => ?_) (fun r10 => ?_)
                    · unfold Reg.One
                      have kz := ev_cells (W := wz) (hX.out wz hI) 0 _ rfl
                      go_wp2_with fail
                      first | exact ⟨_, rfl, rfl, Reg.Ext.refl _⟩ | exact ⟨_, rfl, ⟨(), rfl, trivial⟩, Reg.Ext.refl _⟩
                    simp only [Act.put, List.setIfInBounds_toArray, List.set_cons_zero, List.set_cons_succ]; (try simp only [List.nil_append]); (try simp only [List.cons_append]); (try simp only [id])
                    refine Reg.pass_is (.bool false) (by rfl) (fun wz => ?_) ?_
                    · go_simp
                    simp only [Act.put, List.setIfInBounds_toArray, List.set_cons_zero, List.set_cons_succ]; (try simp only [List.nil_append]); (try simp only [List.cons_append]); (try simp only [id])
                    repeat (refine' Reg.pass_is _ (by rfl) (fun wz => ?_) ?_; rotate_left; (go_simp; first | rfl | rw [if_neg (by omega)]); simp only [Act.put, List.setIfInBounds_toArray, List.set_cons_zero, List.set_cons_succ]; (try simp only [List.nil_append]); (try simp only [List.cons_append]); (try simp only [id]))
                    refine Reg.pass_not (by rfl) ?_
                    simp only [Act.put, List.setIfInBounds_toArray, List.set_cons_zero, List.set_cons_succ]; (try simp only [List.nil_append]); (try simp only [List.cons_append]); (try simp only [id])
                    refine Reg.pass_not (by rfl) ?_
                    simp only [Act.put, List.setIfInBounds_toArray, List.set_cons_zero, List.set_cons_succ]; (try simp only [List.nil_append]); (try simp only [List.cons_append]); (try simp only [id])
                    repeat (refine' Reg.pass_is _ (by rfl) (fun wz => ?_) ?_; rotate_left; (go_simp; first | rfl | rw [if_neg (by omega)]); simp only [Act.put, List.setIfInBounds_toArray, List.set_cons_zero, List.set_cons_succ]; (try simp only [List.nil_append]); (try simp only [List.cons_append]); (try simp only [id]))
                    refine Reg.pass_minor (by rfl) (fun wz hI hF => ?_) (fun r22 => ?_)
                    · unfold Reg.One
                      have kz := ev_cells (W := wz) (hX.out wz hI) 0 _ rfl
                      go_wp2_with fail
                      first | exact ⟨_, rfl, rfl, Reg.Ext.refl _⟩ | exact ⟨_, rfl, ⟨(), rfl, trivial⟩, Reg.Ext.refl _⟩
                    simp only [Act.put, List.setIfInBounds_toArray, List.set_cons_zero, List.set_cons_succ]; (try simp only [List.nil_append]); (try simp only [List.cons_append]); (try simp only [id])
                    repeat (refine' Reg.pass_is _ (by rfl) (fun wz => ?_) ?_; rotate_left; (go_simp; first | rfl | rw [if_neg (by omega)]); simp only [Act.put, List.setIfInBounds_toArray, List.set_cons_zero, List.set_cons_succ]; (try simp only [List.nil_append]); (try simp only [List.cons_append]); (try simp only [id]))
                    refine Reg.pass_minor (by rfl) (fun wz hI hF => ?_) (fun r28 => ?_)
                    · unfold Reg.One
                      have kq := kp.out wz hI
                      go_wp2_with fail
                      first | exact ⟨_, rfl, rfl, Reg.Ext.refl _⟩ | exact ⟨_, rfl, ⟨(), rfl, trivial⟩, Reg.Ext.refl _⟩
                    simp only [Act.put, List.setIfInBounds_toArray, List.set_cons_zero, List.set_cons_succ]; (try simp only [List.nil_append]); (try simp only [List.cons_append]); (try simp only [id])
                    refine Reg.pass_end ?_
                    intro wb HIb _ _
                    dsimp only [List.drop]
                    go_wp2_with fail
                    go_meet
                    case rel => exact ⟨by rw [hbad.out]; simp [h3], HIb⟩
                  · have d3 : decide (y.st < pv) = false := decide_eq_false h3
                    refine Reg.region_mk 29 104 [[], [true], [true, true], [true, true, true], [true, true, true, true], [true, true, true, true, true], [true, true, true, true, true, true], [true, true, true, true, true, true, true], [true, true, true, true, true, true, true, true], [true, true, true, true, true, true, true, true, true], [true, true, true, true, true, true, true, true, true, true], [true, true, true, true, true, true, true, true, true, true, true], [true, true, true, true, true, true, true, true, true, true, true, true], [true, true, true, true, true, true, true, true, true, true, true, true, true], [true, true, true, true, true, true, true, true, true, true, true, true, true, true], [true, true, true, true, true, true, true, true, true, true, true, true, true, true, true], [true, true, true, true, true, true, true, true, true, true, true, true, true, true, true, true], [true, true, true, true, true, true, true, true, true, true, true, true, true, true, true, true, true], [true, true, true, true, true, true, true, true, true, true, true, true, true, true, true, true, true, true], [true, true, true, true, true, true, true, true, true, true, true, true, true, true, true, true, true, true, true], [true, true, true, true, true, true, true, true, true, true, true, true, true, true, true, true, true, true, true, true], [true, true, true, true, true, true, true, true, true, true, true, true, true, true, true, true, true, true, true, true, true], [true, true, true, true, true, true, true, true, true, true, true, true, true, true, true, true, true, true, true, true, true, true], [true, true, true, true, true, true, true, true, true, true, true, true, true, true, true, true, true, true, true, true, true, false, false], [true, true, true, true, true, true, true, true, true, true, true, true, true, true, true, true, true, true, true, true, true, false, false, false], [true, true, true, true, true, true, true, true, true, true, true, true, true, true, true, true, true, true, true, true, true, false, false, false, true], [true, true, true, true, true, true, true, true, true, true, true, true, true, true, true, true, true, true, true, true, true, false, false, true, true, true], [true, true, true, true, true, true, true, true, true, true, true, true, true, true, true, true, true, true, true, true, true, false, false, true, true, true, true], [true, true, true, true, true, true, true, true, true, true, true, true, true, true, true, true, true, true, true, true, true, false, false, true, true, true, true, true]] [0, 1, 0, 0, 0, 1, 0, 0, 0, 0, 1, 0, 0, 0, 0, 0, 0, 0, 0, 0, 0, 0, 1, 0, 0, 0, 0, 0, 1]
                      [.pure, .minor Unit () (fun _ => .int .i64 y.kd) (fun _ _ => True), .pure, .pure, .pure, .minor Unit () (fun _ => .int .i64 y.kd) (fun _ _ => True), .pure, .pure, .pure, .pure, .minor Unit () (fun _ => .int .i64 y.st) (fun _ _ => True), .pure, .pure, .pure, .pure, .pure, .pure, .pure, .pure, .pure, .pure, .pure, .minor Unit () (fun _ => .int .i64 y.st) (fun _ _ => True), .pure, .pure, .pure, .pure, .pure, .minor Unit () (fun _ => .int .i64 pv) (fun _ _ => True)]
                      (fun W => Below w1.heap.size w1 W) (fun _ _ => True) (fun a b => Below a.heap.size a b) (by kernel_rfl) (by kernel_rfl) rfl rfl (fun vs a b h hs => trivial) ?_ ?_ ?_ ?_ ?_ ?_
                    · intro a b he hb; exact hb.trans (Below.mono he hb.size)
                    · intro a b he hb; exact hb.trans (Below.mono he hb.size)
                    · exact ⟨trivial, ⟨fun _ _ _ _ _ => trivial, fun _ _ _ _ _ => trivial⟩, trivial, trivial, trivial, ⟨fun _ _ _ _ _ => trivial, fun _ _ _ _ _ => trivial⟩, trivial, trivial, trivial, trivial, ⟨fun _ _ _ _ _ => trivial, fun _ _ _ _ _ => trivial⟩, trivial, trivial, trivial, trivial, trivial, trivial, trivial, trivial, trivial, trivial, trivial, ⟨fun _ _ _ _ _ => trivial, fun _ _ _ _ _ => trivial⟩, trivial, trivial, trivial, trivial, trivial, ⟨fun _ _ _ _ _ => trivial, fun _ _ _ _ _ => trivial⟩, trivial⟩
                    · exact (Below.refl _ _).drew
                    · trivial
                    dsimp only [Reg.mk, List.zip, List.zipWith, List.take]
                    repeat (refine' Reg.pass_is _ (by rfl) (fun wz => ?_) ?_; rotate_left; (go_simp; first | rfl | rw [if_neg (by omega)]); simp only [Act.put, List.setIfInBounds_toArray, List.set_cons_zero, List.set_cons_succ]; (try simp only [List.nil_append]); (try simp only [List.cons_append]); (try simp only [id]))
                    refine Reg.pass_minor (by rfl) (fun wz hI hF => ?_) (fun r1 => ?_)
                    · unfold Reg.One
                      have kz := ev_cells (W := wz) (hX.out wz hI) 1 _ rfl
                      go_wp2_with fail
                      first | exact ⟨_, rfl, rfl, Reg.Ext.refl _⟩ | exact ⟨_, rfl, ⟨(), rfl, trivial⟩, Reg.Ext.refl _⟩
                    simp only [Act.put, List.setIfInBounds_toArray, List.set_cons_zero, List.set_cons_succ]; (try simp only [List.nil_append]); (try simp only [List.cons_append]); (try simp only [id])
                    refine Reg.pass_is (.bool false) (by rfl) (fun wz => ?_) ?_
                    · go_simp
                    simp only [Act.put, List.setIfInBounds_toArray, List.set_cons_zero, List.set_cons_succ]; (try simp only [List.nil_append]); (try simp only [List.cons_append]); (try simp only [id])
                    repeat (refine' Reg.pass_is _ (by rfl) (fun wz => ?_) ?_; rotate_left; (go_simp; first | rfl | rw [if_neg (by omega)]); simp only [Act.put, List.setIfInBounds_toArray, List.set_cons_zero, List.set_cons_succ]; (try simp only [List.nil_append]); (try simp only [List.cons_append]); (try simp only [id]))
                    refine Reg.pass_minor (by rfl) (fun wz hI hF => ?_) (fun r5 => ?_)
                    · unfold Reg.One
                      have kz := ev_cells (W := wz) (hX.out wz hI) 1 _ rfl
                      go_wp2_with fail
                      first | exact ⟨_, rfl, rfl, Reg.Ext.refl _⟩ | exact ⟨_, rfl, ⟨(), rfl, trivial⟩, Reg.Ext.refl _⟩
                    simp only [Act.put, List.setIfInBounds_toArray, List.set_cons_zero, List.set_cons_succ]; (try simp only [List.nil_append]); (try simp only [List.cons_append]); (try simp only [id])
                    refine Reg.pass_is (.bool false) (by rfl) (fun wz => ?_) ?_
                    · go_simp
                    simp only [Act.put, List.setIfInBounds_toArray, List.set_cons_zero, List.set_cons_succ]; (try simp only [List.nil_append]); (try simp only [List.cons_append]); (try simp only [id])
                    repeat (refine' Reg.pass_is _ (by rfl) (fun wz => ?_) ?_; rotate_left; (go_simp; first | rfl | rw [if_neg (by omega)]); simp only [Act.put, List.setIfInBounds_toArray, List.set_cons_zero, List.set_cons_succ]; (try simp only [List.nil_append]); (try simp only [List.cons_append]); (try simp only [id]))
                    refine Reg.pass_minor (by rfl) (fun wz hI hF => ?_) (fun r10 => ?_)
                    · unfold Reg.One
                      have kz := ev_cells (W := wz) (hX.out wz hI) 0 _ rfl
                      go_wp2_with fail
                      first | exact ⟨_, rfl, rfl, Reg.Ext.refl _⟩ | exact ⟨_, rfl, ⟨(), rfl, trivial⟩, Reg.Ext.refl _⟩
                    simp only [Act.put, List.setIfInBounds_toArray, List.set_cons_zero, List.set_cons_succ]; (try simp only [List.nil_append]); (try simp only [List.cons_append]); (try simp only [id])
                    refine Reg.pass_is (.bool false) (by rfl) (fun wz => ?_) ?_
                    · go_simp
                    simp only [Act.put, List.setIfInBounds_toArray, List.set_cons_zero, List.set_cons_succ]; (try simp only [List.nil_append]); (try simp only [List.cons_append]); (try simp only [id])
                    repeat (refine' Reg.pass_is _ (by rfl) (fun wz => ?_) ?_; rotate_left; (go_simp; first | rfl | rw [if_neg (by omega)]); simp only [Act.put, List.setIfInBounds_toArray, List.set_cons_zero, List.set_cons_succ]; (try simp only [List.nil_append]); (try simp only [List.cons_append]); (try simp only [id]))
                    refine Reg.pass_not (by rfl) ?_
                    simp only [Act.put, List.setIfInBounds_toArray, List.set_cons_zero, List.set_cons_succ]; (try simp only [List.nil_append]); (try simp only [List.cons_append]); (try simp only [id])
                    refine Reg.pass_not (by rfl) ?_
                    simp only [Act.put, List.setIfInBounds_toArray, List.set_cons_zero, List.set_cons_succ]; (try simp only [List.nil_append]); (try simp only [List.cons_append]); (try simp only [id])
                    repeat (refine' Reg.pass_is _ (by rfl) (fun wz => ?_) ?_; rotate_left; (go_simp; first | rfl | rw [if_neg (by omega)]); simp only [Act.put, List.setIfInBounds_toArray, List.set_cons_zero, List.set_cons_succ]; (try simp only [List.nil_append]); (try simp only [List.cons_append]); (try simp only [id]))
                    refine Reg.pass_minor (by rfl) (fun wz hI hF => ?_) (fun r22 => ?_)
                    · unfold Reg.One
                      have kz := ev_cells (W := wz) (hX.out wz hI) 0 _ rfl
                      go_wp2_with fail
                      first | exact ⟨_, rfl, rfl, Reg.Ext.refl _⟩ | exact ⟨_, rfl, ⟨(), rfl, trivial⟩, Reg.Ext.refl _⟩
                    simp only [Act.put, List.setIfInBounds_toArray, List.set_cons_zero, List.set_cons_succ]; (try simp only [List.nil_append]); (try simp only [List.cons_append]); (try simp only [id])
                    repeat (refine' Reg.pass_is _ (by rfl) (fun wz => ?_) ?_; rotate_left; (go_simp; first | rfl | rw [if_neg (by omega)]); simp only [Act.put, List.setIfInBounds_toArray, List.set_cons_zero, List.set_cons_succ]; (try simp only [List.nil_append]); (try simp only [List.cons_append]); (try simp only [id]))
                    refine Reg.pass_minor (by rfl) (fun wz hI hF => ?_) (fun r28 => ?_)
                    · unfold Reg.One
                      have kq := kp.out wz hI
                      go_wp2_with fail
                      first | exact ⟨_, rfl, rfl, Reg.Ext.refl _⟩ | exact ⟨_, rfl, ⟨(), rfl, trivial⟩, Reg.Ext.refl _⟩
                    simp only [Act.put, List.setIfInBounds_toArray, List.set_cons_zero, List.set_cons_succ]; (try simp only [List.nil_append]); (try simp only [List.cons_append]); (try simp only [id])
                    refine Reg.pass_end ?_
                    intro wb HIb _ _
                    dsimp only [List.drop]
                    go_wp2_with fail
                    go_meet
                    case rel => exact ⟨by rw [hbad.out]; simp [h1, h2, h3], HIb⟩
        case rest =>
          rename World => wd
          obtain ⟨rfl, hB9⟩ := hcut
          obtain ⟨bd, hbd⟩ : ∃ bd, badE r i = bd := ⟨_, rfl⟩
          rw [hbd] at hsucc ⊢
          clear hbad hprev hbd
          have hnd : wd.heap[wr.heap.size]? = some (.cells (encE y).toArray 36 (0, 0)) := (hB9.out.block _ hs1).trans hn1.out
          have hbd9 : Hid (Below w.heap.size w wd) := Below.add hb1.out hB9.out
          have hsd := lt_of_at hnd
          clear hn1 hb1 hs1 hB9
          replace hnd := Lib.hid hnd
          go_upto_if 54 with fail
          go_cut [3] from 13 to 96 (fun u we => u = .bool (ok && !bd) ∧ wd = we)
          case first =>
            rcases Bool.eq_false_or_eq_true bd with e | e
            · subst e
              go_wp2_with fail
              go_meet
              case rel => exact ⟨by simp, rfl⟩
            · subst e
              go_wp2_with fail
              go_meet
              case rel => exact ⟨by simp, rfl⟩
          case rest =>
            obtain ⟨rfl, rfl⟩ := hcut
            have k1 : wd.cell? ⟨wr.heap.size, 1, none⟩ = some (.int .i64 y.kd) := ev_cells hnd.out 1 _ rfl
            by_cases c4 : 3 < y.kd
            · have d4 : decide (3 < y.kd) = true := decide_eq_true c4
              have hs2 : Hid (okN r (i + 1) = (ok && !bd)) := by show _ = _; rw [hsucc.out, d4]; simp
              clear hsucc
              go_wp2_with fail
              go_roundw
              case rel => exact ⟨i + 1, by omega, by go_num, by rw [hs2.out], hbd9.out⟩
              case measure => simp [intOf]; omega
            · have d4 : decide (3 < y.kd) = false := decide_eq_false c4
              go_wp2_with fail
              go_loopw [6, 7] (fun ll kk wq => ∃ (k : Nat), k ≤ i ∧ kk = .int .i64 k ∧ ll = .int .i64 (lastN r y.tk k) ∧ Hid (Below wd.heap.size wd wq)) (fun _ kk _ => i - (intOf kk).toNat)
              case atStart => exact ⟨0, Nat.zero_le _, rfl, rfl, Below.refl _ _⟩
              case round =>
                rename World => wq
                obtain ⟨k, hki, rfl, rfl, hbq⟩ := hrel
                clear k1
                have hnq : Hid (∀ W : World, Below wq.heap.size wq W → W.heap[wr.heap.size]? = some (.cells (encE y).toArray 36 (0, 0))) := fun W hW => ((hW.block _ (Nat.lt_of_lt_of_le hsd hbq.out.size)).trans (hbq.out.block _ hsd)).trans hnd.out
                have hbQ : Hid (Below w.heap.size w wq) := Below.add hbd9.out hbq.out
                by_cases hk2 : k < i
                · have hkL : k < r.length := by rw [hrn.out]; omega
                  have hck : Hid (∀ W : World, Below wq.heap.size wq W → W.cell? ⟨g, off + k * k24 + 2, none⟩ = some (.int .i64 (r[k]!).tk) ∧ W.cell? ⟨g, off + k * k24 + 1, none⟩ = some (.int .i64 (r[k]!).kd)) := fun W hW => by
                    have hRW := hR.out.below (Below.add hbQ.out hW)
                    rw [hk.out, Nat.add_assoc, Nat.add_assoc]
                    exact ⟨ev_cell hRW hkL 2 _ rfl, ev_cell hRW hkL 1 _ rfl⟩
                  have hls : lastN r y.tk (k + 1) = if (r[k]!).tk = y.tk ∧ 1 ≤ (r[k]!).kd ∧ (r[k]!).kd ≤ 3 then (r[k]!).kd else lastN r y.tk k := rfl
                  obtain ⟨zt, hzt⟩ : ∃ zt, (r[k]!).tk = zt := ⟨_, rfl⟩
                  obtain ⟨zk, hzk⟩ : ∃ zk, (r[k]!).kd = zk := ⟨_, rfl⟩
                  obtain ⟨la, hla⟩ : ∃ la, lastN r y.tk k = la := ⟨_, rfl⟩
                  rw [hzt, hzk] at hls hck
                  rw [hla] at hls ⊢
                  have wk : IntKind.i64.wrap ((k : Int) + 1) = (k : Int) + 1 := IntWalk.i64_in _ (by omega)
                  have e0 : (0 : Int) ≤ k := by omega
                  have e1 : (k : Int) < (n : Int) := by omega
                  have e2 : (k : Int) < (i : Int) := by omega
                  clear hzt hzk hla
                  by_cases ht : zt = y.tk
                  · have dt : (zt == y.tk) = true := by simp [ht]
                    by_cases g1 : 1 ≤ zk
                    · have dg : decide (1 ≤ zk) = true := decide_eq_true g1
                      by_cases g3 : zk ≤ 3
                      · have dl : decide (zk ≤ 3) = true := decide_eq_true g3
                        rw [if_pos ⟨ht, g1, g3⟩] at hls
                        replace hls := Lib.hid hls
                        replace ht := Lib.hid ht
                        go_wp2_with fail
                        refine Reg.region_mk 19 104 [[], [false], [true, true], [true, true, true], [true, true, true, true], [false, false, false, false, false], [false, false, false, false, false, true], [true, true, true, true, true, true, true], [true, true, true, true, true, true, true, true], [true, true, true, true, true, true, true, true, true], [true, true, true, true, true, true, true, true, true, false], [true, true, true, true, true, true, true, true, true, true, true], [true, true, true, true, true, true, true, true, true, true, true, true], [true, true, true, true, true, true, true, true, true, true, true, true, true], [true, true, true, true, true, true, true, true, true, true, true, true, true, true], [true, true, true, true, true, true, true, true, true, true, true, true, true, true, true], [true, true, true, true, true, true, true, true, true, true, true, true, true, true, true, true], [true, true, true, true, true, true, true, true, true, true, true, true, true, true, true, true, true], [true, true, true, true, true, true, true, true, true, true, true, true, true, true, true, true, true, false]] [0, 0, 0, 0, 1, 0, 1, 0, 0, 0, 0, 0, 0, 1, 0, 0, 0, 0, 0]
                          [.pure, .pure, .pure, .pure, .minor Unit () (fun _ => .int .i64 zt) (fun _ _ => True), .pure, .minor Unit () (fun _ => .int .i64 y.tk) (fun _ _ => True), .pure, .pure, .pure, .pure, .pure, .pure, .minor Unit () (fun _ => .int .i64 zk) (fun _ _ => True), .pure, .pure, .pure, .pure, .pure]
                          (fun W => Below wq.heap.size wq W) (fun _ _ => True) (fun a b => Below a.heap.size a b) (by kernel_rfl) (by kernel_rfl) rfl rfl (fun vs a b h hs => trivial) ?_ ?_ ?_ ?_ ?_ ?_
                        · intro a b he hb; exact hb.trans (Below.mono he hb.size)
                        · intro a b he hb; exact hb.trans (Below.mono he hb.size)
                        · exact ⟨trivial, trivial, trivial, trivial, ⟨fun _ _ _ _ _ => trivial, fun _ _ _ _ _ => trivial⟩, trivial, ⟨fun _ _ _ _ _ => trivial, fun _ _ _ _ _ => trivial⟩, trivial, trivial, trivial, trivial, trivial, trivial, ⟨fun _ _ _ _ _ => trivial, fun _ _ _ _ _ => trivial⟩, trivial, trivial, trivial, trivial, trivial, trivial⟩
                        · exact (Below.refl _ _).drew
                        · trivial
                        dsimp only [Reg.mk, List.zip, List.zipWith, List.take]
                        repeat (refine' Reg.pass_is _ (by rfl) (fun wz => ?_) ?_; rotate_left; (go_simp; first | rfl | rw [if_neg (by omega)]); simp only [Act.put, List.setIfInBounds_toArray, List.set_cons_zero, List.set_cons_succ]; (try simp only [List.nil_append]); (try simp only [List.cons_append]); (try simp only [id]))
                        refine Reg.pass_minor (by rfl) (fun wz hI hF => ?_) (fun r4 => ?_)
                        · unfold Reg.One
                          have kt := (hck.out wz hI).1
                          go_wp2_with fail
                          first | exact ⟨_, rfl, rfl, Reg.Ext.refl _⟩ | exact ⟨_, rfl, ⟨(), rfl, trivial⟩, Reg.Ext.refl _⟩
                        simp only [Act.put, List.setIfInBounds_toArray, List.set_cons_zero, List.set_cons_succ]; (try simp only [List.nil_append]); (try simp only [List.cons_append]); (try simp only [id])
                        repeat (refine' Reg.pass_is _ (by rfl) (fun wz => ?_) ?_; rotate_left; (go_simp; first | rfl | rw [if_neg (by omega)]); simp only [Act.put, List.setIfInBounds_toArray, List.set_cons_zero, List.set_cons_succ]; (try simp only [List.nil_append]); (try simp only [List.cons_append]); (try simp only [id]))
                        refine Reg.pass_minor (by rfl) (fun wz hI hF => ?_) (fun r6 => ?_)
                        · unfold Reg.One
                          have kz := ev_cells (W := wz) (hnq.out wz hI) 2 _ rfl
                          go_wp2_with fail
                          first | exact ⟨_, rfl, rfl, Reg.Ext.refl _⟩ | exact ⟨_, rfl, ⟨(), rfl, trivial⟩, Reg.Ext.refl _⟩
                        simp only [Act.put, List.setIfInBounds_toArray, List.set_cons_zero, List.set_cons_succ]; (try simp only [List.nil_append]); (try simp only [List.cons_append]); (try simp only [id])
                        refine Reg.pass_is (.bool true) (by rfl) (fun wz => ?_) ?_
                        · go_simp
                        simp only [Act.put, List.setIfInBounds_toArray, List.set_cons_zero, List.set_cons_succ]; (try simp only [List.nil_append]); (try simp only [List.cons_append]); (try simp only [id])
                        repeat (refine' Reg.pass_is _ (by rfl) (fun wz => ?_) ?_; rotate_left; (go_simp; first | rfl | rw [if_neg (by omega)]); simp only [Act.put, List.setIfInBounds_toArray, List.set_cons_zero, List.set_cons_succ]; (try simp only [List.nil_append]); (try simp only [List.cons_append]); (try simp only [id]))
                        refine Reg.pass_minor (by rfl) (fun wz hI hF => ?_) (fun r13 => ?_)
                        · unfold Reg.One
                          have kt := (hck.out wz hI).2
                          go_wp2_with fail
                          first | exact ⟨_, rfl, rfl, Reg.Ext.refl _⟩ | exact ⟨_, rfl, ⟨(), rfl, trivial⟩, Reg.Ext.refl _⟩
                        simp only [Act.put, List.setIfInBounds_toArray, List.set_cons_zero, List.set_cons_succ]; (try simp only [List.nil_append]); (try simp only [List.cons_append]); (try simp only [id])
                        refine Reg.pass_is (.bool true) (by rfl) (fun wz => ?_) ?_
                        · go_simp
                        simp only [Act.put, List.setIfInBounds_toArray, List.set_cons_zero, List.set_cons_succ]; (try simp only [List.nil_append]); (try simp only [List.cons_append]); (try simp only [id])
                        repeat (refine' Reg.pass_is _ (by rfl) (fun wz => ?_) ?_; rotate_left; (go_simp; first | rfl | rw [if_neg (by omega)]); simp only [Act.put, List.setIfInBounds_toArray, List.set_cons_zero, List.set_cons_succ]; (try simp only [List.nil_append]); (try simp only [List.cons_append]); (try simp only [id]))
                        refine Reg.pass_end ?_
                        intro wb HIb _ _
                        have kb := (hck.out wb HIb).2
                        dsimp only [List.drop]
                        go_wp2_with fail
                        go_roundw
                        case rel => exact ⟨k + 1, by omega, by go_num, by rw [hls.out], Below.add hbq.out HIb⟩
                        case measure => simp [intOf]; omega
                      · have dl : decide (zk ≤ 3) = false := decide_eq_false g3
                        rw [if_neg (fun h => g3 h.2.2)] at hls
                        replace hls := Lib.hid hls
                        replace ht := Lib.hid ht
                        go_wp2_with fail
                        refine Reg.region_mk 19 104 [[], [false], [true, true], [true, true, true], [true, true, true, true], [false, false, false, false, false], [false, false, false, false, false, true], [true, true, true, true, true, true, true], [true, true, true, true, true, true, true, true], [true, true, true, true, true, true, true, true, true], [true, true, true, true, true, true, true, true, true, false], [true, true, true, true, true, true, true, true, true, true, true], [true, true, true, true, true, true, true, true, true, true, true, true], [true, true, true, true, true, true, true, true, true, true, true, true, true], [true, true, true, true, true, true, true, true, true, true, true, true, true, true], [true, true, true, true, true, true, true, true, true, true, true, true, true, true, true], [true, true, true, true, true, true, true, true, true, true, true, true, true, true, true, true], [true, true, true, true, true, true, true, true, true, true, true, true, true, true, true, true, true], [true, true, true, true, true, true, true, true, true, true, true, true, true, true, true, true, true, false]] [0, 0, 0, 0, 1, 0, 1, 0, 0, 0, 0, 0, 0, 1, 0, 0, 0, 0, 0]
                          [.pure, .pure, .pure, .pure, .minor Unit () (fun _ => .int .i64 zt) (fun _ _ => True), .pure, .minor Unit () (fun _ => .int .i64 y.tk) (fun _ _ => True), .pure, .pure, .pure, .pure, .pure, .pure, .minor Unit () (fun _ => .int .i64 zk) (fun _ _ => True), .pure, .pure, .pure, .pure, .pure]
                          (fun W => Below wq.heap.size wq W) (fun _ _ => True) (fun a b => Below a.heap.size a b) (by kernel_rfl) (by kernel_rfl) rfl rfl (fun vs a b h hs => trivial) ?_ ?_ ?_ ?_ ?_ ?_
                        · intro a b he hb; exact hb.trans (Below.mono he hb.size)
                        · intro a b he hb; exact hb.trans (Below.mono he hb.size)
                        · exact ⟨trivial, trivial, trivial, trivial, ⟨fun _ _ _ _ _ => trivial, fun _ _ _ _ _ => trivial⟩, trivial, ⟨fun _ _ _ _ _ => trivial, fun _ _ _ _ _ => trivial⟩, trivial, trivial, trivial, trivial, trivial, trivial, ⟨fun _ _ _ _ _ => trivial, fun _ _ _ _ _ => trivial⟩, trivial, trivial, trivial, trivial, trivial, trivial⟩
                        · exact (Below.refl _ _).drew
                        · trivial
                        dsimp only [Reg.mk, List.zip, List.zipWith, List.take]
                        repeat (refine' Reg.pass_is _ (by rfl) (fun wz => ?_) ?_; rotate_left; (go_simp; first | rfl | rw [if_neg (by omega)]); simp only [Act.put, List.setIfInBounds_toArray, List.set_cons_zero, List.set_cons_succ]; (try simp only [List.nil_append]); (try simp only [List.cons_append]); (try simp only [id]))
                        refine Reg.pass_minor (by rfl) (fun wz hI hF => ?_) (fun r4 => ?_)
                        · unfold Reg.One
                          have kt := (hck.out wz hI).1
                          go_wp2_with fail
                          first | exact ⟨_, rfl, rfl, Reg.Ext.refl _⟩ | exact ⟨_, rfl, ⟨(), rfl, trivial⟩, Reg.Ext.refl _⟩
                        simp only [Act.put, List.setIfInBounds_toArray, List.set_cons_zero, List.set_cons_succ]; (try simp only [List.nil_append]); (try simp only [List.cons_append]); (try simp only [id])
                        repeat (refine' Reg.pass_is _ (by rfl) (fun wz => ?_) ?_; rotate_left; (go_simp; first | rfl | rw [if_neg (by omega)]); simp only [Act.put, List.setIfInBounds_toArray, List.set_cons_zero, List.set_cons_succ]; (try simp only [List.nil_append]); (try simp only [List.cons_append]); (try simp only [id]))
                        refine Reg.pass_minor (by rfl) (fun wz hI hF => ?_) (fun r6 => ?_)
                        · unfold Reg.One
                          have kz := ev_cells (W := wz) (hnq.out wz hI) 2 _ rfl
                          go_wp2_with fail
                          first | exact ⟨_, rfl, rfl, Reg.Ext.refl _⟩ | exact ⟨_, rfl, ⟨(), rfl, trivial⟩, Reg.Ext.refl _⟩
                        simp only [Act.put, List.setIfInBounds_toArray, List.set_cons_zero, List.set_cons_succ]; (try simp only [List.nil_append]); (try simp only [List.cons_append]); (try simp only [id])
                        refine Reg.pass_is (.bool true) (by rfl) (fun wz => ?_) ?_
                        · go_simp
                        simp only [Act.put, List.setIfInBounds_toArray, List.set_cons_zero, List.set_cons_succ]; (try simp only [List.nil_append]); (try simp only [List.cons_append]); (try simp only [id])
                        repeat (refine' Reg.pass_is _ (by rfl) (fun wz => ?_) ?_; rotate_left; (go_simp; first | rfl | rw [if_neg (by omega)]); simp only [Act.put, List.setIfInBounds_toArray, List.set_cons_zero, List.set_cons_succ]; (try simp only [List.nil_append]); (try simp only [List.cons_append]); (try simp only [id]))
                        refine Reg.pass_minor (by rfl) (fun wz hI hF => ?_) (fun r13 => ?_)
                        · unfold Reg.One
                          have kt := (hck.out wz hI).2
                          go_wp2_with fail
                          first | exact ⟨_, rfl, rfl, Reg.Ext.refl _⟩ | exact ⟨_, rfl, ⟨(), rfl, trivial⟩, Reg.Ext.refl _⟩
                        simp only [Act.put, List.setIfInBounds_toArray, List.set_cons_zero, List.set_cons_succ]; (try simp only [List.nil_append]); (try simp only [List.cons_append]); (try simp only [id])
                        refine Reg.pass_is (.bool true) (by rfl) (fun wz => ?_) ?_
                        · go_simp
                        simp only [Act.put, List.setIfInBounds_toArray, List.set_cons_zero, List.set_cons_succ]; (try simp only [List.nil_append]); (try simp only [List.cons_append]); (try simp only [id])
                        repeat (refine' Reg.pass_is _ (by rfl) (fun wz => ?_) ?_; rotate_left; (go_simp; first | rfl | rw [if_neg (by omega)]); simp only [Act.put, List.setIfInBounds_toArray, List.set_cons_zero, List.set_cons_succ]; (try simp only [List.nil_append]); (try simp only [List.cons_append]); (try simp only [id]))
                        refine Reg.pass_end ?_
                        intro wb HIb _ _
                        have kb := (hck.out wb HIb).2
                        dsimp only [List.drop]
                        go_wp2_with fail
                        go_roundw
                        case rel => exact ⟨k + 1, by omega, by go_num, by rw [hls.out], Below.add hbq.out HIb⟩
                        case measure => simp [intOf]; omega
                    · have dg : decide (1 ≤ zk) = false := decide_eq_false g1
                      rw [if_neg (fun h => g1 h.2.1)] at hls
                      replace hls := Lib.hid hls
                      replace ht := Lib.hid ht
                      go_wp2_with fail
                      refine Reg.region_mk 19 104 [[], [false], [true, true], [true, true, true], [true, true, true, true], [false, false, false, false, false], [false, false, false, false, false, true], [true, true, true, true, true, true, true], [true, true, true, true, true, true, true, true], [true, true, true, true, true, true, true, true, true], [true, true, true, true, true, true, true, true, true, false], [true, true, true, true, true, true, true, true, true, true, true], [true, true, true, true, true, true, true, true, true, true, true, true], [true, true, true, true, true, true, true, true, true, true, true, true, true], [true, true, true, true, true, true, true, true, true, true, true, true, true, true], [true, true, true, true, true, true, true, true, true, true, true, true, true, true, true], [true, true, true, true, true, true, true, true, true, true, true, true, true, true, true, true], [true, true, true, true, true, true, true, true, true, true, true, true, true, true, true, true, true], [true, true, true, true, true, true, true, true, true, true, true, true, true, true, true, true, true, false]] [0, 0, 0, 0, 1, 0, 1, 0, 0, 0, 0, 0, 0, 1, 0, 0, 0, 0, 0]
                        [.pure, .pure, .pure, .pure, .minor Unit () (fun _ => .int .i64 zt) (fun _ _ => True), .pure, .minor Unit () (fun _ => .int .i64 y.tk) (fun _ _ => True), .pure, .pure, .pure, .pure, .pure, .pure, .minor Unit () (fun _ => .int .i64 zk) (fun _ _ => True), .pure, .pure, .pure, .pure, .pure]
                        (fun W => Below wq.heap.size wq W) (fun _ _ => True) (fun a b => Below a.heap.size a b) (by kernel_rfl) (by kernel_rfl) rfl rfl (fun vs a b h hs => trivial) ?_ ?_ ?_ ?_ ?_ ?_
                      · intro a b he hb; exact hb.trans (Below.mono he hb.size)
                      · intro a b he hb; exact hb.trans (Below.mono he hb.size)
                      · exact ⟨trivial, trivial, trivial, trivial, ⟨fun _ _ _ _ _ => trivial, fun _ _ _ _ _ => trivial⟩, trivial, ⟨fun _ _ _ _ _ => trivial, fun _ _ _ _ _ => trivial⟩, trivial, trivial, trivial, trivial, trivial, trivial, ⟨fun _ _ _ _ _ => trivial, fun _ _ _ _ _ => trivial⟩, trivial, trivial, trivial, trivial, trivial, trivial⟩
                      · exact (Below.refl _ _).drew
                      · trivial
                      dsimp only [Reg.mk, List.zip, List.zipWith, List.take]
                      repeat (refine' Reg.pass_is _ (by rfl) (fun wz => ?_) ?_; rotate_left; (go_simp; first | rfl | rw [if_neg (by omega)]); simp only [Act.put, List.setIfInBounds_toArray, List.set_cons_zero, List.set_cons_succ]; (try simp only [List.nil_append]); (try simp only [List.cons_append]); (try simp only [id]))
                      refine Reg.pass_minor (by rfl) (fun wz hI hF => ?_) (fun r4 => ?_)
                      · unfold Reg.One
                        have kt := (hck.out wz hI).1
                        go_wp2_with fail
                        first | exact ⟨_, rfl, rfl, Reg.Ext.refl _⟩ | exact ⟨_, rfl, ⟨(), rfl, trivial⟩, Reg.Ext.refl _⟩
                      simp only [Act.put, List.setIfInBounds_toArray, List.set_cons_zero, List.set_cons_succ]; (try simp only [List.nil_append]); (try simp only [List.cons_append]); (try simp only [id])
                      repeat (refine' Reg.pass_is _ (by rfl) (fun wz => ?_) ?_; rotate_left; (go_simp; first | rfl | rw [if_neg (by omega)]); simp only [Act.put, List.setIfInBounds_toArray, List.set_cons_zero, List.set_cons_succ]; (try simp only [List.nil_append]); (try simp only [List.cons_append]); (try simp only [id]))
                      refine Reg.pass_minor (by rfl) (fun wz hI hF => ?_) (fun r6 => ?_)
                      · unfold Reg.One
                        have kz := ev_cells (W := wz) (hnq.out wz hI) 2 _ rfl
                        go_wp2_with fail
                        first | exact ⟨_, rfl, rfl, Reg.Ext.refl _⟩ | exact ⟨_, rfl, ⟨(), rfl, trivial⟩, Reg.Ext.refl _⟩
                      simp only [Act.put, List.setIfInBounds_toArray, List.set_cons_zero, List.set_cons_succ]; (try simp only [List.nil_append]); (try simp only [List.cons_append]); (try simp only [id])
                      refine Reg.pass_is (.bool true) (by rfl) (fun wz => ?_) ?_
                      · go_simp
                      simp only [Act.put, List.setIfInBounds_toArray, List.set_cons_zero, List.set_cons_succ]; (try simp only [List.nil_append]); (try simp only [List.cons_append]); (try simp only [id])
                      repeat (refine' Reg.pass_is _ (by rfl) (fun wz => ?_) ?_; rotate_left; (go_simp; first | rfl | rw [if_neg (by omega)]); simp only [Act.put, List.setIfInBounds_toArray, List.set_cons_zero, List.set_cons_succ]; (try simp only [List.nil_append]); (try simp only [List.cons_append]); (try simp only [id]))
                      refine Reg.pass_minor (by rfl) (fun wz hI hF => ?_) (fun r13 => ?_)
                      · unfold Reg.One
                        have kt := (hck.out wz hI).2
                        go_wp2_with fail
                        first | exact ⟨_, rfl, rfl, Reg.Ext.refl _⟩ | exact ⟨_, rfl, ⟨(), rfl, trivial⟩, Reg.Ext.refl _⟩
                      simp only [Act.put, List.setIfInBounds_toArray, List.set_cons_zero, List.set_cons_succ]; (try simp only [List.nil_append]); (try simp only [List.cons_append]); (try simp only [id])
                      refine Reg.pass_is (.bool false) (by rfl) (fun wz => ?_) ?_
                      · go_simp
                      simp only [Act.put, List.setIfInBounds_toArray, List.set_cons_zero, List.set_cons_succ]; (try simp only [List.nil_append]); (try simp only [List.cons_append]); (try simp only [id])
                      repeat (refine' Reg.pass_is _ (by rfl) (fun wz => ?_) ?_; rotate_left; (go_simp; first | rfl | rw [if_neg (by omega)]); simp only [Act.put, List.setIfInBounds_toArray, List.set_cons_zero, List.set_cons_succ]; (try simp only [List.nil_append]); (try simp only [List.cons_append]); (try simp only [id]))
                      refine Reg.pass_not (by rfl) ?_
                      simp only [Act.put, List.setIfInBounds_toArray, List.set_cons_zero, List.set_cons_succ]; (try simp only [List.nil_append]); (try simp only [List.cons_append]); (try simp only [id])
                      refine Reg.pass_not (by rfl) ?_
                      simp only [Act.put, List.setIfInBounds_toArray, List.set_cons_zero, List.set_cons_succ]; (try simp only [List.nil_append]); (try simp only [List.cons_append]); (try simp only [id])
                      refine Reg.pass_end ?_
                      intro wb HIb _ _
                      have kb := (hck.out wb HIb).2
                      dsimp only [List.drop]
                      go_wp2_with fail
                      go_roundw
                      case rel => exact ⟨k + 1, by omega, by go_num, by rw [hls.out], Below.add hbq.out HIb⟩
                      case measure => simp [intOf]; omega
                  · have dt : (zt == y.tk) = false := by simp [ht]
                    rw [if_neg (fun h => ht h.1)] at hls
                    replace hls := Lib.hid hls
                    replace ht := Lib.hid ht
                    go_wp2_with fail
                    refine Reg.region_mk 19 104 [[], [false], [true, true], [true, true, true], [true, true, true, true], [false, false, false, false, false], [false, false, false, false, false, true], [true, true, true, true, true, true, true], [true, true, true, true, true, true, true, true], [true, true, true, true, true, true, true, true, true], [true, true, true, true, true, true, true, true, true, false], [true, true, true, true, true, true, true, true, true, true, true], [true, true, true, true, true, true, true, true, true, true, true, true], [true, true, true, true, true, true, true, true, true, true, true, true, true], [true, true, true, true, true, true, true, true, true, true, true, true, true, true], [true, true, true, true, true, true, true, true, true, true, true, true, true, true, true], [true, true, true, true, true, true, true, true, true, true, true, true, true, true, true, true], [true, true, true, true, true, true, true, true, true, true, true, true, true, true, true, true, true], [true, true, true, true, true, true, true, true, true, true, true, true, true, true, true, true, true, false]] [0, 0, 0, 0, 1, 0, 1, 0, 0, 0, 0, 0, 0, 1, 0, 0, 0, 0, 0]
                      [.pure, .pure, .pure, .pure, .minor Unit () (fun _ => .int .i64 zt) (fun _ _ => True), .pure, .minor Unit () (fun _ => .int .i64 y.tk) (fun _ _ => True), .pure, .pure, .pure, .pure, .pure, .pure, .minor Unit () (fun _ => .int .i64 zk) (fun _ _ => True), .pure, .pure, .pure, .pure, .pure]
                      (fun W => Below wq.heap.size wq W) (fun _ _ => True) (fun a b => Below a.heap.size a b) (by kernel_rfl) (by kernel_rfl) rfl rfl (fun vs a b h hs => trivial) ?_ ?_ ?_ ?_ ?_ ?_
                    · intro a b he hb; exact hb.trans (Below.mono he hb.size)
                    · intro a b he hb; exact hb.trans (Below.mono he hb.size)
                    · exact ⟨trivial, trivial, trivial, trivial, ⟨fun _ _ _ _ _ => trivial, fun _ _ _ _ _ => trivial⟩, trivial, ⟨fun _ _ _ _ _ => trivial, fun _ _ _ _ _ => trivial⟩, trivial, trivial, trivial, trivial, trivial, trivial, ⟨fun _ _ _ _ _ => trivial, fun _ _ _ _ _ => trivial⟩, trivial, trivial, trivial, trivial, trivial, trivial⟩
                    · exact (Below.refl _ _).drew
                    · trivial
                    dsimp only [Reg.mk, List.zip, List.zipWith, List.take]
                    repeat (refine' Reg.pass_is _ (by rfl) (fun wz => ?_) ?_; rotate_left; (go_simp; first | rfl | rw [if_neg (by omega)]); simp only [Act.put, List.setIfInBounds_toArray, List.set_cons_zero, List.set_cons_succ]; (try simp only [List.nil_append]); (try simp only [List.cons_append]); (try simp only [id]))
                    refine Reg.pass_minor (by rfl) (fun wz hI hF => ?_) (fun r4 => ?_)
                    · unfold Reg.One
                      have kt := (hck.out wz hI).1
                      go_wp2_with fail
                      first | exact ⟨_, rfl, rfl, Reg.Ext.refl _⟩ | exact ⟨_, rfl, ⟨(), rfl, trivial⟩, Reg.Ext.refl _⟩
                    simp only [Act.put, List.setIfInBounds_toArray, List.set_cons_zero, List.set_cons_succ]; (try simp only [List.nil_append]); (try simp only [List.cons_append]); (try simp only [id])
                    repeat (refine' Reg.pass_is _ (by rfl) (fun wz => ?_) ?_; rotate_left; (go_simp; first | rfl | rw [if_neg (by omega)]); simp only [Act.put, List.setIfInBounds_toArray, List.set_cons_zero, List.set_cons_succ]; (try simp only [List.nil_append]); (try simp only [List.cons_append]); (try simp only [id]))
                    refine Reg.pass_minor (by rfl) (fun wz hI hF => ?_) (fun r6 => ?_)
                    · unfold Reg.One
                      have kz := ev_cells (W := wz) (hnq.out wz hI) 2 _ rfl
                      go_wp2_with fail
                      first | exact ⟨_, rfl, rfl, Reg.Ext.refl _⟩ | exact ⟨_, rfl, ⟨(), rfl, trivial⟩, Reg.Ext.refl _⟩
                    simp only [Act.put, List.setIfInBounds_toArray, List.set_cons_zero, List.set_cons_succ]; (try simp only [List.nil_append]); (try simp only [List.cons_append]); (try simp only [id])
                    refine Reg.pass_is (.bool false) (by rfl) (fun wz => ?_) ?_
                    · go_simp
                    simp only [Act.put, List.setIfInBounds_toArray, List.set_cons_zero, List.set_cons_succ]; (try simp only [List.nil_append]); (try simp only [List.cons_append]); (try simp only [id])
                    repeat (refine' Reg.pass_is _ (by rfl) (fun wz => ?_) ?_; rotate_left; (go_simp; first | rfl | rw [if_neg (by omega)]); simp only [Act.put, List.setIfInBounds_toArray, List.set_cons_zero, List.set_cons_succ]; (try simp only [List.nil_append]); (try simp only [List.cons_append]); (try simp only [id]))
                    refine Reg.pass_not (by rfl) ?_
                    simp only [Act.put, List.setIfInBounds_toArray, List.set_cons_zero, List.set_cons_succ]; (try simp only [List.nil_append]); (try simp only [List.cons_append]); (try simp only [id])
                    refine Reg.pass_not (by rfl) ?_
                    simp only [Act.put, List.setIfInBounds_toArray, List.set_cons_zero, List.set_cons_succ]; (try simp only [List.nil_append]); (try simp only [List.cons_append]); (try simp only [id])
                    refine Reg.pass_not (by rfl) ?_
                    simp only [Act.put, List.setIfInBounds_toArray, List.set_cons_zero, List.set_cons_succ]; (try simp only [List.nil_append]); (try simp only [List.cons_append]); (try simp only [id])
                    refine Reg.pass_not (by rfl) ?_
                    simp only [Act.put, List.setIfInBounds_toArray, List.set_cons_zero, List.set_cons_succ]; (try simp only [List.nil_append]); (try simp only [List.cons_append]); (try simp only [id])
                    refine Reg.pass_minor_no (by rfl) ?_
                    simp only [Act.put, List.setIfInBounds_toArray, List.set_cons_zero, List.set_cons_succ]; (try simp only [List.nil_append]); (try simp only [List.cons_append]); (try simp only [id])
                    refine Reg.pass_not (by rfl) ?_
                    simp only [Act.put, List.setIfInBounds_toArray, List.set_cons_zero, List.set_cons_succ]; (try simp only [List.nil_append]); (try simp only [List.cons_append]); (try simp only [id])
                    repeat (refine' Reg.pass_is _ (by rfl) (fun wz => ?_) ?_; rotate_left; (go_simp; first | rfl | rw [if_neg (by omega)]); simp only [Act.put, List.setIfInBounds_toArray, List.set_cons_zero, List.set_cons_succ]; (try simp only [List.nil_append]); (try simp only [List.cons_append]); (try simp only [id]))
                    refine Reg.pass_not (by rfl) ?_
                    simp only [Act.put, List.setIfInBounds_toArray, List.set_cons_zero, List.set_cons_succ]; (try simp only [List.nil_append]); (try simp only [List.cons_append]); (try simp only [id])
                    refine Reg.pass_not (by rfl) ?_
                    simp only [Act.put, List.setIfInBounds_toArray, List.set_cons_zero, List.set_cons_succ]; (try simp only [List.nil_append]); (try simp only [List.cons_append]); (try simp only [id])
                    refine Reg.pass_end ?_
                    intro wb HIb _ _
                    have kb := (hck.out wb HIb).2
                    dsimp only [List.drop]
                    go_wp2_with fail
                    go_roundw
                    case rel => exact ⟨k + 1, by omega, by go_num, by rw [hls.out], Below.add hbq.out HIb⟩
                    case measure => simp [intOf]; omega
                · obtain rfl : k = i := by omega
                  have e2 : ¬ (k : Int) < (k : Int) := by omega
                  have k1 : wq.cell? ⟨wr.heap.size, 1, none⟩ = some (.int .i64 y.kd) := ev_cells (W := wq) (hnq.out wq (Below.refl _ _)) 1 _ rfl
                  have hli := lastN_in r y.tk k
                  have hs2 := hsucc.out
                  obtain ⟨la, hla⟩ : ∃ la, lastN r y.tk k = la := ⟨_, rfl⟩
                  rw [hla] at hli hs2 ⊢
                  rw [d4] at hs2
                  have wl : IntKind.i64.wrap (la + 1) = la + 1 := IntWalk.i64_in _ (by omega)
                  clear hla hsucc hk2
                  by_cases c5 : y.kd = la + 1
                  · have d5 : (y.kd == la + 1) = true := by simp [c5]
                    rw [decide_eq_true c5] at hs2
                    replace hs2 := Lib.hid hs2
                    replace c5 := Lib.hid c5
                    go_wp2_with fail
                    go_roundw
                    case rel => exact ⟨k + 1, by omega, by go_num, by rw [hs2.out]; simp, hbQ.out⟩
                    case measure => simp [intOf]; omega
                  · have d5 : (y.kd == la + 1) = false := by simp [c5]
                    rw [decide_eq_false c5] at hs2
                    replace hs2 := Lib.hid hs2
                    replace c5 := Lib.hid c5
                    go_wp2_with fail
                    go_roundw
                    case rel => exact ⟨k + 1, by omega, by go_num, by rw [hs2.out]; simp, hbQ.out⟩
                    case measure => simp [intOf]; omega
      · obtain rfl : i = n := by omega
        have d1 : ¬ (i : Int) < (i : Int) := by omega
        have hS := Sound_fn _ r wr (hR.out.below hb.out) hF.out (by rw [hrn.out]; omega)
        rw [hre.out] at hS
        generalize okN r i = ok at *
        go_wp2_with (first
          | (go_at_call 15; refine hS.mono ?_; clear hS; rintro e w3 ⟨rfl, hb3⟩)
          | (go_at_call 14; refine (awake_fn _).mono ?_; rintro e w5 ⟨rfl, hb5⟩))
        go_ret
        exact ⟨by simp, Below.add (Below.add hb.out hb3) hb5⟩

end Go.Proofs.Ytdlfbkiihkhmmaa

