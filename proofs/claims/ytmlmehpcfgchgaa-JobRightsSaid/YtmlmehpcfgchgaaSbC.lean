/-
  Contracts of package slices' stable sort at jobs: symMergeCmpFunc.
-/
import Derived.Test.YtmlmehpcfgchgaaSbB
namespace Go.Proofs.Ytmlmehpcfgchgaa
open Go.RowKit Go.Sort Go.Lib Go.Shelf

section
variable {α : Type} [Inhabited α] {enc : α → List Value} {w : World} {blk off cap : Nat} {d d0 : Array α} {cf : α → α → Int} {g : Nat}

/-- What a merge makes. -/
def SymPost (enc : α → List Value) (k : Nat) (w : World) (blk off : Nat) (r : Array α) (e : Ending) (w' : World) : Prop := e = .returned (.tuple #[]) ∧ ∃ q' os', w' = sortWorldK enc k w blk off q' r os'

/-- What a merge makes, once it is known where the halves are cut. -/
def symE (lt : α → α → Bool) (f a m b mid s : Nat) (d : Array α) : Array α :=
  if mid < mid + m - s ∧ mid + m - s < b then Sb.symF lt f mid (mid + m - s) b (if a < s ∧ s < mid then Sb.symF lt f a s mid (if s < m ∧ m < mid + m - s then Sb.rot m (m - s) (mid + m - s - m) d else d) else (if s < m ∧ m < mid + m - s then Sb.rot m (m - s) (mid + m - s - m) d else d))
  else (if a < s ∧ s < mid then Sb.symF lt f a s mid (if s < m ∧ m < mid + m - s then Sb.rot m (m - s) (mid + m - s - m) d else d) else (if s < m ∧ m < mid + m - s then Sb.rot m (m - s) (mid + m - s - m) d else d))
theorem symF_step {lt : α → α → Bool} {f a m b : Nat} {d : Array α} (c1 : ¬ m - a = 1) (c2 : ¬ b - m = 1) : Sb.symF lt (f + 1) a m b d = symE lt f a m b ((a + b) / 2) (Sb.cutF lt a m b d) d := by
  rw [Sb.symF, if_neg c1, if_neg c2]; rfl

set_option maxHeartbeats 8000000 in
set_option maxRecDepth 1000000 in
theorem sym3_fn (k : Nat) (zE : ∀ w, Sem.run Try.prog (Go.sizeOf 52) w = .ok k w) (f a m b q : Nat) (os : Array Obj) (hE : EncOk enc k) (hC : CmpOk Try.prog g enc k cf blk off d0.size w) (hH : HoldsK enc k w blk off d0) (hs : d.size = d0.size) (hblk : blk < w.heap.size)
    (h1 : a + 1 < m) (h2 : m + 1 < b) (hb : b ≤ d.size) (hsz : d.size < 4611686018427387904)
    (ih : ∀ (a m b q : Nat) (os : Array Obj) (di : Array α), b - a ≤ f → a < m → m < b → b ≤ d.size → di.size = d.size →
      Calls Try.prog 47 #[.slice (some ⟨blk, off, none⟩) d.size cap, .int .i64 a, .int .i64 m, .int .i64 b, .func (.func g) #[] #[]] (sortWorldK enc k w blk off q di os) (SymPost enc k w blk off (Sb.symF (ltOf cf) f a m b di)))
    (hf : b - a ≤ f + 1) :
    Calls Try.prog 47 #[.slice (some ⟨blk, off, none⟩) d.size cap, .int .i64 a, .int .i64 m, .int .i64 b, .func (.func g) #[] #[]] (sortWorldK enc k w blk off q d os) (SymPost enc k w blk off (Sb.symF (ltOf cf) (f + 1) a m b d)) := by
  have eg := hC.eg
  have hmix := mixedS
  replace hs := Lib.hid hs
  rw [symF_step (by omega) (by omega)]
  have hcb := Sb.cut_bounds (lt := ltOf cf) (d := d) (show a < m by omega) (show m < b by omega)
  obtain ⟨s, hsE⟩ : ∃ s, s = Sb.cutF (ltOf cf) a m b d := ⟨_, rfl⟩
  rw [← hsE] at hcb ⊢
  have hcut : Hid (s = if (a + b) / 2 < m then Sb.bsr (fun c => !ltOf cf d[(a + b) / 2 + m - 1 - c]! d[c]!) ((a + b) / 2 + m - b) ((a + b) / 2) else Sb.bsr (fun c => !ltOf cf d[(a + b) / 2 + m - 1 - c]! d[c]!) a m) := by
    show _ = _
    rw [hsE]; rfl
  clear hsE
  obtain ⟨mid, hmid⟩ : ∃ mid, mid = (a + b) / 2 := ⟨_, rfl⟩
  rw [← hmid] at hcb hcut ⊢
  have emid : ((a : Int) + (b : Int)) / 2 = (mid : Int) := by omega
  have mlo : a < mid := by omega
  have mhi : mid < b := by omega
  have mlo2 : 2 * mid ≤ a + b := by omega
  have mhi2 : a + b ≤ 2 * mid + 1 := by omega
  replace hmid := Lib.hid hmid
  obtain ⟨p, hp⟩ : ∃ p, p = mid + m - 1 := ⟨_, rfl⟩
  rw [← hp] at hcut
  obtain ⟨F, hF⟩ : ∃ F : Nat → Bool, F = fun c => !ltOf cf d[p - c]! d[c]! := ⟨_, rfl⟩
  have hF2 : Hid (∀ h, F h = !decide (cf d[p - h]! d[h]! < 0)) := fun h => by rw [hF]; rfl
  rw [← hF] at hcut
  replace hF := Lib.hid hF
  obtain ⟨e, he⟩ : ∃ e, e = mid + m - s := ⟨_, rfl⟩
  have wn : IntKind.i64.wrap ((mid : Int) + (m : Int)) = (mid : Int) + (m : Int) := by rw [IntKind.wrap_i64]; omega
  have wp : IntKind.i64.wrap ((mid : Int) + (m : Int) - 1) = (p : Int) := by rw [IntKind.wrap_i64]; omega
  have we : IntKind.i64.wrap ((mid : Int) + (m : Int) - (s : Int)) = (e : Int) := by rw [IntKind.wrap_i64]; omega
  have wd0 : IntKind.i64.wrap ((m : Int) - (a : Int)) = (m : Int) - (a : Int) := by rw [IntKind.wrap_i64]; omega
  have wd1 : ((m : Int) - (a : Int) == 1) = false := by simp; omega
  have wd2 : IntKind.i64.wrap ((b : Int) - (m : Int)) = (b : Int) - (m : Int) := by rw [IntKind.wrap_i64]; omega
  have wd3 : ((b : Int) - (m : Int) == 1) = false := by simp; omega
  have hpm : m ≤ p := by omega
  have hpE : Hid (p = mid + m - 1) := hp
  have hsz1 : ∀ x, x < d.size → (x : Int) < (d.size : Int) := fun x h => by omega
  obtain ⟨d1, hd1⟩ : ∃ d1, d1 = if s < m ∧ m < e then Sb.rot m (m - s) (e - m) d else d := ⟨_, rfl⟩
  obtain ⟨d2, hd2⟩ : ∃ d2, d2 = if a < s ∧ s < mid then Sb.symF (ltOf cf) f a s mid d1 else d1 := ⟨_, rfl⟩
  have z1 : d1.size = d.size := by
    rw [hd1]
    by_cases c3 : s < m ∧ m < e
    · rw [if_pos c3]; exact (Sb.rot_spec _ m (m - s) (e - m) d (Nat.le_refl _) (by omega) (by omega) (by omega) (by omega)).1
    · rw [if_neg c3]
  have z2 : d2.size = d.size := by
    rw [hd2]
    by_cases c3 : a < s ∧ s < mid
    · rw [if_pos c3, Sb.symF_size f a s mid d1 c3.1 c3.2 (by omega), z1]
    · rw [if_neg c3, z1]
  obtain ⟨r, hr⟩ : ∃ r, r = symE (ltOf cf) f a m b mid s d := ⟨_, rfl⟩
  rw [← hr]
  have hr2 : Hid (r = if mid < e ∧ e < b then Sb.symF (ltOf cf) f mid e b d2 else d2) := by
    show _ = _
    rw [hr, hd2, hd1, he]; rfl
  clear hr
  have CC : Aside _ := fun (x y q : Nat) (os : Array Obj) (hx : x < d.size) (hy : y < d.size) => cmp_class (q := q) (os := os) hE hC hH hs.out hblk hx hy
  have RC : Aside _ := fun (s m e q : Nat) (os : Array Obj) (h1 : s < m) (h2 : m < e) (h3 : e ≤ d.size) => rotate_fn (cap := cap) k zE (.func (.func g) #[] #[]) s m e q os hE hH hs.out hblk h1 h2 h3 hsz
  have IH : Aside _ := ih
  clear hC hH hE ih hp
  obtain ⟨cb1, cb2, cb3, cb4⟩ := hcb
  have eme : m ≤ e := by omega
  have emb : e ≤ b := by omega
  have emd : mid ≤ e := by omega
  replace he := Lib.hid he
  replace hd1 := Lib.hid hd1
  replace hd2 := Lib.hid hd2
  by_cases hmm : mid < m
  · replace hcut : Hid (s = Sb.bsr F (mid + m - b) mid) := by show _ = _; rw [hcut.out, if_pos hmm]
    have bm : (mid : Int) < (m : Int) := by omega
    obtain ⟨lo, hlo⟩ : ∃ lo, lo = mid + m - b := ⟨_, rfl⟩
    have wlo : IntKind.i64.wrap ((mid : Int) + (m : Int) - (b : Int)) = (lo : Int) := by rw [IntKind.wrap_i64]; omega
    rw [← hlo] at hcut
    have l1 : a ≤ lo := by omega
    have l2 : lo ≤ mid := by omega
    have l3 : p < lo + b := by have := hpE.out; omega
    have l4 : m + mid ≤ p + 1 := by have := hpE.out; omega
    replace hlo := Lib.hid hlo
    go_enter Try.func47, Try.ntmps47
    go_wp2_with fail
    go_loopw [20, 21] (fun ii jj wr => ∃ (i j qi : Nat) (oi : Array Obj), ii = .int .i64 i ∧ jj = .int .i64 j ∧ lo ≤ i ∧ i ≤ j ∧ j ≤ mid ∧ wr = sortWorldK enc k w blk off qi d oi ∧ Hid (Sb.bsr F i j = s)) (fun ii jj _ => (intOf jj).toNat - (intOf ii).toNat)
    case atStart => exact ⟨lo, mid, q, os, rfl, rfl, Nat.le_refl _, l2, Nat.le_refl _, rfl, hcut.out.symm⟩
    case round =>
      obtain ⟨i, j, qi, oi, rfl, rfl, hmi, hij, hjb, rfl, HI⟩ := hrel
      by_cases hlt : i < j
      · have b2 : (i : Int) < (j : Int) := by omega
        obtain ⟨hm, hhm⟩ : ∃ x : Nat, x = (i + j) / 2 := ⟨_, rfl⟩
        have eh : ((i : Int) + (j : Int)) / 2 = (hm : Int) := by omega
        have hml : hm < d.size := by omega
        have hma : (hm : Int) < (d.size : Int) := by omega
        have wh : IntKind.i64.wrap ((hm : Int) + 1) = (hm : Int) + 1 := by rw [IntKind.wrap_i64]; omega
        obtain ⟨ph, hph⟩ : ∃ x : Nat, x = p - hm := ⟨_, rfl⟩
        have wph : IntKind.i64.wrap ((p : Int) - (hm : Int)) = (ph : Int) := by rw [IntKind.wrap_i64]; omega
        have ama : (ph : Int) < (d.size : Int) := by omega
        obtain ⟨cls, lx, ly, cg⟩ := CC.out ph hm qi oi (by omega) hml
        have HI2 : Hid ((F hm = true → Sb.bsr F (hm + 1) j = s) ∧ (F hm = false → Sb.bsr F i hm = s)) :=
          ⟨fun hf => by rw [← HI.out, Sb.bsr_yes hlt (by rw [← hhm]; exact hf), hhm], fun hf => by rw [← HI.out, Sb.bsr_no hlt (by rw [← hhm]; exact hf), hhm]⟩
        have o1 : i ≤ hm := by omega
        have o2 : hm < j := by omega
        have hFh : Hid (F hm = !decide (cf d[ph]! d[hm]! < 0)) := by show _ = _; rw [hph]; exact hF2.out hm
        replace hhm := Lib.hid hhm
        replace hph := Lib.hid hph
        have CLS : Hid _ := cls
        clear cls HI
        generalize hwq : sortWorldK enc k w blk off qi d oi = wq at lx ly cg CLS ⊢
        replace hwq := Lib.hid hwq
        generalize d[ph]! = X at *
        generalize d[hm]! = Y at *
        by_cases hlv : cf X Y < 0
        · have hFt : F hm = false := by rw [hFh.out, decide_eq_true hlv]; rfl
          have nb : (!decide (cf X Y < 0)) = false := by rw [decide_eq_true hlv]; rfl
          have HI3 : Hid _ := HI2.out.2 hFt
          clear HI2 hFh hFt
          go_wp2_with fail
          go_quiet_grown (first | (go_at_fn g; refine Calls.grown_of (cg _ _)))
          go_wp2_with fail
          go_roundw
          case rel => exact ⟨i, hm, qi + nq, oi ++ osq, rfl, by go_num, hmi, o1, by omega, CLS.out nq osq, HI3⟩
          case measure => simp [intOf]; omega
        · have hFt : F hm = true := by rw [hFh.out, decide_eq_false hlv]; rfl
          have nb : (!decide (cf X Y < 0)) = true := by rw [decide_eq_false hlv]; rfl
          have HI3 : Hid _ := HI2.out.1 hFt
          clear HI2 hFh hFt
          go_wp2_with fail
          go_quiet_grown (first | (go_at_fn g; refine Calls.grown_of (cg _ _)))
          go_wp2_with fail
          go_roundw
          case rel => exact ⟨hm + 1, j, qi + nq, oi ++ osq, by go_num, rfl, by omega, by omega, hjb, CLS.out nq osq, HI3⟩
          case measure => simp [intOf]; omega
      · obtain rfl : i = j := by omega
        rw [Sb.bsr_stop hlt] at HI
        obtain rfl : i = s := HI.out
        clear HI hcut hF2
        have b2 : ¬ (i : Int) < (i : Int) := by omega
        by_cases c3 : i < m ∧ m < e
        · have c3a : (i : Int) < (m : Int) := by omega
          have c3b : (m : Int) < (e : Int) := by omega
          have c3c : decide ((i : Int) < (m : Int)) = true := decide_eq_true c3a
          have c3d : decide ((m : Int) < (e : Int)) = true := decide_eq_true c3b
          have hc1 := RC.out i m e qi oi c3.1 c3.2 (by omega)
          replace hd1 : Hid (d1 = Sb.rot m (m - i) (e - m) d) := by show _ = _; rw [hd1.out, if_pos c3]
          rw [← hd1.out] at hc1
          generalize sortWorldK enc k w blk off qi d oi = wq at hc1 ⊢
          go_wp2_with fail
          go_at_call 49
          refine hc1.mono ?_
          clear hc1
          rintro e7 w7 ⟨rfl, q7, rfl⟩
          by_cases c4 : a < i ∧ i < mid
          · have c4a : (a : Int) < (i : Int) := by omega
            have c4b : (i : Int) < (mid : Int) := by omega
            have c4c : decide ((a : Int) < (i : Int)) = true := decide_eq_true c4a
            have c4d : decide ((i : Int) < (mid : Int)) = true := decide_eq_true c4b
            have hc2 := IH.out a i mid q7 oi d1 (by omega) c4.1 c4.2 (by omega) z1
            replace hd2 : Hid (d2 = Sb.symF (ltOf cf) f a i mid d1) := by show _ = _; rw [hd2.out, if_pos c4]
            rw [← hd2.out] at hc2
            generalize sortWorldK enc k w blk off q7 d1 oi = wq at hc2 ⊢
            go_wp2_with fail
            go_at_call 47
            refine hc2.mono ?_
            clear hc2
            rintro e8 w8 ⟨rfl, q8, o8, rfl⟩
            by_cases c5 : mid < e ∧ e < b
            · have c5a : (mid : Int) < (e : Int) := by omega
              have c5b : (e : Int) < (b : Int) := by omega
              have c5c : decide ((mid : Int) < (e : Int)) = true := decide_eq_true c5a
              have c5d : decide ((e : Int) < (b : Int)) = true := decide_eq_true c5b
              have hc3 := IH.out mid e b q8 o8 d2 (by omega) (by omega) (by omega) hb z2
              replace hr2 : Hid (r = Sb.symF (ltOf cf) f mid e b d2) := by show _ = _; rw [hr2.out, if_pos c5]
              generalize sortWorldK enc k w blk off q8 d2 o8 = wq at hc3 ⊢
              go_wp2_with (go_at_call 47; go_must (refine hc3.mono ?_); rintro e9 w9 ⟨rfl, q9, o9, rfl⟩)
              all_goals (go_end0; exact ⟨rfl, q9, o9, by rw [hr2.out]⟩)
            · replace hr2 : Hid (r = d2) := by show _ = _; rw [hr2.out, if_neg c5]
              generalize hwq : sortWorldK enc k w blk off q8 d2 o8 = wq
              by_cases c5a : mid < e
              · have c5c : decide ((mid : Int) < (e : Int)) = true := decide_eq_true (by omega)
                have c5e : ¬ (e : Int) < (b : Int) := by omega
                have c5d : decide ((e : Int) < (b : Int)) = false := decide_eq_false c5e
                go_wp2_with fail
                all_goals (go_end0; exact ⟨rfl, _, _, by rw [hr2.out, hwq]⟩)
              · have c5e : ¬ (mid : Int) < (e : Int) := by omega
                have c5c : decide ((mid : Int) < (e : Int)) = false := decide_eq_false c5e
                go_wp2_with fail
                all_goals (go_end0; exact ⟨rfl, _, _, by rw [hr2.out, hwq]⟩)
          · have hd2e : d2 = d1 := by rw [hd2.out, if_neg c4]
            subst hd2e
            by_cases c4a : a < i
            · have c4c : decide ((a : Int) < (i : Int)) = true := decide_eq_true (by omega)
              have c4e : ¬ (i : Int) < (mid : Int) := by omega
              have c4d : decide ((i : Int) < (mid : Int)) = false := decide_eq_false c4e
              by_cases c5 : mid < e ∧ e < b
              · have c5a : (mid : Int) < (e : Int) := by omega
                have c5b : (e : Int) < (b : Int) := by omega
                have c5c : decide ((mid : Int) < (e : Int)) = true := decide_eq_true c5a
                have c5d : decide ((e : Int) < (b : Int)) = true := decide_eq_true c5b
                have hc3 := IH.out mid e b q7 oi d2 (by omega) (by omega) (by omega) hb z2
                replace hr2 : Hid (r = Sb.symF (ltOf cf) f mid e b d2) := by show _ = _; rw [hr2.out, if_pos c5]
                generalize sortWorldK enc k w blk off q7 d2 oi = wq at hc3 ⊢
                go_wp2_with (go_at_call 47; go_must (refine hc3.mono ?_); rintro e9 w9 ⟨rfl, q9, o9, rfl⟩)
                all_goals (go_end0; exact ⟨rfl, q9, o9, by rw [hr2.out]⟩)
              · replace hr2 : Hid (r = d2) := by show _ = _; rw [hr2.out, if_neg c5]
                generalize hwq : sortWorldK enc k w blk off q7 d2 oi = wq
                by_cases c5a : mid < e
                · have c5c : decide ((mid : Int) < (e : Int)) = true := decide_eq_true (by omega)
                  have c5e : ¬ (e : Int) < (b : Int) := by omega
                  have c5d : decide ((e : Int) < (b : Int)) = false := decide_eq_false c5e
                  go_wp2_with fail
                  all_goals (go_end0; exact ⟨rfl, _, _, by rw [hr2.out, hwq]⟩)
                · have c5e : ¬ (mid : Int) < (e : Int) := by omega
                  have c5c : decide ((mid : Int) < (e : Int)) = false := decide_eq_false c5e
                  go_wp2_with fail
                  all_goals (go_end0; exact ⟨rfl, _, _, by rw [hr2.out, hwq]⟩)
            · have c4e : ¬ (a : Int) < (i : Int) := by omega
              have c4c : decide ((a : Int) < (i : Int)) = false := decide_eq_false c4e
              by_cases c5 : mid < e ∧ e < b
              · have c5a : (mid : Int) < (e : Int) := by omega
                have c5b : (e : Int) < (b : Int) := by omega
                have c5c : decide ((mid : Int) < (e : Int)) = true := decide_eq_true c5a
                have c5d : decide ((e : Int) < (b : Int)) = true := decide_eq_true c5b
                have hc3 := IH.out mid e b q7 oi d2 (by omega) (by omega) (by omega) hb z2
                replace hr2 : Hid (r = Sb.symF (ltOf cf) f mid e b d2) := by show _ = _; rw [hr2.out, if_pos c5]
                generalize sortWorldK enc k w blk off q7 d2 oi = wq at hc3 ⊢
                go_wp2_with (go_at_call 47; go_must (refine hc3.mono ?_); rintro e9 w9 ⟨rfl, q9, o9, rfl⟩)
                all_goals (go_end0; exact ⟨rfl, q9, o9, by rw [hr2.out]⟩)
              · replace hr2 : Hid (r = d2) := by show _ = _; rw [hr2.out, if_neg c5]
                generalize hwq : sortWorldK enc k w blk off q7 d2 oi = wq
                by_cases c5a : mid < e
                · have c5c : decide ((mid : Int) < (e : Int)) = true := decide_eq_true (by omega)
                  have c5e : ¬ (e : Int) < (b : Int) := by omega
                  have c5d : decide ((e : Int) < (b : Int)) = false := decide_eq_false c5e
                  go_wp2_with fail
                  all_goals (go_end0; exact ⟨rfl, _, _, by rw [hr2.out, hwq]⟩)
                · have c5e : ¬ (mid : Int) < (e : Int) := by omega
                  have c5c : decide ((mid : Int) < (e : Int)) = false := decide_eq_false c5e
                  go_wp2_with fail
                  all_goals (go_end0; exact ⟨rfl, _, _, by rw [hr2.out, hwq]⟩)
        · have hd1e : d1 = d := by rw [hd1.out, if_neg c3]
          subst hd1e
          by_cases c3a : i < m
          · have c3c : decide ((i : Int) < (m : Int)) = true := decide_eq_true (by omega)
            have c3e : ¬ (m : Int) < (e : Int) := by omega
            have c3d : decide ((m : Int) < (e : Int)) = false := decide_eq_false c3e
            by_cases c4 : a < i ∧ i < mid
            · have c4a : (a : Int) < (i : Int) := by omega
              have c4b : (i : Int) < (mid : Int) := by omega
              have c4c : decide ((a : Int) < (i : Int)) = true := decide_eq_true c4a
              have c4d : decide ((i : Int) < (mid : Int)) = true := decide_eq_true c4b
              have hc2 := IH.out a i mid qi oi d1 (by omega) c4.1 c4.2 (by omega) z1
              replace hd2 : Hid (d2 = Sb.symF (ltOf cf) f a i mid d1) := by show _ = _; rw [hd2.out, if_pos c4]
              rw [← hd2.out] at hc2
              generalize sortWorldK enc k w blk off qi d1 oi = wq at hc2 ⊢
              go_wp2_with fail
              go_at_call 47
              refine hc2.mono ?_
              clear hc2
              rintro e8 w8 ⟨rfl, q8, o8, rfl⟩
              by_cases c5 : mid < e ∧ e < b
              · have c5a : (mid : Int) < (e : Int) := by omega
                have c5b : (e : Int) < (b : Int) := by omega
                have c5c : decide ((mid : Int) < (e : Int)) = true := decide_eq_true c5a
                have c5d : decide ((e : Int) < (b : Int)) = true := decide_eq_true c5b
                have hc3 := IH.out mid e b q8 o8 d2 (by omega) (by omega) (by omega) hb z2
                replace hr2 : Hid (r = Sb.symF (ltOf cf) f mid e b d2) := by show _ = _; rw [hr2.out, if_pos c5]
                generalize sortWorldK enc k w blk off q8 d2 o8 = wq at hc3 ⊢
                go_wp2_with (go_at_call 47; go_must (refine hc3.mono ?_); rintro e9 w9 ⟨rfl, q9, o9, rfl⟩)
                all_goals (go_end0; exact ⟨rfl, q9, o9, by rw [hr2.out]⟩)
              · replace hr2 : Hid (r = d2) := by show _ = _; rw [hr2.out, if_neg c5]
                generalize hwq : sortWorldK enc k w blk off q8 d2 o8 = wq
                by_cases c5a : mid < e
                · have c5c : decide ((mid : Int) < (e : Int)) = true := decide_eq_true (by omega)
                  have c5e : ¬ (e : Int) < (b : Int) := by omega
                  have c5d : decide ((e : Int) < (b : Int)) = false := decide_eq_false c5e
                  go_wp2_with fail
                  all_goals (go_end0; exact ⟨rfl, _, _, by rw [hr2.out, hwq]⟩)
                · have c5e : ¬ (mid : Int) < (e : Int) := by omega
                  have c5c : decide ((mid : Int) < (e : Int)) = false := decide_eq_false c5e
                  go_wp2_with fail
                  all_goals (go_end0; exact ⟨rfl, _, _, by rw [hr2.out, hwq]⟩)
            · have hd2e : d2 = d1 := by rw [hd2.out, if_neg c4]
              subst hd2e
              by_cases c4a : a < i
              · have c4c : decide ((a : Int) < (i : Int)) = true := decide_eq_true (by omega)
                have c4e : ¬ (i : Int) < (mid : Int) := by omega
                have c4d : decide ((i : Int) < (mid : Int)) = false := decide_eq_false c4e
                by_cases c5 : mid < e ∧ e < b
                · have c5a : (mid : Int) < (e : Int) := by omega
                  have c5b : (e : Int) < (b : Int) := by omega
                  have c5c : decide ((mid : Int) < (e : Int)) = true := decide_eq_true c5a
                  have c5d : decide ((e : Int) < (b : Int)) = true := decide_eq_true c5b
                  have hc3 := IH.out mid e b qi oi d2 (by omega) (by omega) (by omega) hb z2
                  replace hr2 : Hid (r = Sb.symF (ltOf cf) f mid e b d2) := by show _ = _; rw [hr2.out, if_pos c5]
                  generalize sortWorldK enc k w blk off qi d2 oi = wq at hc3 ⊢
                  go_wp2_with (go_at_call 47; go_must (refine hc3.mono ?_); rintro e9 w9 ⟨rfl, q9, o9, rfl⟩)
                  all_goals (go_end0; exact ⟨rfl, q9, o9, by rw [hr2.out]⟩)
                · replace hr2 : Hid (r = d2) := by show _ = _; rw [hr2.out, if_neg c5]
                  generalize hwq : sortWorldK enc k w blk off qi d2 oi = wq
                  by_cases c5a : mid < e
                  · have c5c : decide ((mid : Int) < (e : Int)) = true := decide_eq_true (by omega)
                    have c5e : ¬ (e : Int) < (b : Int) := by omega
                    have c5d : decide ((e : Int) < (b : Int)) = false := decide_eq_false c5e
                    go_wp2_with fail
                    all_goals (go_end0; exact ⟨rfl, _, _, by rw [hr2.out, hwq]⟩)
                  · have c5e : ¬ (mid : Int) < (e : Int) := by omega
                    have c5c : decide ((mid : Int) < (e : Int)) = false := decide_eq_false c5e
                    go_wp2_with fail
                    all_goals (go_end0; exact ⟨rfl, _, _, by rw [hr2.out, hwq]⟩)
              · have c4e : ¬ (a : Int) < (i : Int) := by omega
                have c4c : decide ((a : Int) < (i : Int)) = false := decide_eq_false c4e
                by_cases c5 : mid < e ∧ e < b
                · have c5a : (mid : Int) < (e : Int) := by omega
                  have c5b : (e : Int) < (b : Int) := by omega
                  have c5c : decide ((mid : Int) < (e : Int)) = true := decide_eq_true c5a
                  have c5d : decide ((e : Int) < (b : Int)) = true := decide_eq_true c5b
                  have hc3 := IH.out mid e b qi oi d2 (by omega) (by omega) (by omega) hb z2
                  replace hr2 : Hid (r = Sb.symF (ltOf cf) f mid e b d2) := by show _ = _; rw [hr2.out, if_pos c5]
                  generalize sortWorldK enc k w blk off qi d2 oi = wq at hc3 ⊢
                  go_wp2_with (go_at_call 47; go_must (refine hc3.mono ?_); rintro e9 w9 ⟨rfl, q9, o9, rfl⟩)
                  all_goals (go_end0; exact ⟨rfl, q9, o9, by rw [hr2.out]⟩)
                · replace hr2 : Hid (r = d2) := by show _ = _; rw [hr2.out, if_neg c5]
                  generalize hwq : sortWorldK enc k w blk off qi d2 oi = wq
                  by_cases c5a : mid < e
                  · have c5c : decide ((mid : Int) < (e : Int)) = true := decide_eq_true (by omega)
                    have c5e : ¬ (e : Int) < (b : Int) := by omega
                    have c5d : decide ((e : Int) < (b : Int)) = false := decide_eq_false c5e
                    go_wp2_with fail
                    all_goals (go_end0; exact ⟨rfl, _, _, by rw [hr2.out, hwq]⟩)
                  · have c5e : ¬ (mid : Int) < (e : Int) := by omega
                    have c5c : decide ((mid : Int) < (e : Int)) = false := decide_eq_false c5e
                    go_wp2_with fail
                    all_goals (go_end0; exact ⟨rfl, _, _, by rw [hr2.out, hwq]⟩)
          · have c3e : ¬ (i : Int) < (m : Int) := by omega
            have c3c : decide ((i : Int) < (m : Int)) = false := decide_eq_false c3e
            by_cases c4 : a < i ∧ i < mid
            · have c4a : (a : Int) < (i : Int) := by omega
              have c4b : (i : Int) < (mid : Int) := by omega
              have c4c : decide ((a : Int) < (i : Int)) = true := decide_eq_true c4a
              have c4d : decide ((i : Int) < (mid : Int)) = true := decide_eq_true c4b
              have hc2 := IH.out a i mid qi oi d1 (by omega) c4.1 c4.2 (by omega) z1
              replace hd2 : Hid (d2 = Sb.symF (ltOf cf) f a i mid d1) := by show _ = _; rw [hd2.out, if_pos c4]
              rw [← hd2.out] at hc2
              generalize sortWorldK enc k w blk off qi d1 oi = wq at hc2 ⊢
              go_wp2_with fail
              go_at_call 47
              refine hc2.mono ?_
              clear hc2
              rintro e8 w8 ⟨rfl, q8, o8, rfl⟩
              by_cases c5 : mid < e ∧ e < b
              · have c5a : (mid : Int) < (e : Int) := by omega
                have c5b : (e : Int) < (b : Int) := by omega
                have c5c : decide ((mid : Int) < (e : Int)) = true := decide_eq_true c5a
                have c5d : decide ((e : Int) < (b : Int)) = true := decide_eq_true c5b
                have hc3 := IH.out mid e b q8 o8 d2 (by omega) (by omega) (by omega) hb z2
                replace hr2 : Hid (r = Sb.symF (ltOf cf) f mid e b d2) := by show _ = _; rw [hr2.out, if_pos c5]
                generalize sortWorldK enc k w blk off q8 d2 o8 = wq at hc3 ⊢
                go_wp2_with (go_at_call 47; go_must (refine hc3.mono ?_); rintro e9 w9 ⟨rfl, q9, o9, rfl⟩)
                all_goals (go_end0; exact ⟨rfl, q9, o9, by rw [hr2.out]⟩)
              · replace hr2 : Hid (r = d2) := by show _ = _; rw [hr2.out, if_neg c5]
                generalize hwq : sortWorldK enc k w blk off q8 d2 o8 = wq
                by_cases c5a : mid < e
                · have c5c : decide ((mid : Int) < (e : Int)) = true := decide_eq_true (by omega)
                  have c5e : ¬ (e : Int) < (b : Int) := by omega
                  have c5d : decide ((e : Int) < (b : Int)) = false := decide_eq_false c5e
                  go_wp2_with fail
                  all_goals (go_end0; exact ⟨rfl, _, _, by rw [hr2.out, hwq]⟩)
                · have c5e : ¬ (mid : Int) < (e : Int) := by omega
                  have c5c : decide ((mid : Int) < (e : Int)) = false := decide_eq_false c5e
                  go_wp2_with fail
                  all_goals (go_end0; exact ⟨rfl, _, _, by rw [hr2.out, hwq]⟩)
            · have hd2e : d2 = d1 := by rw [hd2.out, if_neg c4]
              subst hd2e
              by_cases c4a : a < i
              · have c4c : decide ((a : Int) < (i : Int)) = true := decide_eq_true (by omega)
                have c4e : ¬ (i : Int) < (mid : Int) := by omega
                have c4d : decide ((i : Int) < (mid : Int)) = false := decide_eq_false c4e
                by_cases c5 : mid < e ∧ e < b
                · have c5a : (mid : Int) < (e : Int) := by omega
                  have c5b : (e : Int) < (b : Int) := by omega
                  have c5c : decide ((mid : Int) < (e : Int)) = true := decide_eq_true c5a
                  have c5d : decide ((e : Int) < (b : Int)) = true := decide_eq_true c5b
                  have hc3 := IH.out mid e b qi oi d2 (by omega) (by omega) (by omega) hb z2
                  replace hr2 : Hid (r = Sb.symF (ltOf cf) f mid e b d2) := by show _ = _; rw [hr2.out, if_pos c5]
                  generalize sortWorldK enc k w blk off qi d2 oi = wq at hc3 ⊢
                  go_wp2_with (go_at_call 47; go_must (refine hc3.mono ?_); rintro e9 w9 ⟨rfl, q9, o9, rfl⟩)
                  all_goals (go_end0; exact ⟨rfl, q9, o9, by rw [hr2.out]⟩)
                · replace hr2 : Hid (r = d2) := by show _ = _; rw [hr2.out, if_neg c5]
                  generalize hwq : sortWorldK enc k w blk off qi d2 oi = wq
                  by_cases c5a : mid < e
                  · have c5c : decide ((mid : Int) < (e : Int)) = true := decide_eq_true (by omega)
                    have c5e : ¬ (e : Int) < (b : Int) := by omega
                    have c5d : decide ((e : Int) < (b : Int)) = false := decide_eq_false c5e
                    go_wp2_with fail
                    all_goals (go_end0; exact ⟨rfl, _, _, by rw [hr2.out, hwq]⟩)
                  · have c5e : ¬ (mid : Int) < (e : Int) := by omega
                    have c5c : decide ((mid : Int) < (e : Int)) = false := decide_eq_false c5e
                    go_wp2_with fail
                    all_goals (go_end0; exact ⟨rfl, _, _, by rw [hr2.out, hwq]⟩)
              · have c4e : ¬ (a : Int) < (i : Int) := by omega
                have c4c : decide ((a : Int) < (i : Int)) = false := decide_eq_false c4e
                by_cases c5 : mid < e ∧ e < b
                · have c5a : (mid : Int) < (e : Int) := by omega
                  have c5b : (e : Int) < (b : Int) := by omega
                  have c5c : decide ((mid : Int) < (e : Int)) = true := decide_eq_true c5a
                  have c5d : decide ((e : Int) < (b : Int)) = true := decide_eq_true c5b
                  have hc3 := IH.out mid e b qi oi d2 (by omega) (by omega) (by omega) hb z2
                  replace hr2 : Hid (r = Sb.symF (ltOf cf) f mid e b d2) := by show _ = _; rw [hr2.out, if_pos c5]
                  generalize sortWorldK enc k w blk off qi d2 oi = wq at hc3 ⊢
                  go_wp2_with (go_at_call 47; go_must (refine hc3.mono ?_); rintro e9 w9 ⟨rfl, q9, o9, rfl⟩)
                  all_goals (go_end0; exact ⟨rfl, q9, o9, by rw [hr2.out]⟩)
                · replace hr2 : Hid (r = d2) := by show _ = _; rw [hr2.out, if_neg c5]
                  generalize hwq : sortWorldK enc k w blk off qi d2 oi = wq
                  by_cases c5a : mid < e
                  · have c5c : decide ((mid : Int) < (e : Int)) = true := decide_eq_true (by omega)
                    have c5e : ¬ (e : Int) < (b : Int) := by omega
                    have c5d : decide ((e : Int) < (b : Int)) = false := decide_eq_false c5e
                    go_wp2_with fail
                    all_goals (go_end0; exact ⟨rfl, _, _, by rw [hr2.out, hwq]⟩)
                  · have c5e : ¬ (mid : Int) < (e : Int) := by omega
                    have c5c : decide ((mid : Int) < (e : Int)) = false := decide_eq_false c5e
                    go_wp2_with fail
                    all_goals (go_end0; exact ⟨rfl, _, _, by rw [hr2.out, hwq]⟩)
  · replace hcut : Hid (s = Sb.bsr F a m) := by show _ = _; rw [hcut.out, if_neg hmm]
    have bm : ¬ (mid : Int) < (m : Int) := by omega
    have l2 : a ≤ m := by omega
    have l3 : p < a + b := by have := hpE.out; omega
    have l4 : m + mid ≤ p + 1 := by have := hpE.out; omega
    go_enter Try.func47, Try.ntmps47
    go_wp2_with fail
    go_loopw [20, 21] (fun ii jj wr => ∃ (i j qi : Nat) (oi : Array Obj), ii = .int .i64 i ∧ jj = .int .i64 j ∧ a ≤ i ∧ i ≤ j ∧ j ≤ m ∧ wr = sortWorldK enc k w blk off qi d oi ∧ Hid (Sb.bsr F i j = s)) (fun ii jj _ => (intOf jj).toNat - (intOf ii).toNat)
    case atStart => exact ⟨a, m, q, os, rfl, rfl, Nat.le_refl _, l2, Nat.le_refl _, rfl, hcut.out.symm⟩
    case round =>
      obtain ⟨i, j, qi, oi, rfl, rfl, hmi, hij, hjb, rfl, HI⟩ := hrel
      by_cases hlt : i < j
      · have b2 : (i : Int) < (j : Int) := by omega
        obtain ⟨hm, hhm⟩ : ∃ x : Nat, x = (i + j) / 2 := ⟨_, rfl⟩
        have eh : ((i : Int) + (j : Int)) / 2 = (hm : Int) := by omega
        have hml : hm < d.size := by omega
        have hma : (hm : Int) < (d.size : Int) := by omega
        have wh : IntKind.i64.wrap ((hm : Int) + 1) = (hm : Int) + 1 := by rw [IntKind.wrap_i64]; omega
        obtain ⟨ph, hph⟩ : ∃ x : Nat, x = p - hm := ⟨_, rfl⟩
        have wph : IntKind.i64.wrap ((p : Int) - (hm : Int)) = (ph : Int) := by rw [IntKind.wrap_i64]; omega
        have ama : (ph : Int) < (d.size : Int) := by omega
        obtain ⟨cls, lx, ly, cg⟩ := CC.out ph hm qi oi (by omega) hml
        have HI2 : Hid ((F hm = true → Sb.bsr F (hm + 1) j = s) ∧ (F hm = false → Sb.bsr F i hm = s)) :=
          ⟨fun hf => by rw [← HI.out, Sb.bsr_yes hlt (by rw [← hhm]; exact hf), hhm], fun hf => by rw [← HI.out, Sb.bsr_no hlt (by rw [← hhm]; exact hf), hhm]⟩
        have o1 : i ≤ hm := by omega
        have o2 : hm < j := by omega
        have hFh : Hid (F hm = !decide (cf d[ph]! d[hm]! < 0)) := by show _ = _; rw [hph]; exact hF2.out hm
        replace hhm := Lib.hid hhm
        replace hph := Lib.hid hph
        have CLS : Hid _ := cls
        clear cls HI
        generalize hwq : sortWorldK enc k w blk off qi d oi = wq at lx ly cg CLS ⊢
        replace hwq := Lib.hid hwq
        generalize d[ph]! = X at *
        generalize d[hm]! = Y at *
        by_cases hlv : cf X Y < 0
        · have hFt : F hm = false := by rw [hFh.out, decide_eq_true hlv]; rfl
          have nb : (!decide (cf X Y < 0)) = false := by rw [decide_eq_true hlv]; rfl
          have HI3 : Hid _ := HI2.out.2 hFt
          clear HI2 hFh hFt
          go_wp2_with fail
          go_quiet_grown (first | (go_at_fn g; refine Calls.grown_of (cg _ _)))
          go_wp2_with fail
          go_roundw
          case rel => exact ⟨i, hm, qi + nq, oi ++ osq, rfl, by go_num, hmi, o1, by omega, CLS.out nq osq, HI3⟩
          case measure => simp [intOf]; omega
        · have hFt : F hm = true := by rw [hFh.out, decide_eq_false hlv]; rfl
          have nb : (!decide (cf X Y < 0)) = true := by rw [decide_eq_false hlv]; rfl
          have HI3 : Hid _ := HI2.out.1 hFt
          clear HI2 hFh hFt
          go_wp2_with fail
          go_quiet_grown (first | (go_at_fn g; refine Calls.grown_of (cg _ _)))
          go_wp2_with fail
          go_roundw
          case rel => exact ⟨hm + 1, j, qi + nq, oi ++ osq, by go_num, rfl, by omega, by omega, hjb, CLS.out nq osq, HI3⟩
          case measure => simp [intOf]; omega
      · obtain rfl : i = j := by omega
        rw [Sb.bsr_stop hlt] at HI
        obtain rfl : i = s := HI.out
        clear HI hcut hF2
        have b2 : ¬ (i : Int) < (i : Int) := by omega
        by_cases c3 : i < m ∧ m < e
        · have c3a : (i : Int) < (m : Int) := by omega
          have c3b : (m : Int) < (e : Int) := by omega
          have c3c : decide ((i : Int) < (m : Int)) = true := decide_eq_true c3a
          have c3d : decide ((m : Int) < (e : Int)) = true := decide_eq_true c3b
          have hc1 := RC.out i m e qi oi c3.1 c3.2 (by omega)
          replace hd1 : Hid (d1 = Sb.rot m (m - i) (e - m) d) := by show _ = _; rw [hd1.out, if_pos c3]
          rw [← hd1.out] at hc1
          generalize sortWorldK enc k w blk off qi d oi = wq at hc1 ⊢
          go_wp2_with fail
          go_at_call 49
          refine hc1.mono ?_
          clear hc1
          rintro e7 w7 ⟨rfl, q7, rfl⟩
          by_cases c4 : a < i ∧ i < mid
          · have c4a : (a : Int) < (i : Int) := by omega
            have c4b : (i : Int) < (mid : Int) := by omega
            have c4c : decide ((a : Int) < (i : Int)) = true := decide_eq_true c4a
            have c4d : decide ((i : Int) < (mid : Int)) = true := decide_eq_true c4b
            have hc2 := IH.out a i mid q7 oi d1 (by omega) c4.1 c4.2 (by omega) z1
            replace hd2 : Hid (d2 = Sb.symF (ltOf cf) f a i mid d1) := by show _ = _; rw [hd2.out, if_pos c4]
            rw [← hd2.out] at hc2
            generalize sortWorldK enc k w blk off q7 d1 oi = wq at hc2 ⊢
            go_wp2_with fail
            go_at_call 47
            refine hc2.mono ?_
            clear hc2
            rintro e8 w8 ⟨rfl, q8, o8, rfl⟩
            by_cases c5 : mid < e ∧ e < b
            · have c5a : (mid : Int) < (e : Int) := by omega
              have c5b : (e : Int) < (b : Int) := by omega
              have c5c : decide ((mid : Int) < (e : Int)) = true := decide_eq_true c5a
              have c5d : decide ((e : Int) < (b : Int)) = true := decide_eq_true c5b
              have hc3 := IH.out mid e b q8 o8 d2 (by omega) (by omega) (by omega) hb z2
              replace hr2 : Hid (r = Sb.symF (ltOf cf) f mid e b d2) := by show _ = _; rw [hr2.out, if_pos c5]
              generalize sortWorldK enc k w blk off q8 d2 o8 = wq at hc3 ⊢
              go_wp2_with (go_at_call 47; go_must (refine hc3.mono ?_); rintro e9 w9 ⟨rfl, q9, o9, rfl⟩)
              all_goals (go_end0; exact ⟨rfl, q9, o9, by rw [hr2.out]⟩)
            · replace hr2 : Hid (r = d2) := by show _ = _; rw [hr2.out, if_neg c5]
              generalize hwq : sortWorldK enc k w blk off q8 d2 o8 = wq
              by_cases c5a : mid < e
              · have c5c : decide ((mid : Int) < (e : Int)) = true := decide_eq_true (by omega)
                have c5e : ¬ (e : Int) < (b : Int) := by omega
                have c5d : decide ((e : Int) < (b : Int)) = false := decide_eq_false c5e
                go_wp2_with fail
                all_goals (go_end0; exact ⟨rfl, _, _, by rw [hr2.out, hwq]⟩)
              · have c5e : ¬ (mid : Int) < (e : Int) := by omega
                have c5c : decide ((mid : Int) < (e : Int)) = false := decide_eq_false c5e
                go_wp2_with fail
                all_goals (go_end0; exact ⟨rfl, _, _, by rw [hr2.out, hwq]⟩)
          · have hd2e : d2 = d1 := by rw [hd2.out, if_neg c4]
            subst hd2e
            by_cases c4a : a < i
            · have c4c : decide ((a : Int) < (i : Int)) = true := decide_eq_true (by omega)
              have c4e : ¬ (i : Int) < (mid : Int) := by omega
              have c4d : decide ((i : Int) < (mid : Int)) = false := decide_eq_false c4e
              by_cases c5 : mid < e ∧ e < b
              · have c5a : (mid : Int) < (e : Int) := by omega
                have c5b : (e : Int) < (b : Int) := by omega
                have c5c : decide ((mid : Int) < (e : Int)) = true := decide_eq_true c5a
                have c5d : decide ((e : Int) < (b : Int)) = true := decide_eq_true c5b
                have hc3 := IH.out mid e b q7 oi d2 (by omega) (by omega) (by omega) hb z2
                replace hr2 : Hid (r = Sb.symF (ltOf cf) f mid e b d2) := by show _ = _; rw [hr2.out, if_pos c5]
                generalize sortWorldK enc k w blk off q7 d2 oi = wq at hc3 ⊢
                go_wp2_with (go_at_call 47; go_must (refine hc3.mono ?_); rintro e9 w9 ⟨rfl, q9, o9, rfl⟩)
                all_goals (go_end0; exact ⟨rfl, q9, o9, by rw [hr2.out]⟩)
              · replace hr2 : Hid (r = d2) := by show _ = _; rw [hr2.out, if_neg c5]
                generalize hwq : sortWorldK enc k w blk off q7 d2 oi = wq
                by_cases c5a : mid < e
                · have c5c : decide ((mid : Int) < (e : Int)) = true := decide_eq_true (by omega)
                  have c5e : ¬ (e : Int) < (b : Int) := by omega
                  have c5d : decide ((e : Int) < (b : Int)) = false := decide_eq_false c5e
                  go_wp2_with fail
                  all_goals (go_end0; exact ⟨rfl, _, _, by rw [hr2.out, hwq]⟩)
                · have c5e : ¬ (mid : Int) < (e : Int) := by omega
                  have c5c : decide ((mid : Int) < (e : Int)) = false := decide_eq_false c5e
                  go_wp2_with fail
                  all_goals (go_end0; exact ⟨rfl, _, _, by rw [hr2.out, hwq]⟩)
            · have c4e : ¬ (a : Int) < (i : Int) := by omega
              have c4c : decide ((a : Int) < (i : Int)) = false := decide_eq_false c4e
              by_cases c5 : mid < e ∧ e < b
              · have c5a : (mid : Int) < (e : Int) := by omega
                have c5b : (e : Int) < (b : Int) := by omega
                have c5c : decide ((mid : Int) < (e : Int)) = true := decide_eq_true c5a
                have c5d : decide ((e : Int) < (b : Int)) = true := decide_eq_true c5b
                have hc3 := IH.out mid e b q7 oi d2 (by omega) (by omega) (by omega) hb z2
                replace hr2 : Hid (r = Sb.symF (ltOf cf) f mid e b d2) := by show _ = _; rw [hr2.out, if_pos c5]
                generalize sortWorldK enc k w blk off q7 d2 oi = wq at hc3 ⊢
                go_wp2_with (go_at_call 47; go_must (refine hc3.mono ?_); rintro e9 w9 ⟨rfl, q9, o9, rfl⟩)
                all_goals (go_end0; exact ⟨rfl, q9, o9, by rw [hr2.out]⟩)
              · replace hr2 : Hid (r = d2) := by show _ = _; rw [hr2.out, if_neg c5]
                generalize hwq : sortWorldK enc k w blk off q7 d2 oi = wq
                by_cases c5a : mid < e
                · have c5c : decide ((mid : Int) < (e : Int)) = true := decide_eq_true (by omega)
                  have c5e : ¬ (e : Int) < (b : Int) := by omega
                  have c5d : decide ((e : Int) < (b : Int)) = false := decide_eq_false c5e
                  go_wp2_with fail
                  all_goals (go_end0; exact ⟨rfl, _, _, by rw [hr2.out, hwq]⟩)
                · have c5e : ¬ (mid : Int) < (e : Int) := by omega
                  have c5c : decide ((mid : Int) < (e : Int)) = false := decide_eq_false c5e
                  go_wp2_with fail
                  all_goals (go_end0; exact ⟨rfl, _, _, by rw [hr2.out, hwq]⟩)
        · have hd1e : d1 = d := by rw [hd1.out, if_neg c3]
          subst hd1e
          by_cases c3a : i < m
          · have c3c : decide ((i : Int) < (m : Int)) = true := decide_eq_true (by omega)
            have c3e : ¬ (m : Int) < (e : Int) := by omega
            have c3d : decide ((m : Int) < (e : Int)) = false := decide_eq_false c3e
            by_cases c4 : a < i ∧ i < mid
            · have c4a : (a : Int) < (i : Int) := by omega
              have c4b : (i : Int) < (mid : Int) := by omega
              have c4c : decide ((a : Int) < (i : Int)) = true := decide_eq_true c4a
              have c4d : decide ((i : Int) < (mid : Int)) = true := decide_eq_true c4b
              have hc2 := IH.out a i mid qi oi d1 (by omega) c4.1 c4.2 (by omega) z1
              replace hd2 : Hid (d2 = Sb.symF (ltOf cf) f a i mid d1) := by show _ = _; rw [hd2.out, if_pos c4]
              rw [← hd2.out] at hc2
              generalize sortWorldK enc k w blk off qi d1 oi = wq at hc2 ⊢
              go_wp2_with fail
              go_at_call 47
              refine hc2.mono ?_
              clear hc2
              rintro e8 w8 ⟨rfl, q8, o8, rfl⟩
              by_cases c5 : mid < e ∧ e < b
              · have c5a : (mid : Int) < (e : Int) := by omega
                have c5b : (e : Int) < (b : Int) := by omega
                have c5c : decide ((mid : Int) < (e : Int)) = true := decide_eq_true c5a
                have c5d : decide ((e : Int) < (b : Int)) = true := decide_eq_true c5b
                have hc3 := IH.out mid e b q8 o8 d2 (by omega) (by omega) (by omega) hb z2
                replace hr2 : Hid (r = Sb.symF (ltOf cf) f mid e b d2) := by show _ = _; rw [hr2.out, if_pos c5]
                generalize sortWorldK enc k w blk off q8 d2 o8 = wq at hc3 ⊢
                go_wp2_with (go_at_call 47; go_must (refine hc3.mono ?_); rintro e9 w9 ⟨rfl, q9, o9, rfl⟩)
                all_goals (go_end0; exact ⟨rfl, q9, o9, by rw [hr2.out]⟩)
              · replace hr2 : Hid (r = d2) := by show _ = _; rw [hr2.out, if_neg c5]
                generalize hwq : sortWorldK enc k w blk off q8 d2 o8 = wq
                by_cases c5a : mid < e
                · have c5c : decide ((mid : Int) < (e : Int)) = true := decide_eq_true (by omega)
                  have c5e : ¬ (e : Int) < (b : Int) := by omega
                  have c5d : decide ((e : Int) < (b : Int)) = false := decide_eq_false c5e
                  go_wp2_with fail
                  all_goals (go_end0; exact ⟨rfl, _, _, by rw [hr2.out, hwq]⟩)
                · have c5e : ¬ (mid : Int) < (e : Int) := by omega
                  have c5c : decide ((mid : Int) < (e : Int)) = false := decide_eq_false c5e
                  go_wp2_with fail
                  all_goals (go_end0; exact ⟨rfl, _, _, by rw [hr2.out, hwq]⟩)
            · have hd2e : d2 = d1 := by rw [hd2.out, if_neg c4]
              subst hd2e
              by_cases c4a : a < i
              · have c4c : decide ((a : Int) < (i : Int)) = true := decide_eq_true (by omega)
                have c4e : ¬ (i : Int) < (mid : Int) := by omega
                have c4d : decide ((i : Int) < (mid : Int)) = false := decide_eq_false c4e
                by_cases c5 : mid < e ∧ e < b
                · have c5a : (mid : Int) < (e : Int) := by omega
                  have c5b : (e : Int) < (b : Int) := by omega
                  have c5c : decide ((mid : Int) < (e : Int)) = true := decide_eq_true c5a
                  have c5d : decide ((e : Int) < (b : Int)) = true := decide_eq_true c5b
                  have hc3 := IH.out mid e b qi oi d2 (by omega) (by omega) (by omega) hb z2
                  replace hr2 : Hid (r = Sb.symF (ltOf cf) f mid e b d2) := by show _ = _; rw [hr2.out, if_pos c5]
                  generalize sortWorldK enc k w blk off qi d2 oi = wq at hc3 ⊢
                  go_wp2_with (go_at_call 47; go_must (refine hc3.mono ?_); rintro e9 w9 ⟨rfl, q9, o9, rfl⟩)
                  all_goals (go_end0; exact ⟨rfl, q9, o9, by rw [hr2.out]⟩)
                · replace hr2 : Hid (r = d2) := by show _ = _; rw [hr2.out, if_neg c5]
                  generalize hwq : sortWorldK enc k w blk off qi d2 oi = wq
                  by_cases c5a : mid < e
                  · have c5c : decide ((mid : Int) < (e : Int)) = true := decide_eq_true (by omega)
                    have c5e : ¬ (e : Int) < (b : Int) := by omega
                    have c5d : decide ((e : Int) < (b : Int)) = false := decide_eq_false c5e
                    go_wp2_with fail
                    all_goals (go_end0; exact ⟨rfl, _, _, by rw [hr2.out, hwq]⟩)
                  · have c5e : ¬ (mid : Int) < (e : Int) := by omega
                    have c5c : decide ((mid : Int) < (e : Int)) = false := decide_eq_false c5e
                    go_wp2_with fail
                    all_goals (go_end0; exact ⟨rfl, _, _, by rw [hr2.out, hwq]⟩)
              · have c4e : ¬ (a : Int) < (i : Int) := by omega
                have c4c : decide ((a : Int) < (i : Int)) = false := decide_eq_false c4e
                by_cases c5 : mid < e ∧ e < b
                · have c5a : (mid : Int) < (e : Int) := by omega
                  have c5b : (e : Int) < (b : Int) := by omega
                  have c5c : decide ((mid : Int) < (e : Int)) = true := decide_eq_true c5a
                  have c5d : decide ((e : Int) < (b : Int)) = true := decide_eq_true c5b
                  have hc3 := IH.out mid e b qi oi d2 (by omega) (by omega) (by omega) hb z2
                  replace hr2 : Hid (r = Sb.symF (ltOf cf) f mid e b d2) := by show _ = _; rw [hr2.out, if_pos c5]
                  generalize sortWorldK enc k w blk off qi d2 oi = wq at hc3 ⊢
                  go_wp2_with (go_at_call 47; go_must (refine hc3.mono ?_); rintro e9 w9 ⟨rfl, q9, o9, rfl⟩)
                  all_goals (go_end0; exact ⟨rfl, q9, o9, by rw [hr2.out]⟩)
                · replace hr2 : Hid (r = d2) := by show _ = _; rw [hr2.out, if_neg c5]
                  generalize hwq : sortWorldK enc k w blk off qi d2 oi = wq
                  by_cases c5a : mid < e
                  · have c5c : decide ((mid : Int) < (e : Int)) = true := decide_eq_true (by omega)
                    have c5e : ¬ (e : Int) < (b : Int) := by omega
                    have c5d : decide ((e : Int) < (b : Int)) = false := decide_eq_false c5e
                    go_wp2_with fail
                    all_goals (go_end0; exact ⟨rfl, _, _, by rw [hr2.out, hwq]⟩)
                  · have c5e : ¬ (mid : Int) < (e : Int) := by omega
                    have c5c : decide ((mid : Int) < (e : Int)) = false := decide_eq_false c5e
                    go_wp2_with fail
                    all_goals (go_end0; exact ⟨rfl, _, _, by rw [hr2.out, hwq]⟩)
          · have c3e : ¬ (i : Int) < (m : Int) := by omega
            have c3c : decide ((i : Int) < (m : Int)) = false := decide_eq_false c3e
            by_cases c4 : a < i ∧ i < mid
            · have c4a : (a : Int) < (i : Int) := by omega
              have c4b : (i : Int) < (mid : Int) := by omega
              have c4c : decide ((a : Int) < (i : Int)) = true := decide_eq_true c4a
              have c4d : decide ((i : Int) < (mid : Int)) = true := decide_eq_true c4b
              have hc2 := IH.out a i mid qi oi d1 (by omega) c4.1 c4.2 (by omega) z1
              replace hd2 : Hid (d2 = Sb.symF (ltOf cf) f a i mid d1) := by show _ = _; rw [hd2.out, if_pos c4]
              rw [← hd2.out] at hc2
              generalize sortWorldK enc k w blk off qi d1 oi = wq at hc2 ⊢
              go_wp2_with fail
              go_at_call 47
              refine hc2.mono ?_
              clear hc2
              rintro e8 w8 ⟨rfl, q8, o8, rfl⟩
              by_cases c5 : mid < e ∧ e < b
              · have c5a : (mid : Int) < (e : Int) := by omega
                have c5b : (e : Int) < (b : Int) := by omega
                have c5c : decide ((mid : Int) < (e : Int)) = true := decide_eq_true c5a
                have c5d : decide ((e : Int) < (b : Int)) = true := decide_eq_true c5b
                have hc3 := IH.out mid e b q8 o8 d2 (by omega) (by omega) (by omega) hb z2
                replace hr2 : Hid (r = Sb.symF (ltOf cf) f mid e b d2) := by show _ = _; rw [hr2.out, if_pos c5]
                generalize sortWorldK enc k w blk off q8 d2 o8 = wq at hc3 ⊢
                go_wp2_with (go_at_call 47; go_must (refine hc3.mono ?_); rintro e9 w9 ⟨rfl, q9, o9, rfl⟩)
                all_goals (go_end0; exact ⟨rfl, q9, o9, by rw [hr2.out]⟩)
              · replace hr2 : Hid (r = d2) := by show _ = _; rw [hr2.out, if_neg c5]
                generalize hwq : sortWorldK enc k w blk off q8 d2 o8 = wq
                by_cases c5a : mid < e
                · have c5c : decide ((mid : Int) < (e : Int)) = true := decide_eq_true (by omega)
                  have c5e : ¬ (e : Int) < (b : Int) := by omega
                  have c5d : decide ((e : Int) < (b : Int)) = false := decide_eq_false c5e
                  go_wp2_with fail
                  all_goals (go_end0; exact ⟨rfl, _, _, by rw [hr2.out, hwq]⟩)
                · have c5e : ¬ (mid : Int) < (e : Int) := by omega
                  have c5c : decide ((mid : Int) < (e : Int)) = false := decide_eq_false c5e
                  go_wp2_with fail
                  all_goals (go_end0; exact ⟨rfl, _, _, by rw [hr2.out, hwq]⟩)
            · have hd2e : d2 = d1 := by rw [hd2.out, if_neg c4]
              subst hd2e
              by_cases c4a : a < i
              · have c4c : decide ((a : Int) < (i : Int)) = true := decide_eq_true (by omega)
                have c4e : ¬ (i : Int) < (mid : Int) := by omega
                have c4d : decide ((i : Int) < (mid : Int)) = false := decide_eq_false c4e
                by_cases c5 : mid < e ∧ e < b
                · have c5a : (mid : Int) < (e : Int) := by omega
                  have c5b : (e : Int) < (b : Int) := by omega
                  have c5c : decide ((mid : Int) < (e : Int)) = true := decide_eq_true c5a
                  have c5d : decide ((e : Int) < (b : Int)) = true := decide_eq_true c5b
                  have hc3 := IH.out mid e b qi oi d2 (by omega) (by omega) (by omega) hb z2
                  replace hr2 : Hid (r = Sb.symF (ltOf cf) f mid e b d2) := by show _ = _; rw [hr2.out, if_pos c5]
                  generalize sortWorldK enc k w blk off qi d2 oi = wq at hc3 ⊢
                  go_wp2_with (go_at_call 47; go_must (refine hc3.mono ?_); rintro e9 w9 ⟨rfl, q9, o9, rfl⟩)
                  all_goals (go_end0; exact ⟨rfl, q9, o9, by rw [hr2.out]⟩)
                · replace hr2 : Hid (r = d2) := by show _ = _; rw [hr2.out, if_neg c5]
                  generalize hwq : sortWorldK enc k w blk off qi d2 oi = wq
                  by_cases c5a : mid < e
                  · have c5c : decide ((mid : Int) < (e : Int)) = true := decide_eq_true (by omega)
                    have c5e : ¬ (e : Int) < (b : Int) := by omega
                    have c5d : decide ((e : Int) < (b : Int)) = false := decide_eq_false c5e
                    go_wp2_with fail
                    all_goals (go_end0; exact ⟨rfl, _, _, by rw [hr2.out, hwq]⟩)
                  · have c5e : ¬ (mid : Int) < (e : Int) := by omega
                    have c5c : decide ((mid : Int) < (e : Int)) = false := decide_eq_false c5e
                    go_wp2_with fail
                    all_goals (go_end0; exact ⟨rfl, _, _, by rw [hr2.out, hwq]⟩)
              · have c4e : ¬ (a : Int) < (i : Int) := by omega
                have c4c : decide ((a : Int) < (i : Int)) = false := decide_eq_false c4e
                by_cases c5 : mid < e ∧ e < b
                · have c5a : (mid : Int) < (e : Int) := by omega
                  have c5b : (e : Int) < (b : Int) := by omega
                  have c5c : decide ((mid : Int) < (e : Int)) = true := decide_eq_true c5a
                  have c5d : decide ((e : Int) < (b : Int)) = true := decide_eq_true c5b
                  have hc3 := IH.out mid e b qi oi d2 (by omega) (by omega) (by omega) hb z2
                  replace hr2 : Hid (r = Sb.symF (ltOf cf) f mid e b d2) := by show _ = _; rw [hr2.out, if_pos c5]
                  generalize sortWorldK enc k w blk off qi d2 oi = wq at hc3 ⊢
                  go_wp2_with (go_at_call 47; go_must (refine hc3.mono ?_); rintro e9 w9 ⟨rfl, q9, o9, rfl⟩)
                  all_goals (go_end0; exact ⟨rfl, q9, o9, by rw [hr2.out]⟩)
                · replace hr2 : Hid (r = d2) := by show _ = _; rw [hr2.out, if_neg c5]
                  generalize hwq : sortWorldK enc k w blk off qi d2 oi = wq
                  by_cases c5a : mid < e
                  · have c5c : decide ((mid : Int) < (e : Int)) = true := decide_eq_true (by omega)
                    have c5e : ¬ (e : Int) < (b : Int) := by omega
                    have c5d : decide ((e : Int) < (b : Int)) = false := decide_eq_false c5e
                    go_wp2_with fail
                    all_goals (go_end0; exact ⟨rfl, _, _, by rw [hr2.out, hwq]⟩)
                  · have c5e : ¬ (mid : Int) < (e : Int) := by omega
                    have c5c : decide ((mid : Int) < (e : Int)) = false := decide_eq_false c5e
                    go_wp2_with fail
                    all_goals (go_end0; exact ⟨rfl, _, _, by rw [hr2.out, hwq]⟩)

theorem sym_fn (k : Nat) (zE : ∀ w, Sem.run Try.prog (Go.sizeOf 52) w = .ok k w) (hE : EncOk enc k) (hC : CmpOk Try.prog g enc k cf blk off d0.size w) (hH : HoldsK enc k w blk off d0) (hs : d.size = d0.size) (hblk : blk < w.heap.size) (hsz : d.size < 4611686018427387904) :
    ∀ (f a m b q : Nat) (os : Array Obj) (di : Array α), b - a ≤ f → a < m → m < b → b ≤ d.size → di.size = d.size →
      Calls Try.prog 47 #[.slice (some ⟨blk, off, none⟩) d.size cap, .int .i64 a, .int .i64 m, .int .i64 b, .func (.func g) #[] #[]] (sortWorldK enc k w blk off q di os) (SymPost enc k w blk off (Sb.symF (ltOf cf) f a m b di)) := by
  intro f
  induction f with
  | zero => intro a m b q os di hf h1 h2; omega
  | succ f ih =>
    intro a m b q os di hf h1 h2 h3 h4
    have hs' := h4.trans hs
    rw [← h4] at h3 hsz
    rw [← h4]
    by_cases c1 : m - a = 1
    · have := sym1_fn (cap := cap) k zE a m b q os hE hC hH hs' hblk (by omega) h2 h3 hsz
      rw [Sb.symF, if_pos c1]
      exact this
    · by_cases c2 : b - m = 1
      · have := sym2_fn (cap := cap) k zE a m b q os hE hC hH hs' hblk (by omega) (by omega) h3 hsz
        rw [Sb.symF, if_neg c1, if_pos c2]
        exact this
      · exact sym3_fn k zE f a m b q os hE hC hH hs' hblk (by omega) (by omega) h3 hsz (fun a m b q os dj e1 e2 e3 e4 e5 => by
          have := ih a m b q os dj e1 e2 e3 (by rw [← h4]; exact e4) (e5.trans h4)
          rw [h4]
          exact this) hf
end

end Go.Proofs.Ytmlmehpcfgchgaa
