/-
  Contracts of package slices' stable sort at jobs: insertionSortCmpFunc, stableCmpFunc, SortStableFunc.
-/
import Derived.Test.YtmlmehpcfgchgaaSbC
import Derived.Test.YtmlmehpcfgchgaaLay
import Derived.Shelf.SlSortFuncK.ComposeK
namespace Go.Proofs.Ytmlmehpcfgchgaa
open Go.RowKit Go.Sort Go.Lib Go.Shelf

namespace Sb
variable {α : Type} [Inhabited α] {lt : α → α → Bool}
theorem insB_go {n a : Nat} {d : Array α} (h : a + 20 ≤ n) : insB lt n a d = insB lt n (a + 20) (insertionSort lt d a (a + 20)) := by rw [insB, if_pos h]
theorem insB_stop {n a : Nat} {d : Array α} (h : ¬ a + 20 ≤ n) : insB lt n a d = insertionSort lt d a n := by rw [insB, if_neg h]
theorem mrgB_go {s n a : Nat} {d : Array α} (hs : 0 < s) (h : a + 2 * s ≤ n) : mrgB lt s n a d = mrgB lt s n (a + 2 * s) (symF lt (2 * s) a (a + s) (a + 2 * s) d) := by rw [mrgB, if_pos ⟨hs, h⟩]
theorem mrgB_last {s n a : Nat} {d : Array α} (h : ¬ a + 2 * s ≤ n) (h2 : a + s < n) : mrgB lt s n a d = symF lt (n - a) a (a + s) n d := by rw [mrgB, if_neg (by omega), if_pos h2]
theorem mrgB_stop {s n a : Nat} {d : Array α} (h : ¬ a + 2 * s ≤ n) (h2 : ¬ a + s < n) : mrgB lt s n a d = d := by rw [mrgB, if_neg (by omega), if_neg h2]
theorem dblB_go {n s : Nat} {d : Array α} (hs : 0 < s) (h : s < n) : dblB lt n s d = dblB lt n (2 * s) (mrgB lt s n 0 d) := by rw [dblB, if_pos ⟨hs, h⟩]
theorem dblB_stop {n s : Nat} {d : Array α} (h : ¬ s < n) : dblB lt n s d = d := by rw [dblB, if_neg (by omega)]
theorem insInner_size (a : Nat) : ∀ (j : Nat) (d : Array α), (insInner lt a j d).size = d.size := by
  intro j
  induction j with
  | zero => intro d; rfl
  | succ j ih =>
    intro d
    unfold insInner
    split
    · rw [ih, swp_size]
    · rfl
theorem insOuter_size (a b : Nat) : ∀ (t i : Nat) (d : Array α), b - i = t → (insOuter lt a b i d).size = d.size := by
  intro t
  induction t with
  | zero => intro i d ht; rw [insOuter_stop lt a b i d (by omega)]
  | succ t ih => intro i d ht; rw [insOuter_go lt a b i d (by omega), ih (i + 1) _ (by omega), insInner_size]
theorem ins_size (a b : Nat) (d : Array α) : (insertionSort lt d a b).size = d.size := insOuter_size a b _ (a + 1) d rfl
end Sb

section
variable {α : Type} [Inhabited α] {enc : α → List Value} {w : World} {blk off cap : Nat} {d d0 : Array α} {cf : α → α → Int} {g : Nat}

theorem CmpOk.on {k q : Nat} {os : Array Obj} (hC : CmpOk Try.prog g enc k cf blk off d0.size w) (hs : d.size = d0.size) (hblk : blk < w.heap.size) : CmpLays Try.prog g #[] enc k cf blk off d.size (sortWorldK enc k w blk off q d os) := by
  intro m os' dk hk x y
  rw [sortWorldK_on enc k w blk off q m d dk os os' hblk hk]
  exact hC.lays (q + m) (os ++ os') dk (hk.trans hs) x y

theorem ins_fn (k : Nat) (aE : ∀ w, Sem.run Try.prog (isAgg 52) w = .ok true w) (zE : ∀ w, Sem.run Try.prog (Go.sizeOf 52) w = .ok k w) (a b q : Nat) (os : Array Obj) (hE : EncOk enc k) (hC : CmpOk Try.prog g enc k cf blk off d0.size w) (hH : HoldsK enc k w blk off d0) (hs : d.size = d0.size) (hblk : blk < w.heap.size) (hab : a ≤ b) (hb : b ≤ d.size) (hsz : d.size < 4611686018427387904) :
    Calls Try.prog 46 #[.slice (some ⟨blk, off, none⟩) d.size cap, .int .i64 a, .int .i64 b, .func (.func g) #[] #[]] (sortWorldK enc k w blk off q d os) (SymPost enc k w blk off (insertionSort (ltOf cf) d a b)) := by
  have hW : HoldsK enc k (sortWorldK enc k w blk off q d os) blk off d := holdsK_sortWorldK_c enc k w blk off d0 d q os hH hblk hs
  have hb2 := size_sortWorldK_c enc k w blk off q d os
  refine (AnyQ.insertionSortCmpFunc Try.insJ k aE zE enc hE.len hE.one cf g #[] blk off cap a b d _ hC.eg (hC.on hs hblk) hW (by omega) hab hb hsz).mono ?_
  rintro e w' ⟨rfl, n, os', rfl⟩
  refine ⟨rfl, q + n, os ++ os', ?_⟩
  rw [sortWorldK_on enc k w blk off q n d _ os os' hblk (Sb.ins_size a b d)]

set_option maxHeartbeats 4000000 in
set_option maxRecDepth 1000000 in
theorem stable_fn (k : Nat) (aE : ∀ w, Sem.run Try.prog (isAgg 52) w = .ok true w) (zE : ∀ w, Sem.run Try.prog (Go.sizeOf 52) w = .ok k w) (hE : EncOk enc k) (hC : CmpOk Try.prog g enc k cf blk off d.size w) (hH : HoldsK enc k w blk off d) (hblk : blk < w.heap.size) (hsz : d.size < 1152921504606846976) :
    Calls Try.prog 43 #[.slice (some ⟨blk, off, none⟩) d.size cap, .int .i64 d.size, .func (.func g) #[] #[]] w (SymPost enc k w blk off (Sb.stab (ltOf cf) d)) := by
  have h0 := sortWorldK_start enc k w blk off d hH
  have INS : Aside _ := fun (a b q : Nat) (os : Array Obj) (di : Array α) (h1 : di.size = d.size) (h2 : a ≤ b) (h3 : b ≤ di.size) => ins_fn (cap := cap) (d := di) k aE zE a b q os hE hC hH h1 hblk h2 h3 (by omega)
  have SYM : Aside _ := sym_fn (cap := cap) (d := d) (d0 := d) k zE hE hC hH rfl hblk (by omega)
  clear hC hH
  obtain ⟨n, hn⟩ : ∃ n, n = d.size := ⟨_, rfl⟩
  rw [← hn]
  have hst : Hid (Sb.stab (ltOf cf) d = Sb.dblB (ltOf cf) n 20 (Sb.insB (ltOf cf) n 0 d)) := by rw [hn]; rfl
  replace hsz : n < 1152921504606846976 := by omega
  replace hn := Lib.hid hn
  obtain ⟨lt, hlt⟩ : ∃ lt, lt = ltOf cf := ⟨_, rfl⟩
  rw [← hlt] at hst ⊢
  replace hlt := Lib.hid hlt
  replace h0 := Lib.hid h0
  go_enter Try.func43, Try.ntmps43
  go_wp2_with fail
  go_loopw [7, 8] (fun aa bb wr => ∃ (a qi : Nat) (di : Array α) (oi : Array Obj), aa = .int .i64 a ∧ bb = .int .i64 ((a : Int) + 20) ∧ a ≤ n ∧ di.size = n ∧ wr = sortWorldK enc k w blk off qi di oi ∧ Hid (Sb.insB lt n a di = Sb.insB lt n 0 d)) (fun aa _ _ => n - (intOf aa).toNat)
  case atStart => exact ⟨0, 0, d, #[], rfl, rfl, Nat.zero_le _, hn.out.symm, h0.out.symm, rfl⟩
  case round =>
    obtain ⟨a, qi, di, oi, rfl, rfl, han, hsi, rfl, HI⟩ := hrel
    by_cases hgo : a + 20 ≤ n
    · have b2 : (a : Int) + 20 ≤ (n : Int) := by omega
      have wa : IntKind.i64.wrap ((a : Int) + 20 + 20) = (a : Int) + 20 + 20 := by rw [IntKind.wrap_i64]; omega
      have hc := INS.out a (a + 20) qi oi di (hsi.trans hn.out) (by omega) (by omega)
      rw [hsi, ← hlt.out] at hc
      rw [show ((a + 20 : Nat) : Int) = (a : Int) + 20 by omega] at hc
      have hz : (insertionSort lt di a (a + 20)).size = n := by rw [Sb.ins_size]; exact hsi
      rw [Sb.insB_go hgo] at HI
      generalize sortWorldK enc k w blk off qi di oi = wq at hc ⊢
      generalize insertionSort lt di a (a + 20) = dj at hc hz HI
      go_wp2_with (go_at_call 46; go_must (refine hc.mono ?_); rintro e9 w9 ⟨rfl, q9, o9, rfl⟩)
      go_roundw
      case rel => exact ⟨a + 20, q9, dj, o9, by go_num, by go_num, hgo, hz, rfl, HI⟩
      case measure => simp [intOf]; omega
    · have b2 : ¬ (a : Int) + 20 ≤ (n : Int) := by omega
      have hc := INS.out a n qi oi di (hsi.trans hn.out) han (by omega)
      rw [hsi, ← hlt.out] at hc
      have hz : (insertionSort lt di a n).size = n := by rw [Sb.ins_size]; exact hsi
      rw [Sb.insB_stop hgo] at HI
      generalize sortWorldK enc k w blk off qi di oi = wq at hc ⊢
      generalize insertionSort lt di a n = dj at hc hz HI
      rw [← HI.out] at hst
      clear HI
      go_wp2_with fail
      go_at_call 46
      refine hc.mono ?_
      clear hc
      rintro e9 w9 ⟨rfl, q9, o9, rfl⟩
      generalize hw9 : sortWorldK enc k w blk off q9 dj o9 = w9
      go_wp2_with fail
      go_loopw [6] (fun ss wr => ∃ (s qi : Nat) (di : Array α) (oi : Array Obj), ss = .int .i64 s ∧ 0 < s ∧ s < 2305843009213693952 ∧ di.size = n ∧ wr = sortWorldK enc k w blk off qi di oi ∧ Hid (Sb.dblB lt n s di = Sb.stab lt d)) (fun ss _ => n - (intOf ss).toNat)
      case atStart => exact ⟨20, q9, dj, o9, rfl, by omega, by omega, hz, hw9.symm, hst.out.symm⟩
      case round =>
        obtain ⟨s, qj, dk, oj, rfl, hs0, hsm, hsk, rfl, HD⟩ := hrel
        clear hw9 hst hz
        by_cases hsn : s < n
        · have b3 : (s : Int) < (n : Int) := by omega
          have ws : IntKind.i64.wrap (2 * (s : Int)) = 2 * (s : Int) := by rw [IntKind.wrap_i64]; omega
          have ws' : IntKind.i64.wrap ((s : Int) * 2) = (s : Int) * 2 := by rw [IntKind.wrap_i64]; omega
          rw [Sb.dblB_go hs0 hsn] at HD
          generalize hwj : sortWorldK enc k w blk off qj dk oj = wj
          go_wp2_with fail
          go_loopw [7, 8] (fun aa bb wr => ∃ (a qi : Nat) (di : Array α) (oi : Array Obj), aa = .int .i64 a ∧ bb = .int .i64 ((a : Int) + 2 * (s : Int)) ∧ a ≤ n ∧ di.size = n ∧ wr = sortWorldK enc k w blk off qi di oi ∧ Hid (Sb.mrgB lt s n a di = Sb.mrgB lt s n 0 dk)) (fun aa _ _ => n - (intOf aa).toNat)
          case atStart => exact ⟨0, qj, dk, oj, rfl, by go_num, Nat.zero_le _, hsk, hwj.symm, rfl⟩
          case round =>
            obtain ⟨a, qi, di, oi, rfl, rfl, han, hsi, rfl, HI⟩ := hrel
            clear hwj
            have wm : IntKind.i64.wrap ((a : Int) + (s : Int)) = (a : Int) + (s : Int) := by rw [IntKind.wrap_i64]; omega
            by_cases hgo : a + 2 * s ≤ n
            · have b4 : (a : Int) + 2 * (s : Int) ≤ (n : Int) := by omega
              have wa : IntKind.i64.wrap ((a : Int) + 2 * (s : Int) + 2 * (s : Int)) = (a : Int) + 2 * (s : Int) + 2 * (s : Int) := by rw [IntKind.wrap_i64]; omega
              have hc := SYM.out (2 * s) a (a + s) (a + 2 * s) qi oi di (by omega) (by omega) (by omega) (by have := hn.out; omega) (hsi.trans hn.out)
              rw [← hn.out, ← hlt.out, show ((a + s : Nat) : Int) = (a : Int) + (s : Int) by omega, show ((a + 2 * s : Nat) : Int) = (a : Int) + 2 * (s : Int) by omega] at hc
              have hz : (Sb.symF lt (2 * s) a (a + s) (a + 2 * s) di).size = n := by rw [Sb.symF_size _ _ _ _ _ (by omega) (by omega) (by omega)]; exact hsi
              rw [Sb.mrgB_go hs0 hgo] at HI
              generalize sortWorldK enc k w blk off qi di oi = wq at hc ⊢
              generalize Sb.symF lt (2 * s) a (a + s) (a + 2 * s) di = dj2 at hc hz HI
              go_wp2_with (go_at_call 47; go_must (refine hc.mono ?_); rintro e9 w9 ⟨rfl, q9, o9, rfl⟩)
              go_roundw
              case rel => exact ⟨a + 2 * s, q9, dj2, o9, by go_num, by go_num, hgo, hz, rfl, HI⟩
              case measure => simp [intOf]; omega
            · have b4 : ¬ (a : Int) + 2 * (s : Int) ≤ (n : Int) := by omega
              by_cases hl : a + s < n
              · have b5 : (a : Int) + (s : Int) < (n : Int) := by omega
                have hc := SYM.out (n - a) a (a + s) n qi oi di (by omega) (by omega) (by omega) (by have := hn.out; omega) (hsi.trans hn.out)
                rw [← hn.out, ← hlt.out, show ((a + s : Nat) : Int) = (a : Int) + (s : Int) by omega] at hc
                have hz : (Sb.symF lt (n - a) a (a + s) n di).size = n := by rw [Sb.symF_size _ _ _ _ _ (by omega) (by omega) (by omega)]; exact hsi
                rw [Sb.mrgB_last hgo hl] at HI
                generalize sortWorldK enc k w blk off qi di oi = wq at hc ⊢
                generalize Sb.symF lt (n - a) a (a + s) n di = dj2 at hc hz HI
                rw [← HI.out] at HD
                clear HI
                go_wp2_with (go_at_call 47; go_must (refine hc.mono ?_); rintro e9 w9 ⟨rfl, q9, o9, rfl⟩)
                go_roundw
                case rel => exact ⟨2 * s, q9, dj2, o9, by go_num, by omega, by omega, hz, rfl, HD⟩
                case measure => simp [intOf]; omega
              · have b5 : ¬ (a : Int) + (s : Int) < (n : Int) := by omega
                rw [Sb.mrgB_stop hgo hl] at HI
                rw [← HI.out] at HD
                clear HI
                generalize hwq : sortWorldK enc k w blk off qi di oi = wq
                go_wp2_with fail
                go_roundw
                case rel => exact ⟨2 * s, qi, di, oi, by go_num, by omega, by omega, hsi, hwq.symm, HD⟩
                case measure => simp [intOf]; omega
        · have b3 : ¬ (s : Int) < (n : Int) := by omega
          rw [Sb.dblB_stop hsn] at HD
          generalize hwq : sortWorldK enc k w blk off qj dk oj = wq
          go_wp2_with fail
          go_end0
          exact ⟨rfl, qj, oj, by rw [← HD.out, hwq]⟩

theorem SortStable_fn (k : Nat) (aE : ∀ w, Sem.run Try.prog (isAgg 52) w = .ok true w) (zE : ∀ w, Sem.run Try.prog (Go.sizeOf 52) w = .ok k w) (hE : EncOk enc k) (hC : CmpOk Try.prog g enc k cf blk off d.size w) (hH : HoldsK enc k w blk off d) (hblk : blk < w.heap.size) (hsz : d.size < 1152921504606846976) :
    Calls Try.prog 41 #[.slice (some ⟨blk, off, none⟩) d.size cap, .func (.func g) #[] #[]] w (SymPost enc k w blk off (Sb.stab (ltOf cf) d)) := by
  have hc := stable_fn (cap := cap) k aE zE hE hC hH hblk hsz
  clear hC hH hE
  go_enter Try.func41, Try.ntmps41
  go_wp2_with (go_at_call 43; go_must (refine hc.mono ?_); rintro e9 w9 ⟨rfl, q9, o9, rfl⟩)
  go_end0
  exact ⟨rfl, q9, o9, rfl⟩

end

end Go.Proofs.Ytmlmehpcfgchgaa
