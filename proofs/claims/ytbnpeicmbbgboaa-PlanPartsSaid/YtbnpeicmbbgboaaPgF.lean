/-
  Own walks: at most 12 items; a profile with spans reserved beside the document's; the chapter's example.
-/
import Derived.Test.YtbnpeicmbbgboaaPgE
import Derived.Test.YtbnpeicmbbgboaaLwB
namespace Go.Proofs.Ytbnpeicmbbgboaa
set_option maxRecDepth 8000
open Go.RowKit Go.Sort Go.Lib

section
variable {w : World} {v : Value} {l : List It}
theorem few_fn (hv : RowAt encI 4 w v l) : Calls Try.prog 7 #[v] w fun e w' => ∃ v', e = .returned v' ∧ RowAt encI 4 w v' (l.take 12) ∧ w = w' := by
  have hv2 := hv
  obtain ⟨ao, cap, rfl, q1, q2, q3⟩ := hv
  have hlm : l.length ≤ 9223372036854775807 := by unfold maxLen at q2; omega
  by_cases h : 12 < l.length
  · have hc := Lib.hid (RowAt.cut hv2 (n := 12) (by omega))
    have b1 : (12 : Int) < (l.length : Int) := by omega
    have b2 : 12 ≤ cap := by omega
    clear hv2 q3 q2 h
    go_enter Try.func7, Try.ntmps7
    go_wp2_with fail
    go_ret
    exact ⟨_, rfl, hc.out, rfl⟩
  · have hc : Hid (RowAt encI 4 w (.slice ao l.length cap) (l.take 12)) := by rw [List.take_of_length_le (by omega)]; exact hv2
    have b1 : ¬ ((12 : Int) < (l.length : Int)) := by omega
    clear hv2 q3 q2 h
    go_enter Try.func7, Try.ntmps7
    go_wp2_with fail
    go_ret
    exact ⟨_, rfl, hc.out, rfl⟩
end

/-- A profile with spans reserved, and the document's. -/
def MadeP (w : World) (F : Int) (e : Ending) (w' : World) : Prop :=
  ∃ (p g q k : Nat) (L : List (Int × Int)) (E : List Sp) (ver : Int), e = .returned (.tuple #[.pointer (some ⟨p, 0, none⟩), .pointer (some ⟨q, 0, none⟩)]) ∧ k ≤ 15 ∧ XS w.heap.size w' p g q k L 0 F E ver ∧ Below w.heap.size w w'

theorem made14_bad (n : Int) (v : Value) (w : World) (h : n < 0 ∨ 64 < n) : Calls Try.prog 8 #[.int .i64 n, v] w fun e w' => e = .returned (.tuple #[.pointer none, .pointer none]) ∧ w = w' := by
  have hnw := pf_New_bad n w h
  clear h
  go_enter Try.func8, Try.ntmps8
  go_wp2_with (go_at_call 21; go_must (refine hnw.mono ?_); rintro e w' ⟨rfl, rfl⟩)
  go_ret2
  exact ⟨rfl, rfl⟩

theorem span_cellsA {w : World} {l : List Sp} {b off k : Nat} {s : Sp} (hc : ∀ i s j u, l[i]? = some s → (enc3 s)[j]? = some u → w.cell? ⟨b, off + (i * 3 + j), none⟩ = some u) (hs : l[k]? = some s) :
    w.cell? ⟨b, off + k * 3, none⟩ = some (.int .i64 s.a) ∧ w.cell? ⟨b, off + k * 3 + 1, none⟩ = some (.int .i64 s.b) ∧ w.cell? ⟨b, off + k * 3 + 2, none⟩ = some (.int .i64 s.n) :=
  ⟨hc k s 0 _ hs rfl, hc k s 1 _ hs rfl, hc k s 2 _ hs rfl⟩

set_option maxRecDepth 1000000 in
set_option maxHeartbeats 4000000 in
theorem made14_fn (n : Int) (v : Value) (l : List Sp) (w : World) (h : 0 ≤ n ∧ n ≤ 64) (hr : RowAt enc3 3 w v l) : Calls Try.prog 8 #[.int .i64 n, v] w (MadeP w n) := by
  have hnw := pf_New_any n w h
  have hmix := pf_mixed
  obtain ⟨ao, cap, rfl, hlc, hcm, hcells⟩ := hr
  have hlm : l.length ≤ 9223372036854775807 := by unfold maxLen at hcm; omega
  clear hcm
  go_enter Try.func8, Try.ntmps8
  go_wp2_with fail
  go_at_call 21
  refine hnw.mono ?_
  clear hnw
  rintro e w1 ⟨p, g, rfl, hP, hp, hg, hb1⟩
  have hsz1 := hb1.size
  have hal : Below w1.heap.size w1 (w1.alloc (.cells #[.int .i64 n, .int .i64 0, .slice none 0 0, .int .i64 0] 61)) := (Below.refl _ _).alloc (Nat.le_refl _) _
  have hX0 : XS w.heap.size (w1.alloc (.cells #[.int .i64 n, .int .i64 0, .slice none 0 0, .int .i64 0] 61)) p g w1.heap.size 0 [(0, n)] 0 n [] 0 := XS_new h (hP.kept hal) hp hg hsz1 (heap_alloc_new w1 _)
  have hb2 : Below w.heap.size w (w1.alloc (.cells #[.int .i64 n, .int .i64 0, .slice none 0 0, .int .i64 0] 61)) := hb1.trans (hal.mono hsz1)
  obtain ⟨q, hq⟩ : ∃ q, q = w1.heap.size := ⟨_, rfl⟩
  obtain ⟨w2, hw2⟩ : ∃ w2, w2 = (w1.alloc (.cells #[.int .i64 n, .int .i64 0, .slice none 0 0, .int .i64 0] 61)) := ⟨_, rfl⟩
  clear hP hal hb1 hsz1
  go_wp2_with fail
  rw [← hw2, ← hq] at hX0
  rw [← hw2] at hb2
  rw [← hw2, ← hq]
  replace hw2 := Lib.hid hw2
  replace hq := Lib.hid hq
  clear h hp hg
  go_loopw [9] (fun ii wr => ∃ (k j g : Nat) (L : List (Int × Int)) (E : List Sp) (ver : Int), k ≤ l.length ∧ k ≤ 15 ∧ j ≤ k ∧ ii = .int .i64 k ∧ Hid (XS w.heap.size wr p g q j L 0 n E ver) ∧ Hid (Below w.heap.size w wr)) (fun ii _ => 15 - (intOf ii).toNat)
  case atStart => exact ⟨0, 0, g, _, _, _, Nat.zero_le _, Nat.zero_le _, Nat.zero_le _, rfl, hX0, hb2⟩
  case round =>
    obtain ⟨k, j, g3, L, E, ver, hkl, hk30, hjk, rfl, hX, hb⟩ := hrel
    clear hX0 hb2
    by_cases hlt : k < l.length
    · have d1 : decide ((k : Int) < (l.length : Int)) = true := decide_eq_true (by omega)
      by_cases hlt3 : k < 15
      · have d2 : decide ((k : Int) < 15) = true := decide_eq_true (by omega)
        obtain ⟨b, off, rfl, hbw, hcell⟩ := hcells (by omega)
        obtain ⟨s, hs⟩ : ∃ s, l[k]? = some s := ⟨_, List.getElem?_eq_getElem hlt⟩
        obtain ⟨c0, c1, c2⟩ := span_cellsA hcell hs
        have hcr := Lib.hid (show w.cell? ⟨b, off + k * 3, none⟩ = some (.int .i64 s.a) ∧ w.cell? ⟨b, off + k * 3 + 1, none⟩ = some (.int .i64 s.b) ∧ w.cell? ⟨b, off + k * 3 + 2, none⟩ = some (.int .i64 s.n) from ⟨c0, c1, c2⟩)
        rw [← hb.out.cell (p := ⟨b, _, none⟩) hbw] at c0 c1 c2
        obtain ⟨sa, sb, sn⟩ := s
        dsimp only at c0 c1 c2 hcr
        have hw3 : IntKind.i64.wrap ((k : Int) + 1) = (k : Int) + 1 := IntWalk.i64_in _ (by omega)
        have b1 : (0 : Int) ≤ k := by omega
        have b2 : (k : Int) < (l.length : Int) := by omega
        clear hcell hcells hs
        by_cases hn1 : 0 ≤ sn
        · by_cases hn2 : sn ≤ 64
          · have hw4 : IntKind.i64.wrap (-sn) = -sn := IntWalk.i64_in _ (by omega)
            have hX1 := hX.out
            have hres := Reserve_any sa sb sn ⟨hn1, hn2⟩ hX1.can hX1.now.1 hX1.fr (by have := hX1.v; omega) (by have := hX1.ll; omega) hX1.x
            clear hX1
            go_wp2_with fail
            go_at_call 22
            refine hres.mono ?_
            clear hres
            intro e w5 hp3
            obtain ⟨v5, rfl, hp3⟩ : ∃ v5, e = .returned v5 ∧ AddPost wr p g3 L ver 0 (raw n E) sa sb (-sn) (.returned v5) w5 := by
              obtain ⟨r, dv, f', g', L', h1, h2⟩ := hp3
              exact ⟨_, h1, r, dv, f', g', L', rfl, h2⟩
            have hO := hp3.offs
            have hy5 := hX.out.y.off hX.out.x hO
            have hb5 := hb.out.trans (hO.below hX.out.bp hX.out.bg hX.out.size)
            have hadd : Hid (∀ W, Below w5.heap.size w5 W → Calls Try.prog 23 #[.pointer (some ⟨q, 0, none⟩), .int .i64 sa, .int .i64 sb, .int .i64 (-sn)] W (PAddPost w.heap.size W q n 0 E ver sa sb (-sn))) := fun W hW => PAdd_any sa sb (-sn) (hy5.kept hW) hX.out.ok (by have := hX.out.el; omega) hX.out.F hX.out.now (by have := hX.out.v; omega)
            have hb5' := Lib.hid hb5
            have hc5 := hcr.out
            rw [← hb5.cell (p := ⟨b, _, none⟩) hbw] at hc5
            rw [← hb5.cell (p := ⟨b, off + k * 3 + 1, none⟩) hbw, ← hb5.cell (p := ⟨b, off + k * 3 + 2, none⟩) hbw] at hc5
            obtain ⟨t0, t1, t2⟩ := hc5
            replace t0 := Lib.hid t0
            replace t1 := Lib.hid t1
            replace t2 := Lib.hid t2
            have hlb : Hid (b < w5.heap.size) := by have := hb5.size; show b < _; omega
            replace hp3 := Lib.hid hp3
            clear hy5 hb5 hO c0 c1 c2 hcr
            obtain ⟨r5, e5, hp5⟩ : ∃ r5 : Int, v5 = .int .i64 r5 ∧ True := by
              obtain ⟨r, dv, f', g', L', h1, h2⟩ := hp3.out
              injection h1 with h1
              exact ⟨r, h1, trivial⟩
            have e6 := Lib.hid e5
            subst e5
            go_upto_region 10 with fail
            refine Reg.region_mk 17 74 [[], [false], [false, false], [false, true, true], [false, true, true, true], [false, true, true, true, true], [false, false, false, false, false, false], [false, false, false, false, false, false, false], [false, false, false, false, false, false, true, true], [false, false, false, false, false, false, true, true, true], [false, false, false, false, false, false, true, true, true, true], [false, false, false, false, false, false, false, false, false, false, false], [false, false, false, false, false, false, false, false, false, false, false, false], [false, false, false, false, false, false, false, false, false, false, false, true, true], [false, false, false, false, false, false, false, false, false, false, false, true, true, true], [false, false, false, false, false, false, false, false, false, false, false, true, true, true, true], [false, false, false, false, false, false, false, false, false, false, false, true, true, true, true, true]] [0, 0, 0, 0, 0, 1, 0, 0, 0, 0, 1, 0, 0, 0, 0, 1, 0]
              [.pure, .pure, .pure, .pure, .pure, .minor Unit () (fun _ => .int .i64 sa) (fun _ _ => True), .pure, .pure, .pure, .pure, .minor Unit () (fun _ => .int .i64 sb) (fun _ _ => True), .pure, .pure, .pure, .pure, .minor Unit () (fun _ => .int .i64 sn) (fun _ _ => True), .pure]
              (fun W => Below w5.heap.size w5 W) (fun _ _ => True) (fun a b => Below a.heap.size a b) (by kernel_rfl) (by kernel_rfl) rfl rfl (fun vs a b h hs => trivial) ?_ ?_ ?_ ?_ ?_ ?_
            · intro a b he hb; exact hb.trans (Below.mono he hb.size)
            · intro a b he hb; exact hb.trans (Below.mono he hb.size)
            · exact ⟨trivial, trivial, trivial, trivial, trivial, ⟨fun _ _ _ _ _ => trivial, fun _ _ _ _ _ => trivial⟩, trivial, trivial, trivial, trivial, ⟨fun _ _ _ _ _ => trivial, fun _ _ _ _ _ => trivial⟩, trivial, trivial, trivial, trivial, ⟨fun _ _ _ _ _ => trivial, fun _ _ _ _ _ => trivial⟩, trivial, trivial⟩
            · exact ⟨rfl, rfl, rfl, Nat.le_refl _, fun _ _ => rfl⟩
            · trivial
            dsimp only [Reg.mk, List.zip, List.zipWith, List.take]
            repeat (refine' Reg.pass_is _ (by rfl) (fun wz => ?_) ?_; rotate_left; (go_simp; first | rfl | rw [if_neg (by omega)]); simp only [Act.put, List.setIfInBounds_toArray, List.set_cons_zero, List.set_cons_succ]; (try simp only [List.nil_append]); (try simp only [List.cons_append]); (try simp only [id]))
            refine Reg.pass_minor (by rfl) (fun wz hI hF => ?_) (fun r5 => ?_)
            · unfold Reg.One
              have q0 := (hI.cell (p := ⟨b, off + k * 3, none⟩) hlb.out).trans t0.out
              go_wp2_with fail
              first | exact ⟨_, rfl, rfl, Reg.Ext.refl _⟩ | exact ⟨_, rfl, ⟨(), rfl, trivial⟩, Reg.Ext.refl _⟩
            simp only [Act.put, List.setIfInBounds_toArray, List.set_cons_zero, List.set_cons_succ]; (try simp only [List.nil_append]); (try simp only [List.cons_append]); (try simp only [id])
            repeat (refine' Reg.pass_is _ (by rfl) (fun wz => ?_) ?_; rotate_left; (go_simp; first | rfl | rw [if_neg (by omega)]); simp only [Act.put, List.setIfInBounds_toArray, List.set_cons_zero, List.set_cons_succ]; (try simp only [List.nil_append]); (try simp only [List.cons_append]); (try simp only [id]))
            refine Reg.pass_minor (by rfl) (fun wz hI hF => ?_) (fun r10 => ?_)
            · unfold Reg.One
              have q0 := (hI.cell (p := ⟨b, off + k * 3 + 1, none⟩) hlb.out).trans t1.out
              go_wp2_with fail
              first | exact ⟨_, rfl, rfl, Reg.Ext.refl _⟩ | exact ⟨_, rfl, ⟨(), rfl, trivial⟩, Reg.Ext.refl _⟩
            simp only [Act.put, List.setIfInBounds_toArray, List.set_cons_zero, List.set_cons_succ]; (try simp only [List.nil_append]); (try simp only [List.cons_append]); (try simp only [id])
            repeat (refine' Reg.pass_is _ (by rfl) (fun wz => ?_) ?_; rotate_left; (go_simp; first | rfl | rw [if_neg (by omega)]); simp only [Act.put, List.setIfInBounds_toArray, List.set_cons_zero, List.set_cons_succ]; (try simp only [List.nil_append]); (try simp only [List.cons_append]); (try simp only [id]))
            refine Reg.pass_minor (by rfl) (fun wz hI hF => ?_) (fun r15 => ?_)
            · unfold Reg.One
              have q0 := (hI.cell (p := ⟨b, off + k * 3 + 2, none⟩) hlb.out).trans t2.out
              go_wp2_with fail
              first | exact ⟨_, rfl, rfl, Reg.Ext.refl _⟩ | exact ⟨_, rfl, ⟨(), rfl, trivial⟩, Reg.Ext.refl _⟩
            simp only [Act.put, List.setIfInBounds_toArray, List.set_cons_zero, List.set_cons_succ]; (try simp only [List.nil_append]); (try simp only [List.cons_append]); (try simp only [id])
            repeat (refine' Reg.pass_is _ (by rfl) (fun wz => ?_) ?_; rotate_left; (go_simp; first | rfl | rw [if_neg (by omega)]); simp only [Act.put, List.setIfInBounds_toArray, List.set_cons_zero, List.set_cons_succ]; (try simp only [List.nil_append]); (try simp only [List.cons_append]); (try simp only [id]))
            refine Reg.pass_end ?_
            intro w6 HI _ HFx
            clear HFx
            dsimp only [List.drop]
            have hadd6 := hadd.out w6 HI
            replace HI := Lib.hid HI
            clear hadd
            go_wp2_with fail
            go_at_call 23
            refine hadd6.mono ?_
            clear hadd6
            intro e w7 hp7
            obtain ⟨r7, dv7, g7, L7, E7, _, rfl, hX7, _, hb7⟩ := hX.out.added (hp3.out.ext HI.out) hp7
            have hb8 := Lib.hid (hb.out.trans hb7)
            replace hX7 := Lib.hid hX7
            clear hp7 hp3 hb7 hX hb HI hb5'
            go_wp2_with fail
            go_roundw
            case rel => exact ⟨k + 1, j + 1, g7, L7, E7, _, by omega, by omega, by omega, by go_num, hX7, hb8⟩
            case measure => simp [intOf]; omega
          · go_wp2_with fail
            go_roundw
            case rel => exact ⟨k + 1, j, g3, L, E, ver, by omega, by omega, by omega, by go_num, hX, hb⟩
            case measure => simp [intOf]; omega
        · go_wp2_with fail
          go_roundw
          case rel => exact ⟨k + 1, j, g3, L, E, ver, by omega, by omega, by omega, by go_num, hX, hb⟩
          case measure => simp [intOf]; omega
      · have d2 : decide ((k : Int) < 15) = false := decide_eq_false (by omega)
        have hfin : Hid (MadeP w n (.returned (.tuple #[.pointer (some ⟨p, 0, none⟩), .pointer (some ⟨q, 0, none⟩)])) wr) := ⟨p, g3, q, j, L, E, ver, rfl, by omega, hX.out, hb.out⟩
        clear hX hb hcells
        go_wp2_with fail
        go_ret2
        exact hfin.out
    · have d1 : decide ((k : Int) < (l.length : Int)) = false := decide_eq_false (by omega)
      have hfin : Hid (MadeP w n (.returned (.tuple #[.pointer (some ⟨p, 0, none⟩), .pointer (some ⟨q, 0, none⟩)])) wr) := ⟨p, g3, q, j, L, E, ver, rfl, by omega, hX.out, hb.out⟩
      clear hX hb hcells
      go_wp2_with fail
      go_ret2
      exact hfin.out

end Go.Proofs.Ytbnpeicmbbgboaa
