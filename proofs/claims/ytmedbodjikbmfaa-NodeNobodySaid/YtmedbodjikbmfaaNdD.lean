/-
  Own walks: the document's table of nodes: take.
-/
import Derived.Test.YtmedbodjikbmfaaNdC
import Derived.Test.YtmedbodjikbmfaaNdM
import Derived.Test.YtmedbodjikbmfaaInts
import Derived.Test.YtmedbodjikbmfaaOwn
import Derived.Test.YtmedbodjikbmfaaRow
import Derived.Test.YtmedbodjikbmfaaOwnK
import Derived.OwnWalk
import Derived.RegionTactic
import Derived.ChangeAlike
namespace Go.Proofs.Ytmedbodjikbmfaa
open Go.RowKit Go.Sort Go.Lib

theorem infoInt : (Try.prog.info? 3).map (fun i => (i.zero, i.size, i.bytes)) = some (some (.int .i64 0), 1, 8) := by kernel_rfl
theorem nV_length (l : List Int) : (nV l).length = l.length * 1 := by simp [nV]
theorem own_kept {w w' : World} {base : Nat} {e : TypeId} {size : Nat} {v : Value} {n : Nat} {xs : List Value} (h : w.ownsRow base e size v n xs) (hb : Below w.heap.size w w') : w'.ownsRow base e size v n xs :=
  ownsRow_below h hb fun k hk => (h.lt k hk).2
theorem nint_cell {w : World} {base g n cap : Nat} {e : TypeId} {l : List Int} (ho : w.ownsRow base e 1 (.slice (some ⟨g, 0, none⟩) n cap) n (nV l)) {i : Nat} (hi : i < l.length) : w.cell? ⟨g, i, none⟩ = some (.int .i64 (l.getD i 0)) := by
  have c0 := ho.cells (g := g) rfl i _ (nV_get hi)
  rw [Go.WideShapes.add_plain] at c0
  simpa using c0

/-- As it was, but for one block and what is new. -/
structure OffG (h : Nat) (w w' : World) : Prop where
  os : w'.os = w.os
  tape : w'.tape = w.tape
  output : w'.output = w.output
  size : w.heap.size ≤ w'.heap.size
  block : ∀ k, k < w.heap.size → k ≠ h → w'.heap[k]? = w.heap[k]?
theorem OffG.of_below {h : Nat} {w w' : World} (b : Below w.heap.size w w') : OffG h w w' := ⟨b.os, b.tape, b.output, b.size, fun k hk _ => b.block k hk⟩
theorem OffG.of_off {h : Nat} {w w' : World} (b : OffB h w w') : OffG h w w' := ⟨b.os, b.tape, b.output, Nat.le_of_eq b.size.symm, fun k _ hk => b.block k hk⟩
theorem OffG.trans {h : Nat} {w w' w'' : World} (a : OffG h w w') (b : OffG h w' w'') : OffG h w w'' :=
  ⟨b.os.trans a.os, b.tape.trans a.tape, b.output.trans a.output, Nat.le_trans a.size b.size, fun k hk hn => (b.block k (Nat.lt_of_lt_of_le hk a.size) hn).trans (a.block k hk hn)⟩
theorem OffG.below {B h : Nat} {w w' : World} (a : OffG h w w') (hB : B ≤ h) (hs : B ≤ w.heap.size) : Below B w w' := ⟨a.os, a.tape, a.output, a.size, fun k hk => a.block k (by omega) (by omega)⟩

section
variable {w w' : World} {q h : Nat} {l : List Int}

theorem OffB.drew (b : OffB h w w') : OffB h w w'.drew := ⟨b.os, b.tape, b.output, b.size, b.block⟩
theorem NW.drew (hw : NW w q h l) : NW w.drew q h l := by
  obtain ⟨cap, a, b⟩ := hw
  exact ⟨cap, a, b.drew⟩
theorem NW_kept (hw : NW w q h l) (hb : Below w.heap.size w w') : NW w' q h l := by
  obtain ⟨cap, F⟩ := hw.facts
  exact ⟨cap, (hb.block q F.ql).trans F.obj, own_kept F.own hb⟩

def TakePost (l : List Int) (n : Int) (q h : Nat) (w : World) (e : Ending) (w' : World) : Prop := OffG h w w' ∧ ∃ (s : Nat) (x : Int) (l' : List Int), e = .returned (.tuple #[.int .u64 s, .int .i64 x]) ∧ TakeR l n s x l' ∧ NW w' q h l'

theorem take_arg (n : Int) (hn : n < 1) (hw : NW w q h l) :
    Calls Try.prog 24 #[.pointer (some ⟨q, 0, none⟩), .int .i64 n] w (TakePost l n q h w) := by
  have hg : Hid (TakePost l n q h w (.returned (.tuple #[.int .u64 0, .int .i64 1])) w) := ⟨OffG.of_below (Below.refl _ _), 0, 1, l, rfl, ⟨fun _ => ⟨rfl, rfl, rfl⟩, fun hx => absurd hn (by omega), fun hx => absurd hn (by omega)⟩, hw⟩
  clear hw
  go_enter Try.func24, Try.ntmps24
  go_wp2_with fail
  go_ret2
  exact hg.out

set_option maxRecDepth 100000 in
set_option maxHeartbeats 4000000 in
theorem take_any (n : Int) (h1 : 1 ≤ n) (hn : n ≤ 9223372036854775807) (hw : NW w q h l) (hl : l.length ≤ 64) :
    Calls Try.prog 24 #[.pointer (some ⟨q, 0, none⟩), .int .i64 n] w (TakePost l n q h w) := by
  obtain ⟨i0, hi0, hz0, hz1, hz2⟩ := info_parts infoInt
  have hn1 : ¬ n < 1 := by omega
  go_enter Try.func24, Try.ntmps24
  go_wp2_with fail
  go_loopw [6, 7] (fun gg kk wr => ∃ (k : Nat) (ao : Option Addr) (cp : Nat), k ≤ l.length ∧ kk = .int .i64 k ∧ gg = .slice ao (idleL l k).length cp ∧ ((idleL l k).length : Int) ≤ n ∧ wr.ownsRow w.heap.size 3 1 (.slice ao (idleL l k).length cp) (idleL l k).length (nV (idleL l k)) ∧ Below w.heap.size w wr) (fun _ kk _ => 64 - (intOf kk).toNat)
  case atStart => exact ⟨0, none, 0, Nat.zero_le _, rfl, rfl, by show (0 : Int) ≤ n; omega, ⟨rfl, .inl ⟨rfl, rfl⟩⟩, Below.refl _ _⟩
  case round =>
    obtain ⟨k, ao, cp, hk, rfl, rfl, hgn, hown, hb⟩ := hrel
    have hwr := NW_kept hw hb
    obtain ⟨cap, F⟩ := hwr.facts
    have c0 := F.c0
    have hlenk := idleL_length l k
    have hcntk := cntK_le (isI l) k
    have hsz := hb.size
    obtain ⟨m, hm⟩ : ∃ m, m = (idleL l k).length := ⟨_, rfl⟩
    rw [← hm] at hown hgn hlenk
    rw [← hm]
    by_cases hgo : k < l.length ∧ (m : Int) < n
    · obtain ⟨hlt, hmn⟩ := hgo
      have hw2 : IntKind.i64.wrap ((k : Int) + 1) = (k : Int) + 1 := IntWalk.i64_in _ (by omega)
      have b1 : (0 : Int) ≤ k := by omega
      have b2 : (k : Int) < (l.length : Int) := by omega
      have b2' : ¬ ((l.length : Int) ≤ (k : Int)) := by omega
      have cc := F.cell hlt
      obtain ⟨x, hx⟩ : ∃ x, x = l.getD k 0 := ⟨_, rfl⟩
      rw [← hx] at cc
      by_cases e1 : x = 1
      · have hid := idleL_yes (hx.symm.trans e1)
        subst e1
        have hm64 : m ≤ 64 := by omega
        replace hlenk := Lib.hid hlenk
        replace hx := Lib.hid hx
        replace hm := Lib.hid hm
        clear F hw
        go_wp2_with (at_builtin; go_must (refine wpList_append_own _ rfl (.tmp 34) (.tmp 36) 30 rfl w.heap.size 3 i0 (.int .i64 0) 1 8 Try.underlying30 hi0 hz0 hz1 hz2 rfl (by decide) (.slice ao m cp) m (nV (idleL l k)) rfl (hown.alloc _) ⟨wr.heap.size, 0, none⟩ 1 1 [.int .i64 k] rfl rfl ?c0 ?c1 ?c2 ?c3 ?c4 ?c5))
        case c1 => simp [Value.oneCell']
        case c2 => unfold maxLen; omega
        case c3 => omega
        case c4 => first | omega | (simp; omega)
        case c5 =>
          intro v' w2 hown3 hgrow _
          have hb2 : Below w.heap.size w w2 := (hb.alloc hsz _).grown hgrow (by simp; omega) (fun z hz => (hown.lt z hz).1)
          obtain ⟨ao2, cp2, rfl, _⟩ := own_shape hown3
          have hm3 : Hid (m + 1 = (idleL l (k + 1)).length) := by show _ = _; rw [hid, List.length_append, List.length_singleton, hm.out]
          have hown4 : w2.ownsRow w.heap.size 3 1 (.slice ao2 (m + 1) cp2) (m + 1) (nV (idleL l (k + 1))) := by
            have e1 : nV (idleL l (k + 1)) = nV (idleL l k) ++ [.int .i64 k] := by rw [hid]; simp [nV]
            rw [e1]
            exact hown3
          clear hown3 hgrow hown hb hid
          go_wp2_with fail
          go_roundw
          case rel => exact ⟨k + 1, ao2, cp2, by omega, by go_num, by rw [← hm3.out], by rw [← hm3.out]; omega, by rw [← hm3.out]; exact hown4, hb2⟩
          case measure => simp [intOf]; omega
      · have hid : Hid (idleL l (k + 1) = idleL l k) := idleL_no (by rw [← hx]; exact e1)
        have n1 : (x == 1) = false := by simpa using e1
        replace e1 := Lib.hid e1
        replace hx := Lib.hid hx
        replace hm := Lib.hid hm
        clear F hw hlenk
        go_wp2_with fail
        go_roundw
        case rel => exact ⟨k + 1, ao, cp, by omega, by go_num, by rw [hid.out, ← hm.out], by rw [hid.out, ← hm.out]; exact hgn, by rw [hid.out, ← hm.out]; exact hown, hb⟩
        case measure => simp [intOf]; omega
    · by_cases hmn : (m : Int) < n
      · obtain rfl : k = l.length := by omega
        have hg : Hid (TakePost l n q h w (.returned (.tuple #[.int .u64 0, .int .i64 6])) wr) := ⟨OffG.of_below hb, 0, 6, l, rfl, ⟨fun hx => by omega, fun _ _ => ⟨rfl, rfl, rfl⟩, fun _ hx => by omega⟩, hwr⟩
        clear F hw hlenk hcntk hgo
        replace hm := Lib.hid hm
        go_wp2_with fail
        go_ret2
        exact hg.out
      · obtain rfl : n = m := by omega
        have hce : (cntK (isI l) k : Int) = (m : Int) := by omega
        have hne : (m : Int) ≤ cntK (isI l) l.length := by have := cntM_mono (isI l) hk; omega
        have hset := memS_take hce
        have htk := sets_take hce
        obtain ⟨gs, hgs⟩ : ∃ gs, gs = idleL l k := ⟨_, rfl⟩
        have hmem : ∀ x, x ∈ gs → ∃ i : Nat, x = i ∧ i < l.length := fun x hx => by
          rw [hgs] at hx
          obtain ⟨i, _, h3, h4⟩ := (idleL_mem l k x).1 hx
          exact ⟨i, h3, isI_lt h4⟩
        rw [← hgs] at hset htk hown hm
        obtain ⟨g, cp', e0, hbg, hgl, hmc, hcm, _⟩ := own_holds hown (by intro e; injection e; omega)
        cases e0
        have hhl := F.hl
        have hgh : g ≠ h := by
          have := hw.facts
          obtain ⟨_, F0⟩ := this
          have := F0.hl
          omega
        have hm64 : m ≤ 64 := by omega
        have hfin : Hid (∀ w3, OffB h wr w3 → NW w3 q h (setsL l gs) → TakePost l m q h w (.returned (.tuple #[.int .u64 (ofN (memS gs)), .int .i64 0])) w3) := fun w3 ho hn3 => by
          rw [htk] at hn3
          exact ⟨(OffG.of_below hb).trans (OffG.of_off ho), _, 0, _, rfl, ⟨fun hx => by omega, fun _ hx => by omega, fun _ _ => ⟨hset, rfl, rfl⟩⟩, hn3⟩
        rename World => wo
        have hcase : k < l.length ∨ k = l.length := by omega
        have b3 : ¬ ((m : Int) < (m : Int)) := by omega
        replace hgs := Lib.hid hgs
        replace hm := Lib.hid hm
        clear F hw hlenk hcntk hgo hce hne hset htk hb hhl hn1 h1
        have hk64 : k ≤ 64 := by omega
        rcases hcase with hlt | hlt
        · have b2 : (k : Int) < (l.length : Int) := by omega
          go_wp2_with fail
          go_loopw [8] (fun ii wr => ∃ (i : Nat), i ≤ m ∧ ii = .int .i64 i ∧ OffB h wo wr ∧ NW wr q h (setsL l (gs.take i))) (fun ii _ => 64 - (intOf ii).toNat)
          case atStart => exact ⟨0, Nat.zero_le _, rfl, OffB.refl _ _, hwr⟩
          case round =>
            obtain ⟨i, hi, rfl, ho3, hn3⟩ := hrel
            obtain ⟨cap3, F3⟩ := hn3.facts
            have c0 := F3.c0
            have hlen3 := setsL_length (gs.take i) l
            rw [hlen3] at c0
            have hown3 : wr.ownsRow w.heap.size 3 1 (.slice (some ⟨g, 0, none⟩) m cp) m (nV gs) := ownsRow_block hown fun k hk => by cases hk; exact ho3.block g hgh
            by_cases him : i < m
            · have hig : i < gs.length := by rw [← hm.out]; exact him
              obtain ⟨z, hz, hzl⟩ := hmem (gs.getD i 0) (by rw [List.getD_eq_getElem?_getD, List.getElem?_eq_getElem hig]; exact List.getElem_mem hig)
              have cg := nint_cell hown3 hig
              rw [hz] at cg
              have ch := F3.cell (i := z) (by rw [hlen3]; exact hzl)
              have fz := F3.own.frozenAt z
              have hnext : Hid (OffB h wo (wr.setCell ⟨h, z, none⟩ (.int .i64 2)) ∧ NW (wr.setCell ⟨h, z, none⟩ (.int .i64 2)) q h (setsL l (gs.take (i + 1)))) := by
                refine ⟨ho3.setCell, ?_⟩
                rw [take_more hig, setsL_snoc, hz]
                have := NW_set z 2 hn3
                simpa using this
              have d1 : (0 : Int) ≤ z := by omega
              have d2 : (z : Int) < (l.length : Int) := by omega
              have d3 : (0 : Int) ≤ i := by omega
              have d4 : (i : Int) < (m : Int) := by omega
              have hw2 : IntKind.i64.wrap ((i : Int) + 1) = (i : Int) + 1 := IntWalk.i64_in _ (by omega)
              replace hz := Lib.hid hz
              clear F3 hn3 ho3 hown3 hown hfin hmem
              go_wp2_with fail
              go_region
              go_wp2_with fail
              go_roundw
              case rel => exact ⟨i + 1, by omega, by go_num, hnext.out.1.drew, hnext.out.2.drew⟩
              case measure => simp [intOf]; omega
            · obtain rfl : i = m := by omega
              have hg' : Hid (TakePost l i q h w (.returned (.tuple #[.int .u64 (ofN (memS gs)), .int .i64 0])) wr) := hfin.out wr ho3 (by rw [List.take_of_length_le (by rw [← hm.out]; exact Nat.le_refl _)] at hn3; exact hn3)
              have hat : IntsAt wr (.slice (some ⟨g, 0, none⟩) i cp) gs := ⟨⟨some ⟨g, 0, none⟩, cp, by rw [← hm.out], by rw [← hm.out]; exact hmc, hcm, fun _ => ⟨g, 0, rfl, (hown3.lt g rfl).2, fun j hj => by rw [Nat.zero_add]; exact nint_cell hown3 hj⟩⟩, fun x hx => by obtain ⟨j, h3, h4⟩ := hmem x hx; omega⟩
              have hof := of_fn _ gs wr hat
              obtain ⟨u, hu⟩ : ∃ u, u = ofN (memS gs) := ⟨_, rfl⟩
              rw [← hu] at hof hg'
              replace hu := Lib.hid hu
              clear hat
              clear F3 hn3 ho3 hown3 hown hfin hmem
              go_wp2_with (go_at_call 28; go_must (refine hof.mono ?_); rintro e w5 ⟨rfl, rfl⟩)
              go_ret2
              exact hg'.out
        · subst hlt
          go_wp2_with fail
          go_loopw [8] (fun ii wr => ∃ (i : Nat), i ≤ m ∧ ii = .int .i64 i ∧ OffB h wo wr ∧ NW wr q h (setsL l (gs.take i))) (fun ii _ => 64 - (intOf ii).toNat)
          case atStart => exact ⟨0, Nat.zero_le _, rfl, OffB.refl _ _, hwr⟩
          case round =>
            obtain ⟨i, hi, rfl, ho3, hn3⟩ := hrel
            obtain ⟨cap3, F3⟩ := hn3.facts
            have c0 := F3.c0
            have hlen3 := setsL_length (gs.take i) l
            rw [hlen3] at c0
            have hown3 : wr.ownsRow w.heap.size 3 1 (.slice (some ⟨g, 0, none⟩) m cp) m (nV gs) := ownsRow_block hown fun k hk => by cases hk; exact ho3.block g hgh
            by_cases him : i < m
            · have hig : i < gs.length := by rw [← hm.out]; exact him
              obtain ⟨z, hz, hzl⟩ := hmem (gs.getD i 0) (by rw [List.getD_eq_getElem?_getD, List.getElem?_eq_getElem hig]; exact List.getElem_mem hig)
              have cg := nint_cell hown3 hig
              rw [hz] at cg
              have ch := F3.cell (i := z) (by rw [hlen3]; exact hzl)
              have fz := F3.own.frozenAt z
              have hnext : Hid (OffB h wo (wr.setCell ⟨h, z, none⟩ (.int .i64 2)) ∧ NW (wr.setCell ⟨h, z, none⟩ (.int .i64 2)) q h (setsL l (gs.take (i + 1)))) := by
                refine ⟨ho3.setCell, ?_⟩
                rw [take_more hig, setsL_snoc, hz]
                have := NW_set z 2 hn3
                simpa using this
              have d1 : (0 : Int) ≤ z := by omega
              have d2 : (z : Int) < (l.length : Int) := by omega
              have d3 : (0 : Int) ≤ i := by omega
              have d4 : (i : Int) < (m : Int) := by omega
              have hw2 : IntKind.i64.wrap ((i : Int) + 1) = (i : Int) + 1 := IntWalk.i64_in _ (by omega)
              replace hz := Lib.hid hz
              clear F3 hn3 ho3 hown3 hown hfin hmem
              go_wp2_with fail
              go_region
              go_wp2_with fail
              go_roundw
              case rel => exact ⟨i + 1, by omega, by go_num, hnext.out.1.drew, hnext.out.2.drew⟩
              case measure => simp [intOf]; omega
            · obtain rfl : i = m := by omega
              have hg' : Hid (TakePost l i q h w (.returned (.tuple #[.int .u64 (ofN (memS gs)), .int .i64 0])) wr) := hfin.out wr ho3 (by rw [List.take_of_length_le (by rw [← hm.out]; exact Nat.le_refl _)] at hn3; exact hn3)
              have hat : IntsAt wr (.slice (some ⟨g, 0, none⟩) i cp) gs := ⟨⟨some ⟨g, 0, none⟩, cp, by rw [← hm.out], by rw [← hm.out]; exact hmc, hcm, fun _ => ⟨g, 0, rfl, (hown3.lt g rfl).2, fun j hj => by rw [Nat.zero_add]; exact nint_cell hown3 hj⟩⟩, fun x hx => by obtain ⟨j, h3, h4⟩ := hmem x hx; omega⟩
              have hof := of_fn _ gs wr hat
              obtain ⟨u, hu⟩ : ∃ u, u = ofN (memS gs) := ⟨_, rfl⟩
              rw [← hu] at hof hg'
              replace hu := Lib.hid hu
              clear hat
              clear F3 hn3 ho3 hown3 hown hfin hmem
              go_wp2_with (go_at_call 28; go_must (refine hof.mono ?_); rintro e w5 ⟨rfl, rfl⟩)
              go_ret2
              exact hg'.out
end

end Go.Proofs.Ytmedbodjikbmfaa
