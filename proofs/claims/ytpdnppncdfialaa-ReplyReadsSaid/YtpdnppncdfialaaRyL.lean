/-
  Own walk: what bytes are read as, as a reply, by the program.
-/
import Derived.Test.YtpdnppncdfialaaRyJ
import Derived.Test.YtpdnppncdfialaaRyK
namespace Go.Proofs.Ytpdnppncdfialaa
open Go.RowKit Go.Lib

/-- Nine numbers: those that were read, and zeroes. -/
def arrZ (Z : List Int) : List Value := (Z ++ List.replicate (9 - Z.length) 0).map fun z => Value.int .i64 z
theorem arrZ_len {Z : List Int} (h : Z.length ≤ 9) : (arrZ Z).length = 9 := by
  unfold arrZ
  rw [List.length_map, List.length_append, List.length_replicate]
  omega
theorem arrZ_skip {Z : List Int} (h : Z.length < 9) : arrZ (Z ++ [0]) = arrZ Z := by
  unfold arrZ
  rw [List.length_append, List.length_singleton, List.append_assoc]
  have e : 9 - Z.length = 9 - (Z.length + 1) + 1 := by omega
  rw [e, List.replicate_succ]
  rfl
theorem arrZ_at {Z : List Int} (h : Z.length < 9) : (arrZ Z)[Z.length]? = some (.int .i64 0) := by
  unfold arrZ
  rw [List.getElem?_map, List.getElem?_append_right (Nat.le_refl _), Nat.sub_self]
  have e : 9 - Z.length = 9 - (Z.length + 1) + 1 := by omega
  rw [e, List.replicate_succ]
  rfl
theorem arrZ_set {Z : List Int} (h : Z.length < 9) (y : Int) : (arrZ Z).toArray.setIfInBounds Z.length (.int .i64 y) = (arrZ (Z ++ [y])).toArray := by
  rw [List.setIfInBounds_toArray]
  congr 1
  unfold arrZ
  rw [List.length_append, List.length_singleton, List.append_assoc]
  have e : 9 - Z.length = 9 - (Z.length + 1) + 1 := by omega
  rw [e, List.replicate_succ, List.map_append, List.map_append, List.set_append_right _ _ (by simp)]
  simp
theorem arrZ_all {Z : List Int} {r : Ry} (h : numsY r = Z) : (arrZ Z).toArray = cellsY r := by subst h; rfl

/-- These nine in a block. -/
def LAt (w : World) (b : Nat) (Z : List Int) : Prop := w.heap[b]? = some (.cells (arrZ Z).toArray 40 (0, 0))
theorem LAt.cell {w : World} {b k : Nat} {Z : List Int} (h : LAt w b Z) (hk : Z.length = k) (hk9 : k < 9) : w.cell? ⟨b, k, none⟩ = some (.int .i64 0) := by
  subst hk
  simp [World.cell?, show w.heap[b]? = _ from h, arrZ_at hk9]
theorem LAt.cell_last {w : World} {b k : Nat} {Z : List Int} {y : Int} (h : LAt w b (Z ++ [y])) (hk : Z.length = k) : w.cell? ⟨b, k, none⟩ = some (.int .i64 y) := by
  subst hk
  have : (arrZ (Z ++ [y]))[Z.length]? = some (.int .i64 y) := by
    unfold arrZ
    rw [List.getElem?_map, List.append_assoc, List.getElem?_append_right (Nat.le_refl _), Nat.sub_self]
    rfl
  simp [World.cell?, show w.heap[b]? = _ from h, this]
theorem LAt.free {w : World} {b : Nat} {Z : List Int} (h : LAt w b Z) (j : Nat) : w.frozen? ⟨b, j, none⟩ = false := by simp [World.frozen?, show w.heap[b]? = _ from h]
theorem LAt.put {w : World} {b k : Nat} {Z : List Int} (h : LAt w b Z) (hk : Z.length = k) (hk9 : k < 9) (y : Int) : LAt (w.setCell ⟨b, k, none⟩ (.int .i64 y)) b (Z ++ [y]) := by
  subst hk
  have := heap_put (i := Z.length) h (.int .i64 y)
  rw [arrZ_set hk9] at this
  exact this
theorem LAt.skip {w : World} {b : Nat} {Z : List Int} (h : LAt w b Z) (hk : Z.length < 9) : LAt w b (Z ++ [0]) := by
  unfold LAt
  rw [arrZ_skip hk]
  exact h
theorem LAt.only {w w' : World} {b g : Nat} {Z : List Int} (h : LAt w b Z) (ho : Only g w w') (hg : b ≠ g) : LAt w' b Z := (ho.block b hg).trans h
theorem RU.other {w : World} {b g j : Nat} {v : Value} {o : Option (List UInt8)} (h : RU w b o) (hg : b ≠ g) : RU (w.setCell ⟨g, j, none⟩ v) b o := by
  have hx : (w.setCell ⟨g, j, none⟩ v).heap[b]? = w.heap[b]? := Below.heap_setCell _ _ _ _ hg
  cases o with
  | some l => exact ⟨hx.trans h.1, h.2⟩
  | none => obtain ⟨q, hq, h⟩ := h; exact ⟨q, hq, hx.trans h⟩

set_option maxHeartbeats 400000 in
theorem Read_row {w : World} {l : List UInt8} (v : Value) (h : RowAt encB 1 w v l) (hl : l.length ≤ 10000) : Calls Try.prog 16 #[v] w fun e w' => e = .returned (.pointer (some ⟨w.heap.size, 0, none⟩)) ∧ RU w' w.heap.size (some l) ∧ Reg.Ext w w' := by
  have hcv := conv_row h
  have HL := Lib.hid hl
  clear h hl
  go_enter Try.func16, Try.ntmps16
  go_wp2
  go_ret
  exact ⟨rfl, ⟨heap_alloc_new w _, HL.out⟩, (Below.refl _ _).alloc (Nat.le_refl _) _⟩

/-- A shift to the right of what is not below 0. -/
theorem shr64_nat (m k : Nat) : Op.shift .shr .i64 (m : Int) .i64 (k : Int) = pure (.int .i64 ((m / 2 ^ (min k 64) : Nat) : Int)) := by
  unfold Op.shift
  rw [if_neg (by omega)]
  have e : (m : Int).fdiv (2 ^ (min (k : Int).toNat IntKind.i64.bits)) = ((m / 2 ^ (min k 64) : Nat) : Int) := by
    have e0 : min (k : Int).toNat IntKind.i64.bits = min k 64 := by simp [IntKind.bits]
    rw [e0]
    have e1 : ((2 : Int) ^ (min k 64)) = ((2 ^ (min k 64) : Nat) : Int) := by simp
    rw [e1, Int.fdiv_eq_ediv_of_nonneg _ (Int.natCast_nonneg _)]
    simp
  simp only [e]

theorem aE_ryt : ∀ w, Sem.run Try.prog (isAgg 24) w = .ok true w := Try.isAgg24
theorem ret_ry {fn : Func} {q u : Tmp} {b : Nat} {tmps : Array Value} {w : World} {x : Ry} (h : fn.results = #[.cell q 24, .tmp u]) (ha : tmps.getD q undef = .pointer (some ⟨b, 0, none⟩)) (hb : RyAt w b x) :
    (results fn tmps).run Try.prog w = .ok (.tuple #[.agg (encY x).toArray, tmps.getD u undef]) w := by
  have h1 : Sem.run Try.prog (loadCells ⟨b, 0, none⟩ 9) w = .ok (encY x).toArray w := ry_load hb (encY_len x)
  rw [results_cell_tmp h, ha]
  simp only [loadVar, asAddr, Sem.run_bind, Sem.run_pure, Result.andThen_ok, aE_ryt, zE_ry, h1, if_true]
theorem same_cell {w : World} {b i : Nat} {v : Value} {cs : Array Value} {t : TypeId} {fz : Nat × Nat} (h : w.heap[b]? = some (.cells cs t fz)) (hv : cs[i]? = some v) : w.setCell ⟨b, i, none⟩ v = w := by
  have hlt := lt_of_at h
  have h3 : cs.setIfInBounds i v = cs := by
    refine Array.ext (by simp) fun q h4 h5 => ?_
    rw [Array.getElem_setIfInBounds]
    · by_cases eq : i = q
      · subst eq
        rw [Array.getElem?_eq_getElem h5] at hv
        rw [if_pos rfl]
        exact (Option.some.inj hv).symm
      · rw [if_neg eq]
  have e : ∀ F : Obj → Obj, F (.cells cs t fz) = .cells cs t fz → w.heap.modify b F = w.heap := fun F hF => by
    refine Array.ext (by simp) fun j h1 h2 => ?_
    rw [Array.getElem_modify]
    by_cases ej : b = j
    · subst ej
      rw [Array.getElem?_eq_getElem hlt] at h
      replace h := Option.some.inj h
      rw [if_pos rfl, h, hF]
    · rw [if_neg ej]
  unfold World.setCell
  rw [e _ (by simp [h3])]
theorem RyAt.zero {w : World} {g : Nat} {r : Ry} (h : RyAt w g r) (j : Nat) (u : Value) (hj : (encY r)[j]? = some u) : w.cell? ⟨g, j, none⟩ = some u ∧ w.frozen? ⟨g, j, none⟩ = false ∧ w.setCell ⟨g, j, none⟩ u = w := ⟨h.at j u hj, h.free j, same_cell h (by simpa using hj)⟩

theorem zE_arr : ∀ w, Sem.run Try.prog (Go.sizeOf 40) w = .ok 9 w := Try.sizeOf40

set_option maxRecDepth 1000000 in
set_option maxHeartbeats 400000 in
theorem Read_fn (v : Value) (l : List UInt8) (w : World) (hrow : RowAt encB 1 w v l) (hl : l.length ≤ 150) : Calls Try.prog 7 #[v] w fun e w' => ∃ x q, e = .returned (.tuple #[.agg (encY x).toArray, .int .i64 q]) ∧ ReadY l x q ∧ Below w.heap.size w w' := by
  obtain ⟨wA, hwA⟩ : ∃ wA, wA = w.alloc (.cells (encY zeroY).toArray 24) := ⟨_, rfl⟩
  have hbA : Below w.heap.size w wA := by rw [hwA]; exact (Below.refl _ _).alloc (Nat.le_refl _) _
  have hRA : RyAt wA w.heap.size zeroY := by rw [hwA]; exact heap_alloc_new w _
  have hsA : wA.heap.size = w.heap.size + 1 := by rw [hwA]; simp
  have hrow1 : RowAt encB 1 wA v l := by rw [hwA]; exact hrow.below ((Below.refl _ _).alloc (Nat.le_refl _) _)
  have hrd := Read_row v hrow1 (by omega)
  rw [hwA] at hrd
  simp only [encY, zeroY] at hrd hwA
  go_enter Try.func7, Try.ntmps7
  go_wp2_with fail
  go_at_call 16
  refine hrd.mono ?_
  clear hrd
  rw [← hwA]
  rintro e w1 ⟨rfl, hu1, he1⟩
  have hb1 : Below w.heap.size w w1 := hbA.trans (Below.mono he1 (by omega))
  have hR1 : RyAt w1 w.heap.size zeroY := hRA.below he1 (lt_of_at hRA)
  replace hwA := Lib.hid hwA
  rw [hsA] at hu1 ⊢
  clear he1 hRA hbA hsA hrow1
  go_wp2_with fail
  go_at_call 18
  have hB := Byte_un hu1
  refine hB.mono ?_
  clear hB
  clear hu1
  rintro e w2 ⟨c, o2, rfl, hy, hu2, on2⟩
  go_wp2_with fail
  go_at_call 17
  have hB := need_un ((c.toNat : Int) == 184) hu2
  refine hB.mono ?_
  clear hB
  clear hu2
  rintro e w3 ⟨rfl, hu3, on3⟩
  go_wp2_with fail
  go_at_call 19
  have hB := Num_un hu3
  refine hB.mono ?_
  clear hB
  clear hu3
  rintro e w4 ⟨x, o4, rfl, hn, hu4, on4⟩
  go_wp2_with fail
  go_at_call 17
  have hB := need_un (decide (x < 512)) hu4
  refine hB.mono ?_
  clear hB
  clear hu4
  rintro e w5 ⟨rfl, hu5, on5⟩
  obtain ⟨m, rfl, hm, hri⟩ := ri_start hy hn
  clear hy hn
  generalize (bif decide ((m : Int) < 512) then o4 else none) = o5 at *
  have hon : Only (w.heap.size + 1) w1 w5 := ((on2.trans on3).trans on4).trans on5
  have hR5 : RyAt w5 w.heap.size zeroY := (hon.block _ (by omega)).trans hR1
  have hs5 : w5.heap.size = w1.heap.size := hon.size
  have hb5 : Below w.heap.size w w5 := hb1.trans (hon.below (by omega))
  clear on2 on3 on4 on5 hon hb1 hR1
  replace hm := Lib.hid hm
  obtain ⟨wB, hwB⟩ : ∃ wB, wB = w5.alloc (.cells (arrZ []).toArray 40) := ⟨_, rfl⟩
  have hbB : Hid (Below w.heap.size w wB) := by show Below _ _ _; rw [hwB]; exact hb5.alloc hb5.size _
  have hRB : RyAt wB w.heap.size zeroY := by rw [hwB]; exact heap_past hR5
  have hLB : LAt wB w5.heap.size [] := by rw [hwB]; exact heap_alloc_new w5 _
  have hUB : RU wB (w.heap.size + 1) o5 := by rw [hwB]; exact hu5.below (Below.refl _ _ |>.alloc (Nat.le_refl _) _) hu5.lt
  have hgw : w.heap.size + 1 < w5.heap.size := hu5.lt
  clear hb5 hR5 hu5 hs5
  rw [show (arrZ []).toArray = #[.int .i64 0, .int .i64 0, .int .i64 0, .int .i64 0, .int .i64 0, .int .i64 0, .int .i64 0, .int .i64 0, .int .i64 0] from rfl] at hwB
  go_wp2_with fail
  rw [← hwB]
  replace hwB := Lib.hid hwB
  obtain ⟨g, hg⟩ : ∃ g, g = w5.heap.size := ⟨_, rfl⟩
  rw [← hg] at hLB hgw ⊢
  replace hg := Lib.hid hg
  replace hri := Lib.hid hri
  go_loopw [7, 22] (fun _ ii wr => ∃ (k : Nat) (Z : List Int) (o : Option (List UInt8)), k ≤ 9 ∧ ii = .int .i64 k ∧ Z.length = k ∧ Hid (RI l m k Z o) ∧ RU wr (w.heap.size + 1) o ∧ LAt wr g Z ∧ Hid (RyAt wr w.heap.size zeroY) ∧ Hid (Below w.heap.size w wr)) (fun _ ii _ => 9 - (intOf ii).toNat)
  case atStart => exact ⟨0, [], o5, Nat.zero_le _, rfl, rfl, hri, hUB, hLB, Lib.hid hRB, hbB⟩
  case round =>
    obtain ⟨k, Z, o, hk, rfl, hZ, hR, hU, hL, hY, hB⟩ := hrel
    by_cases hlt : k < 9
    · have b2 : (k : Int) < 9 := by omega
      have wi : IntKind.i64.wrap ((k : Int) + 1) = (k : Int) + 1 := by rw [IntKind.wrap_i64]; omega
      have hshr := shr64_nat m k
      rw [show min k 64 = k by omega] at hshr
      have hand : Go.bits BinOp.and IntKind.i64 ((m / 2 ^ k : Nat) : Int) 1 = ((m / 2 ^ k % 2 : Nat) : Int) := by
        have hd : m / 2 ^ k ≤ m := Nat.div_le_self _ _
        have := i64_and_nat (m / 2 ^ k) 1 (by have := hm.out; omega) (by decide)
        rw [Nat.and_one_is_mod] at this
        exact this
      have hq : (m : Int) / 2 ^ k = ((m / 2 ^ k : Nat) : Int) := by simp
      obtain ⟨D, hD⟩ : ∃ D, D = m / 2 ^ k := ⟨_, rfl⟩
      rw [← hD] at hshr hand hq
      by_cases hbit : D % 2 = 0
      · rw [hbit] at hand
        have tq : (Go.bits BinOp.and IntKind.i64 ((m : Int) / 2 ^ k) 1 != 0) = false := by rw [hq, hand]; rfl
        rw [hD] at hbit
        have hR' := Lib.hid (ri_zero hR.out hbit)
        replace hD := Lib.hid hD
        replace hL := Lib.hid hL
        replace hU := Lib.hid hU
        clear hbit hR
        go_wp2_with fail
        go_roundw
        case rel => exact ⟨k + 1, Z ++ [0], o, by omega, by go_num, by rw [List.length_append, hZ]; rfl, hR', hU.out, hL.out.skip (by omega), hY, hB⟩
        case measure => simp [intOf]; omega
      · have hbit1 : D % 2 = 1 := by omega
        rw [hbit1] at hand
        have tq : (Go.bits BinOp.and IntKind.i64 ((m : Int) / 2 ^ k) 1 != 0) = true := by rw [hq, hand]; rfl
        rw [hD] at hbit1
        replace hD := Lib.hid hD
        replace hL := Lib.hid hL
        clear hbit
        replace hR := Lib.hid (fun o' y => ri_one (o' := o') (y := y) hR.out hZ (by omega) hbit1)
        clear hbit1
        go_wp2_with fail
        go_at_call 20
        have hS := Sign_un hU
        refine hS.mono ?_
        clear hS hU
        rintro e w2 ⟨y, o2, rfl, hs2, hU2, on2⟩
        have hL2 : LAt w2 g Z := hL.out.only on2 (by omega)
        have hc2 := hL2.cell hZ hlt
        have hf2 := hL2.free k
        have hL3 := hL2.put hZ hlt y
        have hU3 : RU (w2.setCell ⟨g, k, none⟩ (.int .i64 y)) (w.heap.size + 1) o2 := hU2.other (by omega)
        have hc3 := hL3.cell_last hZ
        replace hL3 := Lib.hid hL3
        have hN := need_un (y != 0) hU3
        have hb2 : Hid (Below w.heap.size w (w2.setCell ⟨g, k, none⟩ (.int .i64 y))) := belowCy (hB.out.trans (on2.below (by omega))) (by omega) k _
        have hY2 : Hid (RyAt (w2.setCell ⟨g, k, none⟩ (.int .i64 y)) w.heap.size zeroY) := RyAt.other ((on2.block _ (by omega)).trans hY.out) (by omega)
        replace hs2 := Lib.hid hs2
        clear hU2 hU3 on2
        go_wp2_with fail
        go_at_call 17
        refine hN.mono ?_
        clear hN
        rintro e w3 ⟨rfl, hU3, on3⟩
        have hL4 : LAt w3 g (Z ++ [y]) := hL3.out.only on3 (by omega)
        have hY3 : RyAt w3 w.heap.size zeroY := (on3.block _ (by omega)).trans hY2.out
        have hB3 : Below w.heap.size w w3 := hb2.out.trans (on3.below (by omega))
        replace hL4 := Lib.hid hL4
        replace hY3 := Lib.hid hY3
        replace hB3 := Lib.hid hB3
        replace hU3 := Lib.hid hU3
        clear hL3 hY2 hb2 on3 hc2 hf2 hc3 hL2
        go_wp2_with fail
        go_roundw
        case rel => exact ⟨k + 1, Z ++ [y], _, by omega, by go_num, by rw [List.length_append, hZ]; rfl, Lib.hid (hR.out _ _ hs2.out), hU3.out, hL4.out, hY3, hB3⟩
        case measure => simp [intOf]; omega
    · obtain rfl : k = 9 := by omega
      have hE := End_un hU
      have hRe := Lib.hid (fun p => ri_end (p := p) hR.out hZ)
      replace hL := Lib.hid hL
      clear hU hR
      go_wp2_with fail
      go_at_call 21
      refine hE.mono ?_
      clear hE
      rintro e w6 ⟨⟨p, rfl, her⟩, on6⟩
      have hfin := hRe.out p her
      have hL6 : LAt w6 g Z := hL.out.only on6 (by omega)
      have hY6 : RyAt w6 w.heap.size zeroY := (on6.block _ (by omega)).trans hY.out
      have hb6 : Hid (Below w.heap.size w w6) := hB.out.trans (on6.below (by omega))
      clear her on6 hRe
      rcases hfin with ⟨rfl, r, hr, hfr, her⟩ | ⟨hp, hno⟩
      · have hcs := arrZ_all hr
        have zR := zE_ry
        obtain ⟨k9, hk9⟩ : ∃ k, k = 9 := ⟨_, rfl⟩
        rw [← hk9] at zR
        replace hk9 := Lib.hid hk9
        have zA := zE_arr
        obtain ⟨n9, hn9⟩ : ∃ k, k = 9 := ⟨_, rfl⟩
        rw [← hn9] at zA
        replace hn9 := Lib.hid hn9
        have ld := load_box (k := n9) hL6 (by rw [hn9.out]; exact arrZ_len (by omega))
        rw [hcs] at ld
        have hW := whole_fn r w6
        generalize cellsY r = cA at *
        replace hL6 := Lib.hid hL6
        clear hcs
        obtain ⟨hst0, _⟩ := hY6.store r
        go_wp2_with fail
        go_at_call 22
        refine hW.mono ?_
        clear hW hst0
        rintro e w7 ⟨rfl, hb7⟩
        have hY7 : RyAt w7 w.heap.size zeroY := hY6.below hb7 hY6.lt
        obtain ⟨hst, hY8⟩ := hY7.store r
        have hb8 : Hid (Below w.heap.size w (w7.setRow w.heap.size (encY r).toArray)) := belowSy (hb6.out.trans (hb7.mono hb6.out.size)) (Nat.le_refl _) _
        replace hY8 := Lib.hid hY8
        have lR := encY_len r
        rw [← hk9.out] at lR
        obtain ⟨cY, hcY⟩ : ∃ cY, cY = encY r := ⟨_, rfl⟩
        rw [← hcY] at hst lR ⊢
        replace hcY := Lib.hid hcY
        replace hfr := Lib.hid hfr
        clear hb7 hY6
        go_wp2_with fail
        (try simp only [Exit.inBlock, Exit.then])
        refine bodyPost_ret (ret_ry (b := w.heap.size) (x := r) rfl rfl (by rw [hcY.out]; exact hY8.out)) rfl ?_
        exact ⟨r, 0, rfl, .inl ⟨hfr.out, her, rfl⟩, by rw [hcY.out]; exact hb8.out⟩
      · have hp0 := hp.ne
        have tp : (p != 0) = true := by simp [hp0]
        replace hL6 := Lib.hid hL6
        have zY := fun j u hj => RyAt.zero hY6 j u hj
        obtain ⟨c0, f0, s0⟩ := zY 0 (.int .i64 0) rfl
        obtain ⟨c1, f1, s1⟩ := zY 1 (.int .i64 0) rfl
        obtain ⟨c2, f2, s2⟩ := zY 2 (.int .i64 0) rfl
        obtain ⟨c3, f3, s3⟩ := zY 3 (.int .i64 0) rfl
        obtain ⟨c4, f4, s4⟩ := zY 4 (.int .i64 0) rfl
        obtain ⟨c5, f5, s5⟩ := zY 5 (.int .i64 0) rfl
        obtain ⟨c6, f6, s6⟩ := zY 6 (.int .i64 0) rfl
        obtain ⟨c7, f7, s7⟩ := zY 7 (.int .i64 0) rfl
        obtain ⟨c8, f8, s8⟩ := zY 8 (.int .i64 0) rfl
        replace hno := Lib.hid hno
        replace hY6 := Lib.hid hY6
        replace hp := Lib.hid hp
        clear zY hp0
        go_wp2_with fail
        (try simp only [s0, s1, s2, s3, s4, s5, s6, s7, s8])
        (try simp only [Exit.inBlock, Exit.then])
        refine bodyPost_ret (ret_ry (b := w.heap.size) (x := zeroY) rfl rfl hY6.out) rfl ?_
        exact ⟨zeroY, p, rfl, .inr ⟨hno.out, rfl, hp.out⟩, hb6.out⟩


theorem specY : RySpec where
  put := fun r w hf => Bytes_fn r w hf
  read := fun v l w h hl => Read_fn v l w h hl

end Go.Proofs.Ytpdnppncdfialaa
