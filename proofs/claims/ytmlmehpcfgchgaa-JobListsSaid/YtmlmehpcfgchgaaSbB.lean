/-
  Contracts of package slices' stable sort at jobs: symMergeCmpFunc where one side is a single element.
-/
import Derived.Test.YtmlmehpcfgchgaaSbA
namespace Go.Proofs.Ytmlmehpcfgchgaa
open Go.RowKit Go.Sort Go.Lib Go.Shelf

namespace Sb
variable {α : Type} [Inhabited α]
theorem bsr_bounds (f : Nat → Bool) : ∀ (t i j : Nat), j - i ≤ t → i ≤ j → i ≤ bsr f i j ∧ bsr f i j ≤ j := by
  intro t
  induction t with
  | zero => intro i j ht hij; rw [bsr_stop (by omega)]; exact ⟨Nat.le_refl _, hij⟩
  | succ t ih =>
    intro i j ht hij
    by_cases h : i < j
    · cases hf : f ((i + j) / 2) with
      | true => rw [bsr_yes h hf]; have := ih ((i + j) / 2 + 1) j (by omega) (by omega); omega
      | false => rw [bsr_no h hf]; have := ih i ((i + j) / 2) (by omega) (by omega); omega
    · rw [bsr_stop h]; exact ⟨Nat.le_refl _, hij⟩
theorem cut_bounds {lt : α → α → Bool} {a m b : Nat} {d : Array α} (h1 : a < m) (h2 : m < b) : a ≤ cutF lt a m b d ∧ cutF lt a m b d ≤ m ∧ cutF lt a m b d ≤ (a + b) / 2 ∧ (a + b) / 2 + m - b ≤ cutF lt a m b d := by
  unfold cutF
  by_cases c : (a + b) / 2 < m
  · rw [if_pos c]
    have := bsr_bounds (fun c => !lt d[(a + b) / 2 + m - 1 - c]! d[c]!) _ ((a + b) / 2 + m - b) ((a + b) / 2) (Nat.le_refl _) (by omega)
    omega
  · rw [if_neg c]
    have := bsr_bounds (fun c => !lt d[(a + b) / 2 + m - 1 - c]! d[c]!) _ a m (Nat.le_refl _) (by omega)
    omega
theorem symF_size {lt : α → α → Bool} : ∀ (f a m b : Nat) (d : Array α), a < m → m < b → b ≤ d.size → (symF lt f a m b d).size = d.size := by
  intro f
  induction f with
  | zero => intro a m b d _ _ _; rfl
  | succ f ih =>
    intro a m b d h1 h2 h3
    unfold symF
    by_cases c1 : m - a = 1
    · rw [if_pos c1]
      have hb := bsr_bounds (fun h => lt d[h]! d[a]!) _ m b (Nat.le_refl _) (by omega)
      exact (upF_spec (bsr (fun h => lt d[h]! d[a]!) m b - 1) _ a d rfl (by omega) (by omega)).1
    · rw [if_neg c1]
      by_cases c2 : b - m = 1
      · rw [if_pos c2]
        have hb := bsr_bounds (fun h => !lt d[m]! d[h]!) _ a m (Nat.le_refl _) (by omega)
        exact (dnF_spec (bsr (fun h => !lt d[m]! d[h]!) a m) _ m d rfl (by omega) (by omega)).1
      · rw [if_neg c2]
        have hc := cut_bounds (lt := lt) (d := d) h1 h2
        simp only
        generalize cutF lt a m b d = s at *
        have z1 : (if s < m ∧ m < (a + b) / 2 + m - s then rot m (m - s) ((a + b) / 2 + m - s - m) d else d).size = d.size := by
          by_cases c3 : s < m ∧ m < (a + b) / 2 + m - s
          · rw [if_pos c3]; exact (rot_spec _ m (m - s) ((a + b) / 2 + m - s - m) d (Nat.le_refl _) (by omega) (by omega) (by omega) (by omega)).1
          · rw [if_neg c3]
        generalize (if s < m ∧ m < (a + b) / 2 + m - s then rot m (m - s) ((a + b) / 2 + m - s - m) d else d) = d1 at *
        have z2 : (if a < s ∧ s < (a + b) / 2 then symF lt f a s ((a + b) / 2) d1 else d1).size = d.size := by
          by_cases c3 : a < s ∧ s < (a + b) / 2
          · rw [if_pos c3, ih a s _ d1 c3.1 c3.2 (by omega), z1]
          · rw [if_neg c3, z1]
        generalize (if a < s ∧ s < (a + b) / 2 then symF lt f a s ((a + b) / 2) d1 else d1) = d2 at *
        by_cases c3 : (a + b) / 2 < (a + b) / 2 + m - s ∧ (a + b) / 2 + m - s < b
        · rw [if_pos c3, ih _ _ b d2 c3.1 c3.2 (by omega), z2]
        · rw [if_neg c3, z2]
end Sb

/-- What is asked of a comparison: at any two, in any world of the sort's. -/
structure CmpOk {α : Type} [Inhabited α] (P : Program) (g : Nat) (enc : α → List Value) (k : Nat) (cf : α → α → Int) (blk off size : Nat) (w : World) : Prop where
  eg : ∀ args w, Sem.run P (callFunc g args) w = .ok (.enter g args) w
  lays : CmpLays P g #[] enc k cf blk off size w

section
variable {α : Type} [Inhabited α] {enc : α → List Value} {w : World} {blk off cap : Nat} {d d0 : Array α} {cf : α → α → Int} {g : Nat}

theorem mixedS : Try.prog.follows .mixedOrders = true := by kernel_rfl

/-- What a comparison of two elements asks, in every world that it may come in. -/
theorem cmp_class {k q : Nat} {os : Array Obj} (hE : EncOk enc k) (hC : CmpOk Try.prog g enc k cf blk off d0.size w) (hH : HoldsK enc k w blk off d0) (hs : d.size = d0.size) (hblk : blk < w.heap.size) {x y : Nat} (hx : x < d.size) (hy : y < d.size) :
    (∀ n' os', grow ((sortWorldK enc k w blk off q d os).drewN n') os' = sortWorldK enc k w blk off (q + n') d (os ++ os')) ∧
    (∀ n' os', Sem.run Try.prog (loadCellsFrom ⟨blk, off + x * k, none⟩ 0 k #[]) (grow ((sortWorldK enc k w blk off q d os).drewN n') os') = .ok (enc d[x]!).toArray (grow ((sortWorldK enc k w blk off q d os).drewN n') os')) ∧
    (∀ n' os', Sem.run Try.prog (loadCellsFrom ⟨blk, off + y * k, none⟩ 0 k #[]) (grow ((sortWorldK enc k w blk off q d os).drewN n') os') = .ok (enc d[y]!).toArray (grow ((sortWorldK enc k w blk off q d os).drewN n') os')) ∧
    (∀ n' os', Calls Try.prog g #[.agg (enc d[x]!).toArray, .agg (enc d[y]!).toArray] (grow ((sortWorldK enc k w blk off q d os).drewN n') os') fun e w' => e = .returned (.int .i64 (cf d[x]! d[y]!)) ∧ ∃ q' os'', w' = grow ((grow ((sortWorldK enc k w blk off q d os).drewN n') os').drewN q') os'') := by
  have hcls : ∀ n' os', grow ((sortWorldK enc k w blk off q d os).drewN n') os' = sortWorldK enc k w blk off (q + n') d (os ++ os') := fun n' os' => sortWorldK_grown_c enc k w blk off q n' d os os'
  have hHc : ∀ n' os', HoldsK enc k (grow ((sortWorldK enc k w blk off q d os).drewN n') os') blk off d := fun n' os' => by rw [hcls]; exact holdsK_sortWorldK_c enc k w blk off d0 d _ _ hH hblk hs
  refine ⟨hcls, fun n' os' => load_row (hHc n' os') hE hx, fun n' os' => load_row (hHc n' os') hE hy, fun n' os' => ?_⟩
  rw [hcls]
  have := hC.lays (q + n') (os ++ os') d hs d[x]! d[y]!
  simpa using this

/-- What an exchange of two elements asks and makes. -/
theorem swap_class {k q : Nat} {os : Array Obj} (hE : EncOk enc k) (hH : HoldsK enc k w blk off d0) (hs : d.size = d0.size) (hblk : blk < w.heap.size) {x y : Nat} (hx : x < d.size) (hy : y < d.size) :
    Sem.run Try.prog (loadCellsFrom ⟨blk, off + x * k, none⟩ 0 k #[]) (sortWorldK enc k w blk off q d os).drew = .ok (enc d[x]!).toArray (sortWorldK enc k w blk off q d os).drew ∧
    Sem.run Try.prog (loadCellsFrom ⟨blk, off + y * k, none⟩ 0 k #[]) (sortWorldK enc k w blk off q d os).drew = .ok (enc d[y]!).toArray (sortWorldK enc k w blk off q d os).drew ∧
    Sem.run Try.prog (storeCells ⟨blk, off + x * k, none⟩ (enc d[y]!) 0) (sortWorldK enc k w blk off q d os).drew = .ok () ((sortWorldK enc k w blk off q d os).drew.setCells blk (off + x * k) (enc d[y]!)) ∧
    Sem.run Try.prog (storeCells ⟨blk, off + y * k, none⟩ (enc d[x]!) 0) ((sortWorldK enc k w blk off q d os).drew.setCells blk (off + x * k) (enc d[y]!)) = .ok () (((sortWorldK enc k w blk off q d os).drew.setCells blk (off + x * k) (enc d[y]!)).setCells blk (off + y * k) (enc d[x]!)) ∧
    Hid (((sortWorldK enc k w blk off q d os).drew.setCells blk (off + x * k) (enc d[y]!)).setCells blk (off + y * k) (enc d[x]!) = sortWorldK enc k w blk off (q + 1) (swp d x y) os) := by
  have hW : HoldsK enc k (sortWorldK enc k w blk off q d os).drew blk off d := holdsK_sortWorldK_c enc k w blk off d0 d q os hH hblk hs
  obtain ⟨s1, s2⟩ := stores_row hW hE hx hy d[y]! d[x]!
  exact ⟨load_row hW hE hx, load_row hW hE hy, s1, s2, sortWorldK_swp_c enc k w blk off hE.len q d os hblk x y hx hy⟩

set_option maxHeartbeats 4000000 in
set_option maxRecDepth 1000000 in
theorem sym1_fn (k : Nat) (zE : ∀ w, Sem.run Try.prog (Go.sizeOf 52) w = .ok k w) (a m b q : Nat) (os : Array Obj) (hE : EncOk enc k) (hC : CmpOk Try.prog g enc k cf blk off d0.size w) (hH : HoldsK enc k w blk off d0) (hs : d.size = d0.size) (hblk : blk < w.heap.size) (h1 : m = a + 1) (hmb : m < b) (hb : b ≤ d.size) (hsz : d.size < 4611686018427387904) :
    Calls Try.prog 47 #[.slice (some ⟨blk, off, none⟩) d.size cap, .int .i64 a, .int .i64 m, .int .i64 b, .func (.func g) #[] #[]] (sortWorldK enc k w blk off q d os) fun e w' =>
      e = .returned (.tuple #[]) ∧ ∃ q' os', w' = sortWorldK enc k w blk off q' (Sb.upF (Sb.bsr (fun h => ltOf cf d[h]! d[a]!) m b - 1) a d) os' := by
  have eg := hC.eg
  have hmix := mixedS
  replace hs := Lib.hid hs
  have wd : IntKind.i64.wrap ((m : Int) - (a : Int)) = 1 := by rw [IntKind.wrap_i64]; omega
  have ham : a < m := by omega
  replace h1 := Lib.hid h1
  obtain ⟨F, hF⟩ : ∃ F : Nat → Bool, F = fun h => ltOf cf d[h]! d[a]! := ⟨_, rfl⟩
  have hF2 : Hid (∀ h, F h = decide (cf d[h]! d[a]! < 0)) := fun h => by rw [hF]; rfl
  rw [← hF]
  replace hF := Lib.hid hF
  have CC : Aside _ := fun (x y q : Nat) (os : Array Obj) (hx : x < d.size) (hy : y < d.size) => cmp_class (q := q) (os := os) hE hC hH hs.out hblk hx hy
  have SC : Aside _ := fun (x y q : Nat) (os : Array Obj) (di : Array α) (hsi : di.size = d.size) (hx : x < di.size) (hy : y < di.size) => swap_class (d := di) (q := q) (os := os) hE hH (hsi.trans hs.out) hblk hx hy
  have hlen : Hid _ := hE.len
  clear hC hH hE
  go_enter Try.func47, Try.ntmps47
  go_wp2_with fail
  go_loopw [10, 11] (fun ii jj wr => ∃ (i j qi : Nat) (oi : Array Obj), ii = .int .i64 i ∧ jj = .int .i64 j ∧ m ≤ i ∧ i ≤ j ∧ j ≤ b ∧ wr = sortWorldK enc k w blk off qi d oi ∧ Hid (Sb.bsr F i j = Sb.bsr F m b)) (fun ii jj _ => (intOf jj).toNat - (intOf ii).toNat)
  case atStart => exact ⟨m, b, q, os, rfl, rfl, Nat.le_refl _, by omega, Nat.le_refl _, rfl, rfl⟩
  case round =>
    obtain ⟨i, j, qi, oi, rfl, rfl, hmi, hij, hjb, rfl, HI⟩ := hrel
    by_cases hlt : i < j
    · have b2 : (i : Int) < (j : Int) := by omega
      obtain ⟨hm, hhm⟩ : ∃ x : Nat, x = (i + j) / 2 := ⟨_, rfl⟩
      have eh : ((i : Int) + (j : Int)) / 2 = (hm : Int) := by omega
      have hml : hm < d.size := by omega
      have hma : (hm : Int) < (d.size : Int) := by omega
      have ama : (a : Int) < (d.size : Int) := by omega
      have wh : IntKind.i64.wrap ((hm : Int) + 1) = (hm : Int) + 1 := by rw [IntKind.wrap_i64]; omega
      obtain ⟨cls, lx, ly, cg⟩ := CC.out hm a qi oi hml (by omega)
      have HI2 : Hid ((F hm = true → Sb.bsr F (hm + 1) j = Sb.bsr F m b) ∧ (F hm = false → Sb.bsr F i hm = Sb.bsr F m b)) :=
        ⟨fun hf => by rw [← HI.out, Sb.bsr_yes hlt (by rw [← hhm]; exact hf), hhm], fun hf => by rw [← HI.out, Sb.bsr_no hlt (by rw [← hhm]; exact hf), hhm]⟩
      have o1 : i ≤ hm := by omega
      have o2 : hm < j := by omega
      replace hhm := Lib.hid hhm
      have CLS : Hid _ := cls
      clear cls HI
      generalize hwq : sortWorldK enc k w blk off qi d oi = wq at lx ly cg CLS ⊢
      replace hwq := Lib.hid hwq
      have hFh : Hid (F hm = decide (cf d[hm]! d[a]! < 0)) := hF2.out hm
      generalize d[hm]! = X at *
      generalize d[a]! = Y at *
      by_cases hlv : cf X Y < 0
      · have hFt : F hm = true := by rw [hFh.out]; exact decide_eq_true hlv
        have HI3 : Hid _ := HI2.out.1 hFt
        clear HI2 hFh hFt
        go_wp2_with fail
        go_quiet_grown (first | (go_at_fn g; refine Calls.grown_of (cg _ _)))
        go_wp2_with fail
        go_roundw
        case rel => exact ⟨hm + 1, j, qi + nq, oi ++ osq, by go_num, rfl, by omega, by omega, hjb, CLS.out nq osq, HI3⟩
        case measure => simp [intOf]; omega
      · have hFt : F hm = false := by rw [hFh.out]; exact decide_eq_false hlv
        have HI3 : Hid _ := HI2.out.2 hFt
        clear HI2 hFh hFt
        go_wp2_with fail
        go_quiet_grown (first | (go_at_fn g; refine Calls.grown_of (cg _ _)))
        go_wp2_with fail
        go_roundw
        case rel => exact ⟨i, hm, qi + nq, oi ++ osq, rfl, by go_num, hmi, o1, by omega, CLS.out nq osq, HI3⟩
        case measure => simp [intOf]; omega
    · obtain rfl : i = j := by omega
      rw [Sb.bsr_stop hlt] at HI
      obtain ⟨e, he⟩ : ∃ e, e = i - 1 := ⟨_, rfl⟩
      have we : IntKind.i64.wrap ((i : Int) - 1) = (e : Int) := by rw [IntKind.wrap_i64]; omega
      have hae : a ≤ e := by omega
      have heb : e < b := by omega
      have HE : Hid (Sb.bsr F m b - 1 = e) := by show _ = _; rw [← HI.out, he]
      replace he := Lib.hid he
      clear HI
      have b2 : ¬ (i : Int) < (i : Int) := by omega
      generalize hwq0 : sortWorldK enc k w blk off qi d oi = wq0
      go_wp2_with fail
      go_loopw [13] (fun kk wr => ∃ (x qx : Nat) (dx : Array α) (ox : Array Obj), kk = .int .i64 x ∧ a ≤ x ∧ x ≤ e ∧ dx.size = d.size ∧ wr = sortWorldK enc k w blk off qx dx ox ∧ Hid (Sb.upF e x dx = Sb.upF e a d)) (fun kk _ => e - (intOf kk).toNat)
      case atStart => exact ⟨a, qi, d, oi, rfl, Nat.le_refl _, hae, rfl, hwq0.symm, rfl⟩
      case round =>
        obtain ⟨x, qx, dx, ox, rfl, hax, hxe, hsx, rfl, HX⟩ := hrel
        clear hwq0
        by_cases hlx : x < e
        · have b3 : (x : Int) < (e : Int) := by omega
          obtain ⟨la, lb, s1, s2, hnx⟩ := SC.out x (x + 1) qx ox dx hsx (by omega) (by omega)
          have hsd : (swp dx x (x + 1)).size = d.size := by rw [swp_size]; exact hsx
          rw [Sb.upF_go hlx] at HX
          generalize sortWorldK enc k w blk off qx dx ox = wq at la lb s1 s2 hnx ⊢
          obtain ⟨cA, hcA⟩ : ∃ c, c = enc dx[x]! := ⟨_, rfl⟩
          obtain ⟨cB, hcB⟩ : ∃ c, c = enc dx[x + 1]! := ⟨_, rfl⟩
          have lA : cA.length = k := by rw [hcA]; exact hlen.out _
          have lB : cB.length = k := by rw [hcB]; exact hlen.out _
          rw [← hcA] at la s2 hnx
          rw [← hcB] at lb s1 s2 hnx
          replace hcA := Lib.hid hcA
          replace hcB := Lib.hid hcB
          have wx : IntKind.i64.wrap ((x : Int) + 1) = (x : Int) + 1 := by rw [IntKind.wrap_i64]; omega
          have j0 : (x : Int) < (d.size : Int) := by omega
          have j1 : (x : Int) + 1 < (d.size : Int) := by omega
          have j2 : (0 : Int) ≤ (x : Int) + 1 := by omega
          have j3 : ((x : Int) + 1).toNat = x + 1 := by omega
          go_wp2_with fail
          go_region
          rw [hnx.out]
          go_wp2_with fail
          go_roundw
          case rel => exact ⟨x + 1, qx + 1, swp dx x (x + 1), ox, by go_num, by omega, by omega, hsd, rfl, HX⟩
          case measure => simp [intOf]; omega
        · have b3 : ¬ (x : Int) < (e : Int) := by omega
          rw [Sb.upF_stop hlx] at HX
          go_wp2_with fail
          refine bodyPost_ret (results_none rfl _ _ _) rfl ?_
          exact ⟨rfl, qx, ox, by rw [HE.out, ← HX.out]⟩
set_option maxHeartbeats 4000000 in
set_option maxRecDepth 1000000 in
theorem sym2_fn (k : Nat) (zE : ∀ w, Sem.run Try.prog (Go.sizeOf 52) w = .ok k w) (a m b q : Nat) (os : Array Obj) (hE : EncOk enc k) (hC : CmpOk Try.prog g enc k cf blk off d0.size w) (hH : HoldsK enc k w blk off d0) (hs : d.size = d0.size) (hblk : blk < w.heap.size) (h1 : b = m + 1) (h0 : a + 1 < m) (hb : b ≤ d.size) (hsz : d.size < 4611686018427387904) :
    Calls Try.prog 47 #[.slice (some ⟨blk, off, none⟩) d.size cap, .int .i64 a, .int .i64 m, .int .i64 b, .func (.func g) #[] #[]] (sortWorldK enc k w blk off q d os) fun e w' =>
      e = .returned (.tuple #[]) ∧ ∃ q' os', w' = sortWorldK enc k w blk off q' (Sb.dnF (Sb.bsr (fun h => !ltOf cf d[m]! d[h]!) a m) m d) os' := by
  have eg := hC.eg
  have hmix := mixedS
  replace hs := Lib.hid hs
  have wd : IntKind.i64.wrap ((b : Int) - (m : Int)) = 1 := by rw [IntKind.wrap_i64]; omega
  have wd0 : IntKind.i64.wrap ((m : Int) - (a : Int)) = (m : Int) - (a : Int) := by rw [IntKind.wrap_i64]; omega
  have wd1 : ((m : Int) - (a : Int) == 1) = false := by simp; omega
  have ham : a < m := by omega
  have hmb : m < d.size := by omega
  replace h1 := Lib.hid h1
  obtain ⟨F, hF⟩ : ∃ F : Nat → Bool, F = fun h => !ltOf cf d[m]! d[h]! := ⟨_, rfl⟩
  have hF2 : Hid (∀ h, F h = !decide (cf d[m]! d[h]! < 0)) := fun h => by rw [hF]; rfl
  rw [← hF]
  replace hF := Lib.hid hF
  have CC : Aside _ := fun (x y q : Nat) (os : Array Obj) (hx : x < d.size) (hy : y < d.size) => cmp_class (q := q) (os := os) hE hC hH hs.out hblk hx hy
  have SC : Aside _ := fun (x y q : Nat) (os : Array Obj) (di : Array α) (hsi : di.size = d.size) (hx : x < di.size) (hy : y < di.size) => swap_class (d := di) (q := q) (os := os) hE hH (hsi.trans hs.out) hblk hx hy
  have hlen : Hid _ := hE.len
  clear hC hH hE
  go_enter Try.func47, Try.ntmps47
  go_wp2_with fail
  go_loopw [14, 15] (fun ii jj wr => ∃ (i j qi : Nat) (oi : Array Obj), ii = .int .i64 i ∧ jj = .int .i64 j ∧ a ≤ i ∧ i ≤ j ∧ j ≤ m ∧ wr = sortWorldK enc k w blk off qi d oi ∧ Hid (Sb.bsr F i j = Sb.bsr F a m)) (fun ii jj _ => (intOf jj).toNat - (intOf ii).toNat)
  case atStart => exact ⟨a, m, q, os, rfl, rfl, Nat.le_refl _, by omega, Nat.le_refl _, rfl, rfl⟩
  case round =>
    obtain ⟨i, j, qi, oi, rfl, rfl, hmi, hij, hjb, rfl, HI⟩ := hrel
    by_cases hlt : i < j
    · have b2 : (i : Int) < (j : Int) := by omega
      obtain ⟨hm, hhm⟩ : ∃ x : Nat, x = (i + j) / 2 := ⟨_, rfl⟩
      have eh : ((i : Int) + (j : Int)) / 2 = (hm : Int) := by omega
      have hml : hm < d.size := by omega
      have hma : (hm : Int) < (d.size : Int) := by omega
      have ama : (m : Int) < (d.size : Int) := by omega
      have wh : IntKind.i64.wrap ((hm : Int) + 1) = (hm : Int) + 1 := by rw [IntKind.wrap_i64]; omega
      obtain ⟨cls, lx, ly, cg⟩ := CC.out m hm qi oi (by omega) hml
      have HI2 : Hid ((F hm = true → Sb.bsr F (hm + 1) j = Sb.bsr F a m) ∧ (F hm = false → Sb.bsr F i hm = Sb.bsr F a m)) :=
        ⟨fun hf => by rw [← HI.out, Sb.bsr_yes hlt (by rw [← hhm]; exact hf), hhm], fun hf => by rw [← HI.out, Sb.bsr_no hlt (by rw [← hhm]; exact hf), hhm]⟩
      have o1 : i ≤ hm := by omega
      have o2 : hm < j := by omega
      replace hhm := Lib.hid hhm
      have CLS : Hid _ := cls
      clear cls HI
      generalize hwq : sortWorldK enc k w blk off qi d oi = wq at lx ly cg CLS ⊢
      replace hwq := Lib.hid hwq
      have hFh : Hid (F hm = !decide (cf d[m]! d[hm]! < 0)) := hF2.out hm
      generalize d[m]! = X at *
      generalize d[hm]! = Y at *
      by_cases hlv : cf X Y < 0
      · have hFt : F hm = false := by rw [hFh.out, decide_eq_true hlv]; rfl
        have nb : (!decide (cf X Y < 0)) = false := by rw [decide_eq_true hlv]; rfl
        have HI3 : Hid _ := HI2.out.2 hFt
        clear HI2 hFh hFt
        go_wp2_with fail
        go_quiet_grown (first | (go_at_fn g; refine Calls.grown_of (cg _ _)))
        go_wp2_with fail
        go_roundw
        case rel => exact ⟨i, hm, qi + nq, oi ++ osq, rfl, by go_num, hmi, o1, by omega, CLS.out nq osq, HI3⟩
        case measure => simp [intOf]; omega
      · have hFt : F hm = true := by rw [hFh.out, decide_eq_false hlv]; rfl
        have nb : (!decide (cf X Y < 0)) = true := by rw [decide_eq_false hlv]; rfl
        have HI3 : Hid _ := HI2.out.1 hFt
        clear HI2 hFh hFt
        go_wp2_with fail
        go_quiet_grown (first | (go_at_fn g; refine Calls.grown_of (cg _ _)))
        go_wp2_with fail
        go_roundw
        case rel => exact ⟨hm + 1, j, qi + nq, oi ++ osq, by go_num, rfl, by omega, by omega, hjb, CLS.out nq osq, HI3⟩
        case measure => simp [intOf]; omega
    · obtain rfl : i = j := by omega
      rw [Sb.bsr_stop hlt] at HI
      replace HI : Hid (Sb.bsr F a m = i) := by show _ = _; rw [← HI.out]
      have b2 : ¬ (i : Int) < (i : Int) := by omega
      generalize hwq0 : sortWorldK enc k w blk off qi d oi = wq0
      go_wp2_with fail
      go_loopw [17] (fun kk wr => ∃ (x qx : Nat) (dx : Array α) (ox : Array Obj), kk = .int .i64 x ∧ i ≤ x ∧ x ≤ m ∧ dx.size = d.size ∧ wr = sortWorldK enc k w blk off qx dx ox ∧ Hid (Sb.dnF i x dx = Sb.dnF i m d)) (fun kk _ => (intOf kk).toNat)
      case atStart => exact ⟨m, qi, d, oi, rfl, hjb, Nat.le_refl _, rfl, hwq0.symm, rfl⟩
      case round =>
        obtain ⟨x, qx, dx, ox, rfl, hax, hxe, hsx, rfl, HX⟩ := hrel
        clear hwq0
        by_cases hlx : i < x
        · obtain ⟨y, rfl⟩ : ∃ y, x = y + 1 := ⟨x - 1, by omega⟩
          have b3 : (i : Int) < (y : Int) + 1 := by omega
          obtain ⟨la, lb, s1, s2, hnx⟩ := SC.out (y + 1) y qx ox dx hsx (by omega) (by omega)
          have hsd : (swp dx (y + 1) y).size = d.size := by rw [swp_size]; exact hsx
          rw [Sb.dnF_go hlx, Nat.add_sub_cancel] at HX
          generalize sortWorldK enc k w blk off qx dx ox = wq at la lb s1 s2 hnx ⊢
          obtain ⟨cA, hcA⟩ : ∃ c, c = enc dx[y + 1]! := ⟨_, rfl⟩
          obtain ⟨cB, hcB⟩ : ∃ c, c = enc dx[y]! := ⟨_, rfl⟩
          have lA : cA.length = k := by rw [hcA]; exact hlen.out _
          have lB : cB.length = k := by rw [hcB]; exact hlen.out _
          rw [← hcA] at la s2 hnx
          rw [← hcB] at lb s1 s2 hnx
          replace hcA := Lib.hid hcA
          replace hcB := Lib.hid hcB
          have wx : IntKind.i64.wrap (y : Int) = (y : Int) := by rw [IntKind.wrap_i64]; omega
          have j0 : (y : Int) < (d.size : Int) := by omega
          have j1 : (y : Int) + 1 < (d.size : Int) := by omega
          have j2 : (0 : Int) ≤ (y : Int) + 1 := by omega
          have j3 : ((y : Int) + 1).toNat = y + 1 := by omega
          go_wp2_with fail
          go_region
          rw [hnx.out]
          go_wp2_with fail
          go_roundw
          case rel => exact ⟨y, qx + 1, swp dx (y + 1) y, ox, by go_num, by omega, by omega, hsd, rfl, HX⟩
          case measure => simp [intOf]
        · have b3 : ¬ (i : Int) < (x : Int) := by omega
          rw [Sb.dnF_stop hlx] at HX
          go_wp2_with fail
          refine bodyPost_ret (results_none rfl _ _ _) rfl ?_
          exact ⟨rfl, qx, ox, by rw [HI.out, ← HX.out]⟩
end

end Go.Proofs.Ytmlmehpcfgchgaa
