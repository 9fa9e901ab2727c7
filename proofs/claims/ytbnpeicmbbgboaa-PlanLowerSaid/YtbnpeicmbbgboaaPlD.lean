/-
  Own walks: the document's profile's steps.
-/
import Derived.Test.YtbnpeicmbbgboaaPlC
namespace Go.Proofs.Ytbnpeicmbbgboaa
set_option maxRecDepth 8000
open Go.RowKit Go.Sort Go.Lib

/-- The steps of the first k times. -/
structure SB (f : Int → Int) (now : Int) (es : List Int) (L : List (Int × Int)) (k : Nat) : Prop where
  emp : k = 0 → L = []
  pos : 0 < k → 0 < L.length
  hd : 0 < k → tA L 0 = now
  inc : ∀ i, i + 1 < L.length → tA L i < tA L (i + 1)
  alt : ∀ i, i + 1 < L.length → tV L i ≠ tV L (i + 1)
  le : ∀ m, m < L.length → tA L m ≤ es.getD (k - 1) 0
  len : L.length ≤ k
  rep : ∀ m t, m < L.length → tA L m ≤ t → (m + 1 < L.length → t < tA L (m + 1)) → (k < es.length → t < es.getD k 0) → f t = tV L m

theorem get_snoc (L : List (Int × Int)) (x : Int × Int) (m : Nat) : tA (L ++ [x]) m = (if m < L.length then tA L m else if m = L.length then x.1 else 0) ∧ tV (L ++ [x]) m = (if m < L.length then tV L m else if m = L.length then x.2 else 0) := by
  unfold tA tV
  simp only [List.getD_eq_getElem?_getD]
  by_cases h1 : m < L.length
  · rw [if_pos h1, if_pos h1, List.getElem?_append_left h1]; exact ⟨rfl, rfl⟩
  · rw [if_neg h1, if_neg h1, List.getElem?_append_right (by omega)]
    by_cases h2 : m = L.length
    · subst h2; simp
    · rw [if_neg h2, if_neg h2, List.getElem?_eq_none (by simp; omega)]; exact ⟨rfl, rfl⟩

section
variable {E : List Sp} {now F : Int} {es : List Int} {L : List (Int × Int)} {k : Nat}
theorem SB.add (hE : EdgesOf E now es) (hok : ∀ s ∈ E, SpOk s) (h : SB (raw F E) now es L k) (hk : k < es.length) (hne : 0 < k → tV L (L.length - 1) ≠ raw F E (es.getD k 0)) : SB (raw F E) now es (L ++ [(es.getD k 0, raw F E (es.getD k 0))]) (k + 1) := by
  have hll : (L ++ [(es.getD k 0, raw F E (es.getD k 0))]).length = L.length + 1 := by simp
  have gA := fun m => (get_snoc L (es.getD k 0, raw F E (es.getD k 0)) m).1
  have gV := fun m => (get_snoc L (es.getD k 0, raw F E (es.getD k 0)) m).2
  have hlt : ∀ m, m < L.length → tA L m < es.getD k 0 := fun m hm => by
    have h1 := h.le m hm
    have h2 : 0 < k := by
      rcases Nat.eq_zero_or_pos k with h3 | h3
      · rw [h.emp h3] at hm; simp at hm
      · exact h3
    have h3 := hE.lt (i := k - 1) (j := k) (by omega) hk
    omega
  refine ⟨fun h => by omega, fun _ => by omega, fun _ => ?_, fun i hi => ?_, fun i hi => ?_, fun m hm => ?_, by have := h.len; omega, fun m t hm hle hnx hend => ?_⟩
  · rw [gA]
    rcases Nat.eq_zero_or_pos k with h1 | h1
    · rw [h.emp h1, if_neg (by simp), if_pos (by simp), h1]
      exact hE.hd
    · rw [if_pos (h.pos h1)]; exact h.hd h1
  · rw [gA, gA, if_pos (by omega)]
    by_cases h1 : i + 1 < L.length
    · rw [if_pos h1]; exact h.inc i h1
    · rw [if_neg h1, if_pos (by omega)]; exact hlt i (by omega)
  · rw [gV, gV, if_pos (by omega)]
    by_cases h1 : i + 1 < L.length
    · rw [if_pos h1]; exact h.alt i h1
    · rw [if_neg h1, if_pos (by omega), show i = L.length - 1 by omega]
      refine hne ?_
      rcases Nat.eq_zero_or_pos k with h3 | h3
      · have := h.emp h3; subst this; simp at hi
      · exact h3
  · rw [gA, Nat.add_sub_cancel]
    split
    · rename_i h1; exact Int.le_of_lt (hlt m h1)
    · rw [if_pos (by omega)]; exact Int.le_refl _
  · rw [gA] at hle
    rw [gV]
    by_cases h1 : m < L.length
    · rw [if_pos h1] at hle ⊢
      have h2 := hnx (by omega)
      rw [gA] at h2
      by_cases h3 : m + 1 < L.length
      · rw [if_pos h3] at h2
        exact h.rep m t h1 hle (fun _ => h2) (fun _ => by have := hlt (m + 1) h3; omega)
      · rw [if_neg h3, if_pos (by omega)] at h2
        exact h.rep m t h1 hle (fun hx => absurd hx h3) (fun _ => h2)
    · rw [if_neg h1, if_pos (by omega)] at hle ⊢
      exact hE.const hok F hk hle fun hx => hend hx
theorem SB.stay (hE : EdgesOf E now es) (hok : ∀ s ∈ E, SpOk s) (h : SB (raw F E) now es L k) (hk : k < es.length) (h0 : 0 < k) (he : tV L (L.length - 1) = raw F E (es.getD k 0)) : SB (raw F E) now es L (k + 1) := by
  have hpos := h.pos h0
  refine ⟨fun h => by omega, fun _ => hpos, fun _ => h.hd h0, h.inc, h.alt, fun m hm => ?_, by have := h.len; omega, fun m t hm hle hnx hend => ?_⟩
  · have h1 := h.le m hm
    have h3 := hE.lt (i := k - 1) (j := k) (by omega) hk
    rw [Nat.add_sub_cancel]
    omega
  · by_cases h1 : t < es.getD k 0
    · exact h.rep m t hm hle hnx fun _ => h1
    · have hml : m = L.length - 1 := by
        rcases Nat.lt_or_ge (m + 1) L.length with h2 | h2
        · have := hnx h2
          have h4 := h.le (m + 1) h2
          have h3 := hE.lt (i := k - 1) (j := k) (by omega) hk
          omega
        · omega
      rw [hml, he]
      exact hE.const hok F hk (by omega) fun hx => hend hx
theorem SB.can (hE : EdgesOf E now es) (h : SB (raw F E) now es L es.length) : Can L now (raw F E) :=
  ⟨⟨h.pos hE.pos, h.hd hE.pos, h.inc, fun i hi => by have h1 := h.le i hi; have := hE.top (es.length - 1) (by have := hE.pos; omega); omega, fun m t hm hle hnx => h.rep m t hm hle hnx fun hx => absurd hx (by omega)⟩, fun i hi _ => h.alt i hi⟩
end

/-- Two owned rows of elements of two types lie apart. -/
theorem own_ne {w : World} {b1 b2 : Nat} {e1 e2 : TypeId} {s1 s2 n1 n2 : Nat} {v1 v2 : Value} {x1 x2 : List Value} (h1 : w.ownsRow b1 e1 s1 v1 n1 x1) (h2 : w.ownsRow b2 e2 s2 v2 n2 x2) (hne : e1 ≠ e2) : ∀ k, v1.ownBlock = some k → v2.ownBlock ≠ some k := by
  intro k hk hk2
  rcases h1.2 with ⟨rfl, _⟩ | ⟨g1, c1, cur1, rfl, _, hg1, _⟩
  · simp [Value.ownBlock] at hk
  · rcases h2.2 with ⟨rfl, _⟩ | ⟨g2, c2, cur2, rfl, _, hg2, _⟩
    · simp [Value.ownBlock] at hk2
    · have e1 : g1 = k := by simpa [Value.ownBlock] using hk
      have e2 : g2 = k := by simpa [Value.ownBlock] using hk2
      subst e1; subst e2
      rw [hg1] at hg2
      injection hg2 with hg2
      injection hg2 with _ h3
      exact hne h3
theorem own_grownV {w w' : World} {base : Nat} {e : TypeId} {sz n : Nat} {v v2 : Value} {xs : List Value} (h : w.ownsRow base e sz v n xs) (hg : w.grownBy w' v2.ownBlock) (hne : ∀ k, v.ownBlock = some k → v2.ownBlock ≠ some k) : w'.ownsRow base e sz v n xs :=
  ownsRow_block h fun k hk => hg.block k (h.lt k hk).2 fun e => hne k hk e.symm

section
variable {B : Nat} {w : World} {q : Nat} {F now : Int} {E : List Sp} {ver : Int}

set_option maxRecDepth 100000 in
set_option maxHeartbeats 4000000 in
theorem PSteps_any (h : QW B w q F now E ver) (hE : ∀ s ∈ E, SpOk s) (hl : E.length ≤ 60) (hF : 0 ≤ F ∧ F ≤ 64) (hn : now < 1152921504606846976) :
    Calls Try.prog 19 #[.pointer (some ⟨q, 0, none⟩)] w fun e w' => ∃ (g cap : Nat) (L : List (Int × Int)), e = .returned (.slice (some ⟨g, 0, none⟩) L.length cap) ∧ w'.ownsRow w.heap.size 49 2 (.slice (some ⟨g, 0, none⟩) L.length cap) L.length (prV L) ∧ Can L now (raw F E) ∧ Below w.heap.size w w' := by
  have hmix := pf_mixed
  obtain ⟨i0, hi0, hz0, hz1, hz2⟩ := info_parts pf_infoStep
  have hed := Edges_any h hl hn
  go_enter Try.func19, Try.ntmps19
  go_wp2_with fail
  go_at_call 32
  refine hed.mono ?_
  clear hed
  rintro e w1 ⟨g, cp, es, rfl, ho1, hes, hln, hb1⟩
  have hnl : es.length ≤ 121 := by omega
  obtain ⟨n, hnn⟩ : ∃ n, n = es.length := ⟨_, rfl⟩
  rw [← hnn] at ho1 hnl ⊢
  replace hnn := Lib.hid hnn
  replace hes := Lib.hid hes
  replace hE := Lib.hid hE
  clear hln
  go_wp2_with fail
  go_loopw [3, 5] (fun o kk wr => ∃ (k : Nat) (L : List (Int × Int)), k ≤ n ∧ kk = .int .i64 k ∧ wr.ownsRow w.heap.size 49 2 o L.length (prV L) ∧ SB (raw F E) now es L k ∧ wr.ownsRow w.heap.size 2 1 (.slice (some ⟨g, 0, none⟩) n cp) n (inV es) ∧ Below w.heap.size w wr) (fun _ kk _ => n - (intOf kk).toNat)
  case atStart =>
    exact ⟨0, [], Nat.zero_le _, rfl, World.ownsRow_nil _ _ _ _, ⟨fun _ => rfl, fun h => by omega, fun h => by omega, fun i hi => by simp at hi, fun i hi => by simp at hi, fun m hm => by simp at hm, by simp, fun m t hm => by simp at hm⟩, ho1, hb1⟩
  case round =>
    obtain ⟨k, L, hk, rfl, hown, hB, hoe, hb⟩ := hrel
    by_cases hkn : k < n
    · have hke : k < es.length := by rw [← hnn.out]; exact hkn
      have hck := int_cell hoe (i := k) (x := es.getD k 0) (by rw [List.getD_eq_getElem?_getD, List.getElem?_eq_getElem hke]; rfl)
      have gl := (hoe.lt g rfl).2
      have hge := hes.out.ge_now hke
      have hat := fun (W : World) (hW : Below w.heap.size w W) => PAt_any (es.getD k 0) (h.kept hW) hE.out hl hF
      rw [show max (es.getD k 0) now = es.getD k 0 by omega] at hat
      have hadd := fun hne => hB.add hes.out hE.out hke hne
      have hstay := fun h0 he => hB.stay hes.out hE.out hke h0 he
      have hlen := hB.len
      have hposL := hB.pos
      have hempL := hB.emp
      obtain ⟨c, hc⟩ : ∃ c, c = es.getD k 0 := ⟨_, rfl⟩
      rw [← hc] at hck hge hat hadd hstay
      obtain ⟨x, hx⟩ : ∃ x, x = raw F E c := ⟨_, rfl⟩
      rw [← hx] at hat hadd hstay
      have hw2 : IntKind.i64.wrap ((k : Int) + 1) = (k : Int) + 1 := IntWalk.i64_in _ (by omega)
      have b1 : (0 : Int) ≤ k := by omega
      have b2 : (k : Int) < (n : Int) := by omega
      replace hc := Lib.hid hc
      replace hx := Lib.hid hx
      have hshape := own_shape hown
      replace hadd := Lib.hid hadd
      replace hstay := Lib.hid hstay
      replace hat := Lib.hid hat
      replace hempL := Lib.hid hempL
      replace hposL := Lib.hid hposL
      obtain ⟨wo, hwo⟩ : ∃ wo : World, wo = wr := ⟨_, rfl⟩
      subst hwo
      go_wp2_with fail
      refine Reg.region_mk 12 46 [[], [false], [true, true], [true, true, true], [false, false, false, false], [false, false, false, false, false], [false, false, false, false, false, false], [false, false, false, false, false, true, true], [false, false, false, false, false, true, true, true], [false, false, false, false, true, true, true, true, true], [true, true, true, true, true, true, true, true, true, true], [false, false, false, false, false, false, false, false, false, false, false]] [0, 0, 0, 1, 0, 0, 0, 0, 1, 1, 0, 1]
        [.pure, .pure, .pure, .minor Unit () (fun _ => .int .i64 c) (fun _ _ => True), .pure, .pure, .pure, .pure, .minor Unit () (fun _ => .int .i64 c) (fun _ _ => True), .minor Unit () (fun _ => .int .i64 x) (fun _ _ => True), .pure, .minor Nat 0 (fun b => .pointer (some ⟨b, 0, none⟩)) (fun b W => W.heap[b]? = some (.cells #[.int .i64 0, .int .i64 0] 49 (0, 0)) ∧ wo.heap.size ≤ b)]
        (fun W => Below wo.heap.size wo W) (fun _ _ => True) (fun _ _ => False) (by kernel_rfl) (by kernel_rfl) rfl rfl (fun _ _ _ _ h => h) ?_ ?_ ?_ ?_ ?_ ?_
      · intro w1 w2 he hb; exact hb.trans (he.mono hb.size)
      · intro _ _ h; exact h.elim
      · refine ⟨trivial, trivial, trivial, ⟨?_, ?_⟩, trivial, trivial, trivial, trivial, ⟨?_, ?_⟩, ⟨?_, ?_⟩, trivial, ⟨?_, ?_⟩, trivial⟩
        all_goals (first | exact fun _ _ _ _ h => h | exact fun _ _ _ h => h.elim | exact fun b w1 w2 he hx => ⟨by rw [he.block b (pf_lt_of_heap hx.1)]; exact hx.1, hx.2⟩)
      · exact (Below.refl _ _).drew
      · exact trivial
      dsimp only [Reg.mk, List.zip, List.zipWith, List.take]
      repeat (refine' Reg.pass_is _ (by rfl) (fun wz => ?_) ?_; rotate_left; (go_simp; first | rfl | rw [if_neg (by omega)]); simp only [Act.put, List.setIfInBounds_toArray, List.set_cons_zero, List.set_cons_succ]; (try simp only [List.nil_append]); (try simp only [List.cons_append]))
      refine Reg.pass_minor (by rfl) (fun wz hI hF => ?_) (fun x3 => ?_)
      · unfold Reg.One
        have d0 := (hI.cell (p := ⟨g, k, none⟩) gl).trans hck
        go_wp2_with fail
        exact ⟨_, rfl, ⟨(), rfl, trivial⟩, Reg.Ext.refl _⟩
      simp only [Act.put, List.setIfInBounds_toArray, List.set_cons_zero, List.set_cons_succ]; (try simp only [List.nil_append]); (try simp only [List.cons_append]); (try simp only [id])
      repeat (refine' Reg.pass_is _ (by rfl) (fun wz => ?_) ?_; rotate_left; (go_simp; first | rfl | rw [if_neg (by omega)]); simp only [Act.put, List.setIfInBounds_toArray, List.set_cons_zero, List.set_cons_succ]; (try simp only [List.nil_append]); (try simp only [List.cons_append]))
      refine Reg.pass_minor (by rfl) (fun wz hI hF => ?_) (fun x8 => ?_)
      · unfold Reg.One
        have d0 := (hI.cell (p := ⟨g, k, none⟩) gl).trans hck
        go_wp2_with fail
        exact ⟨_, rfl, ⟨(), rfl, trivial⟩, Reg.Ext.refl _⟩
      simp only [Act.put, List.setIfInBounds_toArray, List.set_cons_zero, List.set_cons_succ]; (try simp only [List.nil_append]); (try simp only [List.cons_append]); (try simp only [id])
      refine Reg.pass_minor (by rfl) (fun wz hI hF => ?_) (fun x9 => ?_)
      · unfold Reg.One
        go_wp2_with (go_at_call 33; go_must (refine (hat.out _ (hb.trans (hI.mono hb.size))).mono ?_); rintro e w9 ⟨rfl, rfl⟩)
        exact ⟨_, rfl, ⟨(), rfl, trivial⟩, Reg.Ext.refl _⟩
      simp only [Act.put, List.setIfInBounds_toArray, List.set_cons_zero, List.set_cons_succ]; (try simp only [List.nil_append]); (try simp only [List.cons_append]); (try simp only [id])
      repeat (refine' Reg.pass_is _ (by rfl) (fun wz => ?_) ?_; rotate_left; (go_simp; first | rfl | rw [if_neg (by omega)]); simp only [Act.put, List.setIfInBounds_toArray, List.set_cons_zero, List.set_cons_succ]; (try simp only [List.nil_append]); (try simp only [List.cons_append]))
      refine Reg.pass_minor (by rfl) (fun wz hI hF => ?_) (fun x11 => ?_)
      · unfold Reg.One
        go_wp2_with fail
        exact ⟨_, rfl, ⟨wz.heap.size, rfl, heap_alloc_new wz _, hI.size⟩, (Below.refl _ _).alloc (Nat.le_refl _) _⟩
      simp only [Act.put, List.setIfInBounds_toArray, List.set_cons_zero, List.set_cons_succ]; (try simp only [List.nil_append]); (try simp only [List.cons_append]); (try simp only [id])
      refine Reg.pass_end ?_
      intro w3 HI3 _ HF3
      obtain ⟨hx11, hge11⟩ := HF3.2.2.2.2.2.2.2.2.2.2.2.1
      clear HF3
      have hbl11 := pf_lt_of_heap hx11
      have hcz0 : w3.cell? ⟨x11, 0, none⟩ = some (.int .i64 0) := by simp [World.cell?, hx11]
      have hcz1 : w3.cell? ⟨x11, 1, none⟩ = some (.int .i64 0) := by simp [World.cell?, hx11]
      have hfz : ∀ j, w3.frozen? ⟨x11, j, none⟩ = false := fun j => by simp [World.frozen?, hx11]
      have hW4 : Below wo.heap.size wo ((w3.setCell ⟨x11, 0, none⟩ (.int .i64 c)).setCell ⟨x11, 1, none⟩ (.int .i64 x)) := (HI3.setCell hge11 _).setCell hge11 _
      have hc4 : ((w3.setCell ⟨x11, 0, none⟩ (.int .i64 c)).setCell ⟨x11, 1, none⟩ (.int .i64 x)).heap[x11]? = some (.cells #[.int .i64 c, .int .i64 x] 49 (0, 0)) := by
        have h1' : w3.heap[x11] = _ := (Array.getElem?_eq_some_iff.1 hx11).2
        simp [World.setCell, hbl11, Array.getElem_modify, h1']
      obtain ⟨ao, cap, rfl, hao⟩ := hshape
      dsimp only [List.drop]
      go_wp2_with fail
      obtain ⟨w4, hw4⟩ : ∃ w4, w4 = ((w3.setCell ⟨x11, 0, none⟩ (.int .i64 c)).setCell ⟨x11, 1, none⟩ (.int .i64 x)) := ⟨_, rfl⟩
      rw [← hw4] at hW4 hc4 ⊢
      have hown4 := pf_own_kept hown hW4
      have hoe4 := pf_own_kept hoe hW4
      have hb4 := hb.trans (hW4.mono hb.size)
      have k0 : w4.cell? ⟨x11, 0, none⟩ = some (.int .i64 c) := by simp [World.cell?, hc4]
      have k1 : w4.cell? ⟨x11, 1, none⟩ = some (.int .i64 x) := by simp [World.cell?, hc4]
      have hbl4 : Below w4.heap.size w4 w4 := Below.refl _ _
      clear hw4 hcz0 hcz1 hfz hx11 hown hoe hb HI3 hW4 hck hbl11 hge11
      by_cases hk0 : k = 0
      · have hLe := hempL.out hk0
        subst hLe
        have hSB : Hid (SB (raw F E) now es ([] ++ [(c, x)]) (k + 1)) := hadd.out (fun hh => by omega)
        have hzz : ((([] : List (Int × Int)).length : Int) == 0) = true := rfl
        have hzz2 : (((0 : Nat) : Int) == 0) = true := rfl
        go_quiet (fail)
        have hb45 : Below w4.heap.size w4 (w4.drewN nq) := below_drewN hbl4 nq
        obtain ⟨w5, hw5⟩ : ∃ w5, w5 = w4.drewN nq := ⟨_, rfl⟩
        rw [← hw5] at hb45 ⊢
        have hown5 := pf_own_kept hown4 hb45
        have hoe5 := pf_own_kept hoe4 hb45
        have hb5 := hb4.trans (hb45.mono hb4.size)
        have q0 := (hb45.cell (p := ⟨x11, 0, none⟩) (pf_lt_of_heap hc4)).trans k0
        have q1 := (hb45.cell (p := ⟨x11, 1, none⟩) (pf_lt_of_heap hc4)).trans k1
        clear hw5 hb45 hown4 hoe4 hb4 k0 k1 hc4 hadd hstay
        have hsz5 := hb5.size
        have hlen40 : n ≤ 121 := hnl
        go_wp2_with (at_builtin; go_must (refine wpList_append_own _ rfl (.tmp 41) (.tmp 43) 46 rfl w.heap.size 49 i0 (.agg #[.int .i64 0, .int .i64 0]) 2 16 Try.underlying46 hi0 hz0 hz1 hz2 rfl (by decide) (.slice ao 0 cap) 0 (prV ([] : List (Int × Int))) rfl (hown5.alloc _) ⟨w5.heap.size, 0, none⟩ 1 1 [.int .i64 c, .int .i64 x] rfl rfl ?p0 ?p1 ?p2 ?p3 ?p4 ?p5))
        case p1 => simp [Value.oneCell']
        case p2 => unfold maxLen; omega
        case p4 => first | omega | (simp; omega)
        case p5 =>
          intro v' w6 hown6 hgrow _
          have hb6 : Below w.heap.size w w6 := (hb5.alloc hsz5 _).grown hgrow (by simp; omega) (fun z hz => (hown5.lt z hz).1)
          have hoe6 := own_grownV (hoe5.alloc _) hgrow (own_ne hoe5 hown5 (by decide))
          have hown7 : w6.ownsRow w.heap.size 49 2 v' (([] : List (Int × Int)) ++ [(c, x)]).length (prV (([] : List (Int × Int)) ++ [(c, x)])) := by
            have e1 : prV (([] : List (Int × Int)) ++ [(c, x)]) = prV ([] : List (Int × Int)) ++ [.int .i64 c, .int .i64 x] := by simp [prV, enc2]
            rw [e1, List.length_append, List.length_singleton]
            exact hown6
          obtain ⟨L2, hL2⟩ : ∃ L2, L2 = ([] : List (Int × Int)) ++ [(c, x)] := ⟨_, rfl⟩
          rw [← hL2] at hown7 hSB
          replace hL2 := Lib.hid hL2
          clear hown6 hgrow hown5 hoe5 hb5
          go_wp2_with fail
          go_roundw
          case rel => exact ⟨k + 1, L2, by omega, by go_num, hown7, hSB.out, hoe6, hb6⟩
          case measure => simp [intOf]; omega
      · have hLp := hposL.out (by omega)
        obtain ⟨hh, rfl⟩ := hao hLp
        obtain ⟨lm, hlm⟩ : ∃ lm, lm = L.length - 1 := ⟨_, rfl⟩
        have hlml : lm < L.length := by omega
        have hwl : IntKind.i64.wrap ((L.length : Int) - 1) = (lm : Int) := by rw [IntWalk.i64_in _ (by omega)]; omega
        have t1 := (step_cells (ownsRow_mono hown4 (Nat.zero_le _)) hlml).2
        have hzf : ((L.length : Int) == 0) = false := beq_eq_false_iff_ne.2 (by omega)
        have l0 : (0 : Int) ≤ lm := by omega
        have l1 : (lm : Int) < (L.length : Int) := by omega
        rw [← hlm] at hadd hstay
        obtain ⟨y, hy⟩ : ∃ y, y = tV L lm := ⟨_, rfl⟩
        rw [← hy] at hadd hstay t1
        replace hy := Lib.hid hy
        replace hlm := Lib.hid hlm
        by_cases hyx : y = x
        · have hSB := hstay.out (by omega) hyx
          subst hyx
          replace hSB := Lib.hid hSB
          have e1 : (y == y) = true := by simp
          clear hadd hstay
          go_quiet (fail)
          have hb45 : Below w4.heap.size w4 (w4.drewN nq) := below_drewN hbl4 nq
          obtain ⟨w5, hw5⟩ : ∃ w5, w5 = w4.drewN nq := ⟨_, rfl⟩
          rw [← hw5] at hb45 ⊢
          have hown5 := pf_own_kept hown4 hb45
          have hoe5 := pf_own_kept hoe4 hb45
          have hb5 := hb4.trans (hb45.mono hb4.size)
          clear hw5 hb45 hown4 hoe4 hb4 k0 k1 hc4
          go_wp2_with fail
          go_roundw
          case rel => exact ⟨k + 1, L, by omega, by go_num, hown5, hSB.out, hoe5, hb5⟩
          case measure => simp [intOf]; omega
        · have hSB := hadd.out (fun _ => hyx)
          replace hSB := Lib.hid hSB
          have e1 : (y == x) = false := beq_eq_false_iff_ne.2 hyx
          clear hadd hstay
          replace hyx := Lib.hid hyx
          go_quiet (fail)
          have hb45 : Below w4.heap.size w4 (w4.drewN nq) := below_drewN hbl4 nq
          obtain ⟨w5, hw5⟩ : ∃ w5, w5 = w4.drewN nq := ⟨_, rfl⟩
          rw [← hw5] at hb45 ⊢
          have hown5 := pf_own_kept hown4 hb45
          have hoe5 := pf_own_kept hoe4 hb45
          have hb5 := hb4.trans (hb45.mono hb4.size)
          have q0 := (hb45.cell (p := ⟨x11, 0, none⟩) (pf_lt_of_heap hc4)).trans k0
          have q1 := (hb45.cell (p := ⟨x11, 1, none⟩) (pf_lt_of_heap hc4)).trans k1
          clear hw5 hb45 hown4 hoe4 hb4 k0 k1 hc4 t1
          have hsz5 := hb5.size
          have hlen40 : L.length ≤ 121 := by omega
          go_wp2_with (at_builtin; go_must (refine wpList_append_own _ rfl (.tmp 41) (.tmp 43) 46 rfl w.heap.size 49 i0 (.agg #[.int .i64 0, .int .i64 0]) 2 16 Try.underlying46 hi0 hz0 hz1 hz2 rfl (by decide) (.slice (some ⟨hh, 0, none⟩) L.length cap) L.length (prV L) rfl (hown5.alloc _) ⟨w5.heap.size, 0, none⟩ 1 1 [.int .i64 c, .int .i64 x] rfl rfl ?c0 ?c1 ?c2 ?c3 ?c4 ?c5))
          case c0 => exact cells_new rfl
          case c1 => simp [Value.oneCell']
          case c2 => unfold maxLen; omega
          case c3 => omega
          case c4 => first | omega | (simp; omega)
          case c5 =>
            intro v' w6 hown6 hgrow _
            have hb6 : Below w.heap.size w w6 := (hb5.alloc hsz5 _).grown hgrow (by simp; omega) (fun z hz => (hown5.lt z hz).1)
            have hoe6 := own_grownV (hoe5.alloc _) hgrow (own_ne hoe5 hown5 (by decide))
            have hown7 : w6.ownsRow w.heap.size 49 2 v' (L ++ [(c, x)]).length (prV (L ++ [(c, x)])) := by
              have e1 : prV (L ++ [(c, x)]) = prV L ++ [.int .i64 c, .int .i64 x] := by simp [prV, enc2]
              rw [e1, List.length_append, List.length_singleton]
              exact hown6
            obtain ⟨L2, hL2⟩ : ∃ L2, L2 = L ++ [(c, x)] := ⟨_, rfl⟩
            rw [← hL2] at hown7 hSB
            replace hL2 := Lib.hid hL2
            clear hown6 hgrow hown5 hoe5 hb5
            go_wp2_with fail
            go_roundw
            case rel => exact ⟨k + 1, L2, by omega, by go_num, hown7, hSB.out, hoe6, hb6⟩
            case measure => simp [intOf]; omega
    · obtain rfl : k = n := by omega
      have hfin : Hid (Can L now (raw F E)) := by rw [hnn.out] at hB; exact hB.can hes.out
      have hLp : 0 < L.length := hB.pos (by have := hes.out.pos; have := hnn.out; omega)
      obtain ⟨g2, cp2, rfl, _⟩ := own_block hown hLp
      clear hB
      go_wp2_with fail
      go_ret
      exact ⟨g2, cp2, L, by go_num, hown, hfin.out, hb⟩
end

end Go.Proofs.Ytbnpeicmbbgboaa
