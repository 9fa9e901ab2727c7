/-
  Own walk: the statement on what is given back.
-/
import Derived.Test.YtmedbodjikbmfaaNwF
namespace Go.Proofs.Ytmedbodjikbmfaa
open Go.RowKit Go.Lib Go.Sort

theorem cnt_takeK (l : List Int) (n : Int) (hn : 0 ≤ n) (k : Nat) : (cntK (takeF l n) k : Int) = min (cntK (isI l) k : Int) n := by
  induction k with
  | zero => show (0 : Int) = min 0 n; omega
  | succ k ih =>
    simp only [cntK]
    have e : takeF l n k = (isI l k && decide ((cntK (isI l) k : Int) < n)) := rfl
    rw [e]
    cases isI l k with
    | false => simpa using ih
    | true =>
      by_cases h : (cntK (isI l) k : Int) < n
      · simp only [Bool.true_and, decide_eq_true h, if_true]
        push_cast
        omega
      · simp only [Bool.true_and, decide_eq_false h, if_true, Bool.false_eq_true, if_false]
        push_cast
        omega
theorem cnt_take {l : List Int} {n : Int} (hk : Lok l) (h1 : 1 ≤ n) (h2 : n ≤ cntK (isI l) l.length) : (cntK (ofN (takeF l n)).testBit 64 : Int) = n := by
  rw [cnt_ofN, cnt_takeK l n (by omega), cnt_end l hk.few]
  omega
theorem take_in {l : List Int} {n : Int} : InP (takenL l n) (ofN (takeF l n)) 2 3 64 := by
  intro i hi hb
  rw [ofN_testBit] at hb
  have hb : takeF l n i = true := by simpa [hi] using hb
  rw [taken_get, if_pos hb]
  have hI : isI l i = true := by
    unfold takeF at hb
    simp only [Bool.and_eq_true] at hb
    exact hb.1
  exact ⟨by rw [taken_length]; exact isI_lt hI, .inl rfl⟩
theorem give_taken {l : List Int} {n : Int} (hk : Lok l) : (takenL l n).mapIdx (giveF (ofN (takeF l n))) = l := by
  refine List.ext_getElem (by simp [takenL]) fun i h1 h2 => ?_
  have hf := hk.few
  have e1 : ((takenL l n).mapIdx (giveF (ofN (takeF l n)))).getD i 0 = l.getD i 0 := by
    rw [getD_idx, taken_length, if_pos h2, taken_get]
    unfold giveF
    rw [ofN_testBit]
    by_cases hb : takeF l n i = true
    · have hI : isI l i = true := by
        unfold takeF at hb
        simp only [Bool.and_eq_true] at hb
        exact hb.1
      have h2 : l.getD i 0 = 1 := of_decide_eq_true hI
      rw [if_pos hb, h2, hb]
      simp
      omega
    · rw [if_neg hb]
      have : takeF l n i = false := by simpa using hb
      rw [this]
      simp
  rw [getD_of h1, getD_of h2] at e1
  exact e1
theorem back_taken {l : List Int} {n : Int} (hk : Lok l) (h1 : 1 ≤ n) (h2 : n ≤ cntK (isI l) l.length) : (backN (takenL l n) (ofN (takeF l n)) l.length : Int) = n := by
  have key : ∀ k, k ≤ 64 → backN (takenL l n) (ofN (takeF l n)) k = cntK (takeF l n) k := by
    intro k hk'
    induction k with
    | zero => rfl
    | succ k ih =>
      rw [backN_succ, ih (by omega), taken_get, ofN_testBit]
      simp only [cntK]
      cases hb : takeF l n k with
      | true => simp [show k < 64 by omega]
      | false => simp
  rw [key _ hk.few, cnt_takeK l n (by omega)]
  omega
theorem take_sub {l : List Int} {n : Int} : bits .andNot .u64 (ofN (takeF l n) : Nat) (ofN (isI l) : Nat) = 0 := by
  rw [not_ofN]
  have : ofN (fun i => takeF l n i && !isI l i) = 0 := ofN_zero.2 fun i _ => by
    unfold takeF
    cases isI l i <;> simp
  rw [this]; rfl

set_option maxRecDepth 100000 in
set_option maxHeartbeats 4000000 in
theorem walkBack (n : Int) (v : Value) (l : List (List Value)) (many : Int) (w : World) (_hn : -9223372036854775808 ≤ n ∧ n ≤ 9223372036854775807) (hr : RowAt id 3 w v l) (hl : ∀ s ∈ l, CallOk s) (hmany : -9223372036854775808 ≤ many ∧ many ≤ 9223372036854775807) :
    Calls Try.prog 4 #[.int .i64 n, v, .int .i64 many] w fun e w' => e = .returned (.bool true) ∧ Below w.heap.size w w' := by
  by_cases hbad : n < 1 ∨ 64 < n
  · have hm := New_bad n w hbad
    clear hr hl hbad hmany
    go_enter Try.func4, Try.ntmps4
    go_wp2_with (first | (go_at_call 6; go_must (refine hm.mono ?_); rintro e w' ⟨rfl, rfl⟩) | (go_at_call 7; go_must (refine (awake_any _).mono ?_); rintro e w5 ⟨rfl, hb5⟩))
    go_ret
    exact ⟨rfl, hb5⟩
  · obtain ⟨m, rfl⟩ := Int.eq_ofNat_of_zero_le (show 0 ≤ n by omega)
    have m1 : 1 ≤ m := by omega
    have m2 : m ≤ 64 := by omega
    have hnw := New_any m w m1 m2
    have hrk := rep_ok m1 m2
    clear hbad
    obtain ⟨ao, cap, rfl, hlc, hcm, hcells⟩ := hr
    have hlm : l.length ≤ 9223372036854775807 := by unfold maxLen at hcm; omega
    clear hcm
    go_enter Try.func4, Try.ntmps4
    go_wp2_with fail
    go_at_call 6
    refine hnw.mono ?_
    clear hnw
    rintro e w1 ⟨rfl, ht1, hb1⟩
    go_wp2_with fail
    go_loopw [9] (fun ii wr => ∃ (k : Nat) (ls : List Int), k ≤ l.length ∧ k ≤ 50 ∧ ii = .int .i64 k ∧ TW wr w.heap.size ls ∧ Lok ls ∧ Below w.heap.size w wr) (fun ii _ => 50 - (intOf ii).toNat)
    case atStart => exact ⟨0, _, Nat.zero_le _, Nat.zero_le _, rfl, ht1, hrk, hb1⟩
    case round =>
      obtain ⟨k, ls, hkl, hk50, rfl, ht, hk, hb⟩ := hrel
      clear ht1 hb1 hrk
      by_cases hgo : k < l.length ∧ k < 50
      · obtain ⟨hlt2, hlt3⟩ := hgo
        have e1 : decide ((k : Int) < (l.length : Int)) = true := decide_eq_true (by omega)
        have e2 : decide ((k : Int) < 50) = true := decide_eq_true (by omega)
        obtain ⟨b, off, rfl, hbw, hcell⟩ := hcells (by omega)
        obtain ⟨s, hs⟩ : ∃ s, l[k]? = some s := ⟨_, List.getElem?_eq_getElem hlt2⟩
        obtain ⟨sk, sn, su, rfl, hsn, hsu⟩ := hl s (List.mem_of_getElem? hs)
        obtain ⟨c0, c1, c2⟩ := call_cells hcell hs
        rw [← hb.cell (p := ⟨b, _, none⟩) hbw] at c0 c1 c2
        have hw4 : IntKind.i64.wrap ((k : Int) + 1) = (k : Int) + 1 := IntWalk.i64_in _ (by omega)
        have b1 : (0 : Int) ≤ k := by omega
        have b3 : (k : Int) < (l.length : Int) := by omega
        have hta : TW (wr.alloc (.cells #[.int .i64 sk, .int .i64 sn, .int .u64 su] 36)) w.heap.size ls := T3.kept ht ((Below.refl _ _).alloc (Nat.le_refl _) _)
        have hba : Below w.heap.size w (wr.alloc (.cells #[.int .i64 sk, .int .i64 sn, .int .u64 su] 36)) := hb.alloc hb.size _
        have hsz := hb.size
        clear hcell hcells hs hsu
        by_cases k5 : sk = 5
        · subst k5
          have hc := Drain_any sn hsn hta hk
          clear ht hk hta hb hsn
          go_wp2_with fail
          go_at_call 11
          refine hc.mono ?_
          clear hc
          rintro e w5 ⟨hO5, x5, l5, rfl, _, ht5, hk5, _⟩
          have hb5 := hba.trans (hO5.below (Nat.le_refl _))
          clear hO5 hba c0 c1 c2
          go_wp2_with fail
          go_roundw
          case rel => exact ⟨k + 1, l5, by omega, by omega, by go_num, ht5, hk5, hb5⟩
          case measure => simp [intOf]; omega
        · by_cases k6 : sk = 6
          · subst k6
            have hc := Resume_any sn hsn hta hk
            clear ht hk hta hb hsn
            go_wp2_with fail
            go_at_call 12
            refine hc.mono ?_
            clear hc
            rintro e w5 ⟨hO5, x5, l5, rfl, _, ht5, hk5, _⟩
            have hb5 := hba.trans (hO5.below (Nat.le_refl _))
            clear hO5 hba c0 c1 c2
            go_wp2_with fail
            go_roundw
            case rel => exact ⟨k + 1, l5, by omega, by omega, by go_num, ht5, hk5, hb5⟩
            case measure => simp [intOf]; omega
          · have q5 : (sk == 5) = false := by simpa using k5
            have q6 : (sk == 6) = false := by simpa using k6
            have hc := Take_any sn hsn hta hk
            clear ht hk hta hb hsn k5 k6
            go_wp2_with fail
            go_at_call 13
            refine hc.mono ?_
            clear hc
            rintro e w5 ⟨hO5, s5, x5, l5, rfl, _, ht5, hk5, _⟩
            have hb5 := hba.trans (hO5.below (Nat.le_refl _))
            clear hO5 hba c0 c1 c2
            go_wp2_with fail
            go_roundw
            case rel => exact ⟨k + 1, l5, by omega, by omega, by go_num, ht5, hk5, hb5⟩
            case measure => simp [intOf]; omega
      · have hg1 : ¬ k < l.length ∨ (k < l.length ∧ ¬ k < 50) := by omega
        clear hcells hl hgo
        have hid := Idle_any ht hk
        have hus := Used_any (T3.drew ht) hk
        have hcp : Calls Try.prog 16 #[.pointer (some ⟨w.heap.size, 0, none⟩)] wr.drew fun e w' => ∃ pc, e = .returned (.pointer (some ⟨pc, 0, none⟩)) ∧ wr.heap.size ≤ pc ∧ TW w' pc ls ∧ Below wr.heap.size wr.drew w' :=
          (Copy_any (T3.drew ht) hk).mono fun e w' ⟨h1, h2, h3⟩ => ⟨_, h1, Nat.le_refl _, h2, h3⟩
        have hpl := lt_of_heap ht
        have hub := take_use (l := ls) many
        have hsb := take_sub (l := ls) (n := many)
        have hTb : ∀ W, Below wr.heap.size wr W → TW W w.heap.size ls := fun W hW => T3.kept ht hW
        rcases hg1 with hg1 | ⟨hg1, hg2⟩
        · have e1 : decide ((k : Int) < (l.length : Int)) = false := decide_eq_false (by omega)
          go_wp2_with fail
          go_at_call 14
          refine hid.mono ?_
          clear hid
          rintro e w2 ⟨rfl, rfl⟩
          go_wp2_with fail
          go_at_call 15
          refine hus.mono ?_
          clear hus
          rintro e w2 ⟨rfl, rfl⟩
          go_wp2_with fail
          go_at_call 16
          refine hcp.mono ?_
          clear hcp
          rintro e w3 ⟨pc, rfl, hpc, htc, hb3⟩
          have hb3' : Below wr.heap.size wr w3 := (below_drewN (Below.refl _ _) 1).trans hb3
          have htk := Take_any many hmany htc hk
          have hnp : w.heap.size ≠ pc := by omega
          go_wp2_with fail
          go_at_call 13
          refine htk.mono ?_
          clear htk hb3
          rintro e w4 ⟨hO4, s4, x4, l4, rfl, hR4, ht4, hk4, hl4⟩
          have hT4 : TW w4 w.heap.size ls := T3.off (hTb w3 hb3') hO4 hnp
          have hid4 := Idle_any hT4 hk
          have hus4 := Used_any (T3.drew hT4) hk
          have hb4 : Below w.heap.size w w4 := (hb.trans (hb3'.mono hb.size)).trans (hO4.below (by omega))
          clear hT4 hO4 hTb htc
          by_cases hgd : 1 ≤ many ∧ many ≤ cntK (isI ls) ls.length
          · obtain ⟨hm1, hm2⟩ := hgd
            obtain ⟨rfl, rfl, rfl⟩ := hR4.good hm1 hm2
            have hln := len_fn (ofN (takeF ls many)) (ofN_lt _) w4.drew
            rw [cnt_take hk hm1 hm2] at hln
            have huc := Used_any (T3.drew ht4) hk4
            have hgv := Give_any (ofN (takeF ls many)) (ofN_lt _) (T3.drew ht4) hk4
            have hGU : ∀ (k5 x5 : Int) (l5 : List Int), GiveR (takenL ls many) (ofN (takeF ls many)) k5 x5 l5 → k5 = many ∧ x5 = 0 ∧ l5 = ls := fun k5 x5 l5 hG => by
              obtain ⟨h1, h2, h3⟩ := hG.good take_in
              rw [taken_length, back_taken hk hm1 hm2] at h1
              rw [give_taken hk] at h3
              exact ⟨h1, h2, h3⟩
            replace hk := Lib.hid hk
            clear hR4 ht4 hl4 hm1 hm2
            have nI : ((ofN (isI ls) : Int) != (ofN (isI ls) : Int)) = false := by simp
            have nU : ((ofN (useB ls) : Int) != (ofN (useB ls) : Int)) = false := by simp
            have nV : ((ofN (useB (takenL ls many)) : Int) != (ofN (useB (takenL ls many)) : Int)) = false := by simp
            have nm : (many != many) = false := by simp
            obtain ⟨V, hV⟩ : ∃ V, V = ofN (useB (takenL ls many)) := ⟨_, rfl⟩
            obtain ⟨S, hS⟩ : ∃ S, S = ofN (takeF ls many) := ⟨_, rfl⟩
            obtain ⟨I, hI⟩ : ∃ I, I = ofN (isI ls) := ⟨_, rfl⟩
            obtain ⟨U, hU⟩ : ∃ U, U = ofN (useB ls) := ⟨_, rfl⟩
            rw [← hS] at hln hgv hGU hub hsb
            rw [← hI] at hid4 nI hsb
            rw [← hU] at hus4 nU hub
            rw [← hV] at huc nV hub
            simp only [← hS, ← hI, ← hU]
            replace hV := Lib.hid hV
            replace hS := Lib.hid hS
            replace hI := Lib.hid hI
            replace hU := Lib.hid hU
            have eI : ((I : Int) == (I : Int)) = true := by simp
            have eU : ((U : Int) == (U : Int)) = true := by simp
            have em : (many == many) = true := by simp
            go_wp2_with fail
            go_at_call 14
            refine hid4.mono ?_
            clear hid4
            rintro e w5 ⟨rfl, rfl⟩
            go_wp2_with fail
            go_at_call 15
            refine hus4.mono ?_
            clear hus4
            rintro e w5 ⟨rfl, rfl⟩
            go_wp2_with fail
            go_at_call 17
            refine hln.mono ?_
            clear hln
            rintro e w5 ⟨rfl, rfl⟩
            go_wp2_with fail
            go_at_call 15
            refine huc.mono ?_
            clear huc
            rintro e w5 ⟨rfl, rfl⟩
            go_wp2_with fail
            go_at_call 18
            refine hgv.mono ?_
            clear hgv
            rintro e w5 ⟨hO5, k5, x5, l5, rfl, hR5, ht5, _, _⟩
            obtain ⟨rfl, rfl, rfl⟩ := hGU _ _ _ hR5
            have hid5 := Idle_any ht5 hk.out
            have hus5 := Used_any (T3.drew ht5) hk.out
            rw [← hI.out] at hid5
            rw [← hU.out] at hus5
            have hb5 : Below w.heap.size w w5.drew := below_drewN ((below_drewN hb4 1).trans (hO5.below (by omega))) 1
            clear hR5 ht5 hGU hO5 hb4
            go_wp2_with fail
            go_at_call 14
            refine hid5.mono ?_
            clear hid5
            rintro e w6 ⟨rfl, rfl⟩
            go_wp2_with fail
            go_at_call 15
            refine hus5.mono ?_
            clear hus5
            rintro e w6 ⟨rfl, rfl⟩
            go_wp2_with (go_at_call 7; go_must (refine (awake_any _).mono ?_); rintro e w7 ⟨rfl, hb7⟩)
            go_ret
            exact ⟨rfl, hb5.trans (hb7.mono hb5.size)⟩
          · have hx4 : s4 = 0 ∧ (x4 != 0) = true ∧ l4 = ls := by
              by_cases h1 : many < 1
              · obtain ⟨rfl, rfl, rfl⟩ := hR4.arg h1
                exact ⟨rfl, rfl, rfl⟩
              · obtain ⟨rfl, rfl, rfl⟩ := hR4.full (by omega) (by omega)
                exact ⟨rfl, rfl, rfl⟩
            obtain ⟨rfl, hx, rfl⟩ := hx4
            have hidc := Idle_any (T3.drew ht4) hk
            have hb5 : Below w.heap.size w w4.drew.drew := below_drewN hb4 2
            have nI : ((ofN (isI l4) : Int) != (ofN (isI l4) : Int)) = false := by simp
            have nU : ((ofN (useB l4) : Int) != (ofN (useB l4) : Int)) = false := by simp
            have eI : ((ofN (isI l4) : Int) == (ofN (isI l4) : Int)) = true := by simp
            clear hR4 ht4 hk4 hgd hub hsb hb4
            generalize ofN (isI l4) = I at *
            generalize ofN (useB l4) = U at *
            go_wp2_with fail
            go_at_call 14
            refine hid4.mono ?_
            clear hid4
            rintro e w5 ⟨rfl, rfl⟩
            go_wp2_with fail
            go_at_call 15
            refine hus4.mono ?_
            clear hus4
            rintro e w5 ⟨rfl, rfl⟩
            go_wp2_with fail
            go_at_call 14
            refine hidc.mono ?_
            clear hidc
            rintro e w5 ⟨rfl, rfl⟩
            go_wp2_with (go_at_call 7; go_must (refine (awake_any _).mono ?_); rintro e w7 ⟨rfl, hb7⟩)
            go_ret
            exact ⟨rfl, hb5.trans (hb7.mono hb5.size)⟩
        · have e1 : decide ((k : Int) < (l.length : Int)) = true := decide_eq_true (by omega)
          have e2 : decide ((k : Int) < 50) = false := decide_eq_false (by omega)
          go_wp2_with fail
          go_at_call 14
          refine hid.mono ?_
          clear hid
          rintro e w2 ⟨rfl, rfl⟩
          go_wp2_with fail
          go_at_call 15
          refine hus.mono ?_
          clear hus
          rintro e w2 ⟨rfl, rfl⟩
          go_wp2_with fail
          go_at_call 16
          refine hcp.mono ?_
          clear hcp
          rintro e w3 ⟨pc, rfl, hpc, htc, hb3⟩
          have hb3' : Below wr.heap.size wr w3 := (below_drewN (Below.refl _ _) 1).trans hb3
          have htk := Take_any many hmany htc hk
          have hnp : w.heap.size ≠ pc := by omega
          go_wp2_with fail
          go_at_call 13
          refine htk.mono ?_
          clear htk hb3
          rintro e w4 ⟨hO4, s4, x4, l4, rfl, hR4, ht4, hk4, hl4⟩
          have hT4 : TW w4 w.heap.size ls := T3.off (hTb w3 hb3') hO4 hnp
          have hid4 := Idle_any hT4 hk
          have hus4 := Used_any (T3.drew hT4) hk
          have hb4 : Below w.heap.size w w4 := (hb.trans (hb3'.mono hb.size)).trans (hO4.below (by omega))
          clear hT4 hO4 hTb htc
          by_cases hgd : 1 ≤ many ∧ many ≤ cntK (isI ls) ls.length
          · obtain ⟨hm1, hm2⟩ := hgd
            obtain ⟨rfl, rfl, rfl⟩ := hR4.good hm1 hm2
            have hln := len_fn (ofN (takeF ls many)) (ofN_lt _) w4.drew
            rw [cnt_take hk hm1 hm2] at hln
            have huc := Used_any (T3.drew ht4) hk4
            have hgv := Give_any (ofN (takeF ls many)) (ofN_lt _) (T3.drew ht4) hk4
            have hGU : ∀ (k5 x5 : Int) (l5 : List Int), GiveR (takenL ls many) (ofN (takeF ls many)) k5 x5 l5 → k5 = many ∧ x5 = 0 ∧ l5 = ls := fun k5 x5 l5 hG => by
              obtain ⟨h1, h2, h3⟩ := hG.good take_in
              rw [taken_length, back_taken hk hm1 hm2] at h1
              rw [give_taken hk] at h3
              exact ⟨h1, h2, h3⟩
            replace hk := Lib.hid hk
            clear hR4 ht4 hl4 hm1 hm2
            have nI : ((ofN (isI ls) : Int) != (ofN (isI ls) : Int)) = false := by simp
            have nU : ((ofN (useB ls) : Int) != (ofN (useB ls) : Int)) = false := by simp
            have nV : ((ofN (useB (takenL ls many)) : Int) != (ofN (useB (takenL ls many)) : Int)) = false := by simp
            have nm : (many != many) = false := by simp
            obtain ⟨V, hV⟩ : ∃ V, V = ofN (useB (takenL ls many)) := ⟨_, rfl⟩
            obtain ⟨S, hS⟩ : ∃ S, S = ofN (takeF ls many) := ⟨_, rfl⟩
            obtain ⟨I, hI⟩ : ∃ I, I = ofN (isI ls) := ⟨_, rfl⟩
            obtain ⟨U, hU⟩ : ∃ U, U = ofN (useB ls) := ⟨_, rfl⟩
            rw [← hS] at hln hgv hGU hub hsb
            rw [← hI] at hid4 nI hsb
            rw [← hU] at hus4 nU hub
            rw [← hV] at huc nV hub
            simp only [← hS, ← hI, ← hU]
            replace hV := Lib.hid hV
            replace hS := Lib.hid hS
            replace hI := Lib.hid hI
            replace hU := Lib.hid hU
            have eI : ((I : Int) == (I : Int)) = true := by simp
            have eU : ((U : Int) == (U : Int)) = true := by simp
            have em : (many == many) = true := by simp
            go_wp2_with fail
            go_at_call 14
            refine hid4.mono ?_
            clear hid4
            rintro e w5 ⟨rfl, rfl⟩
            go_wp2_with fail
            go_at_call 15
            refine hus4.mono ?_
            clear hus4
            rintro e w5 ⟨rfl, rfl⟩
            go_wp2_with fail
            go_at_call 17
            refine hln.mono ?_
            clear hln
            rintro e w5 ⟨rfl, rfl⟩
            go_wp2_with fail
            go_at_call 15
            refine huc.mono ?_
            clear huc
            rintro e w5 ⟨rfl, rfl⟩
            go_wp2_with fail
            go_at_call 18
            refine hgv.mono ?_
            clear hgv
            rintro e w5 ⟨hO5, k5, x5, l5, rfl, hR5, ht5, _, _⟩
            obtain ⟨rfl, rfl, rfl⟩ := hGU _ _ _ hR5
            have hid5 := Idle_any ht5 hk.out
            have hus5 := Used_any (T3.drew ht5) hk.out
            rw [← hI.out] at hid5
            rw [← hU.out] at hus5
            have hb5 : Below w.heap.size w w5.drew := below_drewN ((below_drewN hb4 1).trans (hO5.below (by omega))) 1
            clear hR5 ht5 hGU hO5 hb4
            go_wp2_with fail
            go_at_call 14
            refine hid5.mono ?_
            clear hid5
            rintro e w6 ⟨rfl, rfl⟩
            go_wp2_with fail
            go_at_call 15
            refine hus5.mono ?_
            clear hus5
            rintro e w6 ⟨rfl, rfl⟩
            go_wp2_with (go_at_call 7; go_must (refine (awake_any _).mono ?_); rintro e w7 ⟨rfl, hb7⟩)
            go_ret
            exact ⟨rfl, hb5.trans (hb7.mono hb5.size)⟩
          · have hx4 : s4 = 0 ∧ (x4 != 0) = true ∧ l4 = ls := by
              by_cases h1 : many < 1
              · obtain ⟨rfl, rfl, rfl⟩ := hR4.arg h1
                exact ⟨rfl, rfl, rfl⟩
              · obtain ⟨rfl, rfl, rfl⟩ := hR4.full (by omega) (by omega)
                exact ⟨rfl, rfl, rfl⟩
            obtain ⟨rfl, hx, rfl⟩ := hx4
            have hidc := Idle_any (T3.drew ht4) hk
            have hb5 : Below w.heap.size w w4.drew.drew := below_drewN hb4 2
            have nI : ((ofN (isI l4) : Int) != (ofN (isI l4) : Int)) = false := by simp
            have nU : ((ofN (useB l4) : Int) != (ofN (useB l4) : Int)) = false := by simp
            have eI : ((ofN (isI l4) : Int) == (ofN (isI l4) : Int)) = true := by simp
            clear hR4 ht4 hk4 hgd hub hsb hb4
            generalize ofN (isI l4) = I at *
            generalize ofN (useB l4) = U at *
            go_wp2_with fail
            go_at_call 14
            refine hid4.mono ?_
            clear hid4
            rintro e w5 ⟨rfl, rfl⟩
            go_wp2_with fail
            go_at_call 15
            refine hus4.mono ?_
            clear hus4
            rintro e w5 ⟨rfl, rfl⟩
            go_wp2_with fail
            go_at_call 14
            refine hidc.mono ?_
            clear hidc
            rintro e w5 ⟨rfl, rfl⟩
            go_wp2_with (go_at_call 7; go_must (refine (awake_any _).mono ?_); rintro e w7 ⟨rfl, hb7⟩)
            go_ret
            exact ⟨rfl, hb5.trans (hb7.mono hb5.size)⟩

end Go.Proofs.Ytmedbodjikbmfaa
