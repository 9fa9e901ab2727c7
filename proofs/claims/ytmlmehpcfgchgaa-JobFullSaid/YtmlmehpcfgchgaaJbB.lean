/-
  Own words: a table of jobs in memory, the program's and the law's; lists of jobs, what a call makes of them.
-/
import Derived.Test.YtmlmehpcfgchgaaJbA
import Derived.Test.YtmlmehpcfgchgaaOsB
import Derived.Test.YtmlmehpcfgchgaaOwnP
import Derived.Test.YtmlmehpcfgchgaaOwnF
import Derived.Laws.ResultCell
namespace Go.Proofs.Ytmlmehpcfgchgaa
open Go.RowKit Go.Sort Go.Lib Go.Shelf Put

def Jb.limit (j : Jb) : Int := j.2.2.2.1
def Jb.state (j : Jb) : Int := j.2.2.2.2.2.1

/-- What every list of jobs is: numbered from one on, with a state, and a limit that is not too great. -/
structure Good (L : List Jb) : Prop where
  id : ∀ i, i < L.length → (L[i]!).id = i + 1
  st : ∀ j ∈ L, 1 ≤ j.state ∧ j.state ≤ 6
  lim : ∀ j ∈ L, 1 ≤ j.limit ∧ j.limit ≤ 1048576
theorem Good.nil : Good [] := ⟨fun i h => by simp at h, fun j h => by simp at h, fun j h => by simp at h⟩

/-- How many have not ended. -/
def liveL (L : List Jb) : Nat := L.countP fun j => decide (j.state < 4)
/-- The job that a request asks for. -/
def newJ (L : List Jb) (r : Rq) : Jb := ((L.length : Int) + 1, r.user, r.width, r.limit, r.prio, if r.held then 2 else 1, -1, -1, -1, 0)
/-- What a submission tells, and makes. -/
def subId (L : List Jb) (r : Rq) : Int := if rightF r ≠ 0 then 0 else if 64 ≤ liveL L ∨ 1024 ≤ L.length then 0 else (L.length : Int) + 1
def subE (L : List Jb) (r : Rq) : Int := if rightF r ≠ 0 then rightF r else if 64 ≤ liveL L ∨ 1024 ≤ L.length then 6 else 0
def subL (L : List Jb) (r : Rq) : List Jb := if rightF r ≠ 0 then L else if 64 ≤ liveL L ∨ 1024 ≤ L.length then L else L ++ [newJ L r]

/-- What a call of a job tells, and makes: e0 the error that comes first, ok: may it be done, ch: the job behind it. -/
def stepE (L : List Jb) (e0 id : Int) (ok : Jb → Bool) : Int := if e0 ≠ 0 then e0 else if id < 1 then 7 else if (L.length : Int) < id then 7 else if ok L[(id - 1).toNat]! then 0 else 8
def stepL (L : List Jb) (e0 id : Int) (ok : Jb → Bool) (ch : Jb → Jb) : List Jb := if stepE L e0 id ok = 0 then L.set (id - 1).toNat (ch L[(id - 1).toNat]!) else L

def okF (o : Cl) (j : Jb) : Bool :=
  if o.kind = 3 then decide (j.state = 1) else if o.kind = 4 then decide (j.state = 2) else if o.kind = 5 then decide (j.state = 1) else if o.kind = 6 then decide (j.state = 1) else if o.kind = 7 then decide (j.state = 1)
  else decide (j.state = 3) || (decide (o.state = 5) && decide (j.state ≤ 2))
def holdJ (j : Jb) : Jb := (j.1, j.2.1, j.2.2.1, j.2.2.2.1, j.2.2.2.2.1, 2, j.2.2.2.2.2.2.1, j.2.2.2.2.2.2.2.1, -1, j.2.2.2.2.2.2.2.2.2)
def freeJ (j : Jb) : Jb := (j.1, j.2.1, j.2.2.1, j.2.2.2.1, j.2.2.2.2.1, 1, j.2.2.2.2.2.2.1, j.2.2.2.2.2.2.2.1, j.2.2.2.2.2.2.2.2.1, j.2.2.2.2.2.2.2.2.2)
def planJ (t : Int) (j : Jb) : Jb := (j.1, j.2.1, j.2.2.1, j.2.2.2.1, j.2.2.2.2.1, j.2.2.2.2.2.1, j.2.2.2.2.2.2.1, j.2.2.2.2.2.2.2.1, t, j.2.2.2.2.2.2.2.2.2)
def beginJ (t n : Int) (j : Jb) : Jb := (j.1, j.2.1, j.2.2.1, j.2.2.2.1, j.2.2.2.2.1, 3, t, t + j.2.2.2.1, -1, n)
def finishJ (s t : Int) (j : Jb) : Jb := (j.1, j.2.1, j.2.2.1, j.2.2.2.1, j.2.2.2.2.1, s, j.2.2.2.2.2.2.1, if j.2.2.2.2.2.1 = 3 then t else j.2.2.2.2.2.2.2.1, -1, j.2.2.2.2.2.2.2.2.2)
def chF (o : Cl) (j : Jb) : Jb :=
  if o.kind = 3 then holdJ j else if o.kind = 4 then freeJ j else if o.kind = 5 then planJ o.at_ j else if o.kind = 6 then beginJ o.at_ o.nodes j else if o.kind = 7 then beginJ o.at_ o.nodes j else finishJ o.state o.at_ j

theorem stepE_ok {L : List Jb} {e0 id : Int} {ok : Jb → Bool} (h : stepE L e0 id ok = 0) : e0 = 0 ∧ 1 ≤ id ∧ id ≤ L.length ∧ ok L[(id - 1).toNat]! = true := by
  unfold stepE at h
  split at h
  · exact absurd h ‹_›
  · split at h
    · omega
    · split at h
      · omega
      · split at h
        · exact ⟨by omega, by omega, by omega, ‹_›⟩
        · omega
theorem stepL_len (L : List Jb) (e0 id : Int) (ok : Jb → Bool) (ch : Jb → Jb) : (stepL L e0 id ok ch).length = L.length := by
  unfold stepL
  split
  · simp
  · rfl
theorem chF_id (o : Cl) (j : Jb) : (chF o j).id = j.id := by
  unfold chF
  repeat' (first | rfl | split)
theorem chF_limit (o : Cl) (j : Jb) : (chF o j).limit = j.limit := by
  unfold chF
  repeat' (first | rfl | split)
theorem chF_state (o : Cl) (j : Jb) (h0 : earlyF o = 0) (hs : 1 ≤ j.state ∧ j.state ≤ 6) : 1 ≤ (chF o j).state ∧ (chF o j).state ≤ 6 := by
  have e1 : (holdJ j).state = 2 := rfl
  have e2 : (freeJ j).state = 1 := rfl
  have e3 : (planJ o.at_ j).state = j.state := rfl
  have e4 : (beginJ o.at_ o.nodes j).state = 3 := rfl
  have e5 : (finishJ o.state o.at_ j).state = o.state := rfl
  unfold chF
  by_cases k3 : o.kind = 3
  · rw [if_pos k3]; omega
  rw [if_neg k3]
  by_cases k4 : o.kind = 4
  · rw [if_pos k4]; omega
  rw [if_neg k4]
  by_cases k5 : o.kind = 5
  · rw [if_pos k5]; omega
  rw [if_neg k5]
  by_cases k6 : o.kind = 6
  · rw [if_pos k6]; omega
  rw [if_neg k6]
  by_cases k7 : o.kind = 7
  · rw [if_pos k7]; omega
  rw [if_neg k7, e5]
  unfold earlyF at h0
  rw [if_neg k5, if_neg k6, if_neg k7, if_neg k3, if_neg k4] at h0
  by_cases a : o.state < 4
  · rw [if_pos a] at h0; omega
  rw [if_neg a] at h0
  by_cases b : 6 < o.state
  · rw [if_pos b] at h0; omega
  omega
theorem Good.step {L : List Jb} (h : Good L) (o : Cl) : Good (stepL L (earlyF o) o.id (okF o) (chF o)) := by
  unfold stepL
  split
  · rename_i he
    obtain ⟨h0, h1, h2, h3⟩ := stepE_ok he
    have hm : L[(o.id - 1).toNat]! ∈ L := by
      rw [getElem!_pos L _ (by omega)]
      exact List.getElem_mem _
    refine ⟨fun i hi => ?_, fun j hj => ?_, fun j hj => ?_⟩
    · rw [List.length_set] at hi
      rw [getElem!_pos _ _ (by simpa using hi), List.getElem_set]
      split
      · rename_i hei
        rw [chF_id, h.id _ (by omega), hei]
      · rw [← getElem!_pos L i hi]; exact h.id i hi
    · rcases List.mem_or_eq_of_mem_set hj with hj | rfl
      · exact h.st j hj
      · exact chF_state o _ h0 (h.st _ hm)
    · rcases List.mem_or_eq_of_mem_set hj with hj | rfl
      · exact h.lim j hj
      · rw [chF_limit]; exact h.lim _ hm
  · exact h
theorem right_zero {r : Rq} (h : rightF r = 0) : 1 ≤ r.limit ∧ r.limit ≤ 1048576 := by
  unfold rightF at h
  repeat (split at h; first | omega | skip)
  omega
theorem Good.sub {L : List Jb} (h : Good L) (r : Rq) : Good (subL L r) := by
  unfold subL
  split
  · exact h
  · rename_i h0
    have h0 : rightF r = 0 := by omega
    split
    · exact h
    · refine ⟨fun i hi => ?_, fun j hj => ?_, fun j hj => ?_⟩
      · rw [List.length_append, List.length_singleton] at hi
        rw [getElem!_pos _ _ (by simpa using hi), List.getElem_append]
        split
        · rename_i hi2
          rw [← getElem!_pos L i hi2]; exact h.id i hi2
        · have : i = L.length := by omega
          subst this
          simp [newJ, Jb.id]
      · rcases List.mem_append.1 hj with hj | hj
        · exact h.st j hj
        · rw [List.mem_singleton] at hj
          subst hj
          show 1 ≤ (if r.held = true then (2 : Int) else 1) ∧ (if r.held = true then (2 : Int) else 1) ≤ 6
          split <;> omega
      · rcases List.mem_append.1 hj with hj | hj
        · exact h.lim j hj
        · rw [List.mem_singleton] at hj
          subst hj
          exact right_zero h0
theorem subL_len (L : List Jb) (r : Rq) : (subL L r).length ≤ L.length + 1 := by
  unfold subL
  split
  · omega
  · split <;> simp

/-! Cells of a list of jobs, one of which is turned. -/
def splice (L : List Jb) (i : Nat) (cs : List Value) : List Value := (L.take i).flatMap encJ ++ cs ++ (L.drop (i + 1)).flatMap encJ
theorem splice_enc {L : List Jb} {i : Nat} (hi : i < L.length) (x : Jb) : splice L i (encJ x) = (L.set i x).flatMap encJ := by
  rw [List.set_eq_take_append_cons_drop, if_pos hi, List.flatMap_append, List.flatMap_cons, splice, List.append_assoc]
theorem splice_self {L : List Jb} {i : Nat} (hi : i < L.length) : L.flatMap encJ = splice L i (encJ L[i]!) := by
  rw [splice_enc hi, getElem!_pos L i hi, List.set_getElem_self]
theorem splice_set {L : List Jb} {i j : Nat} (hi : i < L.length) {cs : List Value} (hc : cs.length = 10) (hj : j < 10) (u : Value) : (splice L i cs).set (i * 10 + j) u = splice L i (cs.set j u) := by
  have hl : ((L.take i).flatMap encJ).length = i * 10 := by rw [flat_len, List.length_take]; omega
  unfold splice
  rw [List.append_assoc, List.append_assoc, List.set_append_right _ _ (by omega), hl, List.set_append_left _ _ (by omega)]
  congr 3
  omega

/-! In memory. -/
/-- A table: a block whose last cell is the slice of its jobs, whose row is its own. -/
structure BV (T : TypeId) (pre : List Value) (w : World) (p : Nat) (v : Value) (L : List Jb) : Prop where
  cell : w.heap[p]? = some (.cells (pre ++ [v]).toArray T (0, 0))
  own : w.ownsRow 0 52 10 v L.length (L.flatMap encJ)
abbrev TV := BV 61 [.bool true]
abbrev PV := BV 35 []
/-- What may have been turned: the table's block and its row's. -/
structure QOff (p : Nat) (o : Option Nat) (w w' : World) : Prop where
  os : w'.os = w.os
  tape : w'.tape = w.tape
  output : w'.output = w.output
  size : w.heap.size ≤ w'.heap.size
  block : ∀ k, k < w.heap.size → k ≠ p → o ≠ some k → w'.heap[k]? = w.heap[k]?
/-- The row lies where it lay, or in a new block. -/
def NewO (w : World) (o o' : Option Nat) : Prop := o' = o ∨ ∃ k, o' = some k ∧ w.heap.size ≤ k

section
variable {p : Nat} {o o1 o2 : Option Nat} {w w1 w2 : World}
theorem QOff.refl (p : Nat) (o : Option Nat) (w : World) : QOff p o w w := ⟨rfl, rfl, rfl, Nat.le_refl _, fun _ _ _ _ => rfl⟩
theorem QOff.of_below (h : Below w.heap.size w w1) : QOff p o w w1 := ⟨h.os, h.tape, h.output, h.size, fun k hk _ _ => h.block k hk⟩
theorem QOff.of_off {g : Nat} (h : Off p g w w1) : QOff p (some g) w w1 := ⟨h.os, h.tape, h.output, h.size, fun k hk h1 h2 => h.block k hk h1 (fun e => h2 (by rw [e]))⟩
theorem QOff.of_grown (h : w.grownBy w1 o) : QOff p o w w1 := ⟨h.os, h.tape, h.output, h.size, fun k hk _ h2 => h.block k hk (fun e => h2 e.symm)⟩
theorem QOff.trans (h : QOff p o w w1) (h' : QOff p o1 w1 w2) (hn : NewO w o o1) : QOff p o w w2 :=
  ⟨h'.os.trans h.os, h'.tape.trans h.tape, h'.output.trans h.output, Nat.le_trans h.size h'.size, fun k hk h1 h2 => by
    rw [h'.block k (Nat.lt_of_lt_of_le hk h.size) h1 (by
      rcases hn with rfl | ⟨q, rfl, hq⟩
      · exact h2
      · intro e; injection e with e; omega), h.block k hk h1 h2]⟩
theorem NewO.refl (w : World) (o : Option Nat) : NewO w o o := .inl rfl
theorem NewO.trans (h : NewO w o o1) (h' : NewO w1 o1 o2) (hs : w.heap.size ≤ w1.heap.size) : NewO w o o2 := by
  rcases h' with rfl | ⟨q, rfl, hq⟩
  · exact h
  · exact .inr ⟨q, rfl, by omega⟩
theorem QOff.below {base : Nat} (h : QOff p o w w1) (hp : base ≤ p) (ho : ∀ k, o = some k → base ≤ k) (hb : base ≤ w.heap.size) : Below base w w1 :=
  ⟨h.os, h.tape, h.output, h.size, fun k hk => h.block k (by omega) (by omega) (fun e => by have := ho k e; omega)⟩
theorem NewO.lo {base : Nat} (h : NewO w o o1) (ho : ∀ k, o = some k → base ≤ k) (hb : base ≤ w.heap.size) : ∀ k, o1 = some k → base ≤ k := by
  rcases h with rfl | ⟨q, rfl, hq⟩
  · exact ho
  · intro k e; cases e; omega
end

section
variable {T : TypeId} {pre : List Value} {w w' : World} {p g n cap : Nat} {v : Value} {L : List Jb}
theorem BV.lt (h : BV T pre w p v L) : p < w.heap.size := Put.lt_of_heap h.cell
theorem BV.kept (h : BV T pre w p v L) (hb : Below w.heap.size w w') : BV T pre w' p v L := ⟨by rw [hb.block p h.lt]; exact h.cell, Put.own_kept h.own hb⟩
theorem BV.cv (h : BV T pre w p v L) : w.cell? ⟨p, pre.length, none⟩ = some v := by simp [World.cell?, h.cell]
theorem BV.fz (h : BV T pre w p v L) (j : Nat) : w.frozen? ⟨p, j, none⟩ = false := by simp [World.frozen?, h.cell]
theorem BV.ne {m : Nat} (hT : T ≠ 52) (h : BV T pre w p (.slice (some ⟨g, 0, none⟩) m cap) L) : p ≠ g := by
  rcases h.own.2 with ⟨e0, _⟩ | ⟨g', cap', cur, e0, _, hg, _⟩
  · cases e0
  · cases e0
    exact Put.apart_types h.cell hg hT
theorem BV.ob (hT : T ≠ 52) (h : BV T pre w p v L) : v.ownBlock ≠ some p := by
  intro e
  rcases h.own.2 with ⟨e0, _⟩ | ⟨g', cap', cur, e0, _, hg, _⟩
  · rw [e0] at e; simp [Value.ownBlock] at e
  · rw [e0] at e
    simp [Value.ownBlock] at e
    subst e
    exact Put.apart_types h.cell hg hT rfl
/-- What is read of its jobs. -/
theorem BV.row {m : Nat} (h : BV T pre w p (.slice (some ⟨g, 0, none⟩) m cap) L) : JRow w g 0 L := by
  have hr := RowAt.of_own h.own encJ_len rfl rfl
  refine ⟨(h.own.lt g rfl).2, fun i s j u hi hj => ?_⟩
  obtain ⟨ao, cap', e, _, _, q3⟩ := hr
  cases e
  obtain ⟨b, off, e1, _, q⟩ := q3 (by have := (List.getElem?_eq_some_iff.1 hi).1; omega)
  cases e1
  exact q i s j u hi hj
theorem BV.rowAt (h : BV T pre w p v L) : RowAt encJ 10 w v L := RowAt.of_own h.own encJ_len rfl rfl
theorem BV.shape (h : BV T pre w p v L) (hL : 0 < L.length) : ∃ g cap, v = .slice (some ⟨g, 0, none⟩) L.length cap := by
  obtain ⟨ao, cap, rfl, hp⟩ := own_shape h.own
  obtain ⟨g, rfl⟩ := hp hL
  exact ⟨g, cap, rfl⟩
/-- Another table stays. -/
theorem BV.other {U : TypeId} {pre2 : List Value} {q : Nat} {u : Value} {M : List Jb} (hT : T ≠ 52) (hU : U ≠ 52) (h : BV T pre w p v L) (h2 : BV U pre2 w q u M) (hpq : q ≠ p) (ha : ∀ k, v.ownBlock = some k → u.ownBlock ≠ some k) (ho : QOff p v.ownBlock w w') : BV U pre2 w' q u M := by
  have hv : ∀ k, v.ownBlock = some k → ∃ cur, w.heap[k]? = some (.cells cur 52 (0, 0)) := by
    intro k hk
    rcases h.own.2 with ⟨e0, _⟩ | ⟨g', cap', cur, e0, _, hg, _⟩
    · rw [e0] at hk; simp [Value.ownBlock] at hk
    · rw [e0] at hk
      simp [Value.ownBlock] at hk
      subst hk
      exact ⟨cur, hg⟩
  refine ⟨?_, ?_⟩
  · rw [ho.block q h2.lt hpq (fun e => ?_)]
    · exact h2.cell
    · obtain ⟨cur, hc⟩ := hv q e
      exact Put.apart_types h2.cell hc hU rfl
  · refine ownsRow_block h2.own fun k hk => ?_
    refine ho.block k (h2.own.lt k hk).2 (fun e => ?_) (fun e => ha k e hk)
    subst e
    rcases h2.own.2 with ⟨e0, _⟩ | ⟨g', cap', cur, e0, _, hg, _⟩
    · rw [e0] at hk; simp [Value.ownBlock] at hk
    · rw [e0] at hk
      simp [Value.ownBlock] at hk
      subst hk
      exact Put.apart_types h.cell hg hT rfl
end

end Go.Proofs.Ytmlmehpcfgchgaa
