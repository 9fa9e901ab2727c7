/-
  Own walks: a request's fields as bytes, by the program.
-/
import Derived.Test.YtojipdcckanbfaaRqU
import Derived.Test.YtojipdcckanbfaaRqC
namespace Go.Proofs.Ytojipdcckanbfaa
open Go.RowKit

theorem BBuf.mono {w : World} {B B' : Nat} {v : Value} {l : List UInt8} (h : BBuf w B v l) (hb : B' ≤ B) : BBuf w B' v l := by
  rcases h with h | h
  · exact .inl (ownsRow_mono h hb)
  · exact .inr h

set_option maxRecDepth 1000000 in
set_option maxHeartbeats 4000000 in
theorem fields_2 (x2 x3 x4 x5 x6 : Int) (x7 : Bool) (x8 x9 : Int) (hf : FitsR ⟨2, x2, x3, x4, x5, x6, x7, x8, x9⟩) {v : Value} {l : List UInt8} {w : World} (hb : ∀ B, BBuf w B v l) (hl : l.length ≤ 100) : Calls Try.prog 14 #[v, .agg #[.int .i64 2, .int .i64 x2, .int .i64 x3, .int .i64 x4, .int .i64 x5, .int .i64 x6, .bool x7, .int .i64 x8, .int .i64 x9]] w fun e w' => ∃ v', e = .returned v' ∧ BBuf w' w.heap.size v' (l ++ fieldsQ ⟨2, x2, x3, x4, x5, x6, x7, x8, x9⟩) ∧ Below w.heap.size w w' := by
  obtain ⟨wB, hwB⟩ : ∃ wB, wB = w.alloc (.cells #[.int .i64 2, .int .i64 x2, .int .i64 x3, .int .i64 x4, .int .i64 x5, .int .i64 x6, .bool x7, .int .i64 x8, .int .i64 x9] 23) := ⟨_, rfl⟩
  have hsB : wB.heap.size = w.heap.size + 1 := by rw [hwB]; simp
  obtain ⟨wC, hwC⟩ : ∃ wC, wC = wB.alloc (.cells #[.int .i64 x2] 2) := ⟨_, rfl⟩
  have hsC : wC.heap.size = w.heap.size + 2 := by rw [hwC]; simp [hsB]
  have hbC : Below w.heap.size w wC := by rw [hwC, hwB]; exact ((Below.refl _ _).alloc (Nat.le_refl _) _).alloc (by simp) _
  have hXC : wC.heap[w.heap.size + 1]? = some (.cells #[.int .i64 x2] 2 (0, 0)) := by rw [hwC, ← hsB]; exact heap_alloc_new wB _
  have hbuf : BBuf wC (w.heap.size + 2) v l := by rw [hwC, hwB]; exact ((hb _).alloc _).alloc _
  have hall := All_any [x2] (by intro z hz; simp at hz; subst hz; exact hf.id) (by simp) (w.heap.size + 1) 0 1 l v (w.heap.size + 2) wC hbuf (by omega) (by omega) (by omega) (fun j hj => by
    have hj4 : j < 1 := by simpa using hj
    obtain rfl : j = 0 := by omega
    simp [World.cell?, hXC])
  rw [hwC, hwB] at hall
  have hfq : fieldsQ ⟨2, x2, x3, x4, x5, x6, x7, x8, x9⟩ = encAll [x2] := by simp [fieldsQ, encAll]
  rw [hfq]
  clear hb hf hfq hbuf hXC hsC hsB
  generalize encAll [x2] = L at *
  go_enter Try.func14, Try.ntmps14
  go_wp2_with fail
  go_at_call 19
  refine hall.mono ?_
  clear hall
  rintro e wD ⟨vD, rfl, hbD, _, hD⟩
  rw [← hwB, ← hwC] at hD
  replace hwB := Lib.hid hwB
  replace hwC := Lib.hid hwC
  replace hbD := Lib.hid hbD
  have hE : Hid (Below w.heap.size w wD) := hbC.trans (hD.mono (by omega))
  clear hD hbC
  go_wp2_with fail
  go_ret
  exact ⟨vD, rfl, hbD.out.mono (by omega), hE.out⟩

set_option maxRecDepth 1000000 in
set_option maxHeartbeats 4000000 in
theorem fields_3 (x2 x3 x4 x5 x6 : Int) (x7 : Bool) (x8 x9 : Int) (hf : FitsR ⟨3, x2, x3, x4, x5, x6, x7, x8, x9⟩) {v : Value} {l : List UInt8} {w : World} (hb : ∀ B, BBuf w B v l) (hl : l.length ≤ 100) : Calls Try.prog 14 #[v, .agg #[.int .i64 3, .int .i64 x2, .int .i64 x3, .int .i64 x4, .int .i64 x5, .int .i64 x6, .bool x7, .int .i64 x8, .int .i64 x9]] w fun e w' => ∃ v', e = .returned v' ∧ BBuf w' w.heap.size v' (l ++ fieldsQ ⟨3, x2, x3, x4, x5, x6, x7, x8, x9⟩) ∧ Below w.heap.size w w' := by
  obtain ⟨wB, hwB⟩ : ∃ wB, wB = w.alloc (.cells #[.int .i64 3, .int .i64 x2, .int .i64 x3, .int .i64 x4, .int .i64 x5, .int .i64 x6, .bool x7, .int .i64 x8, .int .i64 x9] 23) := ⟨_, rfl⟩
  have hsB : wB.heap.size = w.heap.size + 1 := by rw [hwB]; simp
  obtain ⟨wC, hwC⟩ : ∃ wC, wC = wB.alloc (.cells #[.int .i64 x2] 2) := ⟨_, rfl⟩
  have hsC : wC.heap.size = w.heap.size + 2 := by rw [hwC]; simp [hsB]
  have hbC : Below w.heap.size w wC := by rw [hwC, hwB]; exact ((Below.refl _ _).alloc (Nat.le_refl _) _).alloc (by simp) _
  have hXC : wC.heap[w.heap.size + 1]? = some (.cells #[.int .i64 x2] 2 (0, 0)) := by rw [hwC, ← hsB]; exact heap_alloc_new wB _
  have hbuf : BBuf wC (w.heap.size + 2) v l := by rw [hwC, hwB]; exact ((hb _).alloc _).alloc _
  have hall := All_any [x2] (by intro z hz; simp at hz; subst hz; exact hf.id) (by simp) (w.heap.size + 1) 0 1 l v (w.heap.size + 2) wC hbuf (by omega) (by omega) (by omega) (fun j hj => by
    have hj4 : j < 1 := by simpa using hj
    obtain rfl : j = 0 := by omega
    simp [World.cell?, hXC])
  rw [hwC, hwB] at hall
  have hfq : fieldsQ ⟨3, x2, x3, x4, x5, x6, x7, x8, x9⟩ = encAll [x2] := by simp [fieldsQ, encAll]
  rw [hfq]
  clear hb hf hfq hbuf hXC hsC hsB
  generalize encAll [x2] = L at *
  go_enter Try.func14, Try.ntmps14
  go_wp2_with fail
  go_at_call 19
  refine hall.mono ?_
  clear hall
  rintro e wD ⟨vD, rfl, hbD, _, hD⟩
  rw [← hwB, ← hwC] at hD
  replace hwB := Lib.hid hwB
  replace hwC := Lib.hid hwC
  replace hbD := Lib.hid hbD
  have hE : Hid (Below w.heap.size w wD) := hbC.trans (hD.mono (by omega))
  clear hD hbC
  go_wp2_with fail
  go_ret
  exact ⟨vD, rfl, hbD.out.mono (by omega), hE.out⟩

set_option maxRecDepth 1000000 in
set_option maxHeartbeats 4000000 in
theorem fields_4 (x2 x3 x4 x5 x6 : Int) (x7 : Bool) (x8 x9 : Int) (hf : FitsR ⟨4, x2, x3, x4, x5, x6, x7, x8, x9⟩) {v : Value} {l : List UInt8} {w : World} (hb : ∀ B, BBuf w B v l) (hl : l.length ≤ 100) : Calls Try.prog 14 #[v, .agg #[.int .i64 4, .int .i64 x2, .int .i64 x3, .int .i64 x4, .int .i64 x5, .int .i64 x6, .bool x7, .int .i64 x8, .int .i64 x9]] w fun e w' => ∃ v', e = .returned v' ∧ BBuf w' w.heap.size v' (l ++ fieldsQ ⟨4, x2, x3, x4, x5, x6, x7, x8, x9⟩) ∧ Below w.heap.size w w' := by
  obtain ⟨wB, hwB⟩ : ∃ wB, wB = w.alloc (.cells #[.int .i64 4, .int .i64 x2, .int .i64 x3, .int .i64 x4, .int .i64 x5, .int .i64 x6, .bool x7, .int .i64 x8, .int .i64 x9] 23) := ⟨_, rfl⟩
  have hsB : wB.heap.size = w.heap.size + 1 := by rw [hwB]; simp
  obtain ⟨wC, hwC⟩ : ∃ wC, wC = wB.alloc (.cells #[.int .i64 x2] 2) := ⟨_, rfl⟩
  have hsC : wC.heap.size = w.heap.size + 2 := by rw [hwC]; simp [hsB]
  have hbC : Below w.heap.size w wC := by rw [hwC, hwB]; exact ((Below.refl _ _).alloc (Nat.le_refl _) _).alloc (by simp) _
  have hXC : wC.heap[w.heap.size + 1]? = some (.cells #[.int .i64 x2] 2 (0, 0)) := by rw [hwC, ← hsB]; exact heap_alloc_new wB _
  have hbuf : BBuf wC (w.heap.size + 2) v l := by rw [hwC, hwB]; exact ((hb _).alloc _).alloc _
  have hall := All_any [x2] (by intro z hz; simp at hz; subst hz; exact hf.id) (by simp) (w.heap.size + 1) 0 1 l v (w.heap.size + 2) wC hbuf (by omega) (by omega) (by omega) (fun j hj => by
    have hj4 : j < 1 := by simpa using hj
    obtain rfl : j = 0 := by omega
    simp [World.cell?, hXC])
  rw [hwC, hwB] at hall
  have hfq : fieldsQ ⟨4, x2, x3, x4, x5, x6, x7, x8, x9⟩ = encAll [x2] := by simp [fieldsQ, encAll]
  rw [hfq]
  clear hb hf hfq hbuf hXC hsC hsB
  generalize encAll [x2] = L at *
  go_enter Try.func14, Try.ntmps14
  go_wp2_with fail
  go_at_call 19
  refine hall.mono ?_
  clear hall
  rintro e wD ⟨vD, rfl, hbD, _, hD⟩
  rw [← hwB, ← hwC] at hD
  replace hwB := Lib.hid hwB
  replace hwC := Lib.hid hwC
  replace hbD := Lib.hid hbD
  have hE : Hid (Below w.heap.size w wD) := hbC.trans (hD.mono (by omega))
  clear hD hbC
  go_wp2_with fail
  go_ret
  exact ⟨vD, rfl, hbD.out.mono (by omega), hE.out⟩

set_option maxRecDepth 1000000 in
set_option maxHeartbeats 4000000 in
theorem fields_5 (x2 x3 x4 x5 x6 : Int) (x7 : Bool) (x8 x9 : Int) (hf : FitsR ⟨5, x2, x3, x4, x5, x6, x7, x8, x9⟩) {v : Value} {l : List UInt8} {w : World} (hb : ∀ B, BBuf w B v l) (hl : l.length ≤ 100) : Calls Try.prog 14 #[v, .agg #[.int .i64 5, .int .i64 x2, .int .i64 x3, .int .i64 x4, .int .i64 x5, .int .i64 x6, .bool x7, .int .i64 x8, .int .i64 x9]] w fun e w' => ∃ v', e = .returned v' ∧ BBuf w' w.heap.size v' (l ++ fieldsQ ⟨5, x2, x3, x4, x5, x6, x7, x8, x9⟩) ∧ Below w.heap.size w w' := by
  obtain ⟨wB, hwB⟩ : ∃ wB, wB = w.alloc (.cells #[.int .i64 5, .int .i64 x2, .int .i64 x3, .int .i64 x4, .int .i64 x5, .int .i64 x6, .bool x7, .int .i64 x8, .int .i64 x9] 23) := ⟨_, rfl⟩
  have hsB : wB.heap.size = w.heap.size + 1 := by rw [hwB]; simp
  obtain ⟨wC, hwC⟩ : ∃ wC, wC = wB.alloc (.cells #[.int .i64 x2] 2) := ⟨_, rfl⟩
  have hsC : wC.heap.size = w.heap.size + 2 := by rw [hwC]; simp [hsB]
  have hbC : Below w.heap.size w wC := by rw [hwC, hwB]; exact ((Below.refl _ _).alloc (Nat.le_refl _) _).alloc (by simp) _
  have hXC : wC.heap[w.heap.size + 1]? = some (.cells #[.int .i64 x2] 2 (0, 0)) := by rw [hwC, ← hsB]; exact heap_alloc_new wB _
  have hbuf : BBuf wC (w.heap.size + 2) v l := by rw [hwC, hwB]; exact ((hb _).alloc _).alloc _
  have hall := All_any [x2] (by intro z hz; simp at hz; subst hz; exact hf.id) (by simp) (w.heap.size + 1) 0 1 l v (w.heap.size + 2) wC hbuf (by omega) (by omega) (by omega) (fun j hj => by
    have hj4 : j < 1 := by simpa using hj
    obtain rfl : j = 0 := by omega
    simp [World.cell?, hXC])
  rw [hwC, hwB] at hall
  have hfq : fieldsQ ⟨5, x2, x3, x4, x5, x6, x7, x8, x9⟩ = encAll [x2] := by simp [fieldsQ, encAll]
  rw [hfq]
  clear hb hf hfq hbuf hXC hsC hsB
  generalize encAll [x2] = L at *
  go_enter Try.func14, Try.ntmps14
  go_wp2_with fail
  go_at_call 19
  refine hall.mono ?_
  clear hall
  rintro e wD ⟨vD, rfl, hbD, _, hD⟩
  rw [← hwB, ← hwC] at hD
  replace hwB := Lib.hid hwB
  replace hwC := Lib.hid hwC
  replace hbD := Lib.hid hbD
  have hE : Hid (Below w.heap.size w wD) := hbC.trans (hD.mono (by omega))
  clear hD hbC
  go_wp2_with fail
  go_ret
  exact ⟨vD, rfl, hbD.out.mono (by omega), hE.out⟩

set_option maxRecDepth 1000000 in
set_option maxHeartbeats 4000000 in
theorem fields_6 (x2 x3 x4 x5 x6 : Int) (x7 : Bool) (x8 x9 : Int) (hf : FitsR ⟨6, x2, x3, x4, x5, x6, x7, x8, x9⟩) {v : Value} {l : List UInt8} {w : World} (hb : ∀ B, BBuf w B v l) (hl : l.length ≤ 100) : Calls Try.prog 14 #[v, .agg #[.int .i64 6, .int .i64 x2, .int .i64 x3, .int .i64 x4, .int .i64 x5, .int .i64 x6, .bool x7, .int .i64 x8, .int .i64 x9]] w fun e w' => ∃ v', e = .returned v' ∧ BBuf w' w.heap.size v' (l ++ fieldsQ ⟨6, x2, x3, x4, x5, x6, x7, x8, x9⟩) ∧ Below w.heap.size w w' := by
  obtain ⟨wB, hwB⟩ : ∃ wB, wB = w.alloc (.cells #[.int .i64 6, .int .i64 x2, .int .i64 x3, .int .i64 x4, .int .i64 x5, .int .i64 x6, .bool x7, .int .i64 x8, .int .i64 x9] 23) := ⟨_, rfl⟩
  have hsB : wB.heap.size = w.heap.size + 1 := by rw [hwB]; simp
  obtain ⟨wC, hwC⟩ : ∃ wC, wC = wB.alloc (.cells #[.int .i64 x2] 2) := ⟨_, rfl⟩
  have hsC : wC.heap.size = w.heap.size + 2 := by rw [hwC]; simp [hsB]
  have hbC : Below w.heap.size w wC := by rw [hwC, hwB]; exact ((Below.refl _ _).alloc (Nat.le_refl _) _).alloc (by simp) _
  have hXC : wC.heap[w.heap.size + 1]? = some (.cells #[.int .i64 x2] 2 (0, 0)) := by rw [hwC, ← hsB]; exact heap_alloc_new wB _
  have hbuf : BBuf wC (w.heap.size + 2) v l := by rw [hwC, hwB]; exact ((hb _).alloc _).alloc _
  have hall := All_any [x2] (by intro z hz; simp at hz; subst hz; exact hf.id) (by simp) (w.heap.size + 1) 0 1 l v (w.heap.size + 2) wC hbuf (by omega) (by omega) (by omega) (fun j hj => by
    have hj4 : j < 1 := by simpa using hj
    obtain rfl : j = 0 := by omega
    simp [World.cell?, hXC])
  rw [hwC, hwB] at hall
  have hfq : fieldsQ ⟨6, x2, x3, x4, x5, x6, x7, x8, x9⟩ = encAll [x2] := by simp [fieldsQ, encAll]
  rw [hfq]
  clear hb hf hfq hbuf hXC hsC hsB
  generalize encAll [x2] = L at *
  go_enter Try.func14, Try.ntmps14
  go_wp2_with fail
  go_at_call 19
  refine hall.mono ?_
  clear hall
  rintro e wD ⟨vD, rfl, hbD, _, hD⟩
  rw [← hwB, ← hwC] at hD
  replace hwB := Lib.hid hwB
  replace hwC := Lib.hid hwC
  replace hbD := Lib.hid hbD
  have hE : Hid (Below w.heap.size w wD) := hbC.trans (hD.mono (by omega))
  clear hD hbC
  go_wp2_with fail
  go_ret
  exact ⟨vD, rfl, hbD.out.mono (by omega), hE.out⟩

set_option maxRecDepth 1000000 in
set_option maxHeartbeats 4000000 in
theorem fields_7 (x2 x3 x4 x5 x6 : Int) (x7 : Bool) (x8 x9 : Int) (hf : FitsR ⟨7, x2, x3, x4, x5, x6, x7, x8, x9⟩) {v : Value} {l : List UInt8} {w : World} (hb : ∀ B, BBuf w B v l) (hl : l.length ≤ 100) : Calls Try.prog 14 #[v, .agg #[.int .i64 7, .int .i64 x2, .int .i64 x3, .int .i64 x4, .int .i64 x5, .int .i64 x6, .bool x7, .int .i64 x8, .int .i64 x9]] w fun e w' => ∃ v', e = .returned v' ∧ BBuf w' w.heap.size v' (l ++ fieldsQ ⟨7, x2, x3, x4, x5, x6, x7, x8, x9⟩) ∧ Below w.heap.size w w' := by
  obtain ⟨wB, hwB⟩ : ∃ wB, wB = w.alloc (.cells #[.int .i64 7, .int .i64 x2, .int .i64 x3, .int .i64 x4, .int .i64 x5, .int .i64 x6, .bool x7, .int .i64 x8, .int .i64 x9] 23) := ⟨_, rfl⟩
  have hsB : wB.heap.size = w.heap.size + 1 := by rw [hwB]; simp
  obtain ⟨wC, hwC⟩ : ∃ wC, wC = wB.alloc (.cells #[.int .i64 x8] 2) := ⟨_, rfl⟩
  have hsC : wC.heap.size = w.heap.size + 2 := by rw [hwC]; simp [hsB]
  have hbC : Below w.heap.size w wC := by rw [hwC, hwB]; exact ((Below.refl _ _).alloc (Nat.le_refl _) _).alloc (by simp) _
  have hXC : wC.heap[w.heap.size + 1]? = some (.cells #[.int .i64 x8] 2 (0, 0)) := by rw [hwC, ← hsB]; exact heap_alloc_new wB _
  have hbuf : BBuf wC (w.heap.size + 2) v l := by rw [hwC, hwB]; exact ((hb _).alloc _).alloc _
  have hall := All_any [x8] (by intro z hz; simp at hz; subst hz; exact hf.node) (by simp) (w.heap.size + 1) 0 1 l v (w.heap.size + 2) wC hbuf (by omega) (by omega) (by omega) (fun j hj => by
    have hj4 : j < 1 := by simpa using hj
    obtain rfl : j = 0 := by omega
    simp [World.cell?, hXC])
  rw [hwC, hwB] at hall
  have hfq : fieldsQ ⟨7, x2, x3, x4, x5, x6, x7, x8, x9⟩ = encAll [x8] := by simp [fieldsQ, encAll]
  rw [hfq]
  clear hb hf hfq hbuf hXC hsC hsB
  generalize encAll [x8] = L at *
  go_enter Try.func14, Try.ntmps14
  go_wp2_with fail
  go_at_call 19
  refine hall.mono ?_
  clear hall
  rintro e wD ⟨vD, rfl, hbD, _, hD⟩
  rw [← hwB, ← hwC] at hD
  replace hwB := Lib.hid hwB
  replace hwC := Lib.hid hwC
  replace hbD := Lib.hid hbD
  have hE : Hid (Below w.heap.size w wD) := hbC.trans (hD.mono (by omega))
  clear hD hbC
  go_wp2_with fail
  go_ret
  exact ⟨vD, rfl, hbD.out.mono (by omega), hE.out⟩

set_option maxRecDepth 1000000 in
set_option maxHeartbeats 4000000 in
theorem fields_8 (x2 x3 x4 x5 x6 : Int) (x7 : Bool) (x8 x9 : Int) (hf : FitsR ⟨8, x2, x3, x4, x5, x6, x7, x8, x9⟩) {v : Value} {l : List UInt8} {w : World} (hb : ∀ B, BBuf w B v l) (hl : l.length ≤ 100) : Calls Try.prog 14 #[v, .agg #[.int .i64 8, .int .i64 x2, .int .i64 x3, .int .i64 x4, .int .i64 x5, .int .i64 x6, .bool x7, .int .i64 x8, .int .i64 x9]] w fun e w' => ∃ v', e = .returned v' ∧ BBuf w' w.heap.size v' (l ++ fieldsQ ⟨8, x2, x3, x4, x5, x6, x7, x8, x9⟩) ∧ Below w.heap.size w w' := by
  obtain ⟨wB, hwB⟩ : ∃ wB, wB = w.alloc (.cells #[.int .i64 8, .int .i64 x2, .int .i64 x3, .int .i64 x4, .int .i64 x5, .int .i64 x6, .bool x7, .int .i64 x8, .int .i64 x9] 23) := ⟨_, rfl⟩
  have hsB : wB.heap.size = w.heap.size + 1 := by rw [hwB]; simp
  obtain ⟨wC, hwC⟩ : ∃ wC, wC = wB.alloc (.cells #[.int .i64 x8] 2) := ⟨_, rfl⟩
  have hsC : wC.heap.size = w.heap.size + 2 := by rw [hwC]; simp [hsB]
  have hbC : Below w.heap.size w wC := by rw [hwC, hwB]; exact ((Below.refl _ _).alloc (Nat.le_refl _) _).alloc (by simp) _
  have hXC : wC.heap[w.heap.size + 1]? = some (.cells #[.int .i64 x8] 2 (0, 0)) := by rw [hwC, ← hsB]; exact heap_alloc_new wB _
  have hbuf : BBuf wC (w.heap.size + 2) v l := by rw [hwC, hwB]; exact ((hb _).alloc _).alloc _
  have hall := All_any [x8] (by intro z hz; simp at hz; subst hz; exact hf.node) (by simp) (w.heap.size + 1) 0 1 l v (w.heap.size + 2) wC hbuf (by omega) (by omega) (by omega) (fun j hj => by
    have hj4 : j < 1 := by simpa using hj
    obtain rfl : j = 0 := by omega
    simp [World.cell?, hXC])
  rw [hwC, hwB] at hall
  have hfq : fieldsQ ⟨8, x2, x3, x4, x5, x6, x7, x8, x9⟩ = encAll [x8] := by simp [fieldsQ, encAll]
  rw [hfq]
  clear hb hf hfq hbuf hXC hsC hsB
  generalize encAll [x8] = L at *
  go_enter Try.func14, Try.ntmps14
  go_wp2_with fail
  go_at_call 19
  refine hall.mono ?_
  clear hall
  rintro e wD ⟨vD, rfl, hbD, _, hD⟩
  rw [← hwB, ← hwC] at hD
  replace hwB := Lib.hid hwB
  replace hwC := Lib.hid hwC
  replace hbD := Lib.hid hbD
  have hE : Hid (Below w.heap.size w wD) := hbC.trans (hD.mono (by omega))
  clear hD hbC
  go_wp2_with fail
  go_ret
  exact ⟨vD, rfl, hbD.out.mono (by omega), hE.out⟩

set_option maxRecDepth 1000000 in
set_option maxHeartbeats 4000000 in
theorem fields_9 (x2 x3 x4 x5 x6 : Int) (x7 : Bool) (x8 x9 : Int) (hf : FitsR ⟨9, x2, x3, x4, x5, x6, x7, x8, x9⟩) {v : Value} {l : List UInt8} {w : World} (hb : ∀ B, BBuf w B v l) (hl : l.length ≤ 100) : Calls Try.prog 14 #[v, .agg #[.int .i64 9, .int .i64 x2, .int .i64 x3, .int .i64 x4, .int .i64 x5, .int .i64 x6, .bool x7, .int .i64 x8, .int .i64 x9]] w fun e w' => ∃ v', e = .returned v' ∧ BBuf w' w.heap.size v' (l ++ fieldsQ ⟨9, x2, x3, x4, x5, x6, x7, x8, x9⟩) ∧ Below w.heap.size w w' := by
  obtain ⟨wB, hwB⟩ : ∃ wB, wB = w.alloc (.cells #[.int .i64 9, .int .i64 x2, .int .i64 x3, .int .i64 x4, .int .i64 x5, .int .i64 x6, .bool x7, .int .i64 x8, .int .i64 x9] 23) := ⟨_, rfl⟩
  have hsB : wB.heap.size = w.heap.size + 1 := by rw [hwB]; simp
  obtain ⟨wC, hwC⟩ : ∃ wC, wC = wB.alloc (.cells #[.int .i64 x9] 2) := ⟨_, rfl⟩
  have hsC : wC.heap.size = w.heap.size + 2 := by rw [hwC]; simp [hsB]
  have hbC : Below w.heap.size w wC := by rw [hwC, hwB]; exact ((Below.refl _ _).alloc (Nat.le_refl _) _).alloc (by simp) _
  have hXC : wC.heap[w.heap.size + 1]? = some (.cells #[.int .i64 x9] 2 (0, 0)) := by rw [hwC, ← hsB]; exact heap_alloc_new wB _
  have hbuf : BBuf wC (w.heap.size + 2) v l := by rw [hwC, hwB]; exact ((hb _).alloc _).alloc _
  have hall := All_any [x9] (by intro z hz; simp at hz; subst hz; exact hf.till) (by simp) (w.heap.size + 1) 0 1 l v (w.heap.size + 2) wC hbuf (by omega) (by omega) (by omega) (fun j hj => by
    have hj4 : j < 1 := by simpa using hj
    obtain rfl : j = 0 := by omega
    simp [World.cell?, hXC])
  rw [hwC, hwB] at hall
  have hfq : fieldsQ ⟨9, x2, x3, x4, x5, x6, x7, x8, x9⟩ = encAll [x9] := by simp [fieldsQ, encAll]
  rw [hfq]
  clear hb hf hfq hbuf hXC hsC hsB
  generalize encAll [x9] = L at *
  go_enter Try.func14, Try.ntmps14
  go_wp2_with fail
  go_at_call 19
  refine hall.mono ?_
  clear hall
  rintro e wD ⟨vD, rfl, hbD, _, hD⟩
  rw [← hwB, ← hwC] at hD
  replace hwB := Lib.hid hwB
  replace hwC := Lib.hid hwC
  replace hbD := Lib.hid hbD
  have hE : Hid (Below w.heap.size w wD) := hbC.trans (hD.mono (by omega))
  clear hD hbC
  go_wp2_with fail
  go_ret
  exact ⟨vD, rfl, hbD.out.mono (by omega), hE.out⟩

set_option maxRecDepth 1000000 in
set_option maxHeartbeats 4000000 in
theorem fields_1 (x2 x3 x4 x5 x6 : Int) (x7 : Bool) (x8 x9 : Int) (hf : FitsR ⟨1, x2, x3, x4, x5, x6, x7, x8, x9⟩) {v : Value} {l : List UInt8} {w : World} (hb : ∀ B, BBuf w B v l) (hl : l.length ≤ 100) : Calls Try.prog 14 #[v, .agg #[.int .i64 1, .int .i64 x2, .int .i64 x3, .int .i64 x4, .int .i64 x5, .int .i64 x6, .bool x7, .int .i64 x8, .int .i64 x9]] w fun e w' => ∃ v', e = .returned v' ∧ BBuf w' w.heap.size v' (l ++ fieldsQ ⟨1, x2, x3, x4, x5, x6, x7, x8, x9⟩) ∧ Below w.heap.size w w' := by
  obtain ⟨wB, hwB⟩ : ∃ wB, wB = w.alloc (.cells #[.int .i64 1, .int .i64 x2, .int .i64 x3, .int .i64 x4, .int .i64 x5, .int .i64 x6, .bool x7, .int .i64 x8, .int .i64 x9] 23) := ⟨_, rfl⟩
  have hsB : wB.heap.size = w.heap.size + 1 := by rw [hwB]; simp
  have hB : wB.heap[w.heap.size]? = some (.cells #[.int .i64 1, .int .i64 x2, .int .i64 x3, .int .i64 x4, .int .i64 x5, .int .i64 x6, .bool x7, .int .i64 x8, .int .i64 x9] 23 (0, 0)) := by rw [hwB]; exact heap_alloc_new w _
  obtain ⟨wC, hwC⟩ : ∃ wC, wC = wB.alloc (.cells #[.int .i64 x3, .int .i64 x4, .int .i64 x5, .int .i64 x6] 2) := ⟨_, rfl⟩
  have hsC : wC.heap.size = w.heap.size + 2 := by rw [hwC]; simp [hsB]
  have hbC : Below w.heap.size w wC := by rw [hwC, hwB]; exact ((Below.refl _ _).alloc (Nat.le_refl _) _).alloc (by simp) _
  have hXC : wC.heap[w.heap.size + 1]? = some (.cells #[.int .i64 x3, .int .i64 x4, .int .i64 x5, .int .i64 x6] 2 (0, 0)) := by rw [hwC, ← hsB]; exact heap_alloc_new wB _
  have hBC : wC.heap[w.heap.size]? = some (.cells #[.int .i64 1, .int .i64 x2, .int .i64 x3, .int .i64 x4, .int .i64 x5, .int .i64 x6, .bool x7, .int .i64 x8, .int .i64 x9] 23 (0, 0)) := by rw [hwC]; exact heap_past hB
  have hbuf : BBuf wC (w.heap.size + 2) v l := by rw [hwC, hwB]; exact ((hb _).alloc _).alloc _
  have hall := All_any [x3, x4, x5, x6] (by intro z hz; simp at hz; rcases hz with rfl | rfl | rfl | rfl <;> first | exact hf.user | exact hf.width | exact hf.limit | exact hf.prio) (by simp) (w.heap.size + 1) 0 4 l v (w.heap.size + 2) wC hbuf (by omega) (by omega) (by omega) (fun j hj => by
    have hj4 : j < 4 := by simpa using hj
    rcases (show j = 0 ∨ j = 1 ∨ j = 2 ∨ j = 3 by omega) with rfl | rfl | rfl | rfl <;> simp [World.cell?, hXC])
  rw [hwC, hwB] at hall
  have hX7 : ∀ W, Below (w.heap.size + 2) wC W → W.cell? ⟨w.heap.size, 6, none⟩ = some (.bool x7) := fun W hW => by simp [World.cell?, (hW.block w.heap.size (by omega)).trans hBC]
  have hfq : l ++ fieldsQ ⟨1, x2, x3, x4, x5, x6, x7, x8, x9⟩ = (l ++ encAll [x3, x4, x5, x6]) ++ [if x7 then 1 else 0] := by simp [fieldsQ]
  have hL0 : (l ++ encAll [x3, x4, x5, x6]).length ≤ 1000 := by
    have := encAll_length [x3, x4, x5, x6]
    simp only [List.length_append, List.length_cons, List.length_nil] at *
    omega
  rw [hfq]
  clear hb hf hfq hbuf hXC hB hBC hsB
  generalize l ++ encAll [x3, x4, x5, x6] = L at *
  obtain ⟨M, hM⟩ : ∃ M, M = L ++ [if x7 then (1 : UInt8) else 0] := ⟨_, rfl⟩
  rw [← hM]
  replace hM := Lib.hid hM
  replace hX7 := Lib.hid hX7
  go_enter Try.func14, Try.ntmps14
  go_wp2_with fail
  go_at_call 19
  refine hall.mono ?_
  clear hall
  rintro e wD ⟨vD, rfl, hbD, _, hD⟩
  rw [← hwB, ← hwC] at hD
  have hx7 := hX7.out wD hD
  have hbd := hbC.trans (hD.mono (by omega))
  have hsD := hD.size
  rw [hsC] at hsD
  have hbool := Bool_any x7 L vD (w.heap.size + 2) wD hbD (by omega) hsD
  rw [← hM.out] at hbool
  replace hwB := Lib.hid hwB
  replace hwC := Lib.hid hwC
  clear hX7 hD hbD hbC hsC
  go_wp2_with fail
  go_at_call 20
  refine hbool.mono ?_
  clear hbool
  rintro e w1 ⟨v1, rfl, hown, hE⟩
  have hb1 : Hid (Below w.heap.size w w1) := hbd.trans (hE.mono (by omega))
  replace hown := Lib.hid hown
  clear hE hbd hx7 hsD
  go_wp2_with fail
  go_ret
  exact ⟨v1, rfl, BBuf.mono (B := w.heap.size + 2) hown.out.buf (by omega), hb1.out⟩

set_option maxRecDepth 1000000 in
set_option maxHeartbeats 4000000 in
theorem fields_no (x1 : Int) (x2 x3 x4 x5 x6 : Int) (x7 : Bool) (x8 x9 : Int) (hf : FitsR ⟨x1, x2, x3, x4, x5, x6, x7, x8, x9⟩) (h1 : x1 ≠ 1) (h2 : x1 ≠ 2) (h3 : x1 ≠ 3) (h4 : x1 ≠ 4) (h5 : x1 ≠ 5) (h6 : x1 ≠ 6) (h7 : x1 ≠ 7) (h8 : x1 ≠ 8) (h9 : x1 ≠ 9) {v : Value} {l : List UInt8} {w : World} (hb : ∀ B, BBuf w B v l) (hl : l.length ≤ 100) : Calls Try.prog 14 #[v, .agg #[.int .i64 x1, .int .i64 x2, .int .i64 x3, .int .i64 x4, .int .i64 x5, .int .i64 x6, .bool x7, .int .i64 x8, .int .i64 x9]] w fun e w' => ∃ v', e = .returned v' ∧ BBuf w' w.heap.size v' (l ++ fieldsQ ⟨x1, x2, x3, x4, x5, x6, x7, x8, x9⟩) ∧ Below w.heap.size w w' := by
  have t1 : (x1 == 1) = false := beq_eq_false_iff_ne.2 h1
  have t2 : (x1 == 2) = false := beq_eq_false_iff_ne.2 h2
  have t3 : (x1 == 3) = false := beq_eq_false_iff_ne.2 h3
  have t4 : (x1 == 4) = false := beq_eq_false_iff_ne.2 h4
  have t5 : (x1 == 5) = false := beq_eq_false_iff_ne.2 h5
  have t6 : (x1 == 6) = false := beq_eq_false_iff_ne.2 h6
  have t7 : (x1 == 7) = false := beq_eq_false_iff_ne.2 h7
  have t8 : (x1 == 8) = false := beq_eq_false_iff_ne.2 h8
  have t9 : (x1 == 9) = false := beq_eq_false_iff_ne.2 h9
  have hfq : l ++ fieldsQ ⟨x1, x2, x3, x4, x5, x6, x7, x8, x9⟩ = l := by simp [fieldsQ, h1, h2, h3, h4, h5, h6, h7, h8, h9]
  rw [hfq]
  clear hfq hf h1 h2 h3 h4 h5 h6 h7 h8 h9
  replace hb := Lib.hid hb
  go_enter Try.func14, Try.ntmps14
  go_wp2_with fail
  go_ret
  exact ⟨v, rfl, (hb.out _).alloc _, (Below.refl _ _).alloc (Nat.le_refl _) _⟩

theorem fields_fn {r : Rq} (hf : FitsR r) {v : Value} {l : List UInt8} {w : World} (hb : ∀ B, BBuf w B v l) (hl : l.length ≤ 100) : Calls Try.prog 14 #[v, .agg (encR r).toArray] w fun e w' => ∃ v', e = .returned v' ∧ BBuf w' w.heap.size v' (l ++ fieldsQ r) ∧ Below w.heap.size w w' := by
  obtain ⟨x1, x2, x3, x4, x5, x6, x7, x8, x9⟩ := r
  by_cases h1 : x1 = 1
  · subst h1
    exact fields_1 x2 x3 x4 x5 x6 x7 x8 x9 hf hb hl
  by_cases h2 : x1 = 2
  · subst h2
    exact fields_2 x2 x3 x4 x5 x6 x7 x8 x9 hf hb hl
  by_cases h3 : x1 = 3
  · subst h3
    exact fields_3 x2 x3 x4 x5 x6 x7 x8 x9 hf hb hl
  by_cases h4 : x1 = 4
  · subst h4
    exact fields_4 x2 x3 x4 x5 x6 x7 x8 x9 hf hb hl
  by_cases h5 : x1 = 5
  · subst h5
    exact fields_5 x2 x3 x4 x5 x6 x7 x8 x9 hf hb hl
  by_cases h6 : x1 = 6
  · subst h6
    exact fields_6 x2 x3 x4 x5 x6 x7 x8 x9 hf hb hl
  by_cases h7 : x1 = 7
  · subst h7
    exact fields_7 x2 x3 x4 x5 x6 x7 x8 x9 hf hb hl
  by_cases h8 : x1 = 8
  · subst h8
    exact fields_8 x2 x3 x4 x5 x6 x7 x8 x9 hf hb hl
  by_cases h9 : x1 = 9
  · subst h9
    exact fields_9 x2 x3 x4 x5 x6 x7 x8 x9 hf hb hl
  exact fields_no x1 x2 x3 x4 x5 x6 x7 x8 x9 hf h1 h2 h3 h4 h5 h6 h7 h8 h9 hb hl

end Go.Proofs.Ytojipdcckanbfaa
