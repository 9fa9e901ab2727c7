/-
  Own walks: the only request that bytes may be, by the program.
-/
import Derived.Test.YtojipdcckanbfaaRqW
import Derived.Test.YtojipdcckanbfaaRqS
import Derived.Test.YtojipdcckanbfaaRdL
namespace Go.Proofs.Ytojipdcckanbfaa
open Go.RowKit

def ReadsAs (l : List UInt8) (x : Rq) : Prop := FitsR x ∧ ∀ r, FitsR r → rightQ r = true → encQ r = l → x = r
/-- A request that lies in block g. -/
def ReqAt (w : World) (g : Nat) (r : Rq) : Prop := w.heap[g]? = some (.cells (encR r).toArray 23 (0, 0))
theorem ReqAt.only {w w' : World} {g b : Nat} {r : Rq} (h : ReqAt w g r) (ho : Only b w w') (hg : g ≠ b) : ReqAt w' g r := (ho.block g hg).trans h
theorem ReqAt.past {w : World} {g : Nat} {r : Rq} (h : ReqAt w g r) (o : Obj) : ReqAt (w.alloc o) g r := heap_past h
theorem ReqAt.ext {w w' : World} {g B : Nat} {r : Rq} (h : ReqAt w g r) (hb : Below B w w') (hg : g < B) : ReqAt w' g r := (hb.block g hg).trans h
theorem ReqAt.below {w w' : World} {g : Nat} {r : Rq} (h : ReqAt w g r) (hb : Below w.heap.size w w') : ReqAt w' g r := (hb.block g (lt_of_at h)).trans h
theorem ReqAt.free {w : World} {g : Nat} {r : Rq} (h : ReqAt w g r) (j : Nat) : w.frozen? ⟨g, j, none⟩ = false := by simp [World.frozen?, show w.heap[g]? = _ from h]
theorem ReqAt.set {w : World} {g : Nat} {r : Rq} (h : ReqAt w g r) (j : Nat) (u : Value) (r' : Rq) (he : (encR r).toArray.setIfInBounds j u = (encR r').toArray) : ReqAt (w.setCell ⟨g, j, none⟩ u) g r' := by
  have := heap_put (i := j) h u
  rw [he] at this
  exact this
theorem ReqAt.past_set {w : World} {g b : Nat} {r : Rq} (h : ReqAt w g r) (j : Nat) (u : Value) (hg : g ≠ b) : ReqAt (w.setCell ⟨b, j, none⟩ u) g r := (Below.heap_setCell _ _ _ _ hg).trans h
theorem ReqAt.store {w : World} {g : Nat} {r : Rq} (h : ReqAt w g r) (x : Rq) : Sem.run Try.prog (storeCells ⟨g, 0, none⟩ (encR x) 0) w = .ok () (w.setRow g (encR x).toArray) ∧ ReqAt (w.setRow g (encR x).toArray) g x := by
  refine ⟨?_, setRow_heap w g _ _ _ _ h⟩
  have hst := run_storeCells_at Try.prog g 0 23 (encR x) 0 (encR r).toArray w h (by simp [encR_len]) (encR_one x)
  simp only [Nat.add_zero] at hst
  rw [hst]
  rfl
theorem belowC {B g : Nat} {w0 w : World} (hb : Below B w0 w) (hBg : B ≤ g) (j : Nat) (u : Value) : Below B w0 (w.setCell ⟨g, j, none⟩ u) := hb.trans ((Only.setCell g j w u).below hBg)
theorem belowS {B g : Nat} {w0 w : World} (hb : Below B w0 w) (hBg : B ≤ g) (cs : Array Value) : Below B w0 (w.setRow g cs) := hb.trans ((⟨rfl, rfl, rfl, by simp, fun k hk => setRow_other w g k _ hk⟩ : Only g w (w.setRow g cs)).below hBg)
theorem RU.same {w w' : World} {b : Nat} {o : Option (List UInt8)} (h : RU w b o) (he : w'.heap[b]? = w.heap[b]?) : RU w' b o := by
  cases o with
  | some l => exact ⟨he.trans h.1, h.2⟩
  | none => obtain ⟨q, hq, h⟩ := h; exact ⟨q, hq, he.trans h⟩

theorem RU.past_set {w : World} {b g : Nat} {o : Option (List UInt8)} (h : RU w b o) (j : Nat) (u : Value) (hg : b ≠ g) : RU (w.setCell ⟨g, j, none⟩ u) b o := h.same (Below.heap_setCell _ _ _ _ hg)

theorem SR.fit {o o' : Option (List UInt8)} {x : Int} (h : SR o x o') : Fit x := by
  cases o with
  | none => rw [h.1]; exact ⟨by decide, by decide⟩
  | some l =>
    rcases h with ⟨h, _⟩ | ⟨rfl, _⟩
    · exact h
    · exact ⟨by decide, by decide⟩
theorem SR.enc {y x : Int} {s : List UInt8} {o : Option (List UInt8)} (h : SR (some (Go.Proofs.Ytojipdcckanbfaa.enc (zg y) ++ s)) x o) (hy : Fit y) : x = y ∧ o = some s := by
  rcases h with ⟨hx, rest, he, ho⟩ | ⟨_, _, no⟩
  · obtain ⟨h1, h2⟩ := zg_prefix hy hx he
    exact ⟨h1.symm, by rw [ho, h2]⟩
  · exact absurd rfl (no y s hy)
theorem BR.enc {y x : Bool} {s : List UInt8} {o : Option (List UInt8)} (h : BR (some ((if y then 1 else 0) :: s)) x o) : x = y := by
  rcases h with ⟨rest, he, _⟩ | ⟨_, _, no⟩
  · rw [List.cons.injEq] at he
    have := he.1
    cases x <;> cases y <;> first | rfl | (simp at this)
  · exact absurd rfl (no y s)
theorem enc_tail {r : Rq} {c0 c1 : UInt8} {t : List UInt8} (hr : rightQ r = true) (he : encQ r = c0 :: c1 :: t) : r.kind = (c1.toNat : Int) ∧ ∃ s, t = fieldsQ r ++ [s] := by
  have hk := (right_parts hr).1
  have h1 : byt 183 :: byt r.kind.toNat :: (fieldsQ r ++ [byt (ckF (bodyQ r))]) = c0 :: c1 :: t := he
  rw [List.cons.injEq, List.cons.injEq] at h1
  obtain ⟨_, h2, h3⟩ := h1
  refine ⟨?_, _, h3.symm⟩
  rw [← h2, byt_toNat (by omega)]
  omega
section
variable {c0 c1 : UInt8} {t : List UInt8}
theorem zfit : (-9223372036854775808 : Int) ≤ 0 ∧ (0 : Int) ≤ 9223372036854775807 := by omega
theorem reads_1 {a b c d : Int} {e : Bool} {o1 o2 o3 o4 o5 : Option (List UInt8)} (hc : c1.toNat = 1) (h1 : SR (some t) a o1) (h2 : SR o1 b o2) (h3 : SR o2 c o3) (h4 : SR o3 d o4) (h5 : BR o4 e o5) : ReadsAs (c0 :: c1 :: t) ⟨1, 0, a, b, c, d, e, 0, 0⟩ := by
  refine ⟨⟨by show (-9223372036854775808 : Int) ≤ 1 ∧ (1 : Int) ≤ _; omega, zfit, h1.fit, h2.fit, h3.fit, h4.fit, zfit, zfit⟩, fun r fr hr he => ?_⟩
  obtain ⟨hk, s, rfl⟩ := enc_tail hr he
  rw [hc] at hk
  have hf : fieldsQ r = enc (zg r.user) ++ (enc (zg r.width) ++ (enc (zg r.limit) ++ (enc (zg r.prio) ++ [if r.held then 1 else 0]))) := by
    unfold fieldsQ; rw [if_pos (by rw [hk]; rfl)]; simp [encAll]
  rw [hf] at h1
  simp only [List.append_assoc] at h1
  obtain ⟨rfl, rfl⟩ := h1.enc fr.user
  obtain ⟨rfl, rfl⟩ := h2.enc fr.width
  obtain ⟨rfl, rfl⟩ := h3.enc fr.limit
  obtain ⟨rfl, rfl⟩ := h4.enc fr.prio
  have h5 := BR.enc (s := [s]) h5
  have hcl := (right_parts hr).2
  unfold cleanR at hcl
  rw [if_pos (by rw [hk]; rfl), hk] at hcl
  rw [h5]
  exact hcl
theorem reads_2 {x : Int} {o : Option (List UInt8)} (k : Nat) (hk2 : k = 2 ∨ k = 3 ∨ k = 4 ∨ k = 5 ∨ k = 6) (hc : c1.toNat = k) (h1 : SR (some t) x o) : ReadsAs (c0 :: c1 :: t) ⟨k, x, 0, 0, 0, 0, false, 0, 0⟩ := by
  refine ⟨⟨by show (-9223372036854775808 : Int) ≤ (k : Int) ∧ (k : Int) ≤ _; omega, h1.fit, zfit, zfit, zfit, zfit, zfit, zfit⟩, fun r fr hr he => ?_⟩
  obtain ⟨hk, s, rfl⟩ := enc_tail hr he
  rw [hc] at hk
  have hf : fieldsQ r = enc (zg r.id) := by unfold fieldsQ; rw [if_neg (by omega), if_pos (by omega)]
  rw [hf] at h1
  obtain ⟨rfl, _⟩ := h1.enc fr.id
  have hcl := (right_parts hr).2
  unfold cleanR at hcl
  rw [if_neg (by omega), if_pos (by omega), hk] at hcl
  exact hcl
theorem reads_7 {x : Int} {o : Option (List UInt8)} (k : Nat) (hk2 : k = 7 ∨ k = 8) (hc : c1.toNat = k) (h1 : SR (some t) x o) : ReadsAs (c0 :: c1 :: t) ⟨k, 0, 0, 0, 0, 0, false, x, 0⟩ := by
  refine ⟨⟨by show (-9223372036854775808 : Int) ≤ (k : Int) ∧ (k : Int) ≤ _; omega, zfit, zfit, zfit, zfit, zfit, h1.fit, zfit⟩, fun r fr hr he => ?_⟩
  obtain ⟨hk, s, rfl⟩ := enc_tail hr he
  rw [hc] at hk
  have hf : fieldsQ r = enc (zg r.node) := by unfold fieldsQ; rw [if_neg (by omega), if_neg (by omega), if_pos (by omega)]
  rw [hf] at h1
  obtain ⟨rfl, _⟩ := h1.enc fr.node
  have hcl := (right_parts hr).2
  unfold cleanR at hcl
  rw [if_neg (by omega), if_neg (by omega), if_pos (by omega), hk] at hcl
  exact hcl
theorem reads_9 {x : Int} {o : Option (List UInt8)} (hc : c1.toNat = 9) (h1 : SR (some t) x o) : ReadsAs (c0 :: c1 :: t) ⟨9, 0, 0, 0, 0, 0, false, 0, x⟩ := by
  refine ⟨⟨by show (-9223372036854775808 : Int) ≤ 9 ∧ (9 : Int) ≤ _; omega, zfit, zfit, zfit, zfit, zfit, zfit, h1.fit⟩, fun r fr hr he => ?_⟩
  obtain ⟨hk, s, rfl⟩ := enc_tail hr he
  rw [hc] at hk
  have hf : fieldsQ r = enc (zg r.till) := by unfold fieldsQ; rw [if_neg (by omega), if_neg (by omega), if_neg (by omega), if_pos (by omega)]
  rw [hf] at h1
  obtain ⟨rfl, _⟩ := h1.enc fr.till
  have hcl := (right_parts hr).2
  unfold cleanR at hcl
  rw [if_neg (by omega), if_neg (by omega), if_neg (by omega), if_pos (by omega), hk] at hcl
  exact hcl
theorem reads_no {m : Nat} (hc : c1.toNat = m) (h1 : m ≠ 1) (h2 : m ≠ 2) (h3 : m ≠ 3) (h4 : m ≠ 4) (h5 : m ≠ 5) (h6 : m ≠ 6) (h7 : m ≠ 7) (h8 : m ≠ 8) (h9 : m ≠ 9) : ReadsAs (c0 :: c1 :: t) ⟨m, 0, 0, 0, 0, 0, false, 0, 0⟩ := by
  have hm := c1.toNat_lt
  refine ⟨⟨by show (-9223372036854775808 : Int) ≤ (m : Int) ∧ (m : Int) ≤ _; omega, zfit, zfit, zfit, zfit, zfit, zfit, zfit⟩, fun r fr hr he => ?_⟩
  obtain ⟨hk, s, rfl⟩ := enc_tail hr he
  rw [hc] at hk
  have hcl := (right_parts hr).2
  unfold cleanR at hcl
  rw [if_neg (by omega), if_neg (by omega), if_neg (by omega), if_neg (by omega), hk] at hcl
  exact hcl
end

theorem ReqAt.lt {w : World} {g : Nat} {r : Rq} (h : ReqAt w g r) : g < w.heap.size := lt_of_at h

set_option maxRecDepth 1000000 in
set_option maxHeartbeats 4000000 in
theorem guess_2 {b off n cap : Nat} {w : World} {c0 c1 : UInt8} {t : List UInt8} (hc : c1.toNat = 2) (hn : n = t.length + 2) (hn64 : n ≤ 64) (hcap : n ≤ cap) (hcm : cap ≤ maxLen) (hr : BRead w (.slice (some ⟨b, off + 1, none⟩) (n - 1) (cap - 1)) (c1 :: t)) :
    Calls Try.prog 17 #[.slice (some ⟨b, off, none⟩) n cap] w fun e w' => ∃ x, e = .returned (.agg (encR x).toArray) ∧ ReadsAs (c0 :: c1 :: t) x ∧ Below w.heap.size w w' := by
  have hcx : Hid ((c1.toNat : Int) = 2) := by show _ = _; rw [hc]; rfl
  have hcM : cap ≤ 9223372036854775807 := by unfold maxLen at hcm; omega
  have hn1 : 1 ≤ n := by omega
  have hc1 : ¬ cap = 1 := by omega
  have hc2 : 1 < cap := by omega
  have hc3 : ¬ cap - 1 = 0 := by omega
  have hrd := Read_un _ (hr.keeps (w' := w.alloc (.cells #[.int .i64 0, .int .i64 0, .int .i64 0, .int .i64 0, .int .i64 0, .int .i64 0, .bool false, .int .i64 0, .int .i64 0] 23)) (Keeps.of_ext ((Below.refl _ _).alloc (Nat.le_refl _) _))) (by simp; omega)
  replace hn := Lib.hid hn
  obtain ⟨wA, hwA⟩ : ∃ wA, wA = w.alloc (.cells #[.int .i64 0, .int .i64 0, .int .i64 0, .int .i64 0, .int .i64 0, .int .i64 0, .bool false, .int .i64 0, .int .i64 0] 23) := ⟨_, rfl⟩
  have hbA : Hid (Below w.heap.size w wA) := by show Below _ _ _; rw [hwA]; exact (Below.refl _ _).alloc (Nat.le_refl _) _
  have hsA : wA.heap.size = w.heap.size + 1 := by rw [hwA]; simp
  have hRA : ReqAt wA w.heap.size zeroR := by rw [hwA]; exact heap_alloc_new w _
  clear hr hcm
  go_enter Try.func17, Try.ntmps17
  go_wp2_with fail
  go_at_call 23
  refine hrd.mono ?_
  clear hrd
  rw [← hwA]
  rintro e w1 ⟨rfl, hu1, he1⟩
  rw [hsA] at hu1
  have hR1 : ReqAt w1 w.heap.size zeroR := hRA.ext he1 (by omega)
  have hb1 : Hid (Below w.heap.size w w1) := hbA.out.trans (he1.mono (by omega))
  have hs1 : w.heap.size + 1 < w1.heap.size := hu1.lt
  replace hwA := Lib.hid hwA
  clear he1 hRA hbA
  rw [hsA]
  clear hsA
  have hby := Byte_un hu1
  clear hu1
  go_wp2_with fail
  go_at_call 24
  refine hby.mono ?_
  clear hby
  rintro e w2 ⟨c, o1, rfl, ⟨rfl, rfl⟩, hu2, ho2⟩
  rw [hcx.out]
  have hR2 : ReqAt w2 w.heap.size zeroR := hR1.only ho2 (by omega)
  have hb2 : Hid (Below w.heap.size w w2) := hb1.out.trans (ho2.below (by omega))
  have hs2 : w.heap.size + 1 < w2.heap.size := by rw [ho2.size]; exact hs1
  clear hR1 hb1 ho2 hs1
  obtain ⟨w3, hw3⟩ : ∃ w3, w3 = w2.alloc (.cells #[.int .i64 2, .int .i64 0, .int .i64 0, .int .i64 0, .int .i64 0, .int .i64 0, .bool false, .int .i64 0, .int .i64 0] 23) := ⟨_, rfl⟩
  have hu3 : RU w3 (w.heap.size + 1) (some t) := by rw [hw3]; exact hu2.ext ((Below.refl _ _).alloc (Nat.le_refl _) _)
  have hQ3 : ReqAt w3 w2.heap.size ⟨2, 0, 0, 0, 0, 0, false, 0, 0⟩ := by rw [hw3]; exact heap_alloc_new w2 _
  have hR3 : ReqAt w3 w.heap.size zeroR := by rw [hw3]; exact hR2.past _
  have hb3 : Hid (Below w.heap.size w w3) := by show Below _ _ _; rw [hw3]; exact hb2.out.alloc (by omega) _
  clear hu2 hR2 hb2
  have hsg := Sign_un hu3
  rw [hw3] at hsg
  clear hu3
  go_wp2_with fail
  go_at_call 25
  refine hsg.mono ?_
  clear hsg
  rintro e w4 ⟨y3, o3, rfl, hS3, hu4, ho3⟩
  rw [← hw3] at ho3
  replace hw3 := Lib.hid hw3
  have hQ4 : ReqAt w4 w2.heap.size _ := hQ3.only ho3 (by omega)
  have hR4 : ReqAt w4 w.heap.size _ := hR3.only ho3 (by omega)
  have hb4 : Hid (Below w.heap.size w w4) := hb3.out.trans (ho3.below (by omega))
  replace hS3 := Lib.hid hS3
  clear hQ3 hR3 hb3 ho3
  have d0 := req_cells hQ4 1 _ rfl
  have d1 := hQ4.free 1
  obtain ⟨w5, hw5⟩ : ∃ v, v = w4.setCell ⟨w2.heap.size, 1, none⟩ (.int .i64 y3) := ⟨_, rfl⟩
  have hQ5 : ReqAt w5 w2.heap.size ⟨2, y3, 0, 0, 0, 0, false, 0, 0⟩ := by rw [hw5]; exact hQ4.set _ _ _ rfl
  have hR5 : ReqAt w5 w.heap.size zeroR := by rw [hw5]; exact hR4.past_set _ _ (by omega)
  have hb5 : Hid (Below w.heap.size w w5) := by show Below _ _ _; rw [hw5]; exact belowC hb4.out (by omega) _ _
  generalize hx : (⟨2, y3, 0, 0, 0, 0, false, 0, 0⟩ : Rq) = x at *
  have lR := encR_len x
  have zR := zE_req
  obtain ⟨k9, hk9⟩ : ∃ k, k = 9 := ⟨_, rfl⟩
  rw [← hk9] at lR zR
  replace hk9 := Lib.hid hk9
  have hld := req_load hQ5 lR
  obtain ⟨hst, hR6⟩ := hR5.store x
  have hb6 : Hid (Below w.heap.size w (w5.setRow w.heap.size (encR x).toArray)) := belowS hb5.out (Nat.le_refl _) _
  replace hx := Lib.hid hx
  rw [hw5] at hld hst
  go_wp2_with fail
  rw [← hw5]
  refine ret_row rfl rfl rfl hR6 Try.underlying23 rfl (by kernel_rfl) ⟨x, rfl, ?_, hb6.out⟩
  first | exact reads_2 2 (by decide) hc hS3.out | (rw [← hx.out]; exact reads_2 2 (by decide) hc hS3.out)

set_option maxRecDepth 1000000 in
set_option maxHeartbeats 4000000 in
theorem guess_3 {b off n cap : Nat} {w : World} {c0 c1 : UInt8} {t : List UInt8} (hc : c1.toNat = 3) (hn : n = t.length + 2) (hn64 : n ≤ 64) (hcap : n ≤ cap) (hcm : cap ≤ maxLen) (hr : BRead w (.slice (some ⟨b, off + 1, none⟩) (n - 1) (cap - 1)) (c1 :: t)) :
    Calls Try.prog 17 #[.slice (some ⟨b, off, none⟩) n cap] w fun e w' => ∃ x, e = .returned (.agg (encR x).toArray) ∧ ReadsAs (c0 :: c1 :: t) x ∧ Below w.heap.size w w' := by
  have hcx : Hid ((c1.toNat : Int) = 3) := by show _ = _; rw [hc]; rfl
  have hcM : cap ≤ 9223372036854775807 := by unfold maxLen at hcm; omega
  have hn1 : 1 ≤ n := by omega
  have hc1 : ¬ cap = 1 := by omega
  have hc2 : 1 < cap := by omega
  have hc3 : ¬ cap - 1 = 0 := by omega
  have hrd := Read_un _ (hr.keeps (w' := w.alloc (.cells #[.int .i64 0, .int .i64 0, .int .i64 0, .int .i64 0, .int .i64 0, .int .i64 0, .bool false, .int .i64 0, .int .i64 0] 23)) (Keeps.of_ext ((Below.refl _ _).alloc (Nat.le_refl _) _))) (by simp; omega)
  replace hn := Lib.hid hn
  obtain ⟨wA, hwA⟩ : ∃ wA, wA = w.alloc (.cells #[.int .i64 0, .int .i64 0, .int .i64 0, .int .i64 0, .int .i64 0, .int .i64 0, .bool false, .int .i64 0, .int .i64 0] 23) := ⟨_, rfl⟩
  have hbA : Hid (Below w.heap.size w wA) := by show Below _ _ _; rw [hwA]; exact (Below.refl _ _).alloc (Nat.le_refl _) _
  have hsA : wA.heap.size = w.heap.size + 1 := by rw [hwA]; simp
  have hRA : ReqAt wA w.heap.size zeroR := by rw [hwA]; exact heap_alloc_new w _
  clear hr hcm
  go_enter Try.func17, Try.ntmps17
  go_wp2_with fail
  go_at_call 23
  refine hrd.mono ?_
  clear hrd
  rw [← hwA]
  rintro e w1 ⟨rfl, hu1, he1⟩
  rw [hsA] at hu1
  have hR1 : ReqAt w1 w.heap.size zeroR := hRA.ext he1 (by omega)
  have hb1 : Hid (Below w.heap.size w w1) := hbA.out.trans (he1.mono (by omega))
  have hs1 : w.heap.size + 1 < w1.heap.size := hu1.lt
  replace hwA := Lib.hid hwA
  clear he1 hRA hbA
  rw [hsA]
  clear hsA
  have hby := Byte_un hu1
  clear hu1
  go_wp2_with fail
  go_at_call 24
  refine hby.mono ?_
  clear hby
  rintro e w2 ⟨c, o1, rfl, ⟨rfl, rfl⟩, hu2, ho2⟩
  rw [hcx.out]
  have hR2 : ReqAt w2 w.heap.size zeroR := hR1.only ho2 (by omega)
  have hb2 : Hid (Below w.heap.size w w2) := hb1.out.trans (ho2.below (by omega))
  have hs2 : w.heap.size + 1 < w2.heap.size := by rw [ho2.size]; exact hs1
  clear hR1 hb1 ho2 hs1
  obtain ⟨w3, hw3⟩ : ∃ w3, w3 = w2.alloc (.cells #[.int .i64 3, .int .i64 0, .int .i64 0, .int .i64 0, .int .i64 0, .int .i64 0, .bool false, .int .i64 0, .int .i64 0] 23) := ⟨_, rfl⟩
  have hu3 : RU w3 (w.heap.size + 1) (some t) := by rw [hw3]; exact hu2.ext ((Below.refl _ _).alloc (Nat.le_refl _) _)
  have hQ3 : ReqAt w3 w2.heap.size ⟨3, 0, 0, 0, 0, 0, false, 0, 0⟩ := by rw [hw3]; exact heap_alloc_new w2 _
  have hR3 : ReqAt w3 w.heap.size zeroR := by rw [hw3]; exact hR2.past _
  have hb3 : Hid (Below w.heap.size w w3) := by show Below _ _ _; rw [hw3]; exact hb2.out.alloc (by omega) _
  clear hu2 hR2 hb2
  have hsg := Sign_un hu3
  rw [hw3] at hsg
  clear hu3
  go_wp2_with fail
  go_at_call 25
  refine hsg.mono ?_
  clear hsg
  rintro e w4 ⟨y3, o3, rfl, hS3, hu4, ho3⟩
  rw [← hw3] at ho3
  replace hw3 := Lib.hid hw3
  have hQ4 : ReqAt w4 w2.heap.size _ := hQ3.only ho3 (by omega)
  have hR4 : ReqAt w4 w.heap.size _ := hR3.only ho3 (by omega)
  have hb4 : Hid (Below w.heap.size w w4) := hb3.out.trans (ho3.below (by omega))
  replace hS3 := Lib.hid hS3
  clear hQ3 hR3 hb3 ho3
  have d0 := req_cells hQ4 1 _ rfl
  have d1 := hQ4.free 1
  obtain ⟨w5, hw5⟩ : ∃ v, v = w4.setCell ⟨w2.heap.size, 1, none⟩ (.int .i64 y3) := ⟨_, rfl⟩
  have hQ5 : ReqAt w5 w2.heap.size ⟨3, y3, 0, 0, 0, 0, false, 0, 0⟩ := by rw [hw5]; exact hQ4.set _ _ _ rfl
  have hR5 : ReqAt w5 w.heap.size zeroR := by rw [hw5]; exact hR4.past_set _ _ (by omega)
  have hb5 : Hid (Below w.heap.size w w5) := by show Below _ _ _; rw [hw5]; exact belowC hb4.out (by omega) _ _
  generalize hx : (⟨3, y3, 0, 0, 0, 0, false, 0, 0⟩ : Rq) = x at *
  have lR := encR_len x
  have zR := zE_req
  obtain ⟨k9, hk9⟩ : ∃ k, k = 9 := ⟨_, rfl⟩
  rw [← hk9] at lR zR
  replace hk9 := Lib.hid hk9
  have hld := req_load hQ5 lR
  obtain ⟨hst, hR6⟩ := hR5.store x
  have hb6 : Hid (Below w.heap.size w (w5.setRow w.heap.size (encR x).toArray)) := belowS hb5.out (Nat.le_refl _) _
  replace hx := Lib.hid hx
  rw [hw5] at hld hst
  go_wp2_with fail
  rw [← hw5]
  refine ret_row rfl rfl rfl hR6 Try.underlying23 rfl (by kernel_rfl) ⟨x, rfl, ?_, hb6.out⟩
  first | exact reads_2 3 (by decide) hc hS3.out | (rw [← hx.out]; exact reads_2 3 (by decide) hc hS3.out)

set_option maxRecDepth 1000000 in
set_option maxHeartbeats 4000000 in
theorem guess_4 {b off n cap : Nat} {w : World} {c0 c1 : UInt8} {t : List UInt8} (hc : c1.toNat = 4) (hn : n = t.length + 2) (hn64 : n ≤ 64) (hcap : n ≤ cap) (hcm : cap ≤ maxLen) (hr : BRead w (.slice (some ⟨b, off + 1, none⟩) (n - 1) (cap - 1)) (c1 :: t)) :
    Calls Try.prog 17 #[.slice (some ⟨b, off, none⟩) n cap] w fun e w' => ∃ x, e = .returned (.agg (encR x).toArray) ∧ ReadsAs (c0 :: c1 :: t) x ∧ Below w.heap.size w w' := by
  have hcx : Hid ((c1.toNat : Int) = 4) := by show _ = _; rw [hc]; rfl
  have hcM : cap ≤ 9223372036854775807 := by unfold maxLen at hcm; omega
  have hn1 : 1 ≤ n := by omega
  have hc1 : ¬ cap = 1 := by omega
  have hc2 : 1 < cap := by omega
  have hc3 : ¬ cap - 1 = 0 := by omega
  have hrd := Read_un _ (hr.keeps (w' := w.alloc (.cells #[.int .i64 0, .int .i64 0, .int .i64 0, .int .i64 0, .int .i64 0, .int .i64 0, .bool false, .int .i64 0, .int .i64 0] 23)) (Keeps.of_ext ((Below.refl _ _).alloc (Nat.le_refl _) _))) (by simp; omega)
  replace hn := Lib.hid hn
  obtain ⟨wA, hwA⟩ : ∃ wA, wA = w.alloc (.cells #[.int .i64 0, .int .i64 0, .int .i64 0, .int .i64 0, .int .i64 0, .int .i64 0, .bool false, .int .i64 0, .int .i64 0] 23) := ⟨_, rfl⟩
  have hbA : Hid (Below w.heap.size w wA) := by show Below _ _ _; rw [hwA]; exact (Below.refl _ _).alloc (Nat.le_refl _) _
  have hsA : wA.heap.size = w.heap.size + 1 := by rw [hwA]; simp
  have hRA : ReqAt wA w.heap.size zeroR := by rw [hwA]; exact heap_alloc_new w _
  clear hr hcm
  go_enter Try.func17, Try.ntmps17
  go_wp2_with fail
  go_at_call 23
  refine hrd.mono ?_
  clear hrd
  rw [← hwA]
  rintro e w1 ⟨rfl, hu1, he1⟩
  rw [hsA] at hu1
  have hR1 : ReqAt w1 w.heap.size zeroR := hRA.ext he1 (by omega)
  have hb1 : Hid (Below w.heap.size w w1) := hbA.out.trans (he1.mono (by omega))
  have hs1 : w.heap.size + 1 < w1.heap.size := hu1.lt
  replace hwA := Lib.hid hwA
  clear he1 hRA hbA
  rw [hsA]
  clear hsA
  have hby := Byte_un hu1
  clear hu1
  go_wp2_with fail
  go_at_call 24
  refine hby.mono ?_
  clear hby
  rintro e w2 ⟨c, o1, rfl, ⟨rfl, rfl⟩, hu2, ho2⟩
  rw [hcx.out]
  have hR2 : ReqAt w2 w.heap.size zeroR := hR1.only ho2 (by omega)
  have hb2 : Hid (Below w.heap.size w w2) := hb1.out.trans (ho2.below (by omega))
  have hs2 : w.heap.size + 1 < w2.heap.size := by rw [ho2.size]; exact hs1
  clear hR1 hb1 ho2 hs1
  obtain ⟨w3, hw3⟩ : ∃ w3, w3 = w2.alloc (.cells #[.int .i64 4, .int .i64 0, .int .i64 0, .int .i64 0, .int .i64 0, .int .i64 0, .bool false, .int .i64 0, .int .i64 0] 23) := ⟨_, rfl⟩
  have hu3 : RU w3 (w.heap.size + 1) (some t) := by rw [hw3]; exact hu2.ext ((Below.refl _ _).alloc (Nat.le_refl _) _)
  have hQ3 : ReqAt w3 w2.heap.size ⟨4, 0, 0, 0, 0, 0, false, 0, 0⟩ := by rw [hw3]; exact heap_alloc_new w2 _
  have hR3 : ReqAt w3 w.heap.size zeroR := by rw [hw3]; exact hR2.past _
  have hb3 : Hid (Below w.heap.size w w3) := by show Below _ _ _; rw [hw3]; exact hb2.out.alloc (by omega) _
  clear hu2 hR2 hb2
  have hsg := Sign_un hu3
  rw [hw3] at hsg
  clear hu3
  go_wp2_with fail
  go_at_call 25
  refine hsg.mono ?_
  clear hsg
  rintro e w4 ⟨y3, o3, rfl, hS3, hu4, ho3⟩
  rw [← hw3] at ho3
  replace hw3 := Lib.hid hw3
  have hQ4 : ReqAt w4 w2.heap.size _ := hQ3.only ho3 (by omega)
  have hR4 : ReqAt w4 w.heap.size _ := hR3.only ho3 (by omega)
  have hb4 : Hid (Below w.heap.size w w4) := hb3.out.trans (ho3.below (by omega))
  replace hS3 := Lib.hid hS3
  clear hQ3 hR3 hb3 ho3
  have d0 := req_cells hQ4 1 _ rfl
  have d1 := hQ4.free 1
  obtain ⟨w5, hw5⟩ : ∃ v, v = w4.setCell ⟨w2.heap.size, 1, none⟩ (.int .i64 y3) := ⟨_, rfl⟩
  have hQ5 : ReqAt w5 w2.heap.size ⟨4, y3, 0, 0, 0, 0, false, 0, 0⟩ := by rw [hw5]; exact hQ4.set _ _ _ rfl
  have hR5 : ReqAt w5 w.heap.size zeroR := by rw [hw5]; exact hR4.past_set _ _ (by omega)
  have hb5 : Hid (Below w.heap.size w w5) := by show Below _ _ _; rw [hw5]; exact belowC hb4.out (by omega) _ _
  generalize hx : (⟨4, y3, 0, 0, 0, 0, false, 0, 0⟩ : Rq) = x at *
  have lR := encR_len x
  have zR := zE_req
  obtain ⟨k9, hk9⟩ : ∃ k, k = 9 := ⟨_, rfl⟩
  rw [← hk9] at lR zR
  replace hk9 := Lib.hid hk9
  have hld := req_load hQ5 lR
  obtain ⟨hst, hR6⟩ := hR5.store x
  have hb6 : Hid (Below w.heap.size w (w5.setRow w.heap.size (encR x).toArray)) := belowS hb5.out (Nat.le_refl _) _
  replace hx := Lib.hid hx
  rw [hw5] at hld hst
  go_wp2_with fail
  rw [← hw5]
  refine ret_row rfl rfl rfl hR6 Try.underlying23 rfl (by kernel_rfl) ⟨x, rfl, ?_, hb6.out⟩
  first | exact reads_2 4 (by decide) hc hS3.out | (rw [← hx.out]; exact reads_2 4 (by decide) hc hS3.out)

set_option maxRecDepth 1000000 in
set_option maxHeartbeats 4000000 in
theorem guess_5 {b off n cap : Nat} {w : World} {c0 c1 : UInt8} {t : List UInt8} (hc : c1.toNat = 5) (hn : n = t.length + 2) (hn64 : n ≤ 64) (hcap : n ≤ cap) (hcm : cap ≤ maxLen) (hr : BRead w (.slice (some ⟨b, off + 1, none⟩) (n - 1) (cap - 1)) (c1 :: t)) :
    Calls Try.prog 17 #[.slice (some ⟨b, off, none⟩) n cap] w fun e w' => ∃ x, e = .returned (.agg (encR x).toArray) ∧ ReadsAs (c0 :: c1 :: t) x ∧ Below w.heap.size w w' := by
  have hcx : Hid ((c1.toNat : Int) = 5) := by show _ = _; rw [hc]; rfl
  have hcM : cap ≤ 9223372036854775807 := by unfold maxLen at hcm; omega
  have hn1 : 1 ≤ n := by omega
  have hc1 : ¬ cap = 1 := by omega
  have hc2 : 1 < cap := by omega
  have hc3 : ¬ cap - 1 = 0 := by omega
  have hrd := Read_un _ (hr.keeps (w' := w.alloc (.cells #[.int .i64 0, .int .i64 0, .int .i64 0, .int .i64 0, .int .i64 0, .int .i64 0, .bool false, .int .i64 0, .int .i64 0] 23)) (Keeps.of_ext ((Below.refl _ _).alloc (Nat.le_refl _) _))) (by simp; omega)
  replace hn := Lib.hid hn
  obtain ⟨wA, hwA⟩ : ∃ wA, wA = w.alloc (.cells #[.int .i64 0, .int .i64 0, .int .i64 0, .int .i64 0, .int .i64 0, .int .i64 0, .bool false, .int .i64 0, .int .i64 0] 23) := ⟨_, rfl⟩
  have hbA : Hid (Below w.heap.size w wA) := by show Below _ _ _; rw [hwA]; exact (Below.refl _ _).alloc (Nat.le_refl _) _
  have hsA : wA.heap.size = w.heap.size + 1 := by rw [hwA]; simp
  have hRA : ReqAt wA w.heap.size zeroR := by rw [hwA]; exact heap_alloc_new w _
  clear hr hcm
  go_enter Try.func17, Try.ntmps17
  go_wp2_with fail
  go_at_call 23
  refine hrd.mono ?_
  clear hrd
  rw [← hwA]
  rintro e w1 ⟨rfl, hu1, he1⟩
  rw [hsA] at hu1
  have hR1 : ReqAt w1 w.heap.size zeroR := hRA.ext he1 (by omega)
  have hb1 : Hid (Below w.heap.size w w1) := hbA.out.trans (he1.mono (by omega))
  have hs1 : w.heap.size + 1 < w1.heap.size := hu1.lt
  replace hwA := Lib.hid hwA
  clear he1 hRA hbA
  rw [hsA]
  clear hsA
  have hby := Byte_un hu1
  clear hu1
  go_wp2_with fail
  go_at_call 24
  refine hby.mono ?_
  clear hby
  rintro e w2 ⟨c, o1, rfl, ⟨rfl, rfl⟩, hu2, ho2⟩
  rw [hcx.out]
  have hR2 : ReqAt w2 w.heap.size zeroR := hR1.only ho2 (by omega)
  have hb2 : Hid (Below w.heap.size w w2) := hb1.out.trans (ho2.below (by omega))
  have hs2 : w.heap.size + 1 < w2.heap.size := by rw [ho2.size]; exact hs1
  clear hR1 hb1 ho2 hs1
  obtain ⟨w3, hw3⟩ : ∃ w3, w3 = w2.alloc (.cells #[.int .i64 5, .int .i64 0, .int .i64 0, .int .i64 0, .int .i64 0, .int .i64 0, .bool false, .int .i64 0, .int .i64 0] 23) := ⟨_, rfl⟩
  have hu3 : RU w3 (w.heap.size + 1) (some t) := by rw [hw3]; exact hu2.ext ((Below.refl _ _).alloc (Nat.le_refl _) _)
  have hQ3 : ReqAt w3 w2.heap.size ⟨5, 0, 0, 0, 0, 0, false, 0, 0⟩ := by rw [hw3]; exact heap_alloc_new w2 _
  have hR3 : ReqAt w3 w.heap.size zeroR := by rw [hw3]; exact hR2.past _
  have hb3 : Hid (Below w.heap.size w w3) := by show Below _ _ _; rw [hw3]; exact hb2.out.alloc (by omega) _
  clear hu2 hR2 hb2
  have hsg := Sign_un hu3
  rw [hw3] at hsg
  clear hu3
  go_wp2_with fail
  go_at_call 25
  refine hsg.mono ?_
  clear hsg
  rintro e w4 ⟨y3, o3, rfl, hS3, hu4, ho3⟩
  rw [← hw3] at ho3
  replace hw3 := Lib.hid hw3
  have hQ4 : ReqAt w4 w2.heap.size _ := hQ3.only ho3 (by omega)
  have hR4 : ReqAt w4 w.heap.size _ := hR3.only ho3 (by omega)
  have hb4 : Hid (Below w.heap.size w w4) := hb3.out.trans (ho3.below (by omega))
  replace hS3 := Lib.hid hS3
  clear hQ3 hR3 hb3 ho3
  have d0 := req_cells hQ4 1 _ rfl
  have d1 := hQ4.free 1
  obtain ⟨w5, hw5⟩ : ∃ v, v = w4.setCell ⟨w2.heap.size, 1, none⟩ (.int .i64 y3) := ⟨_, rfl⟩
  have hQ5 : ReqAt w5 w2.heap.size ⟨5, y3, 0, 0, 0, 0, false, 0, 0⟩ := by rw [hw5]; exact hQ4.set _ _ _ rfl
  have hR5 : ReqAt w5 w.heap.size zeroR := by rw [hw5]; exact hR4.past_set _ _ (by omega)
  have hb5 : Hid (Below w.heap.size w w5) := by show Below _ _ _; rw [hw5]; exact belowC hb4.out (by omega) _ _
  generalize hx : (⟨5, y3, 0, 0, 0, 0, false, 0, 0⟩ : Rq) = x at *
  have lR := encR_len x
  have zR := zE_req
  obtain ⟨k9, hk9⟩ : ∃ k, k = 9 := ⟨_, rfl⟩
  rw [← hk9] at lR zR
  replace hk9 := Lib.hid hk9
  have hld := req_load hQ5 lR
  obtain ⟨hst, hR6⟩ := hR5.store x
  have hb6 : Hid (Below w.heap.size w (w5.setRow w.heap.size (encR x).toArray)) := belowS hb5.out (Nat.le_refl _) _
  replace hx := Lib.hid hx
  rw [hw5] at hld hst
  go_wp2_with fail
  rw [← hw5]
  refine ret_row rfl rfl rfl hR6 Try.underlying23 rfl (by kernel_rfl) ⟨x, rfl, ?_, hb6.out⟩
  first | exact reads_2 5 (by decide) hc hS3.out | (rw [← hx.out]; exact reads_2 5 (by decide) hc hS3.out)

set_option maxRecDepth 1000000 in
set_option maxHeartbeats 4000000 in
theorem guess_6 {b off n cap : Nat} {w : World} {c0 c1 : UInt8} {t : List UInt8} (hc : c1.toNat = 6) (hn : n = t.length + 2) (hn64 : n ≤ 64) (hcap : n ≤ cap) (hcm : cap ≤ maxLen) (hr : BRead w (.slice (some ⟨b, off + 1, none⟩) (n - 1) (cap - 1)) (c1 :: t)) :
    Calls Try.prog 17 #[.slice (some ⟨b, off, none⟩) n cap] w fun e w' => ∃ x, e = .returned (.agg (encR x).toArray) ∧ ReadsAs (c0 :: c1 :: t) x ∧ Below w.heap.size w w' := by
  have hcx : Hid ((c1.toNat : Int) = 6) := by show _ = _; rw [hc]; rfl
  have hcM : cap ≤ 9223372036854775807 := by unfold maxLen at hcm; omega
  have hn1 : 1 ≤ n := by omega
  have hc1 : ¬ cap = 1 := by omega
  have hc2 : 1 < cap := by omega
  have hc3 : ¬ cap - 1 = 0 := by omega
  have hrd := Read_un _ (hr.keeps (w' := w.alloc (.cells #[.int .i64 0, .int .i64 0, .int .i64 0, .int .i64 0, .int .i64 0, .int .i64 0, .bool false, .int .i64 0, .int .i64 0] 23)) (Keeps.of_ext ((Below.refl _ _).alloc (Nat.le_refl _) _))) (by simp; omega)
  replace hn := Lib.hid hn
  obtain ⟨wA, hwA⟩ : ∃ wA, wA = w.alloc (.cells #[.int .i64 0, .int .i64 0, .int .i64 0, .int .i64 0, .int .i64 0, .int .i64 0, .bool false, .int .i64 0, .int .i64 0] 23) := ⟨_, rfl⟩
  have hbA : Hid (Below w.heap.size w wA) := by show Below _ _ _; rw [hwA]; exact (Below.refl _ _).alloc (Nat.le_refl _) _
  have hsA : wA.heap.size = w.heap.size + 1 := by rw [hwA]; simp
  have hRA : ReqAt wA w.heap.size zeroR := by rw [hwA]; exact heap_alloc_new w _
  clear hr hcm
  go_enter Try.func17, Try.ntmps17
  go_wp2_with fail
  go_at_call 23
  refine hrd.mono ?_
  clear hrd
  rw [← hwA]
  rintro e w1 ⟨rfl, hu1, he1⟩
  rw [hsA] at hu1
  have hR1 : ReqAt w1 w.heap.size zeroR := hRA.ext he1 (by omega)
  have hb1 : Hid (Below w.heap.size w w1) := hbA.out.trans (he1.mono (by omega))
  have hs1 : w.heap.size + 1 < w1.heap.size := hu1.lt
  replace hwA := Lib.hid hwA
  clear he1 hRA hbA
  rw [hsA]
  clear hsA
  have hby := Byte_un hu1
  clear hu1
  go_wp2_with fail
  go_at_call 24
  refine hby.mono ?_
  clear hby
  rintro e w2 ⟨c, o1, rfl, ⟨rfl, rfl⟩, hu2, ho2⟩
  rw [hcx.out]
  have hR2 : ReqAt w2 w.heap.size zeroR := hR1.only ho2 (by omega)
  have hb2 : Hid (Below w.heap.size w w2) := hb1.out.trans (ho2.below (by omega))
  have hs2 : w.heap.size + 1 < w2.heap.size := by rw [ho2.size]; exact hs1
  clear hR1 hb1 ho2 hs1
  obtain ⟨w3, hw3⟩ : ∃ w3, w3 = w2.alloc (.cells #[.int .i64 6, .int .i64 0, .int .i64 0, .int .i64 0, .int .i64 0, .int .i64 0, .bool false, .int .i64 0, .int .i64 0] 23) := ⟨_, rfl⟩
  have hu3 : RU w3 (w.heap.size + 1) (some t) := by rw [hw3]; exact hu2.ext ((Below.refl _ _).alloc (Nat.le_refl _) _)
  have hQ3 : ReqAt w3 w2.heap.size ⟨6, 0, 0, 0, 0, 0, false, 0, 0⟩ := by rw [hw3]; exact heap_alloc_new w2 _
  have hR3 : ReqAt w3 w.heap.size zeroR := by rw [hw3]; exact hR2.past _
  have hb3 : Hid (Below w.heap.size w w3) := by show Below _ _ _; rw [hw3]; exact hb2.out.alloc (by omega) _
  clear hu2 hR2 hb2
  have hsg := Sign_un hu3
  rw [hw3] at hsg
  clear hu3
  go_wp2_with fail
  go_at_call 25
  refine hsg.mono ?_
  clear hsg
  rintro e w4 ⟨y3, o3, rfl, hS3, hu4, ho3⟩
  rw [← hw3] at ho3
  replace hw3 := Lib.hid hw3
  have hQ4 : ReqAt w4 w2.heap.size _ := hQ3.only ho3 (by omega)
  have hR4 : ReqAt w4 w.heap.size _ := hR3.only ho3 (by omega)
  have hb4 : Hid (Below w.heap.size w w4) := hb3.out.trans (ho3.below (by omega))
  replace hS3 := Lib.hid hS3
  clear hQ3 hR3 hb3 ho3
  have d0 := req_cells hQ4 1 _ rfl
  have d1 := hQ4.free 1
  obtain ⟨w5, hw5⟩ : ∃ v, v = w4.setCell ⟨w2.heap.size, 1, none⟩ (.int .i64 y3) := ⟨_, rfl⟩
  have hQ5 : ReqAt w5 w2.heap.size ⟨6, y3, 0, 0, 0, 0, false, 0, 0⟩ := by rw [hw5]; exact hQ4.set _ _ _ rfl
  have hR5 : ReqAt w5 w.heap.size zeroR := by rw [hw5]; exact hR4.past_set _ _ (by omega)
  have hb5 : Hid (Below w.heap.size w w5) := by show Below _ _ _; rw [hw5]; exact belowC hb4.out (by omega) _ _
  generalize hx : (⟨6, y3, 0, 0, 0, 0, false, 0, 0⟩ : Rq) = x at *
  have lR := encR_len x
  have zR := zE_req
  obtain ⟨k9, hk9⟩ : ∃ k, k = 9 := ⟨_, rfl⟩
  rw [← hk9] at lR zR
  replace hk9 := Lib.hid hk9
  have hld := req_load hQ5 lR
  obtain ⟨hst, hR6⟩ := hR5.store x
  have hb6 : Hid (Below w.heap.size w (w5.setRow w.heap.size (encR x).toArray)) := belowS hb5.out (Nat.le_refl _) _
  replace hx := Lib.hid hx
  rw [hw5] at hld hst
  go_wp2_with fail
  rw [← hw5]
  refine ret_row rfl rfl rfl hR6 Try.underlying23 rfl (by kernel_rfl) ⟨x, rfl, ?_, hb6.out⟩
  first | exact reads_2 6 (by decide) hc hS3.out | (rw [← hx.out]; exact reads_2 6 (by decide) hc hS3.out)

set_option maxRecDepth 1000000 in
set_option maxHeartbeats 4000000 in
theorem guess_7 {b off n cap : Nat} {w : World} {c0 c1 : UInt8} {t : List UInt8} (hc : c1.toNat = 7) (hn : n = t.length + 2) (hn64 : n ≤ 64) (hcap : n ≤ cap) (hcm : cap ≤ maxLen) (hr : BRead w (.slice (some ⟨b, off + 1, none⟩) (n - 1) (cap - 1)) (c1 :: t)) :
    Calls Try.prog 17 #[.slice (some ⟨b, off, none⟩) n cap] w fun e w' => ∃ x, e = .returned (.agg (encR x).toArray) ∧ ReadsAs (c0 :: c1 :: t) x ∧ Below w.heap.size w w' := by
  have hcx : Hid ((c1.toNat : Int) = 7) := by show _ = _; rw [hc]; rfl
  have hcM : cap ≤ 9223372036854775807 := by unfold maxLen at hcm; omega
  have hn1 : 1 ≤ n := by omega
  have hc1 : ¬ cap = 1 := by omega
  have hc2 : 1 < cap := by omega
  have hc3 : ¬ cap - 1 = 0 := by omega
  have hrd := Read_un _ (hr.keeps (w' := w.alloc (.cells #[.int .i64 0, .int .i64 0, .int .i64 0, .int .i64 0, .int .i64 0, .int .i64 0, .bool false, .int .i64 0, .int .i64 0] 23)) (Keeps.of_ext ((Below.refl _ _).alloc (Nat.le_refl _) _))) (by simp; omega)
  replace hn := Lib.hid hn
  obtain ⟨wA, hwA⟩ : ∃ wA, wA = w.alloc (.cells #[.int .i64 0, .int .i64 0, .int .i64 0, .int .i64 0, .int .i64 0, .int .i64 0, .bool false, .int .i64 0, .int .i64 0] 23) := ⟨_, rfl⟩
  have hbA : Hid (Below w.heap.size w wA) := by show Below _ _ _; rw [hwA]; exact (Below.refl _ _).alloc (Nat.le_refl _) _
  have hsA : wA.heap.size = w.heap.size + 1 := by rw [hwA]; simp
  have hRA : ReqAt wA w.heap.size zeroR := by rw [hwA]; exact heap_alloc_new w _
  clear hr hcm
  go_enter Try.func17, Try.ntmps17
  go_wp2_with fail
  go_at_call 23
  refine hrd.mono ?_
  clear hrd
  rw [← hwA]
  rintro e w1 ⟨rfl, hu1, he1⟩
  rw [hsA] at hu1
  have hR1 : ReqAt w1 w.heap.size zeroR := hRA.ext he1 (by omega)
  have hb1 : Hid (Below w.heap.size w w1) := hbA.out.trans (he1.mono (by omega))
  have hs1 : w.heap.size + 1 < w1.heap.size := hu1.lt
  replace hwA := Lib.hid hwA
  clear he1 hRA hbA
  rw [hsA]
  clear hsA
  have hby := Byte_un hu1
  clear hu1
  go_wp2_with fail
  go_at_call 24
  refine hby.mono ?_
  clear hby
  rintro e w2 ⟨c, o1, rfl, ⟨rfl, rfl⟩, hu2, ho2⟩
  rw [hcx.out]
  have hR2 : ReqAt w2 w.heap.size zeroR := hR1.only ho2 (by omega)
  have hb2 : Hid (Below w.heap.size w w2) := hb1.out.trans (ho2.below (by omega))
  have hs2 : w.heap.size + 1 < w2.heap.size := by rw [ho2.size]; exact hs1
  clear hR1 hb1 ho2 hs1
  obtain ⟨w3, hw3⟩ : ∃ w3, w3 = w2.alloc (.cells #[.int .i64 7, .int .i64 0, .int .i64 0, .int .i64 0, .int .i64 0, .int .i64 0, .bool false, .int .i64 0, .int .i64 0] 23) := ⟨_, rfl⟩
  have hu3 : RU w3 (w.heap.size + 1) (some t) := by rw [hw3]; exact hu2.ext ((Below.refl _ _).alloc (Nat.le_refl _) _)
  have hQ3 : ReqAt w3 w2.heap.size ⟨7, 0, 0, 0, 0, 0, false, 0, 0⟩ := by rw [hw3]; exact heap_alloc_new w2 _
  have hR3 : ReqAt w3 w.heap.size zeroR := by rw [hw3]; exact hR2.past _
  have hb3 : Hid (Below w.heap.size w w3) := by show Below _ _ _; rw [hw3]; exact hb2.out.alloc (by omega) _
  clear hu2 hR2 hb2
  have hsg := Sign_un hu3
  rw [hw3] at hsg
  clear hu3
  go_wp2_with fail
  go_at_call 25
  refine hsg.mono ?_
  clear hsg
  rintro e w4 ⟨y3, o3, rfl, hS3, hu4, ho3⟩
  rw [← hw3] at ho3
  replace hw3 := Lib.hid hw3
  have hQ4 : ReqAt w4 w2.heap.size _ := hQ3.only ho3 (by omega)
  have hR4 : ReqAt w4 w.heap.size _ := hR3.only ho3 (by omega)
  have hb4 : Hid (Below w.heap.size w w4) := hb3.out.trans (ho3.below (by omega))
  replace hS3 := Lib.hid hS3
  clear hQ3 hR3 hb3 ho3
  have d0 := req_cells hQ4 7 _ rfl
  have d1 := hQ4.free 7
  obtain ⟨w5, hw5⟩ : ∃ v, v = w4.setCell ⟨w2.heap.size, 7, none⟩ (.int .i64 y3) := ⟨_, rfl⟩
  have hQ5 : ReqAt w5 w2.heap.size ⟨7, 0, 0, 0, 0, 0, false, y3, 0⟩ := by rw [hw5]; exact hQ4.set _ _ _ rfl
  have hR5 : ReqAt w5 w.heap.size zeroR := by rw [hw5]; exact hR4.past_set _ _ (by omega)
  have hb5 : Hid (Below w.heap.size w w5) := by show Below _ _ _; rw [hw5]; exact belowC hb4.out (by omega) _ _
  generalize hx : (⟨7, 0, 0, 0, 0, 0, false, y3, 0⟩ : Rq) = x at *
  have lR := encR_len x
  have zR := zE_req
  obtain ⟨k9, hk9⟩ : ∃ k, k = 9 := ⟨_, rfl⟩
  rw [← hk9] at lR zR
  replace hk9 := Lib.hid hk9
  have hld := req_load hQ5 lR
  obtain ⟨hst, hR6⟩ := hR5.store x
  have hb6 : Hid (Below w.heap.size w (w5.setRow w.heap.size (encR x).toArray)) := belowS hb5.out (Nat.le_refl _) _
  replace hx := Lib.hid hx
  rw [hw5] at hld hst
  go_wp2_with fail
  rw [← hw5]
  refine ret_row rfl rfl rfl hR6 Try.underlying23 rfl (by kernel_rfl) ⟨x, rfl, ?_, hb6.out⟩
  first | exact reads_7 7 (by decide) hc hS3.out | (rw [← hx.out]; exact reads_7 7 (by decide) hc hS3.out)

set_option maxRecDepth 1000000 in
set_option maxHeartbeats 4000000 in
theorem guess_8 {b off n cap : Nat} {w : World} {c0 c1 : UInt8} {t : List UInt8} (hc : c1.toNat = 8) (hn : n = t.length + 2) (hn64 : n ≤ 64) (hcap : n ≤ cap) (hcm : cap ≤ maxLen) (hr : BRead w (.slice (some ⟨b, off + 1, none⟩) (n - 1) (cap - 1)) (c1 :: t)) :
    Calls Try.prog 17 #[.slice (some ⟨b, off, none⟩) n cap] w fun e w' => ∃ x, e = .returned (.agg (encR x).toArray) ∧ ReadsAs (c0 :: c1 :: t) x ∧ Below w.heap.size w w' := by
  have hcx : Hid ((c1.toNat : Int) = 8) := by show _ = _; rw [hc]; rfl
  have hcM : cap ≤ 9223372036854775807 := by unfold maxLen at hcm; omega
  have hn1 : 1 ≤ n := by omega
  have hc1 : ¬ cap = 1 := by omega
  have hc2 : 1 < cap := by omega
  have hc3 : ¬ cap - 1 = 0 := by omega
  have hrd := Read_un _ (hr.keeps (w' := w.alloc (.cells #[.int .i64 0, .int .i64 0, .int .i64 0, .int .i64 0, .int .i64 0, .int .i64 0, .bool false, .int .i64 0, .int .i64 0] 23)) (Keeps.of_ext ((Below.refl _ _).alloc (Nat.le_refl _) _))) (by simp; omega)
  replace hn := Lib.hid hn
  obtain ⟨wA, hwA⟩ : ∃ wA, wA = w.alloc (.cells #[.int .i64 0, .int .i64 0, .int .i64 0, .int .i64 0, .int .i64 0, .int .i64 0, .bool false, .int .i64 0, .int .i64 0] 23) := ⟨_, rfl⟩
  have hbA : Hid (Below w.heap.size w wA) := by show Below _ _ _; rw [hwA]; exact (Below.refl _ _).alloc (Nat.le_refl _) _
  have hsA : wA.heap.size = w.heap.size + 1 := by rw [hwA]; simp
  have hRA : ReqAt wA w.heap.size zeroR := by rw [hwA]; exact heap_alloc_new w _
  clear hr hcm
  go_enter Try.func17, Try.ntmps17
  go_wp2_with fail
  go_at_call 23
  refine hrd.mono ?_
  clear hrd
  rw [← hwA]
  rintro e w1 ⟨rfl, hu1, he1⟩
  rw [hsA] at hu1
  have hR1 : ReqAt w1 w.heap.size zeroR := hRA.ext he1 (by omega)
  have hb1 : Hid (Below w.heap.size w w1) := hbA.out.trans (he1.mono (by omega))
  have hs1 : w.heap.size + 1 < w1.heap.size := hu1.lt
  replace hwA := Lib.hid hwA
  clear he1 hRA hbA
  rw [hsA]
  clear hsA
  have hby := Byte_un hu1
  clear hu1
  go_wp2_with fail
  go_at_call 24
  refine hby.mono ?_
  clear hby
  rintro e w2 ⟨c, o1, rfl, ⟨rfl, rfl⟩, hu2, ho2⟩
  rw [hcx.out]
  have hR2 : ReqAt w2 w.heap.size zeroR := hR1.only ho2 (by omega)
  have hb2 : Hid (Below w.heap.size w w2) := hb1.out.trans (ho2.below (by omega))
  have hs2 : w.heap.size + 1 < w2.heap.size := by rw [ho2.size]; exact hs1
  clear hR1 hb1 ho2 hs1
  obtain ⟨w3, hw3⟩ : ∃ w3, w3 = w2.alloc (.cells #[.int .i64 8, .int .i64 0, .int .i64 0, .int .i64 0, .int .i64 0, .int .i64 0, .bool false, .int .i64 0, .int .i64 0] 23) := ⟨_, rfl⟩
  have hu3 : RU w3 (w.heap.size + 1) (some t) := by rw [hw3]; exact hu2.ext ((Below.refl _ _).alloc (Nat.le_refl _) _)
  have hQ3 : ReqAt w3 w2.heap.size ⟨8, 0, 0, 0, 0, 0, false, 0, 0⟩ := by rw [hw3]; exact heap_alloc_new w2 _
  have hR3 : ReqAt w3 w.heap.size zeroR := by rw [hw3]; exact hR2.past _
  have hb3 : Hid (Below w.heap.size w w3) := by show Below _ _ _; rw [hw3]; exact hb2.out.alloc (by omega) _
  clear hu2 hR2 hb2
  have hsg := Sign_un hu3
  rw [hw3] at hsg
  clear hu3
  go_wp2_with fail
  go_at_call 25
  refine hsg.mono ?_
  clear hsg
  rintro e w4 ⟨y3, o3, rfl, hS3, hu4, ho3⟩
  rw [← hw3] at ho3
  replace hw3 := Lib.hid hw3
  have hQ4 : ReqAt w4 w2.heap.size _ := hQ3.only ho3 (by omega)
  have hR4 : ReqAt w4 w.heap.size _ := hR3.only ho3 (by omega)
  have hb4 : Hid (Below w.heap.size w w4) := hb3.out.trans (ho3.below (by omega))
  replace hS3 := Lib.hid hS3
  clear hQ3 hR3 hb3 ho3
  have d0 := req_cells hQ4 7 _ rfl
  have d1 := hQ4.free 7
  obtain ⟨w5, hw5⟩ : ∃ v, v = w4.setCell ⟨w2.heap.size, 7, none⟩ (.int .i64 y3) := ⟨_, rfl⟩
  have hQ5 : ReqAt w5 w2.heap.size ⟨8, 0, 0, 0, 0, 0, false, y3, 0⟩ := by rw [hw5]; exact hQ4.set _ _ _ rfl
  have hR5 : ReqAt w5 w.heap.size zeroR := by rw [hw5]; exact hR4.past_set _ _ (by omega)
  have hb5 : Hid (Below w.heap.size w w5) := by show Below _ _ _; rw [hw5]; exact belowC hb4.out (by omega) _ _
  generalize hx : (⟨8, 0, 0, 0, 0, 0, false, y3, 0⟩ : Rq) = x at *
  have lR := encR_len x
  have zR := zE_req
  obtain ⟨k9, hk9⟩ : ∃ k, k = 9 := ⟨_, rfl⟩
  rw [← hk9] at lR zR
  replace hk9 := Lib.hid hk9
  have hld := req_load hQ5 lR
  obtain ⟨hst, hR6⟩ := hR5.store x
  have hb6 : Hid (Below w.heap.size w (w5.setRow w.heap.size (encR x).toArray)) := belowS hb5.out (Nat.le_refl _) _
  replace hx := Lib.hid hx
  rw [hw5] at hld hst
  go_wp2_with fail
  rw [← hw5]
  refine ret_row rfl rfl rfl hR6 Try.underlying23 rfl (by kernel_rfl) ⟨x, rfl, ?_, hb6.out⟩
  first | exact reads_7 8 (by decide) hc hS3.out | (rw [← hx.out]; exact reads_7 8 (by decide) hc hS3.out)

set_option maxRecDepth 1000000 in
set_option maxHeartbeats 4000000 in
theorem guess_9 {b off n cap : Nat} {w : World} {c0 c1 : UInt8} {t : List UInt8} (hc : c1.toNat = 9) (hn : n = t.length + 2) (hn64 : n ≤ 64) (hcap : n ≤ cap) (hcm : cap ≤ maxLen) (hr : BRead w (.slice (some ⟨b, off + 1, none⟩) (n - 1) (cap - 1)) (c1 :: t)) :
    Calls Try.prog 17 #[.slice (some ⟨b, off, none⟩) n cap] w fun e w' => ∃ x, e = .returned (.agg (encR x).toArray) ∧ ReadsAs (c0 :: c1 :: t) x ∧ Below w.heap.size w w' := by
  have hcx : Hid ((c1.toNat : Int) = 9) := by show _ = _; rw [hc]; rfl
  have hcM : cap ≤ 9223372036854775807 := by unfold maxLen at hcm; omega
  have hn1 : 1 ≤ n := by omega
  have hc1 : ¬ cap = 1 := by omega
  have hc2 : 1 < cap := by omega
  have hc3 : ¬ cap - 1 = 0 := by omega
  have hrd := Read_un _ (hr.keeps (w' := w.alloc (.cells #[.int .i64 0, .int .i64 0, .int .i64 0, .int .i64 0, .int .i64 0, .int .i64 0, .bool false, .int .i64 0, .int .i64 0] 23)) (Keeps.of_ext ((Below.refl _ _).alloc (Nat.le_refl _) _))) (by simp; omega)
  replace hn := Lib.hid hn
  obtain ⟨wA, hwA⟩ : ∃ wA, wA = w.alloc (.cells #[.int .i64 0, .int .i64 0, .int .i64 0, .int .i64 0, .int .i64 0, .int .i64 0, .bool false, .int .i64 0, .int .i64 0] 23) := ⟨_, rfl⟩
  have hbA : Hid (Below w.heap.size w wA) := by show Below _ _ _; rw [hwA]; exact (Below.refl _ _).alloc (Nat.le_refl _) _
  have hsA : wA.heap.size = w.heap.size + 1 := by rw [hwA]; simp
  have hRA : ReqAt wA w.heap.size zeroR := by rw [hwA]; exact heap_alloc_new w _
  clear hr hcm
  go_enter Try.func17, Try.ntmps17
  go_wp2_with fail
  go_at_call 23
  refine hrd.mono ?_
  clear hrd
  rw [← hwA]
  rintro e w1 ⟨rfl, hu1, he1⟩
  rw [hsA] at hu1
  have hR1 : ReqAt w1 w.heap.size zeroR := hRA.ext he1 (by omega)
  have hb1 : Hid (Below w.heap.size w w1) := hbA.out.trans (he1.mono (by omega))
  have hs1 : w.heap.size + 1 < w1.heap.size := hu1.lt
  replace hwA := Lib.hid hwA
  clear he1 hRA hbA
  rw [hsA]
  clear hsA
  have hby := Byte_un hu1
  clear hu1
  go_wp2_with fail
  go_at_call 24
  refine hby.mono ?_
  clear hby
  rintro e w2 ⟨c, o1, rfl, ⟨rfl, rfl⟩, hu2, ho2⟩
  rw [hcx.out]
  have hR2 : ReqAt w2 w.heap.size zeroR := hR1.only ho2 (by omega)
  have hb2 : Hid (Below w.heap.size w w2) := hb1.out.trans (ho2.below (by omega))
  have hs2 : w.heap.size + 1 < w2.heap.size := by rw [ho2.size]; exact hs1
  clear hR1 hb1 ho2 hs1
  obtain ⟨w3, hw3⟩ : ∃ w3, w3 = w2.alloc (.cells #[.int .i64 9, .int .i64 0, .int .i64 0, .int .i64 0, .int .i64 0, .int .i64 0, .bool false, .int .i64 0, .int .i64 0] 23) := ⟨_, rfl⟩
  have hu3 : RU w3 (w.heap.size + 1) (some t) := by rw [hw3]; exact hu2.ext ((Below.refl _ _).alloc (Nat.le_refl _) _)
  have hQ3 : ReqAt w3 w2.heap.size ⟨9, 0, 0, 0, 0, 0, false, 0, 0⟩ := by rw [hw3]; exact heap_alloc_new w2 _
  have hR3 : ReqAt w3 w.heap.size zeroR := by rw [hw3]; exact hR2.past _
  have hb3 : Hid (Below w.heap.size w w3) := by show Below _ _ _; rw [hw3]; exact hb2.out.alloc (by omega) _
  clear hu2 hR2 hb2
  have hsg := Sign_un hu3
  rw [hw3] at hsg
  clear hu3
  go_wp2_with fail
  go_at_call 25
  refine hsg.mono ?_
  clear hsg
  rintro e w4 ⟨y3, o3, rfl, hS3, hu4, ho3⟩
  rw [← hw3] at ho3
  replace hw3 := Lib.hid hw3
  have hQ4 : ReqAt w4 w2.heap.size _ := hQ3.only ho3 (by omega)
  have hR4 : ReqAt w4 w.heap.size _ := hR3.only ho3 (by omega)
  have hb4 : Hid (Below w.heap.size w w4) := hb3.out.trans (ho3.below (by omega))
  replace hS3 := Lib.hid hS3
  clear hQ3 hR3 hb3 ho3
  have d0 := req_cells hQ4 8 _ rfl
  have d1 := hQ4.free 8
  obtain ⟨w5, hw5⟩ : ∃ v, v = w4.setCell ⟨w2.heap.size, 8, none⟩ (.int .i64 y3) := ⟨_, rfl⟩
  have hQ5 : ReqAt w5 w2.heap.size ⟨9, 0, 0, 0, 0, 0, false, 0, y3⟩ := by rw [hw5]; exact hQ4.set _ _ _ rfl
  have hR5 : ReqAt w5 w.heap.size zeroR := by rw [hw5]; exact hR4.past_set _ _ (by omega)
  have hb5 : Hid (Below w.heap.size w w5) := by show Below _ _ _; rw [hw5]; exact belowC hb4.out (by omega) _ _
  generalize hx : (⟨9, 0, 0, 0, 0, 0, false, 0, y3⟩ : Rq) = x at *
  have lR := encR_len x
  have zR := zE_req
  obtain ⟨k9, hk9⟩ : ∃ k, k = 9 := ⟨_, rfl⟩
  rw [← hk9] at lR zR
  replace hk9 := Lib.hid hk9
  have hld := req_load hQ5 lR
  obtain ⟨hst, hR6⟩ := hR5.store x
  have hb6 : Hid (Below w.heap.size w (w5.setRow w.heap.size (encR x).toArray)) := belowS hb5.out (Nat.le_refl _) _
  replace hx := Lib.hid hx
  rw [hw5] at hld hst
  go_wp2_with fail
  rw [← hw5]
  refine ret_row rfl rfl rfl hR6 Try.underlying23 rfl (by kernel_rfl) ⟨x, rfl, ?_, hb6.out⟩
  first | exact reads_9 hc hS3.out | (rw [← hx.out]; exact reads_9 hc hS3.out)

set_option maxRecDepth 1000000 in
set_option maxHeartbeats 4000000 in
theorem guess_1 {b off n cap : Nat} {w : World} {c0 c1 : UInt8} {t : List UInt8} (hc : c1.toNat = 1) (hn : n = t.length + 2) (hn64 : n ≤ 64) (hcap : n ≤ cap) (hcm : cap ≤ maxLen) (hr : BRead w (.slice (some ⟨b, off + 1, none⟩) (n - 1) (cap - 1)) (c1 :: t)) :
    Calls Try.prog 17 #[.slice (some ⟨b, off, none⟩) n cap] w fun e w' => ∃ x, e = .returned (.agg (encR x).toArray) ∧ ReadsAs (c0 :: c1 :: t) x ∧ Below w.heap.size w w' := by
  have hcx : Hid ((c1.toNat : Int) = 1) := by show _ = _; rw [hc]; rfl
  have hcM : cap ≤ 9223372036854775807 := by unfold maxLen at hcm; omega
  have hn1 : 1 ≤ n := by omega
  have hc1 : ¬ cap = 1 := by omega
  have hc2 : 1 < cap := by omega
  have hc3 : ¬ cap - 1 = 0 := by omega
  have hrd := Read_un _ (hr.keeps (w' := w.alloc (.cells #[.int .i64 0, .int .i64 0, .int .i64 0, .int .i64 0, .int .i64 0, .int .i64 0, .bool false, .int .i64 0, .int .i64 0] 23)) (Keeps.of_ext ((Below.refl _ _).alloc (Nat.le_refl _) _))) (by simp; omega)
  replace hn := Lib.hid hn
  obtain ⟨wA, hwA⟩ : ∃ wA, wA = w.alloc (.cells #[.int .i64 0, .int .i64 0, .int .i64 0, .int .i64 0, .int .i64 0, .int .i64 0, .bool false, .int .i64 0, .int .i64 0] 23) := ⟨_, rfl⟩
  have hbA : Hid (Below w.heap.size w wA) := by show Below _ _ _; rw [hwA]; exact (Below.refl _ _).alloc (Nat.le_refl _) _
  have hsA : wA.heap.size = w.heap.size + 1 := by rw [hwA]; simp
  have hRA : ReqAt wA w.heap.size zeroR := by rw [hwA]; exact heap_alloc_new w _
  clear hr hcm
  go_enter Try.func17, Try.ntmps17
  go_wp2_with fail
  go_at_call 23
  refine hrd.mono ?_
  clear hrd
  rw [← hwA]
  rintro e w1 ⟨rfl, hu1, he1⟩
  rw [hsA] at hu1
  have hR1 : ReqAt w1 w.heap.size zeroR := hRA.ext he1 (by omega)
  have hb1 : Hid (Below w.heap.size w w1) := hbA.out.trans (he1.mono (by omega))
  have hs1 : w.heap.size + 1 < w1.heap.size := hu1.lt
  replace hwA := Lib.hid hwA
  clear he1 hRA hbA
  rw [hsA]
  clear hsA
  have hby := Byte_un hu1
  clear hu1
  go_wp2_with fail
  go_at_call 24
  refine hby.mono ?_
  clear hby
  rintro e w2 ⟨c, o1, rfl, ⟨rfl, rfl⟩, hu2, ho2⟩
  rw [hcx.out]
  have hR2 : ReqAt w2 w.heap.size zeroR := hR1.only ho2 (by omega)
  have hb2 : Hid (Below w.heap.size w w2) := hb1.out.trans (ho2.below (by omega))
  have hs2 : w.heap.size + 1 < w2.heap.size := by rw [ho2.size]; exact hs1
  clear hR1 hb1 ho2 hs1
  obtain ⟨w3, hw3⟩ : ∃ w3, w3 = w2.alloc (.cells #[.int .i64 1, .int .i64 0, .int .i64 0, .int .i64 0, .int .i64 0, .int .i64 0, .bool false, .int .i64 0, .int .i64 0] 23) := ⟨_, rfl⟩
  have hu3 : RU w3 (w.heap.size + 1) (some t) := by rw [hw3]; exact hu2.ext ((Below.refl _ _).alloc (Nat.le_refl _) _)
  have hQ3 : ReqAt w3 w2.heap.size ⟨1, 0, 0, 0, 0, 0, false, 0, 0⟩ := by rw [hw3]; exact heap_alloc_new w2 _
  have hR3 : ReqAt w3 w.heap.size zeroR := by rw [hw3]; exact hR2.past _
  have hb3 : Hid (Below w.heap.size w w3) := by show Below _ _ _; rw [hw3]; exact hb2.out.alloc (by omega) _
  clear hu2 hR2 hb2
  have hsg := Sign_un hu3
  rw [hw3] at hsg
  clear hu3
  go_wp2_with fail
  go_at_call 25
  refine hsg.mono ?_
  clear hsg
  rintro e w4 ⟨y3, o3, rfl, hS3, hu4, ho3⟩
  rw [← hw3] at ho3
  replace hw3 := Lib.hid hw3
  have hQ4 : ReqAt w4 w2.heap.size _ := hQ3.only ho3 (by omega)
  have hR4 : ReqAt w4 w.heap.size _ := hR3.only ho3 (by omega)
  have hb4 : Hid (Below w.heap.size w w4) := hb3.out.trans (ho3.below (by omega))
  replace hS3 := Lib.hid hS3
  clear hQ3 hR3 hb3 ho3
  have hsg := Sign_un hu4
  clear hu4
  go_wp2_with fail
  go_at_call 25
  refine hsg.mono ?_
  clear hsg
  rintro e w5 ⟨y4, o4, rfl, hS4, hu5, ho4⟩
  have hQ5 : ReqAt w5 w2.heap.size _ := hQ4.only ho4 (by omega)
  have hR5 : ReqAt w5 w.heap.size _ := hR4.only ho4 (by omega)
  have hb5 : Hid (Below w.heap.size w w5) := hb4.out.trans (ho4.below (by omega))
  replace hS4 := Lib.hid hS4
  clear hQ4 hR4 hb4 ho4
  have hsg := Sign_un hu5
  clear hu5
  go_wp2_with fail
  go_at_call 25
  refine hsg.mono ?_
  clear hsg
  rintro e w6 ⟨y5, o5, rfl, hS5, hu6, ho5⟩
  have hQ6 : ReqAt w6 w2.heap.size _ := hQ5.only ho5 (by omega)
  have hR6 : ReqAt w6 w.heap.size _ := hR5.only ho5 (by omega)
  have hb6 : Hid (Below w.heap.size w w6) := hb5.out.trans (ho5.below (by omega))
  replace hS5 := Lib.hid hS5
  clear hQ5 hR5 hb5 ho5
  have hsg := Sign_un hu6
  clear hu6
  go_wp2_with fail
  go_at_call 25
  refine hsg.mono ?_
  clear hsg
  rintro e w7 ⟨y6, o6, rfl, hS6, hu7, ho6⟩
  have hQ7 : ReqAt w7 w2.heap.size _ := hQ6.only ho6 (by omega)
  have hR7 : ReqAt w7 w.heap.size _ := hR6.only ho6 (by omega)
  have hb7 : Hid (Below w.heap.size w w7) := hb6.out.trans (ho6.below (by omega))
  replace hS6 := Lib.hid hS6
  clear hQ6 hR6 hb6 ho6
  have e2 := req_cells hQ7 2 _ rfl
  have e3 := req_cells hQ7 3 _ rfl
  have e4 := req_cells hQ7 4 _ rfl
  have e5 := req_cells hQ7 5 _ rfl
  have f2 := hQ7.free 2
  have f3 := hQ7.free 3
  have f4 := hQ7.free 4
  have f5 := hQ7.free 5
  obtain ⟨w8, hw8⟩ : ∃ v, v = (((w7.setCell ⟨w2.heap.size, 2, none⟩ (.int .i64 y3)).setCell ⟨w2.heap.size, 3, none⟩ (.int .i64 y4)).setCell ⟨w2.heap.size, 4, none⟩ (.int .i64 y5)).setCell ⟨w2.heap.size, 5, none⟩ (.int .i64 y6) := ⟨_, rfl⟩
  have hQ8 : ReqAt w8 w2.heap.size ⟨1, 0, y3, y4, y5, y6, false, 0, 0⟩ := by
    rw [hw8]
    exact (((hQ7.set 2 _ ⟨1, 0, y3, 0, 0, 0, false, 0, 0⟩ rfl).set 3 _ ⟨1, 0, y3, y4, 0, 0, false, 0, 0⟩ rfl).set 4 _ ⟨1, 0, y3, y4, y5, 0, false, 0, 0⟩ rfl).set 5 _ _ rfl
  have hR8 : ReqAt w8 w.heap.size zeroR := by rw [hw8]; exact (((hR7.past_set _ _ (by omega)).past_set _ _ (by omega)).past_set _ _ (by omega)).past_set _ _ (by omega)
  have hb8 : Hid (Below w.heap.size w w8) := by show Below _ _ _; rw [hw8]; exact belowC (belowC (belowC (belowC hb7.out (by omega) _ _) (by omega) _ _) (by omega) _ _) (by omega) _ _
  have hu8 : RU w8 (w.heap.size + 1) o6 := by rw [hw8]; exact (((hu7.past_set _ _ (by omega)).past_set _ _ (by omega)).past_set _ _ (by omega)).past_set _ _ (by omega)
  have hbl := Bool_un hu8
  rw [hw8] at hbl
  clear hu7 hu8 hR7 hb7 hQ7
  go_wp2_with fail
  go_at_call 26
  refine hbl.mono ?_
  clear hbl e2 e3 e4 e5 f2 f3 f4 f5
  rintro e w9 ⟨y8, o8, rfl, hS8, hu9, ho8⟩
  rw [← hw8] at ho8
  replace hw8 := Lib.hid hw8
  have hQ9 : ReqAt w9 w2.heap.size _ := hQ8.only ho8 (by omega)
  have hR9 : ReqAt w9 w.heap.size _ := hR8.only ho8 (by omega)
  have hb9 : Hid (Below w.heap.size w w9) := hb8.out.trans (ho8.below (by omega))
  replace hS8 := Lib.hid hS8
  clear hQ8 hR8 hb8 ho8
  have d0 := req_cells hQ9 6 _ rfl
  have d1 := hQ9.free 6
  obtain ⟨w10, hw10⟩ : ∃ v, v = w9.setCell ⟨w2.heap.size, 6, none⟩ (.bool y8) := ⟨_, rfl⟩
  have hQ10 : ReqAt w10 w2.heap.size ⟨1, 0, y3, y4, y5, y6, y8, 0, 0⟩ := by rw [hw10]; exact hQ9.set _ _ _ rfl
  have hR10 : ReqAt w10 w.heap.size zeroR := by rw [hw10]; exact hR9.past_set _ _ (by omega)
  have hb10 : Hid (Below w.heap.size w w10) := by show Below _ _ _; rw [hw10]; exact belowC hb9.out (by omega) _ _
  generalize hx : (⟨1, 0, y3, y4, y5, y6, y8, 0, 0⟩ : Rq) = x at *
  have lR := encR_len x
  have zR := zE_req
  obtain ⟨k9, hk9⟩ : ∃ k, k = 9 := ⟨_, rfl⟩
  rw [← hk9] at lR zR
  replace hk9 := Lib.hid hk9
  have hld := req_load hQ10 lR
  obtain ⟨hst, hR6⟩ := hR10.store x
  have hb6 : Hid (Below w.heap.size w (w10.setRow w.heap.size (encR x).toArray)) := belowS hb10.out (Nat.le_refl _) _
  replace hx := Lib.hid hx
  rw [hw10] at hld hst
  go_wp2_with fail
  rw [← hw10]
  refine ret_row rfl rfl rfl hR6 Try.underlying23 rfl (by kernel_rfl) ⟨x, rfl, ?_, hb6.out⟩
  first | exact reads_1 hc hS3.out hS4.out hS5.out hS6.out hS8.out | (rw [← hx.out]; exact reads_1 hc hS3.out hS4.out hS5.out hS6.out hS8.out)

set_option maxRecDepth 1000000 in
set_option maxHeartbeats 4000000 in
theorem guess_no {b off n cap : Nat} {w : World} {c0 c1 : UInt8} {t : List UInt8} {m : Nat} (hc : c1.toNat = m) (h1 : m ≠ 1) (h2 : m ≠ 2) (h3 : m ≠ 3) (h4 : m ≠ 4) (h5 : m ≠ 5) (h6 : m ≠ 6) (h7 : m ≠ 7) (h8 : m ≠ 8) (h9 : m ≠ 9) (hn : n = t.length + 2) (hn64 : n ≤ 64) (hcap : n ≤ cap) (hcm : cap ≤ maxLen) (hr : BRead w (.slice (some ⟨b, off + 1, none⟩) (n - 1) (cap - 1)) (c1 :: t)) :
    Calls Try.prog 17 #[.slice (some ⟨b, off, none⟩) n cap] w fun e w' => ∃ x, e = .returned (.agg (encR x).toArray) ∧ ReadsAs (c0 :: c1 :: t) x ∧ Below w.heap.size w w' := by
  have hcx : Hid ((c1.toNat : Int) = (m : Int)) := by show _ = _; rw [hc]
  have t1 : ((m : Int) == 1) = false := beq_eq_false_iff_ne.2 (by omega)
  have t2 : ((m : Int) == 2) = false := beq_eq_false_iff_ne.2 (by omega)
  have t3 : ((m : Int) == 3) = false := beq_eq_false_iff_ne.2 (by omega)
  have t4 : ((m : Int) == 4) = false := beq_eq_false_iff_ne.2 (by omega)
  have t5 : ((m : Int) == 5) = false := beq_eq_false_iff_ne.2 (by omega)
  have t6 : ((m : Int) == 6) = false := beq_eq_false_iff_ne.2 (by omega)
  have t7 : ((m : Int) == 7) = false := beq_eq_false_iff_ne.2 (by omega)
  have t8 : ((m : Int) == 8) = false := beq_eq_false_iff_ne.2 (by omega)
  have t9 : ((m : Int) == 9) = false := beq_eq_false_iff_ne.2 (by omega)
  have hm : (m : Int) < 256 := by have := c1.toNat_lt; omega
  have hwr : IntKind.i64.wrap (m : Int) = (m : Int) := by rw [IntKind.wrap_i64]; omega
  have hre : ReadsAs (c0 :: c1 :: t) ⟨m, 0, 0, 0, 0, 0, false, 0, 0⟩ := reads_no hc h1 h2 h3 h4 h5 h6 h7 h8 h9
  replace hre := Lib.hid hre
  clear h1 h2 h3 h4 h5 h6 h7 h8 h9
  have hcM : cap ≤ 9223372036854775807 := by unfold maxLen at hcm; omega
  have hn1 : 1 ≤ n := by omega
  have hc1 : ¬ cap = 1 := by omega
  have hc2 : 1 < cap := by omega
  have hc3 : ¬ cap - 1 = 0 := by omega
  have hrd := Read_un _ (hr.keeps (w' := w.alloc (.cells #[.int .i64 0, .int .i64 0, .int .i64 0, .int .i64 0, .int .i64 0, .int .i64 0, .bool false, .int .i64 0, .int .i64 0] 23)) (Keeps.of_ext ((Below.refl _ _).alloc (Nat.le_refl _) _))) (by simp; omega)
  replace hn := Lib.hid hn
  obtain ⟨wA, hwA⟩ : ∃ wA, wA = w.alloc (.cells #[.int .i64 0, .int .i64 0, .int .i64 0, .int .i64 0, .int .i64 0, .int .i64 0, .bool false, .int .i64 0, .int .i64 0] 23) := ⟨_, rfl⟩
  have hbA : Hid (Below w.heap.size w wA) := by show Below _ _ _; rw [hwA]; exact (Below.refl _ _).alloc (Nat.le_refl _) _
  have hsA : wA.heap.size = w.heap.size + 1 := by rw [hwA]; simp
  have hRA : ReqAt wA w.heap.size zeroR := by rw [hwA]; exact heap_alloc_new w _
  clear hr hcm
  go_enter Try.func17, Try.ntmps17
  go_wp2_with fail
  go_at_call 23
  refine hrd.mono ?_
  clear hrd
  rw [← hwA]
  rintro e w1 ⟨rfl, hu1, he1⟩
  rw [hsA] at hu1
  have hR1 : ReqAt w1 w.heap.size zeroR := hRA.ext he1 (by omega)
  have hb1 : Hid (Below w.heap.size w w1) := hbA.out.trans (he1.mono (by omega))
  have hs1 : w.heap.size + 1 < w1.heap.size := hu1.lt
  replace hwA := Lib.hid hwA
  clear he1 hRA hbA
  rw [hsA]
  clear hsA
  have hby := Byte_un hu1
  clear hu1
  go_wp2_with fail
  go_at_call 24
  refine hby.mono ?_
  clear hby
  rintro e w2 ⟨c, o1, rfl, ⟨rfl, rfl⟩, hu2, ho2⟩
  rw [hcx.out]
  have hR2 : ReqAt w2 w.heap.size zeroR := hR1.only ho2 (by omega)
  have hb2 : Hid (Below w.heap.size w w2) := hb1.out.trans (ho2.below (by omega))
  have hs2 : w.heap.size + 1 < w2.heap.size := by rw [ho2.size]; exact hs1
  clear hR1 hb1 ho2 hs1
  obtain ⟨w3, hw3⟩ : ∃ w3, w3 = w2.alloc (.cells #[.int .i64 (m : Int), .int .i64 0, .int .i64 0, .int .i64 0, .int .i64 0, .int .i64 0, .bool false, .int .i64 0, .int .i64 0] 23) := ⟨_, rfl⟩
  have hu3 : RU w3 (w.heap.size + 1) (some t) := by rw [hw3]; exact hu2.ext ((Below.refl _ _).alloc (Nat.le_refl _) _)
  have hQ3 : ReqAt w3 w2.heap.size ⟨(m : Int), 0, 0, 0, 0, 0, false, 0, 0⟩ := by rw [hw3]; exact heap_alloc_new w2 _
  have hR3 : ReqAt w3 w.heap.size zeroR := by rw [hw3]; exact hR2.past _
  have hb3 : Hid (Below w.heap.size w w3) := by show Below _ _ _; rw [hw3]; exact hb2.out.alloc (by omega) _
  clear hu2 hR2 hb2
  generalize hx : (⟨(m : Int), 0, 0, 0, 0, 0, false, 0, 0⟩ : Rq) = x at *
  have lR := encR_len x
  have zR := zE_req
  obtain ⟨k9, hk9⟩ : ∃ k, k = 9 := ⟨_, rfl⟩
  rw [← hk9] at lR zR
  replace hk9 := Lib.hid hk9
  have hld := req_load hQ3 lR
  obtain ⟨hst, hR6⟩ := hR3.store x
  have hb6 : Hid (Below w.heap.size w (w3.setRow w.heap.size (encR x).toArray)) := belowS hb3.out (Nat.le_refl _) _
  replace hx := Lib.hid hx
  rw [hw3] at hld hst
  go_wp2_with fail
  rw [← hw3]
  refine ret_row rfl rfl rfl hR6 Try.underlying23 rfl (by kernel_rfl) ⟨x, rfl, ?_, hb6.out⟩
  first | exact hre.out | (rw [← hx.out]; exact hre.out)

theorem guess_fn {b off n cap : Nat} {w : World} {c0 c1 : UInt8} {t : List UInt8} (hn : n = t.length + 2) (hn64 : n ≤ 64) (hcap : n ≤ cap) (hcm : cap ≤ maxLen) (hr : BRead w (.slice (some ⟨b, off + 1, none⟩) (n - 1) (cap - 1)) (c1 :: t)) :
    Calls Try.prog 17 #[.slice (some ⟨b, off, none⟩) n cap] w fun e w' => ∃ x, e = .returned (.agg (encR x).toArray) ∧ ReadsAs (c0 :: c1 :: t) x ∧ Below w.heap.size w w' := by
  by_cases h1 : c1.toNat = 1
  · exact guess_1 h1 hn hn64 hcap hcm hr
  by_cases h2 : c1.toNat = 2
  · exact guess_2 h2 hn hn64 hcap hcm hr
  by_cases h3 : c1.toNat = 3
  · exact guess_3 h3 hn hn64 hcap hcm hr
  by_cases h4 : c1.toNat = 4
  · exact guess_4 h4 hn hn64 hcap hcm hr
  by_cases h5 : c1.toNat = 5
  · exact guess_5 h5 hn hn64 hcap hcm hr
  by_cases h6 : c1.toNat = 6
  · exact guess_6 h6 hn hn64 hcap hcm hr
  by_cases h7 : c1.toNat = 7
  · exact guess_7 h7 hn hn64 hcap hcm hr
  by_cases h8 : c1.toNat = 8
  · exact guess_8 h8 hn hn64 hcap hcm hr
  by_cases h9 : c1.toNat = 9
  · exact guess_9 h9 hn hn64 hcap hcm hr
  exact guess_no rfl h1 h2 h3 h4 h5 h6 h7 h8 h9 hn hn64 hcap hcm hr

end Go.Proofs.Ytojipdcckanbfaa
