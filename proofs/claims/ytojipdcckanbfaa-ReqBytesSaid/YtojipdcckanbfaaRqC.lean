/-
  Own walks: the statement's own bytes of a request.
-/
import Derived.Test.YtojipdcckanbfaaRqB
namespace Go.Proofs.Ytojipdcckanbfaa
open Go.RowKit

/-- A new block of bytes can be read, and appended to once it is full. -/
theorem new_read {W : World} {g : Nat} {l : List UInt8} {cs : Array Value} (h : W.heap[g]? = some (.cells cs 5 (0, 0))) (hc : cs = (bv l).toArray) : BRead W (.slice (some ⟨g, 0, none⟩) l.length l.length) l := by
  refine Or.inr ⟨g, 0, l.length, rfl, fun i hi => ?_⟩
  subst hc
  simp [World.cell?, h, bv, List.getD, hi]
theorem new_buf {W : World} {g base : Nat} {l : List UInt8} {cs : Array Value} (h : W.heap[g]? = some (.cells cs 5 (0, 0))) (hc : cs = (bv l).toArray) : BBuf W base (.slice (some ⟨g, 0, none⟩) l.length l.length) l := by
  refine Or.inr ⟨⟨g, 0, none⟩, rfl, by rw [bv_length, Nat.mul_one], fun j u hj => ?_⟩
  subst hc
  rw [Addr.add_lit]
  simp [World.cell?, h, hj]
theorem conv_byte {W : World} {g s : Nat} (h : W.heap[g]? = some (.cells #[.int .u8 (s : Int)] 5 (0, 0))) (hs : (((byt s).toNat : Nat) : Int) = (s : Int)) : (convert 24 9 (.slice (some ⟨g, 0, none⟩) 1 1)).run Try.prog W = .ok (.string (str [byt s])) W :=
  conv_read (new_read (l := [byt s]) h (by simp [bv, hs]))
theorem byt_val {n : Nat} (h : n < 256) : (((byt n).toNat : Nat) : Int) = (n : Int) := by rw [byt_toNat h]

set_option maxRecDepth 1000000 in
set_option maxHeartbeats 4000000 in
theorem bytes_1 (x2 x3 x4 x5 x6 : Int) (x7 : Bool) (x8 x9 : Int) (hf : FitsR ⟨1, x2, x3, x4, x5, x6, x7, x8, x9⟩) (w : World) : Calls Try.prog 11 #[.agg (encR ⟨1, x2, x3, x4, x5, x6, x7, x8, x9⟩).toArray] w fun e w' => e = .returned (.string (str (encQ ⟨1, x2, x3, x4, x5, x6, x7, x8, x9⟩))) ∧ Below w.heap.size w w' := by
  rw [show (encR ⟨1, x2, x3, x4, x5, x6, x7, x8, x9⟩).toArray = #[.int .i64 1, .int .i64 x2, .int .i64 x3, .int .i64 x4, .int .i64 x5, .int .i64 x6, .bool x7, .int .i64 x8, .int .i64 x9] from rfl]
  obtain ⟨wB, hwB⟩ : ∃ wB, wB = (w.alloc (.cells #[.int .i64 1, .int .i64 x2, .int .i64 x3, .int .i64 x4, .int .i64 x5, .int .i64 x6, .bool x7, .int .i64 x8, .int .i64 x9] 23)).alloc (.cells #[.int .u8 183, .int .u8 1] 5) := ⟨_, rfl⟩
  have hbB : Below w.heap.size w wB := by rw [hwB]; exact ((Below.refl _ _).alloc (Nat.le_refl _) _).alloc (by simp) _
  have hsB : wB.heap.size = w.heap.size + 2 := by rw [hwB]; simp
  have hRB : wB.heap[w.heap.size + 1]? = some (.cells #[.int .u8 183, .int .u8 1] 5 (0, 0)) := by rw [hwB]; exact heap_alloc2_new w _ _
  have hB : wB.heap[w.heap.size]? = some (.cells #[.int .i64 1, .int .i64 x2, .int .i64 x3, .int .i64 x4, .int .i64 x5, .int .i64 x6, .bool x7, .int .i64 x8, .int .i64 x9] 23 (0, 0)) := by rw [hwB]; exact heap_past (heap_alloc_new w _)
  have hcs : #[.int .u8 183, .int .u8 1] = (bv [byt 183, byt 1]).toArray := by simp [bv, byt_val]
  obtain ⟨wC, hwC⟩ : ∃ wC, wC = wB.alloc (.cells #[.int .i64 x3, .int .i64 x4, .int .i64 x5, .int .i64 x6] 2) := ⟨_, rfl⟩
  have hbC : Below w.heap.size w wC := by rw [hwC]; exact hbB.alloc (by omega) _
  have hsC : wC.heap.size = w.heap.size + 3 := by rw [hwC]; simp [hsB]
  have hRC : wC.heap[w.heap.size + 1]? = some (.cells #[.int .u8 183, .int .u8 1] 5 (0, 0)) := by rw [hwC]; exact heap_past hRB
  have hXC : wC.heap[w.heap.size + 2]? = some (.cells #[.int .i64 x3, .int .i64 x4, .int .i64 x5, .int .i64 x6] 2 (0, 0)) := by rw [hwC, ← hsB]; exact heap_alloc_new wB _
  have hBC : wC.heap[w.heap.size]? = some (.cells #[.int .i64 1, .int .i64 x2, .int .i64 x3, .int .i64 x4, .int .i64 x5, .int .i64 x6, .bool x7, .int .i64 x8, .int .i64 x9] 23 (0, 0)) := by rw [hwC]; exact heap_past hB
  have hbuf : BBuf wC (w.heap.size + 3) (.slice (some ⟨w.heap.size + 1, 0, none⟩) 2 2) [byt 183, byt 1] := new_buf hRC hcs
  have hall := All_any [x3, x4, x5, x6] (by intro z hz; simp at hz; rcases hz with rfl | rfl | rfl | rfl <;> first | exact hf.user | exact hf.width | exact hf.limit | exact hf.prio) (by simp) (w.heap.size + 2) 0 4 [byt 183, byt 1] _ (w.heap.size + 3) wC hbuf (by simp) (by omega) (by omega) (fun j hj => by
    have hj4 : j < 4 := by simpa using hj
    rcases (show j = 0 ∨ j = 1 ∨ j = 2 ∨ j = 3 by omega) with rfl | rfl | rfl | rfl <;> simp [World.cell?, hXC])
  rw [hwC, hwB] at hall
  have hX7 : ∀ W, Below (w.heap.size + 3) wC W → W.cell? ⟨w.heap.size, 6, none⟩ = some (.bool x7) := fun W hW => by simp [World.cell?, (hW.block w.heap.size (by omega)).trans hBC]
  have hLq : encQ ⟨1, x2, x3, x4, x5, x6, x7, x8, x9⟩ = (([byt 183, byt 1] ++ encAll [x3, x4, x5, x6]) ++ [if x7 then 1 else 0]) ++ [byt (ckF (([byt 183, byt 1] ++ encAll [x3, x4, x5, x6]) ++ [if x7 then 1 else 0]))] := by
    have : bodyQ ⟨1, x2, x3, x4, x5, x6, x7, x8, x9⟩ = ([byt 183, byt 1] ++ encAll [x3, x4, x5, x6]) ++ [if x7 then 1 else 0] := by simp [bodyQ, fieldsQ]
    unfold encQ
    rw [this]
  have hL0 : ([byt 183, byt 1] ++ encAll [x3, x4, x5, x6]).length ≤ 42 := by
    have := encAll_length [x3, x4, x5, x6]
    simp only [List.length_append, List.length_cons, List.length_nil] at *
    omega
  obtain ⟨L0, hL0'⟩ : ∃ L, L = [byt 183, byt 1] ++ encAll [x3, x4, x5, x6] := ⟨_, rfl⟩
  rw [← hL0'] at hall hLq hL0
  replace hL0' := Lib.hid hL0'
  obtain ⟨L, hL⟩ : ∃ L, L = L0 ++ [if x7 then 1 else 0] := ⟨_, rfl⟩
  have hLl : L.length ≤ 43 := by rw [hL, List.length_append]; simp; omega
  rw [← hL] at hLq
  rw [hLq]
  clear hLq hf hbuf hXC hRC hBC hcs hRB hB hsB hbB
  replace hL := Lib.hid hL
  replace hX7 := Lib.hid hX7
  have hz1 : (str L).size ≤ 43 := by rw [str_size]; exact hLl
  have hz2 : (str [byt (ckF L)]).size ≤ 1 := by rw [str_size]; exact Nat.le_refl _
  have hck : ckF L < 256 := ckK_lt _ _
  have hll : L.length ≤ 10000 := by omega
  have hsum := fun (W : World) (v : Value) (h : BRead W v L) => sum_any h hll
  have hby := byt_val hck
  have hLc : str L ++ str [byt (ckF L)] = str (L ++ [byt (ckF L)]) := str_cat _ _
  rw [← hLc]
  clear hLc hLl hll
  generalize ckF L = s at *
  replace hck := Lib.hid hck
  replace hby := Lib.hid hby
  go_enter Try.func11, Try.ntmps11
  go_wp2_with fail
  go_at_call 19
  refine hall.mono ?_
  clear hall
  rintro e wD ⟨vD, rfl, hbD, _, hD⟩
  rw [← hwB, ← hwC] at hD
  have hx7 := hX7.out wD hD
  have hbd := hbC.trans (hD.mono (by omega))
  have hsD := hD.size
  rw [hsC] at hsD
  have hbool := Bool_any x7 L0 vD (w.heap.size + 3) wD hbD (by omega) hsD
  rw [← hL.out] at hbool
  replace hwB := Lib.hid hwB
  replace hwC := Lib.hid hwC
  clear hX7 hD hbD hbC hsC
  go_wp2_with fail
  go_at_call 20
  refine hbool.mono ?_
  clear hbool
  rintro e w1 ⟨v1, rfl, hown, hE⟩
  have hb1 : Hid (Below w.heap.size w w1) := hbd.trans (hE.mono (by omega))
  have hrd : Hid (BRead w1 v1 L) := hown.read
  clear hown hE hbd hx7 hsD
  go_wp2_with fail

  refine Reg.region_mk 6 57 [[], [true], [false, false], [false, false, true], [false, false, true, true], [false, false, true, true, true]] [0, 1, 0, 1, 1, 1]
    [.pure, .minor Unit () (fun _ => .string (str L)) (fun _ _ => True), .pure, .minor Unit () (fun _ => .int .u8 (s : Int)) (fun _ _ => True), .minor Nat 0 (fun g => .slice (some ⟨g, 0, none⟩) 1 1) (fun g W => W.heap[g]? = some (.cells #[.int .u8 (s : Int)] 5 (0, 0))), .minor Unit () (fun _ => .string (str [byt s])) (fun _ _ => True)]
    (fun W => Below w1.heap.size w1 W) (fun _ _ => True) (fun a b => Below a.heap.size a b) (by kernel_rfl) (by kernel_rfl) rfl rfl (fun vs a b h hs => trivial) ?_ ?_ ?_ ?_ ?_ ?_
  · intro a b he hb; exact hb.trans (Below.mono he hb.size)
  · intro a b he hb; exact hb.trans (Below.mono he hb.size)
  · exact ⟨trivial, ⟨fun _ _ _ _ _ => trivial, fun _ _ _ _ _ => trivial⟩, trivial, ⟨fun _ _ _ _ _ => trivial, fun _ _ _ _ _ => trivial⟩, ⟨fun x a b he hx => (he.block _ (lt_of_at hx)).trans hx, fun x a b he hx => (he.block _ (lt_of_at hx)).trans hx⟩, ⟨fun _ _ _ _ _ => trivial, fun _ _ _ _ _ => trivial⟩, trivial⟩
  · exact ⟨rfl, rfl, rfl, Nat.le_refl _, fun _ _ => rfl⟩
  · trivial
  dsimp only [Reg.mk, List.zip, List.zipWith, List.take]
  repeat (refine' Reg.pass_is _ (by rfl) (fun wz => ?_) ?_; rotate_left; (go_simp; first | rfl | rw [if_neg (by omega)]); simp only [Act.put, List.setIfInBounds_toArray, List.set_cons_zero, List.set_cons_succ]; (try simp only [List.nil_append]); (try simp only [List.cons_append]); (try simp only [id]))
  refine Reg.pass_minor (by rfl) (fun wz hI hF => ?_) (fun r1 => ?_)
  · unfold Reg.One
    have hcv := conv_read (hrd.out.keeps (Keeps.of_ext hI))
    go_wp2_with fail
    first | exact ⟨_, rfl, rfl, Reg.Ext.refl _⟩ | exact ⟨_, rfl, ⟨(), rfl, trivial⟩, Reg.Ext.refl _⟩
  simp only [Act.put, List.setIfInBounds_toArray, List.set_cons_zero, List.set_cons_succ]; (try simp only [List.nil_append]); (try simp only [List.cons_append]); (try simp only [id])
  repeat (refine' Reg.pass_is _ (by rfl) (fun wz => ?_) ?_; rotate_left; (go_simp; first | rfl | rw [if_neg (by omega)]); simp only [Act.put, List.setIfInBounds_toArray, List.set_cons_zero, List.set_cons_succ]; (try simp only [List.nil_append]); (try simp only [List.cons_append]); (try simp only [id]))
  refine Reg.pass_minor (by rfl) (fun wz hI hF => ?_) (fun r3 => ?_)
  · unfold Reg.One
    go_wp2_with (go_at_call 22; go_must (refine (hsum _ _ (hrd.out.keeps (Keeps.of_ext hI))).mono ?_); rintro e w' ⟨rfl, rfl⟩)
    first | exact ⟨_, rfl, rfl, Reg.Ext.refl _⟩ | exact ⟨_, rfl, ⟨(), rfl, trivial⟩, Reg.Ext.refl _⟩
  simp only [Act.put, List.setIfInBounds_toArray, List.set_cons_zero, List.set_cons_succ]; (try simp only [List.nil_append]); (try simp only [List.cons_append]); (try simp only [id])
  refine Reg.pass_minor (by rfl) (fun wz hI hF => ?_) (fun r4 => ?_)
  · unfold Reg.One
    go_wp2_with fail
    exact ⟨_, rfl, ⟨wz.heap.size, rfl, heap_alloc_new wz _⟩, (Below.refl wz.heap.size wz).alloc (Nat.le_refl _) _⟩
  simp only [Act.put, List.setIfInBounds_toArray, List.set_cons_zero, List.set_cons_succ]; (try simp only [List.nil_append]); (try simp only [List.cons_append]); (try simp only [id])
  refine Reg.pass_minor (by rfl) (fun wz hI hF => ?_) (fun r5 => ?_)
  · unfold Reg.One
    have hcv := conv_byte hF.2.2.1 hby.out
    go_wp2_with fail
    first | exact ⟨_, rfl, rfl, Reg.Ext.refl _⟩ | exact ⟨_, rfl, ⟨(), rfl, trivial⟩, Reg.Ext.refl _⟩
  simp only [Act.put, List.setIfInBounds_toArray, List.set_cons_zero, List.set_cons_succ]; (try simp only [List.nil_append]); (try simp only [List.cons_append]); (try simp only [id])
  refine Reg.pass_end ?_
  intro w5 HI5 _ HF5
  clear HF5
  have hb5 := hb1.out.trans (HI5.mono hb1.out.size)
  dsimp only [List.drop]
  go_wp2_with fail
  go_ret
  exact ⟨rfl, hb5⟩

set_option maxRecDepth 1000000 in
set_option maxHeartbeats 4000000 in
theorem bytes_2 (x2 x3 x4 x5 x6 : Int) (x7 : Bool) (x8 x9 : Int) (hf : FitsR ⟨2, x2, x3, x4, x5, x6, x7, x8, x9⟩) (w : World) : Calls Try.prog 11 #[.agg (encR ⟨2, x2, x3, x4, x5, x6, x7, x8, x9⟩).toArray] w fun e w' => e = .returned (.string (str (encQ ⟨2, x2, x3, x4, x5, x6, x7, x8, x9⟩))) ∧ Below w.heap.size w w' := by
  rw [show (encR ⟨2, x2, x3, x4, x5, x6, x7, x8, x9⟩).toArray = #[.int .i64 2, .int .i64 x2, .int .i64 x3, .int .i64 x4, .int .i64 x5, .int .i64 x6, .bool x7, .int .i64 x8, .int .i64 x9] from rfl]
  obtain ⟨wB, hwB⟩ : ∃ wB, wB = (w.alloc (.cells #[.int .i64 2, .int .i64 x2, .int .i64 x3, .int .i64 x4, .int .i64 x5, .int .i64 x6, .bool x7, .int .i64 x8, .int .i64 x9] 23)).alloc (.cells #[.int .u8 183, .int .u8 2] 5) := ⟨_, rfl⟩
  have hbB : Below w.heap.size w wB := by rw [hwB]; exact ((Below.refl _ _).alloc (Nat.le_refl _) _).alloc (by simp) _
  have hsB : wB.heap.size = w.heap.size + 2 := by rw [hwB]; simp
  have hRB : wB.heap[w.heap.size + 1]? = some (.cells #[.int .u8 183, .int .u8 2] 5 (0, 0)) := by rw [hwB]; exact heap_alloc2_new w _ _
  have hB : wB.heap[w.heap.size]? = some (.cells #[.int .i64 2, .int .i64 x2, .int .i64 x3, .int .i64 x4, .int .i64 x5, .int .i64 x6, .bool x7, .int .i64 x8, .int .i64 x9] 23 (0, 0)) := by rw [hwB]; exact heap_past (heap_alloc_new w _)
  have hcs : #[.int .u8 183, .int .u8 2] = (bv [byt 183, byt 2]).toArray := by simp [bv, byt_val]
  have hbuf : BBuf wB (w.heap.size + 2) (.slice (some ⟨w.heap.size + 1, 0, none⟩) 2 2) [byt 183, byt 2] := new_buf hRB hcs
  have hsg := Sign_any x2 hf.id [byt 183, byt 2] _ (w.heap.size + 2) wB hbuf (by simp) (by omega)
  rw [hwB] at hsg
  have hLq : encQ ⟨2, x2, x3, x4, x5, x6, x7, x8, x9⟩ = ([byt 183, byt 2] ++ enc (zg x2)) ++ [byt (ckF ([byt 183, byt 2] ++ enc (zg x2)))] := by
    have : bodyQ ⟨2, x2, x3, x4, x5, x6, x7, x8, x9⟩ = [byt 183, byt 2] ++ enc (zg x2) := by simp [bodyQ, fieldsQ]
    unfold encQ
    rw [this]
  have hLl : ([byt 183, byt 2] ++ enc (zg x2)).length ≤ 43 := by
    have := (enc_length (zg x2)).2
    simp only [List.length_append, List.length_cons, List.length_nil]
    omega
  obtain ⟨L, hL⟩ : ∃ L, L = [byt 183, byt 2] ++ enc (zg x2) := ⟨_, rfl⟩
  rw [← hL] at hLq hLl hsg
  rw [hLq]
  clear hLq hf hbuf hcs hRB hB
  replace hL := Lib.hid hL
  have hz1 : (str L).size ≤ 43 := by rw [str_size]; exact hLl
  have hz2 : (str [byt (ckF L)]).size ≤ 1 := by rw [str_size]; exact Nat.le_refl _
  have hck : ckF L < 256 := ckK_lt _ _
  have hll : L.length ≤ 10000 := by omega
  have hsum := fun (W : World) (v : Value) (h : BRead W v L) => sum_any h hll
  have hby := byt_val hck
  have hLc : str L ++ str [byt (ckF L)] = str (L ++ [byt (ckF L)]) := str_cat _ _
  rw [← hLc]
  clear hLc hLl hll
  generalize ckF L = s at *
  replace hck := Lib.hid hck
  replace hby := Lib.hid hby
  go_enter Try.func11, Try.ntmps11
  go_wp2_with fail
  go_at_call 21
  refine hsg.mono ?_
  clear hsg
  rintro e w1 ⟨v1, rfl, hown, hE⟩
  rw [← hwB] at hE
  have hb1 : Hid (Below w.heap.size w w1) := hbB.trans (hE.mono (by omega))
  have hrd : Hid (BRead w1 v1 L) := hown.read
  replace hwB := Lib.hid hwB
  clear hown hE hbB hsB
  go_wp2_with fail

  refine Reg.region_mk 6 57 [[], [true], [false, false], [false, false, true], [false, false, true, true], [false, false, true, true, true]] [0, 1, 0, 1, 1, 1]
    [.pure, .minor Unit () (fun _ => .string (str L)) (fun _ _ => True), .pure, .minor Unit () (fun _ => .int .u8 (s : Int)) (fun _ _ => True), .minor Nat 0 (fun g => .slice (some ⟨g, 0, none⟩) 1 1) (fun g W => W.heap[g]? = some (.cells #[.int .u8 (s : Int)] 5 (0, 0))), .minor Unit () (fun _ => .string (str [byt s])) (fun _ _ => True)]
    (fun W => Below w1.heap.size w1 W) (fun _ _ => True) (fun a b => Below a.heap.size a b) (by kernel_rfl) (by kernel_rfl) rfl rfl (fun vs a b h hs => trivial) ?_ ?_ ?_ ?_ ?_ ?_
  · intro a b he hb; exact hb.trans (Below.mono he hb.size)
  · intro a b he hb; exact hb.trans (Below.mono he hb.size)
  · exact ⟨trivial, ⟨fun _ _ _ _ _ => trivial, fun _ _ _ _ _ => trivial⟩, trivial, ⟨fun _ _ _ _ _ => trivial, fun _ _ _ _ _ => trivial⟩, ⟨fun x a b he hx => (he.block _ (lt_of_at hx)).trans hx, fun x a b he hx => (he.block _ (lt_of_at hx)).trans hx⟩, ⟨fun _ _ _ _ _ => trivial, fun _ _ _ _ _ => trivial⟩, trivial⟩
  · exact ⟨rfl, rfl, rfl, Nat.le_refl _, fun _ _ => rfl⟩
  · trivial
  dsimp only [Reg.mk, List.zip, List.zipWith, List.take]
  repeat (refine' Reg.pass_is _ (by rfl) (fun wz => ?_) ?_; rotate_left; (go_simp; first | rfl | rw [if_neg (by omega)]); simp only [Act.put, List.setIfInBounds_toArray, List.set_cons_zero, List.set_cons_succ]; (try simp only [List.nil_append]); (try simp only [List.cons_append]); (try simp only [id]))
  refine Reg.pass_minor (by rfl) (fun wz hI hF => ?_) (fun r1 => ?_)
  · unfold Reg.One
    have hcv := conv_read (hrd.out.keeps (Keeps.of_ext hI))
    go_wp2_with fail
    first | exact ⟨_, rfl, rfl, Reg.Ext.refl _⟩ | exact ⟨_, rfl, ⟨(), rfl, trivial⟩, Reg.Ext.refl _⟩
  simp only [Act.put, List.setIfInBounds_toArray, List.set_cons_zero, List.set_cons_succ]; (try simp only [List.nil_append]); (try simp only [List.cons_append]); (try simp only [id])
  repeat (refine' Reg.pass_is _ (by rfl) (fun wz => ?_) ?_; rotate_left; (go_simp; first | rfl | rw [if_neg (by omega)]); simp only [Act.put, List.setIfInBounds_toArray, List.set_cons_zero, List.set_cons_succ]; (try simp only [List.nil_append]); (try simp only [List.cons_append]); (try simp only [id]))
  refine Reg.pass_minor (by rfl) (fun wz hI hF => ?_) (fun r3 => ?_)
  · unfold Reg.One
    go_wp2_with (go_at_call 22; go_must (refine (hsum _ _ (hrd.out.keeps (Keeps.of_ext hI))).mono ?_); rintro e w' ⟨rfl, rfl⟩)
    first | exact ⟨_, rfl, rfl, Reg.Ext.refl _⟩ | exact ⟨_, rfl, ⟨(), rfl, trivial⟩, Reg.Ext.refl _⟩
  simp only [Act.put, List.setIfInBounds_toArray, List.set_cons_zero, List.set_cons_succ]; (try simp only [List.nil_append]); (try simp only [List.cons_append]); (try simp only [id])
  refine Reg.pass_minor (by rfl) (fun wz hI hF => ?_) (fun r4 => ?_)
  · unfold Reg.One
    go_wp2_with fail
    exact ⟨_, rfl, ⟨wz.heap.size, rfl, heap_alloc_new wz _⟩, (Below.refl wz.heap.size wz).alloc (Nat.le_refl _) _⟩
  simp only [Act.put, List.setIfInBounds_toArray, List.set_cons_zero, List.set_cons_succ]; (try simp only [List.nil_append]); (try simp only [List.cons_append]); (try simp only [id])
  refine Reg.pass_minor (by rfl) (fun wz hI hF => ?_) (fun r5 => ?_)
  · unfold Reg.One
    have hcv := conv_byte hF.2.2.1 hby.out
    go_wp2_with fail
    first | exact ⟨_, rfl, rfl, Reg.Ext.refl _⟩ | exact ⟨_, rfl, ⟨(), rfl, trivial⟩, Reg.Ext.refl _⟩
  simp only [Act.put, List.setIfInBounds_toArray, List.set_cons_zero, List.set_cons_succ]; (try simp only [List.nil_append]); (try simp only [List.cons_append]); (try simp only [id])
  refine Reg.pass_end ?_
  intro w5 HI5 _ HF5
  clear HF5
  have hb5 := hb1.out.trans (HI5.mono hb1.out.size)
  dsimp only [List.drop]
  go_wp2_with fail
  go_ret
  exact ⟨rfl, hb5⟩

set_option maxRecDepth 1000000 in
set_option maxHeartbeats 4000000 in
theorem bytes_3 (x2 x3 x4 x5 x6 : Int) (x7 : Bool) (x8 x9 : Int) (hf : FitsR ⟨3, x2, x3, x4, x5, x6, x7, x8, x9⟩) (w : World) : Calls Try.prog 11 #[.agg (encR ⟨3, x2, x3, x4, x5, x6, x7, x8, x9⟩).toArray] w fun e w' => e = .returned (.string (str (encQ ⟨3, x2, x3, x4, x5, x6, x7, x8, x9⟩))) ∧ Below w.heap.size w w' := by
  rw [show (encR ⟨3, x2, x3, x4, x5, x6, x7, x8, x9⟩).toArray = #[.int .i64 3, .int .i64 x2, .int .i64 x3, .int .i64 x4, .int .i64 x5, .int .i64 x6, .bool x7, .int .i64 x8, .int .i64 x9] from rfl]
  obtain ⟨wB, hwB⟩ : ∃ wB, wB = (w.alloc (.cells #[.int .i64 3, .int .i64 x2, .int .i64 x3, .int .i64 x4, .int .i64 x5, .int .i64 x6, .bool x7, .int .i64 x8, .int .i64 x9] 23)).alloc (.cells #[.int .u8 183, .int .u8 3] 5) := ⟨_, rfl⟩
  have hbB : Below w.heap.size w wB := by rw [hwB]; exact ((Below.refl _ _).alloc (Nat.le_refl _) _).alloc (by simp) _
  have hsB : wB.heap.size = w.heap.size + 2 := by rw [hwB]; simp
  have hRB : wB.heap[w.heap.size + 1]? = some (.cells #[.int .u8 183, .int .u8 3] 5 (0, 0)) := by rw [hwB]; exact heap_alloc2_new w _ _
  have hB : wB.heap[w.heap.size]? = some (.cells #[.int .i64 3, .int .i64 x2, .int .i64 x3, .int .i64 x4, .int .i64 x5, .int .i64 x6, .bool x7, .int .i64 x8, .int .i64 x9] 23 (0, 0)) := by rw [hwB]; exact heap_past (heap_alloc_new w _)
  have hcs : #[.int .u8 183, .int .u8 3] = (bv [byt 183, byt 3]).toArray := by simp [bv, byt_val]
  have hbuf : BBuf wB (w.heap.size + 2) (.slice (some ⟨w.heap.size + 1, 0, none⟩) 2 2) [byt 183, byt 3] := new_buf hRB hcs
  have hsg := Sign_any x2 hf.id [byt 183, byt 3] _ (w.heap.size + 2) wB hbuf (by simp) (by omega)
  rw [hwB] at hsg
  have hLq : encQ ⟨3, x2, x3, x4, x5, x6, x7, x8, x9⟩ = ([byt 183, byt 3] ++ enc (zg x2)) ++ [byt (ckF ([byt 183, byt 3] ++ enc (zg x2)))] := by
    have : bodyQ ⟨3, x2, x3, x4, x5, x6, x7, x8, x9⟩ = [byt 183, byt 3] ++ enc (zg x2) := by simp [bodyQ, fieldsQ]
    unfold encQ
    rw [this]
  have hLl : ([byt 183, byt 3] ++ enc (zg x2)).length ≤ 43 := by
    have := (enc_length (zg x2)).2
    simp only [List.length_append, List.length_cons, List.length_nil]
    omega
  obtain ⟨L, hL⟩ : ∃ L, L = [byt 183, byt 3] ++ enc (zg x2) := ⟨_, rfl⟩
  rw [← hL] at hLq hLl hsg
  rw [hLq]
  clear hLq hf hbuf hcs hRB hB
  replace hL := Lib.hid hL
  have hz1 : (str L).size ≤ 43 := by rw [str_size]; exact hLl
  have hz2 : (str [byt (ckF L)]).size ≤ 1 := by rw [str_size]; exact Nat.le_refl _
  have hck : ckF L < 256 := ckK_lt _ _
  have hll : L.length ≤ 10000 := by omega
  have hsum := fun (W : World) (v : Value) (h : BRead W v L) => sum_any h hll
  have hby := byt_val hck
  have hLc : str L ++ str [byt (ckF L)] = str (L ++ [byt (ckF L)]) := str_cat _ _
  rw [← hLc]
  clear hLc hLl hll
  generalize ckF L = s at *
  replace hck := Lib.hid hck
  replace hby := Lib.hid hby
  go_enter Try.func11, Try.ntmps11
  go_wp2_with fail
  go_at_call 21
  refine hsg.mono ?_
  clear hsg
  rintro e w1 ⟨v1, rfl, hown, hE⟩
  rw [← hwB] at hE
  have hb1 : Hid (Below w.heap.size w w1) := hbB.trans (hE.mono (by omega))
  have hrd : Hid (BRead w1 v1 L) := hown.read
  replace hwB := Lib.hid hwB
  clear hown hE hbB hsB
  go_wp2_with fail

  refine Reg.region_mk 6 57 [[], [true], [false, false], [false, false, true], [false, false, true, true], [false, false, true, true, true]] [0, 1, 0, 1, 1, 1]
    [.pure, .minor Unit () (fun _ => .string (str L)) (fun _ _ => True), .pure, .minor Unit () (fun _ => .int .u8 (s : Int)) (fun _ _ => True), .minor Nat 0 (fun g => .slice (some ⟨g, 0, none⟩) 1 1) (fun g W => W.heap[g]? = some (.cells #[.int .u8 (s : Int)] 5 (0, 0))), .minor Unit () (fun _ => .string (str [byt s])) (fun _ _ => True)]
    (fun W => Below w1.heap.size w1 W) (fun _ _ => True) (fun a b => Below a.heap.size a b) (by kernel_rfl) (by kernel_rfl) rfl rfl (fun vs a b h hs => trivial) ?_ ?_ ?_ ?_ ?_ ?_
  · intro a b he hb; exact hb.trans (Below.mono he hb.size)
  · intro a b he hb; exact hb.trans (Below.mono he hb.size)
  · exact ⟨trivial, ⟨fun _ _ _ _ _ => trivial, fun _ _ _ _ _ => trivial⟩, trivial, ⟨fun _ _ _ _ _ => trivial, fun _ _ _ _ _ => trivial⟩, ⟨fun x a b he hx => (he.block _ (lt_of_at hx)).trans hx, fun x a b he hx => (he.block _ (lt_of_at hx)).trans hx⟩, ⟨fun _ _ _ _ _ => trivial, fun _ _ _ _ _ => trivial⟩, trivial⟩
  · exact ⟨rfl, rfl, rfl, Nat.le_refl _, fun _ _ => rfl⟩
  · trivial
  dsimp only [Reg.mk, List.zip, List.zipWith, List.take]
  repeat (refine' Reg.pass_is _ (by rfl) (fun wz => ?_) ?_; rotate_left; (go_simp; first | rfl | rw [if_neg (by omega)]); simp only [Act.put, List.setIfInBounds_toArray, List.set_cons_zero, List.set_cons_succ]; (try simp only [List.nil_append]); (try simp only [List.cons_append]); (try simp only [id]))
  refine Reg.pass_minor (by rfl) (fun wz hI hF => ?_) (fun r1 => ?_)
  · unfold Reg.One
    have hcv := conv_read (hrd.out.keeps (Keeps.of_ext hI))
    go_wp2_with fail
    first | exact ⟨_, rfl, rfl, Reg.Ext.refl _⟩ | exact ⟨_, rfl, ⟨(), rfl, trivial⟩, Reg.Ext.refl _⟩
  simp only [Act.put, List.setIfInBounds_toArray, List.set_cons_zero, List.set_cons_succ]; (try simp only [List.nil_append]); (try simp only [List.cons_append]); (try simp only [id])
  repeat (refine' Reg.pass_is _ (by rfl) (fun wz => ?_) ?_; rotate_left; (go_simp; first | rfl | rw [if_neg (by omega)]); simp only [Act.put, List.setIfInBounds_toArray, List.set_cons_zero, List.set_cons_succ]; (try simp only [List.nil_append]); (try simp only [List.cons_append]); (try simp only [id]))
  refine Reg.pass_minor (by rfl) (fun wz hI hF => ?_) (fun r3 => ?_)
  · unfold Reg.One
    go_wp2_with (go_at_call 22; go_must (refine (hsum _ _ (hrd.out.keeps (Keeps.of_ext hI))).mono ?_); rintro e w' ⟨rfl, rfl⟩)
    first | exact ⟨_, rfl, rfl, Reg.Ext.refl _⟩ | exact ⟨_, rfl, ⟨(), rfl, trivial⟩, Reg.Ext.refl _⟩
  simp only [Act.put, List.setIfInBounds_toArray, List.set_cons_zero, List.set_cons_succ]; (try simp only [List.nil_append]); (try simp only [List.cons_append]); (try simp only [id])
  refine Reg.pass_minor (by rfl) (fun wz hI hF => ?_) (fun r4 => ?_)
  · unfold Reg.One
    go_wp2_with fail
    exact ⟨_, rfl, ⟨wz.heap.size, rfl, heap_alloc_new wz _⟩, (Below.refl wz.heap.size wz).alloc (Nat.le_refl _) _⟩
  simp only [Act.put, List.setIfInBounds_toArray, List.set_cons_zero, List.set_cons_succ]; (try simp only [List.nil_append]); (try simp only [List.cons_append]); (try simp only [id])
  refine Reg.pass_minor (by rfl) (fun wz hI hF => ?_) (fun r5 => ?_)
  · unfold Reg.One
    have hcv := conv_byte hF.2.2.1 hby.out
    go_wp2_with fail
    first | exact ⟨_, rfl, rfl, Reg.Ext.refl _⟩ | exact ⟨_, rfl, ⟨(), rfl, trivial⟩, Reg.Ext.refl _⟩
  simp only [Act.put, List.setIfInBounds_toArray, List.set_cons_zero, List.set_cons_succ]; (try simp only [List.nil_append]); (try simp only [List.cons_append]); (try simp only [id])
  refine Reg.pass_end ?_
  intro w5 HI5 _ HF5
  clear HF5
  have hb5 := hb1.out.trans (HI5.mono hb1.out.size)
  dsimp only [List.drop]
  go_wp2_with fail
  go_ret
  exact ⟨rfl, hb5⟩

set_option maxRecDepth 1000000 in
set_option maxHeartbeats 4000000 in
theorem bytes_4 (x2 x3 x4 x5 x6 : Int) (x7 : Bool) (x8 x9 : Int) (hf : FitsR ⟨4, x2, x3, x4, x5, x6, x7, x8, x9⟩) (w : World) : Calls Try.prog 11 #[.agg (encR ⟨4, x2, x3, x4, x5, x6, x7, x8, x9⟩).toArray] w fun e w' => e = .returned (.string (str (encQ ⟨4, x2, x3, x4, x5, x6, x7, x8, x9⟩))) ∧ Below w.heap.size w w' := by
  rw [show (encR ⟨4, x2, x3, x4, x5, x6, x7, x8, x9⟩).toArray = #[.int .i64 4, .int .i64 x2, .int .i64 x3, .int .i64 x4, .int .i64 x5, .int .i64 x6, .bool x7, .int .i64 x8, .int .i64 x9] from rfl]
  obtain ⟨wB, hwB⟩ : ∃ wB, wB = (w.alloc (.cells #[.int .i64 4, .int .i64 x2, .int .i64 x3, .int .i64 x4, .int .i64 x5, .int .i64 x6, .bool x7, .int .i64 x8, .int .i64 x9] 23)).alloc (.cells #[.int .u8 183, .int .u8 4] 5) := ⟨_, rfl⟩
  have hbB : Below w.heap.size w wB := by rw [hwB]; exact ((Below.refl _ _).alloc (Nat.le_refl _) _).alloc (by simp) _
  have hsB : wB.heap.size = w.heap.size + 2 := by rw [hwB]; simp
  have hRB : wB.heap[w.heap.size + 1]? = some (.cells #[.int .u8 183, .int .u8 4] 5 (0, 0)) := by rw [hwB]; exact heap_alloc2_new w _ _
  have hB : wB.heap[w.heap.size]? = some (.cells #[.int .i64 4, .int .i64 x2, .int .i64 x3, .int .i64 x4, .int .i64 x5, .int .i64 x6, .bool x7, .int .i64 x8, .int .i64 x9] 23 (0, 0)) := by rw [hwB]; exact heap_past (heap_alloc_new w _)
  have hcs : #[.int .u8 183, .int .u8 4] = (bv [byt 183, byt 4]).toArray := by simp [bv, byt_val]
  have hbuf : BBuf wB (w.heap.size + 2) (.slice (some ⟨w.heap.size + 1, 0, none⟩) 2 2) [byt 183, byt 4] := new_buf hRB hcs
  have hsg := Sign_any x2 hf.id [byt 183, byt 4] _ (w.heap.size + 2) wB hbuf (by simp) (by omega)
  rw [hwB] at hsg
  have hLq : encQ ⟨4, x2, x3, x4, x5, x6, x7, x8, x9⟩ = ([byt 183, byt 4] ++ enc (zg x2)) ++ [byt (ckF ([byt 183, byt 4] ++ enc (zg x2)))] := by
    have : bodyQ ⟨4, x2, x3, x4, x5, x6, x7, x8, x9⟩ = [byt 183, byt 4] ++ enc (zg x2) := by simp [bodyQ, fieldsQ]
    unfold encQ
    rw [this]
  have hLl : ([byt 183, byt 4] ++ enc (zg x2)).length ≤ 43 := by
    have := (enc_length (zg x2)).2
    simp only [List.length_append, List.length_cons, List.length_nil]
    omega
  obtain ⟨L, hL⟩ : ∃ L, L = [byt 183, byt 4] ++ enc (zg x2) := ⟨_, rfl⟩
  rw [← hL] at hLq hLl hsg
  rw [hLq]
  clear hLq hf hbuf hcs hRB hB
  replace hL := Lib.hid hL
  have hz1 : (str L).size ≤ 43 := by rw [str_size]; exact hLl
  have hz2 : (str [byt (ckF L)]).size ≤ 1 := by rw [str_size]; exact Nat.le_refl _
  have hck : ckF L < 256 := ckK_lt _ _
  have hll : L.length ≤ 10000 := by omega
  have hsum := fun (W : World) (v : Value) (h : BRead W v L) => sum_any h hll
  have hby := byt_val hck
  have hLc : str L ++ str [byt (ckF L)] = str (L ++ [byt (ckF L)]) := str_cat _ _
  rw [← hLc]
  clear hLc hLl hll
  generalize ckF L = s at *
  replace hck := Lib.hid hck
  replace hby := Lib.hid hby
  go_enter Try.func11, Try.ntmps11
  go_wp2_with fail
  go_at_call 21
  refine hsg.mono ?_
  clear hsg
  rintro e w1 ⟨v1, rfl, hown, hE⟩
  rw [← hwB] at hE
  have hb1 : Hid (Below w.heap.size w w1) := hbB.trans (hE.mono (by omega))
  have hrd : Hid (BRead w1 v1 L) := hown.read
  replace hwB := Lib.hid hwB
  clear hown hE hbB hsB
  go_wp2_with fail

  refine Reg.region_mk 6 57 [[], [true], [false, false], [false, false, true], [false, false, true, true], [false, false, true, true, true]] [0, 1, 0, 1, 1, 1]
    [.pure, .minor Unit () (fun _ => .string (str L)) (fun _ _ => True), .pure, .minor Unit () (fun _ => .int .u8 (s : Int)) (fun _ _ => True), .minor Nat 0 (fun g => .slice (some ⟨g, 0, none⟩) 1 1) (fun g W => W.heap[g]? = some (.cells #[.int .u8 (s : Int)] 5 (0, 0))), .minor Unit () (fun _ => .string (str [byt s])) (fun _ _ => True)]
    (fun W => Below w1.heap.size w1 W) (fun _ _ => True) (fun a b => Below a.heap.size a b) (by kernel_rfl) (by kernel_rfl) rfl rfl (fun vs a b h hs => trivial) ?_ ?_ ?_ ?_ ?_ ?_
  · intro a b he hb; exact hb.trans (Below.mono he hb.size)
  · intro a b he hb; exact hb.trans (Below.mono he hb.size)
  · exact ⟨trivial, ⟨fun _ _ _ _ _ => trivial, fun _ _ _ _ _ => trivial⟩, trivial, ⟨fun _ _ _ _ _ => trivial, fun _ _ _ _ _ => trivial⟩, ⟨fun x a b he hx => (he.block _ (lt_of_at hx)).trans hx, fun x a b he hx => (he.block _ (lt_of_at hx)).trans hx⟩, ⟨fun _ _ _ _ _ => trivial, fun _ _ _ _ _ => trivial⟩, trivial⟩
  · exact ⟨rfl, rfl, rfl, Nat.le_refl _, fun _ _ => rfl⟩
  · trivial
  dsimp only [Reg.mk, List.zip, List.zipWith, List.take]
  repeat (refine' Reg.pass_is _ (by rfl) (fun wz => ?_) ?_; rotate_left; (go_simp; first | rfl | rw [if_neg (by omega)]); simp only [Act.put, List.setIfInBounds_toArray, List.set_cons_zero, List.set_cons_succ]; (try simp only [List.nil_append]); (try simp only [List.cons_append]); (try simp only [id]))
  refine Reg.pass_minor (by rfl) (fun wz hI hF => ?_) (fun r1 => ?_)
  · unfold Reg.One
    have hcv := conv_read (hrd.out.keeps (Keeps.of_ext hI))
    go_wp2_with fail
    first | exact ⟨_, rfl, rfl, Reg.Ext.refl _⟩ | exact ⟨_, rfl, ⟨(), rfl, trivial⟩, Reg.Ext.refl _⟩
  simp only [Act.put, List.setIfInBounds_toArray, List.set_cons_zero, List.set_cons_succ]; (try simp only [List.nil_append]); (try simp only [List.cons_append]); (try simp only [id])
  repeat (refine' Reg.pass_is _ (by rfl) (fun wz => ?_) ?_; rotate_left; (go_simp; first | rfl | rw [if_neg (by omega)]); simp only [Act.put, List.setIfInBounds_toArray, List.set_cons_zero, List.set_cons_succ]; (try simp only [List.nil_append]); (try simp only [List.cons_append]); (try simp only [id]))
  refine Reg.pass_minor (by rfl) (fun wz hI hF => ?_) (fun r3 => ?_)
  · unfold Reg.One
    go_wp2_with (go_at_call 22; go_must (refine (hsum _ _ (hrd.out.keeps (Keeps.of_ext hI))).mono ?_); rintro e w' ⟨rfl, rfl⟩)
    first | exact ⟨_, rfl, rfl, Reg.Ext.refl _⟩ | exact ⟨_, rfl, ⟨(), rfl, trivial⟩, Reg.Ext.refl _⟩
  simp only [Act.put, List.setIfInBounds_toArray, List.set_cons_zero, List.set_cons_succ]; (try simp only [List.nil_append]); (try simp only [List.cons_append]); (try simp only [id])
  refine Reg.pass_minor (by rfl) (fun wz hI hF => ?_) (fun r4 => ?_)
  · unfold Reg.One
    go_wp2_with fail
    exact ⟨_, rfl, ⟨wz.heap.size, rfl, heap_alloc_new wz _⟩, (Below.refl wz.heap.size wz).alloc (Nat.le_refl _) _⟩
  simp only [Act.put, List.setIfInBounds_toArray, List.set_cons_zero, List.set_cons_succ]; (try simp only [List.nil_append]); (try simp only [List.cons_append]); (try simp only [id])
  refine Reg.pass_minor (by rfl) (fun wz hI hF => ?_) (fun r5 => ?_)
  · unfold Reg.One
    have hcv := conv_byte hF.2.2.1 hby.out
    go_wp2_with fail
    first | exact ⟨_, rfl, rfl, Reg.Ext.refl _⟩ | exact ⟨_, rfl, ⟨(), rfl, trivial⟩, Reg.Ext.refl _⟩
  simp only [Act.put, List.setIfInBounds_toArray, List.set_cons_zero, List.set_cons_succ]; (try simp only [List.nil_append]); (try simp only [List.cons_append]); (try simp only [id])
  refine Reg.pass_end ?_
  intro w5 HI5 _ HF5
  clear HF5
  have hb5 := hb1.out.trans (HI5.mono hb1.out.size)
  dsimp only [List.drop]
  go_wp2_with fail
  go_ret
  exact ⟨rfl, hb5⟩

set_option maxRecDepth 1000000 in
set_option maxHeartbeats 4000000 in
theorem bytes_5 (x2 x3 x4 x5 x6 : Int) (x7 : Bool) (x8 x9 : Int) (hf : FitsR ⟨5, x2, x3, x4, x5, x6, x7, x8, x9⟩) (w : World) : Calls Try.prog 11 #[.agg (encR ⟨5, x2, x3, x4, x5, x6, x7, x8, x9⟩).toArray] w fun e w' => e = .returned (.string (str (encQ ⟨5, x2, x3, x4, x5, x6, x7, x8, x9⟩))) ∧ Below w.heap.size w w' := by
  rw [show (encR ⟨5, x2, x3, x4, x5, x6, x7, x8, x9⟩).toArray = #[.int .i64 5, .int .i64 x2, .int .i64 x3, .int .i64 x4, .int .i64 x5, .int .i64 x6, .bool x7, .int .i64 x8, .int .i64 x9] from rfl]
  obtain ⟨wB, hwB⟩ : ∃ wB, wB = (w.alloc (.cells #[.int .i64 5, .int .i64 x2, .int .i64 x3, .int .i64 x4, .int .i64 x5, .int .i64 x6, .bool x7, .int .i64 x8, .int .i64 x9] 23)).alloc (.cells #[.int .u8 183, .int .u8 5] 5) := ⟨_, rfl⟩
  have hbB : Below w.heap.size w wB := by rw [hwB]; exact ((Below.refl _ _).alloc (Nat.le_refl _) _).alloc (by simp) _
  have hsB : wB.heap.size = w.heap.size + 2 := by rw [hwB]; simp
  have hRB : wB.heap[w.heap.size + 1]? = some (.cells #[.int .u8 183, .int .u8 5] 5 (0, 0)) := by rw [hwB]; exact heap_alloc2_new w _ _
  have hB : wB.heap[w.heap.size]? = some (.cells #[.int .i64 5, .int .i64 x2, .int .i64 x3, .int .i64 x4, .int .i64 x5, .int .i64 x6, .bool x7, .int .i64 x8, .int .i64 x9] 23 (0, 0)) := by rw [hwB]; exact heap_past (heap_alloc_new w _)
  have hcs : #[.int .u8 183, .int .u8 5] = (bv [byt 183, byt 5]).toArray := by simp [bv, byt_val]
  have hbuf : BBuf wB (w.heap.size + 2) (.slice (some ⟨w.heap.size + 1, 0, none⟩) 2 2) [byt 183, byt 5] := new_buf hRB hcs
  have hsg := Sign_any x2 hf.id [byt 183, byt 5] _ (w.heap.size + 2) wB hbuf (by simp) (by omega)
  rw [hwB] at hsg
  have hLq : encQ ⟨5, x2, x3, x4, x5, x6, x7, x8, x9⟩ = ([byt 183, byt 5] ++ enc (zg x2)) ++ [byt (ckF ([byt 183, byt 5] ++ enc (zg x2)))] := by
    have : bodyQ ⟨5, x2, x3, x4, x5, x6, x7, x8, x9⟩ = [byt 183, byt 5] ++ enc (zg x2) := by simp [bodyQ, fieldsQ]
    unfold encQ
    rw [this]
  have hLl : ([byt 183, byt 5] ++ enc (zg x2)).length ≤ 43 := by
    have := (enc_length (zg x2)).2
    simp only [List.length_append, List.length_cons, List.length_nil]
    omega
  obtain ⟨L, hL⟩ : ∃ L, L = [byt 183, byt 5] ++ enc (zg x2) := ⟨_, rfl⟩
  rw [← hL] at hLq hLl hsg
  rw [hLq]
  clear hLq hf hbuf hcs hRB hB
  replace hL := Lib.hid hL
  have hz1 : (str L).size ≤ 43 := by rw [str_size]; exact hLl
  have hz2 : (str [byt (ckF L)]).size ≤ 1 := by rw [str_size]; exact Nat.le_refl _
  have hck : ckF L < 256 := ckK_lt _ _
  have hll : L.length ≤ 10000 := by omega
  have hsum := fun (W : World) (v : Value) (h : BRead W v L) => sum_any h hll
  have hby := byt_val hck
  have hLc : str L ++ str [byt (ckF L)] = str (L ++ [byt (ckF L)]) := str_cat _ _
  rw [← hLc]
  clear hLc hLl hll
  generalize ckF L = s at *
  replace hck := Lib.hid hck
  replace hby := Lib.hid hby
  go_enter Try.func11, Try.ntmps11
  go_wp2_with fail
  go_at_call 21
  refine hsg.mono ?_
  clear hsg
  rintro e w1 ⟨v1, rfl, hown, hE⟩
  rw [← hwB] at hE
  have hb1 : Hid (Below w.heap.size w w1) := hbB.trans (hE.mono (by omega))
  have hrd : Hid (BRead w1 v1 L) := hown.read
  replace hwB := Lib.hid hwB
  clear hown hE hbB hsB
  go_wp2_with fail

  refine Reg.region_mk 6 57 [[], [true], [false, false], [false, false, true], [false, false, true, true], [false, false, true, true, true]] [0, 1, 0, 1, 1, 1]
    [.pure, .minor Unit () (fun _ => .string (str L)) (fun _ _ => True), .pure, .minor Unit () (fun _ => .int .u8 (s : Int)) (fun _ _ => True), .minor Nat 0 (fun g => .slice (some ⟨g, 0, none⟩) 1 1) (fun g W => W.heap[g]? = some (.cells #[.int .u8 (s : Int)] 5 (0, 0))), .minor Unit () (fun _ => .string (str [byt s])) (fun _ _ => True)]
    (fun W => Below w1.heap.size w1 W) (fun _ _ => True) (fun a b => Below a.heap.size a b) (by kernel_rfl) (by kernel_rfl) rfl rfl (fun vs a b h hs => trivial) ?_ ?_ ?_ ?_ ?_ ?_
  · intro a b he hb; exact hb.trans (Below.mono he hb.size)
  · intro a b he hb; exact hb.trans (Below.mono he hb.size)
  · exact ⟨trivial, ⟨fun _ _ _ _ _ => trivial, fun _ _ _ _ _ => trivial⟩, trivial, ⟨fun _ _ _ _ _ => trivial, fun _ _ _ _ _ => trivial⟩, ⟨fun x a b he hx => (he.block _ (lt_of_at hx)).trans hx, fun x a b he hx => (he.block _ (lt_of_at hx)).trans hx⟩, ⟨fun _ _ _ _ _ => trivial, fun _ _ _ _ _ => trivial⟩, trivial⟩
  · exact ⟨rfl, rfl, rfl, Nat.le_refl _, fun _ _ => rfl⟩
  · trivial
  dsimp only [Reg.mk, List.zip, List.zipWith, List.take]
  repeat (refine' Reg.pass_is _ (by rfl) (fun wz => ?_) ?_; rotate_left; (go_simp; first | rfl | rw [if_neg (by omega)]); simp only [Act.put, List.setIfInBounds_toArray, List.set_cons_zero, List.set_cons_succ]; (try simp only [List.nil_append]); (try simp only [List.cons_append]); (try simp only [id]))
  refine Reg.pass_minor (by rfl) (fun wz hI hF => ?_) (fun r1 => ?_)
  · unfold Reg.One
    have hcv := conv_read (hrd.out.keeps (Keeps.of_ext hI))
    go_wp2_with fail
    first | exact ⟨_, rfl, rfl, Reg.Ext.refl _⟩ | exact ⟨_, rfl, ⟨(), rfl, trivial⟩, Reg.Ext.refl _⟩
  simp only [Act.put, List.setIfInBounds_toArray, List.set_cons_zero, List.set_cons_succ]; (try simp only [List.nil_append]); (try simp only [List.cons_append]); (try simp only [id])
  repeat (refine' Reg.pass_is _ (by rfl) (fun wz => ?_) ?_; rotate_left; (go_simp; first | rfl | rw [if_neg (by omega)]); simp only [Act.put, List.setIfInBounds_toArray, List.set_cons_zero, List.set_cons_succ]; (try simp only [List.nil_append]); (try simp only [List.cons_append]); (try simp only [id]))
  refine Reg.pass_minor (by rfl) (fun wz hI hF => ?_) (fun r3 => ?_)
  · unfold Reg.One
    go_wp2_with (go_at_call 22; go_must (refine (hsum _ _ (hrd.out.keeps (Keeps.of_ext hI))).mono ?_); rintro e w' ⟨rfl, rfl⟩)
    first | exact ⟨_, rfl, rfl, Reg.Ext.refl _⟩ | exact ⟨_, rfl, ⟨(), rfl, trivial⟩, Reg.Ext.refl _⟩
  simp only [Act.put, List.setIfInBounds_toArray, List.set_cons_zero, List.set_cons_succ]; (try simp only [List.nil_append]); (try simp only [List.cons_append]); (try simp only [id])
  refine Reg.pass_minor (by rfl) (fun wz hI hF => ?_) (fun r4 => ?_)
  · unfold Reg.One
    go_wp2_with fail
    exact ⟨_, rfl, ⟨wz.heap.size, rfl, heap_alloc_new wz _⟩, (Below.refl wz.heap.size wz).alloc (Nat.le_refl _) _⟩
  simp only [Act.put, List.setIfInBounds_toArray, List.set_cons_zero, List.set_cons_succ]; (try simp only [List.nil_append]); (try simp only [List.cons_append]); (try simp only [id])
  refine Reg.pass_minor (by rfl) (fun wz hI hF => ?_) (fun r5 => ?_)
  · unfold Reg.One
    have hcv := conv_byte hF.2.2.1 hby.out
    go_wp2_with fail
    first | exact ⟨_, rfl, rfl, Reg.Ext.refl _⟩ | exact ⟨_, rfl, ⟨(), rfl, trivial⟩, Reg.Ext.refl _⟩
  simp only [Act.put, List.setIfInBounds_toArray, List.set_cons_zero, List.set_cons_succ]; (try simp only [List.nil_append]); (try simp only [List.cons_append]); (try simp only [id])
  refine Reg.pass_end ?_
  intro w5 HI5 _ HF5
  clear HF5
  have hb5 := hb1.out.trans (HI5.mono hb1.out.size)
  dsimp only [List.drop]
  go_wp2_with fail
  go_ret
  exact ⟨rfl, hb5⟩

set_option maxRecDepth 1000000 in
set_option maxHeartbeats 4000000 in
theorem bytes_6 (x2 x3 x4 x5 x6 : Int) (x7 : Bool) (x8 x9 : Int) (hf : FitsR ⟨6, x2, x3, x4, x5, x6, x7, x8, x9⟩) (w : World) : Calls Try.prog 11 #[.agg (encR ⟨6, x2, x3, x4, x5, x6, x7, x8, x9⟩).toArray] w fun e w' => e = .returned (.string (str (encQ ⟨6, x2, x3, x4, x5, x6, x7, x8, x9⟩))) ∧ Below w.heap.size w w' := by
  rw [show (encR ⟨6, x2, x3, x4, x5, x6, x7, x8, x9⟩).toArray = #[.int .i64 6, .int .i64 x2, .int .i64 x3, .int .i64 x4, .int .i64 x5, .int .i64 x6, .bool x7, .int .i64 x8, .int .i64 x9] from rfl]
  obtain ⟨wB, hwB⟩ : ∃ wB, wB = (w.alloc (.cells #[.int .i64 6, .int .i64 x2, .int .i64 x3, .int .i64 x4, .int .i64 x5, .int .i64 x6, .bool x7, .int .i64 x8, .int .i64 x9] 23)).alloc (.cells #[.int .u8 183, .int .u8 6] 5) := ⟨_, rfl⟩
  have hbB : Below w.heap.size w wB := by rw [hwB]; exact ((Below.refl _ _).alloc (Nat.le_refl _) _).alloc (by simp) _
  have hsB : wB.heap.size = w.heap.size + 2 := by rw [hwB]; simp
  have hRB : wB.heap[w.heap.size + 1]? = some (.cells #[.int .u8 183, .int .u8 6] 5 (0, 0)) := by rw [hwB]; exact heap_alloc2_new w _ _
  have hB : wB.heap[w.heap.size]? = some (.cells #[.int .i64 6, .int .i64 x2, .int .i64 x3, .int .i64 x4, .int .i64 x5, .int .i64 x6, .bool x7, .int .i64 x8, .int .i64 x9] 23 (0, 0)) := by rw [hwB]; exact heap_past (heap_alloc_new w _)
  have hcs : #[.int .u8 183, .int .u8 6] = (bv [byt 183, byt 6]).toArray := by simp [bv, byt_val]
  have hbuf : BBuf wB (w.heap.size + 2) (.slice (some ⟨w.heap.size + 1, 0, none⟩) 2 2) [byt 183, byt 6] := new_buf hRB hcs
  have hsg := Sign_any x2 hf.id [byt 183, byt 6] _ (w.heap.size + 2) wB hbuf (by simp) (by omega)
  rw [hwB] at hsg
  have hLq : encQ ⟨6, x2, x3, x4, x5, x6, x7, x8, x9⟩ = ([byt 183, byt 6] ++ enc (zg x2)) ++ [byt (ckF ([byt 183, byt 6] ++ enc (zg x2)))] := by
    have : bodyQ ⟨6, x2, x3, x4, x5, x6, x7, x8, x9⟩ = [byt 183, byt 6] ++ enc (zg x2) := by simp [bodyQ, fieldsQ]
    unfold encQ
    rw [this]
  have hLl : ([byt 183, byt 6] ++ enc (zg x2)).length ≤ 43 := by
    have := (enc_length (zg x2)).2
    simp only [List.length_append, List.length_cons, List.length_nil]
    omega
  obtain ⟨L, hL⟩ : ∃ L, L = [byt 183, byt 6] ++ enc (zg x2) := ⟨_, rfl⟩
  rw [← hL] at hLq hLl hsg
  rw [hLq]
  clear hLq hf hbuf hcs hRB hB
  replace hL := Lib.hid hL
  have hz1 : (str L).size ≤ 43 := by rw [str_size]; exact hLl
  have hz2 : (str [byt (ckF L)]).size ≤ 1 := by rw [str_size]; exact Nat.le_refl _
  have hck : ckF L < 256 := ckK_lt _ _
  have hll : L.length ≤ 10000 := by omega
  have hsum := fun (W : World) (v : Value) (h : BRead W v L) => sum_any h hll
  have hby := byt_val hck
  have hLc : str L ++ str [byt (ckF L)] = str (L ++ [byt (ckF L)]) := str_cat _ _
  rw [← hLc]
  clear hLc hLl hll
  generalize ckF L = s at *
  replace hck := Lib.hid hck
  replace hby := Lib.hid hby
  go_enter Try.func11, Try.ntmps11
  go_wp2_with fail
  go_at_call 21
  refine hsg.mono ?_
  clear hsg
  rintro e w1 ⟨v1, rfl, hown, hE⟩
  rw [← hwB] at hE
  have hb1 : Hid (Below w.heap.size w w1) := hbB.trans (hE.mono (by omega))
  have hrd : Hid (BRead w1 v1 L) := hown.read
  replace hwB := Lib.hid hwB
  clear hown hE hbB hsB
  go_wp2_with fail

  refine Reg.region_mk 6 57 [[], [true], [false, false], [false, false, true], [false, false, true, true], [false, false, true, true, true]] [0, 1, 0, 1, 1, 1]
    [.pure, .minor Unit () (fun _ => .string (str L)) (fun _ _ => True), .pure, .minor Unit () (fun _ => .int .u8 (s : Int)) (fun _ _ => True), .minor Nat 0 (fun g => .slice (some ⟨g, 0, none⟩) 1 1) (fun g W => W.heap[g]? = some (.cells #[.int .u8 (s : Int)] 5 (0, 0))), .minor Unit () (fun _ => .string (str [byt s])) (fun _ _ => True)]
    (fun W => Below w1.heap.size w1 W) (fun _ _ => True) (fun a b => Below a.heap.size a b) (by kernel_rfl) (by kernel_rfl) rfl rfl (fun vs a b h hs => trivial) ?_ ?_ ?_ ?_ ?_ ?_
  · intro a b he hb; exact hb.trans (Below.mono he hb.size)
  · intro a b he hb; exact hb.trans (Below.mono he hb.size)
  · exact ⟨trivial, ⟨fun _ _ _ _ _ => trivial, fun _ _ _ _ _ => trivial⟩, trivial, ⟨fun _ _ _ _ _ => trivial, fun _ _ _ _ _ => trivial⟩, ⟨fun x a b he hx => (he.block _ (lt_of_at hx)).trans hx, fun x a b he hx => (he.block _ (lt_of_at hx)).trans hx⟩, ⟨fun _ _ _ _ _ => trivial, fun _ _ _ _ _ => trivial⟩, trivial⟩
  · exact ⟨rfl, rfl, rfl, Nat.le_refl _, fun _ _ => rfl⟩
  · trivial
  dsimp only [Reg.mk, List.zip, List.zipWith, List.take]
  repeat (refine' Reg.pass_is _ (by rfl) (fun wz => ?_) ?_; rotate_left; (go_simp; first | rfl | rw [if_neg (by omega)]); simp only [Act.put, List.setIfInBounds_toArray, List.set_cons_zero, List.set_cons_succ]; (try simp only [List.nil_append]); (try simp only [List.cons_append]); (try simp only [id]))
  refine Reg.pass_minor (by rfl) (fun wz hI hF => ?_) (fun r1 => ?_)
  · unfold Reg.One
    have hcv := conv_read (hrd.out.keeps (Keeps.of_ext hI))
    go_wp2_with fail
    first | exact ⟨_, rfl, rfl, Reg.Ext.refl _⟩ | exact ⟨_, rfl, ⟨(), rfl, trivial⟩, Reg.Ext.refl _⟩
  simp only [Act.put, List.setIfInBounds_toArray, List.set_cons_zero, List.set_cons_succ]; (try simp only [List.nil_append]); (try simp only [List.cons_append]); (try simp only [id])
  repeat (refine' Reg.pass_is _ (by rfl) (fun wz => ?_) ?_; rotate_left; (go_simp; first | rfl | rw [if_neg (by omega)]); simp only [Act.put, List.setIfInBounds_toArray, List.set_cons_zero, List.set_cons_succ]; (try simp only [List.nil_append]); (try simp only [List.cons_append]); (try simp only [id]))
  refine Reg.pass_minor (by rfl) (fun wz hI hF => ?_) (fun r3 => ?_)
  · unfold Reg.One
    go_wp2_with (go_at_call 22; go_must (refine (hsum _ _ (hrd.out.keeps (Keeps.of_ext hI))).mono ?_); rintro e w' ⟨rfl, rfl⟩)
    first | exact ⟨_, rfl, rfl, Reg.Ext.refl _⟩ | exact ⟨_, rfl, ⟨(), rfl, trivial⟩, Reg.Ext.refl _⟩
  simp only [Act.put, List.setIfInBounds_toArray, List.set_cons_zero, List.set_cons_succ]; (try simp only [List.nil_append]); (try simp only [List.cons_append]); (try simp only [id])
  refine Reg.pass_minor (by rfl) (fun wz hI hF => ?_) (fun r4 => ?_)
  · unfold Reg.One
    go_wp2_with fail
    exact ⟨_, rfl, ⟨wz.heap.size, rfl, heap_alloc_new wz _⟩, (Below.refl wz.heap.size wz).alloc (Nat.le_refl _) _⟩
  simp only [Act.put, List.setIfInBounds_toArray, List.set_cons_zero, List.set_cons_succ]; (try simp only [List.nil_append]); (try simp only [List.cons_append]); (try simp only [id])
  refine Reg.pass_minor (by rfl) (fun wz hI hF => ?_) (fun r5 => ?_)
  · unfold Reg.One
    have hcv := conv_byte hF.2.2.1 hby.out
    go_wp2_with fail
    first | exact ⟨_, rfl, rfl, Reg.Ext.refl _⟩ | exact ⟨_, rfl, ⟨(), rfl, trivial⟩, Reg.Ext.refl _⟩
  simp only [Act.put, List.setIfInBounds_toArray, List.set_cons_zero, List.set_cons_succ]; (try simp only [List.nil_append]); (try simp only [List.cons_append]); (try simp only [id])
  refine Reg.pass_end ?_
  intro w5 HI5 _ HF5
  clear HF5
  have hb5 := hb1.out.trans (HI5.mono hb1.out.size)
  dsimp only [List.drop]
  go_wp2_with fail
  go_ret
  exact ⟨rfl, hb5⟩

set_option maxRecDepth 1000000 in
set_option maxHeartbeats 4000000 in
theorem bytes_7 (x2 x3 x4 x5 x6 : Int) (x7 : Bool) (x8 x9 : Int) (hf : FitsR ⟨7, x2, x3, x4, x5, x6, x7, x8, x9⟩) (w : World) : Calls Try.prog 11 #[.agg (encR ⟨7, x2, x3, x4, x5, x6, x7, x8, x9⟩).toArray] w fun e w' => e = .returned (.string (str (encQ ⟨7, x2, x3, x4, x5, x6, x7, x8, x9⟩))) ∧ Below w.heap.size w w' := by
  rw [show (encR ⟨7, x2, x3, x4, x5, x6, x7, x8, x9⟩).toArray = #[.int .i64 7, .int .i64 x2, .int .i64 x3, .int .i64 x4, .int .i64 x5, .int .i64 x6, .bool x7, .int .i64 x8, .int .i64 x9] from rfl]
  obtain ⟨wB, hwB⟩ : ∃ wB, wB = (w.alloc (.cells #[.int .i64 7, .int .i64 x2, .int .i64 x3, .int .i64 x4, .int .i64 x5, .int .i64 x6, .bool x7, .int .i64 x8, .int .i64 x9] 23)).alloc (.cells #[.int .u8 183, .int .u8 7] 5) := ⟨_, rfl⟩
  have hbB : Below w.heap.size w wB := by rw [hwB]; exact ((Below.refl _ _).alloc (Nat.le_refl _) _).alloc (by simp) _
  have hsB : wB.heap.size = w.heap.size + 2 := by rw [hwB]; simp
  have hRB : wB.heap[w.heap.size + 1]? = some (.cells #[.int .u8 183, .int .u8 7] 5 (0, 0)) := by rw [hwB]; exact heap_alloc2_new w _ _
  have hB : wB.heap[w.heap.size]? = some (.cells #[.int .i64 7, .int .i64 x2, .int .i64 x3, .int .i64 x4, .int .i64 x5, .int .i64 x6, .bool x7, .int .i64 x8, .int .i64 x9] 23 (0, 0)) := by rw [hwB]; exact heap_past (heap_alloc_new w _)
  have hcs : #[.int .u8 183, .int .u8 7] = (bv [byt 183, byt 7]).toArray := by simp [bv, byt_val]
  have hbuf : BBuf wB (w.heap.size + 2) (.slice (some ⟨w.heap.size + 1, 0, none⟩) 2 2) [byt 183, byt 7] := new_buf hRB hcs
  have hsg := Sign_any x8 hf.node [byt 183, byt 7] _ (w.heap.size + 2) wB hbuf (by simp) (by omega)
  rw [hwB] at hsg
  have hLq : encQ ⟨7, x2, x3, x4, x5, x6, x7, x8, x9⟩ = ([byt 183, byt 7] ++ enc (zg x8)) ++ [byt (ckF ([byt 183, byt 7] ++ enc (zg x8)))] := by
    have : bodyQ ⟨7, x2, x3, x4, x5, x6, x7, x8, x9⟩ = [byt 183, byt 7] ++ enc (zg x8) := by simp [bodyQ, fieldsQ]
    unfold encQ
    rw [this]
  have hLl : ([byt 183, byt 7] ++ enc (zg x8)).length ≤ 43 := by
    have := (enc_length (zg x8)).2
    simp only [List.length_append, List.length_cons, List.length_nil]
    omega
  obtain ⟨L, hL⟩ : ∃ L, L = [byt 183, byt 7] ++ enc (zg x8) := ⟨_, rfl⟩
  rw [← hL] at hLq hLl hsg
  rw [hLq]
  clear hLq hf hbuf hcs hRB hB
  replace hL := Lib.hid hL
  have hz1 : (str L).size ≤ 43 := by rw [str_size]; exact hLl
  have hz2 : (str [byt (ckF L)]).size ≤ 1 := by rw [str_size]; exact Nat.le_refl _
  have hck : ckF L < 256 := ckK_lt _ _
  have hll : L.length ≤ 10000 := by omega
  have hsum := fun (W : World) (v : Value) (h : BRead W v L) => sum_any h hll
  have hby := byt_val hck
  have hLc : str L ++ str [byt (ckF L)] = str (L ++ [byt (ckF L)]) := str_cat _ _
  rw [← hLc]
  clear hLc hLl hll
  generalize ckF L = s at *
  replace hck := Lib.hid hck
  replace hby := Lib.hid hby
  go_enter Try.func11, Try.ntmps11
  go_wp2_with fail
  go_at_call 21
  refine hsg.mono ?_
  clear hsg
  rintro e w1 ⟨v1, rfl, hown, hE⟩
  rw [← hwB] at hE
  have hb1 : Hid (Below w.heap.size w w1) := hbB.trans (hE.mono (by omega))
  have hrd : Hid (BRead w1 v1 L) := hown.read
  replace hwB := Lib.hid hwB
  clear hown hE hbB hsB
  go_wp2_with fail

  refine Reg.region_mk 6 57 [[], [true], [false, false], [false, false, true], [false, false, true, true], [false, false, true, true, true]] [0, 1, 0, 1, 1, 1]
    [.pure, .minor Unit () (fun _ => .string (str L)) (fun _ _ => True), .pure, .minor Unit () (fun _ => .int .u8 (s : Int)) (fun _ _ => True), .minor Nat 0 (fun g => .slice (some ⟨g, 0, none⟩) 1 1) (fun g W => W.heap[g]? = some (.cells #[.int .u8 (s : Int)] 5 (0, 0))), .minor Unit () (fun _ => .string (str [byt s])) (fun _ _ => True)]
    (fun W => Below w1.heap.size w1 W) (fun _ _ => True) (fun a b => Below a.heap.size a b) (by kernel_rfl) (by kernel_rfl) rfl rfl (fun vs a b h hs => trivial) ?_ ?_ ?_ ?_ ?_ ?_
  · intro a b he hb; exact hb.trans (Below.mono he hb.size)
  · intro a b he hb; exact hb.trans (Below.mono he hb.size)
  · exact ⟨trivial, ⟨fun _ _ _ _ _ => trivial, fun _ _ _ _ _ => trivial⟩, trivial, ⟨fun _ _ _ _ _ => trivial, fun _ _ _ _ _ => trivial⟩, ⟨fun x a b he hx => (he.block _ (lt_of_at hx)).trans hx, fun x a b he hx => (he.block _ (lt_of_at hx)).trans hx⟩, ⟨fun _ _ _ _ _ => trivial, fun _ _ _ _ _ => trivial⟩, trivial⟩
  · exact ⟨rfl, rfl, rfl, Nat.le_refl _, fun _ _ => rfl⟩
  · trivial
  dsimp only [Reg.mk, List.zip, List.zipWith, List.take]
  repeat (refine' Reg.pass_is _ (by rfl) (fun wz => ?_) ?_; rotate_left; (go_simp; first | rfl | rw [if_neg (by omega)]); simp only [Act.put, List.setIfInBounds_toArray, List.set_cons_zero, List.set_cons_succ]; (try simp only [List.nil_append]); (try simp only [List.cons_append]); (try simp only [id]))
  refine Reg.pass_minor (by rfl) (fun wz hI hF => ?_) (fun r1 => ?_)
  · unfold Reg.One
    have hcv := conv_read (hrd.out.keeps (Keeps.of_ext hI))
    go_wp2_with fail
    first | exact ⟨_, rfl, rfl, Reg.Ext.refl _⟩ | exact ⟨_, rfl, ⟨(), rfl, trivial⟩, Reg.Ext.refl _⟩
  simp only [Act.put, List.setIfInBounds_toArray, List.set_cons_zero, List.set_cons_succ]; (try simp only [List.nil_append]); (try simp only [List.cons_append]); (try simp only [id])
  repeat (refine' Reg.pass_is _ (by rfl) (fun wz => ?_) ?_; rotate_left; (go_simp; first | rfl | rw [if_neg (by omega)]); simp only [Act.put, List.setIfInBounds_toArray, List.set_cons_zero, List.set_cons_succ]; (try simp only [List.nil_append]); (try simp only [List.cons_append]); (try simp only [id]))
  refine Reg.pass_minor (by rfl) (fun wz hI hF => ?_) (fun r3 => ?_)
  · unfold Reg.One
    go_wp2_with (go_at_call 22; go_must (refine (hsum _ _ (hrd.out.keeps (Keeps.of_ext hI))).mono ?_); rintro e w' ⟨rfl, rfl⟩)
    first | exact ⟨_, rfl, rfl, Reg.Ext.refl _⟩ | exact ⟨_, rfl, ⟨(), rfl, trivial⟩, Reg.Ext.refl _⟩
  simp only [Act.put, List.setIfInBounds_toArray, List.set_cons_zero, List.set_cons_succ]; (try simp only [List.nil_append]); (try simp only [List.cons_append]); (try simp only [id])
  refine Reg.pass_minor (by rfl) (fun wz hI hF => ?_) (fun r4 => ?_)
  · unfold Reg.One
    go_wp2_with fail
    exact ⟨_, rfl, ⟨wz.heap.size, rfl, heap_alloc_new wz _⟩, (Below.refl wz.heap.size wz).alloc (Nat.le_refl _) _⟩
  simp only [Act.put, List.setIfInBounds_toArray, List.set_cons_zero, List.set_cons_succ]; (try simp only [List.nil_append]); (try simp only [List.cons_append]); (try simp only [id])
  refine Reg.pass_minor (by rfl) (fun wz hI hF => ?_) (fun r5 => ?_)
  · unfold Reg.One
    have hcv := conv_byte hF.2.2.1 hby.out
    go_wp2_with fail
    first | exact ⟨_, rfl, rfl, Reg.Ext.refl _⟩ | exact ⟨_, rfl, ⟨(), rfl, trivial⟩, Reg.Ext.refl _⟩
  simp only [Act.put, List.setIfInBounds_toArray, List.set_cons_zero, List.set_cons_succ]; (try simp only [List.nil_append]); (try simp only [List.cons_append]); (try simp only [id])
  refine Reg.pass_end ?_
  intro w5 HI5 _ HF5
  clear HF5
  have hb5 := hb1.out.trans (HI5.mono hb1.out.size)
  dsimp only [List.drop]
  go_wp2_with fail
  go_ret
  exact ⟨rfl, hb5⟩

set_option maxRecDepth 1000000 in
set_option maxHeartbeats 4000000 in
theorem bytes_8 (x2 x3 x4 x5 x6 : Int) (x7 : Bool) (x8 x9 : Int) (hf : FitsR ⟨8, x2, x3, x4, x5, x6, x7, x8, x9⟩) (w : World) : Calls Try.prog 11 #[.agg (encR ⟨8, x2, x3, x4, x5, x6, x7, x8, x9⟩).toArray] w fun e w' => e = .returned (.string (str (encQ ⟨8, x2, x3, x4, x5, x6, x7, x8, x9⟩))) ∧ Below w.heap.size w w' := by
  rw [show (encR ⟨8, x2, x3, x4, x5, x6, x7, x8, x9⟩).toArray = #[.int .i64 8, .int .i64 x2, .int .i64 x3, .int .i64 x4, .int .i64 x5, .int .i64 x6, .bool x7, .int .i64 x8, .int .i64 x9] from rfl]
  obtain ⟨wB, hwB⟩ : ∃ wB, wB = (w.alloc (.cells #[.int .i64 8, .int .i64 x2, .int .i64 x3, .int .i64 x4, .int .i64 x5, .int .i64 x6, .bool x7, .int .i64 x8, .int .i64 x9] 23)).alloc (.cells #[.int .u8 183, .int .u8 8] 5) := ⟨_, rfl⟩
  have hbB : Below w.heap.size w wB := by rw [hwB]; exact ((Below.refl _ _).alloc (Nat.le_refl _) _).alloc (by simp) _
  have hsB : wB.heap.size = w.heap.size + 2 := by rw [hwB]; simp
  have hRB : wB.heap[w.heap.size + 1]? = some (.cells #[.int .u8 183, .int .u8 8] 5 (0, 0)) := by rw [hwB]; exact heap_alloc2_new w _ _
  have hB : wB.heap[w.heap.size]? = some (.cells #[.int .i64 8, .int .i64 x2, .int .i64 x3, .int .i64 x4, .int .i64 x5, .int .i64 x6, .bool x7, .int .i64 x8, .int .i64 x9] 23 (0, 0)) := by rw [hwB]; exact heap_past (heap_alloc_new w _)
  have hcs : #[.int .u8 183, .int .u8 8] = (bv [byt 183, byt 8]).toArray := by simp [bv, byt_val]
  have hbuf : BBuf wB (w.heap.size + 2) (.slice (some ⟨w.heap.size + 1, 0, none⟩) 2 2) [byt 183, byt 8] := new_buf hRB hcs
  have hsg := Sign_any x8 hf.node [byt 183, byt 8] _ (w.heap.size + 2) wB hbuf (by simp) (by omega)
  rw [hwB] at hsg
  have hLq : encQ ⟨8, x2, x3, x4, x5, x6, x7, x8, x9⟩ = ([byt 183, byt 8] ++ enc (zg x8)) ++ [byt (ckF ([byt 183, byt 8] ++ enc (zg x8)))] := by
    have : bodyQ ⟨8, x2, x3, x4, x5, x6, x7, x8, x9⟩ = [byt 183, byt 8] ++ enc (zg x8) := by simp [bodyQ, fieldsQ]
    unfold encQ
    rw [this]
  have hLl : ([byt 183, byt 8] ++ enc (zg x8)).length ≤ 43 := by
    have := (enc_length (zg x8)).2
    simp only [List.length_append, List.length_cons, List.length_nil]
    omega
  obtain ⟨L, hL⟩ : ∃ L, L = [byt 183, byt 8] ++ enc (zg x8) := ⟨_, rfl⟩
  rw [← hL] at hLq hLl hsg
  rw [hLq]
  clear hLq hf hbuf hcs hRB hB
  replace hL := Lib.hid hL
  have hz1 : (str L).size ≤ 43 := by rw [str_size]; exact hLl
  have hz2 : (str [byt (ckF L)]).size ≤ 1 := by rw [str_size]; exact Nat.le_refl _
  have hck : ckF L < 256 := ckK_lt _ _
  have hll : L.length ≤ 10000 := by omega
  have hsum := fun (W : World) (v : Value) (h : BRead W v L) => sum_any h hll
  have hby := byt_val hck
  have hLc : str L ++ str [byt (ckF L)] = str (L ++ [byt (ckF L)]) := str_cat _ _
  rw [← hLc]
  clear hLc hLl hll
  generalize ckF L = s at *
  replace hck := Lib.hid hck
  replace hby := Lib.hid hby
  go_enter Try.func11, Try.ntmps11
  go_wp2_with fail
  go_at_call 21
  refine hsg.mono ?_
  clear hsg
  rintro e w1 ⟨v1, rfl, hown, hE⟩
  rw [← hwB] at hE
  have hb1 : Hid (Below w.heap.size w w1) := hbB.trans (hE.mono (by omega))
  have hrd : Hid (BRead w1 v1 L) := hown.read
  replace hwB := Lib.hid hwB
  clear hown hE hbB hsB
  go_wp2_with fail

  refine Reg.region_mk 6 57 [[], [true], [false, false], [false, false, true], [false, false, true, true], [false, false, true, true, true]] [0, 1, 0, 1, 1, 1]
    [.pure, .minor Unit () (fun _ => .string (str L)) (fun _ _ => True), .pure, .minor Unit () (fun _ => .int .u8 (s : Int)) (fun _ _ => True), .minor Nat 0 (fun g => .slice (some ⟨g, 0, none⟩) 1 1) (fun g W => W.heap[g]? = some (.cells #[.int .u8 (s : Int)] 5 (0, 0))), .minor Unit () (fun _ => .string (str [byt s])) (fun _ _ => True)]
    (fun W => Below w1.heap.size w1 W) (fun _ _ => True) (fun a b => Below a.heap.size a b) (by kernel_rfl) (by kernel_rfl) rfl rfl (fun vs a b h hs => trivial) ?_ ?_ ?_ ?_ ?_ ?_
  · intro a b he hb; exact hb.trans (Below.mono he hb.size)
  · intro a b he hb; exact hb.trans (Below.mono he hb.size)
  · exact ⟨trivial, ⟨fun _ _ _ _ _ => trivial, fun _ _ _ _ _ => trivial⟩, trivial, ⟨fun _ _ _ _ _ => trivial, fun _ _ _ _ _ => trivial⟩, ⟨fun x a b he hx => (he.block _ (lt_of_at hx)).trans hx, fun x a b he hx => (he.block _ (lt_of_at hx)).trans hx⟩, ⟨fun _ _ _ _ _ => trivial, fun _ _ _ _ _ => trivial⟩, trivial⟩
  · exact ⟨rfl, rfl, rfl, Nat.le_refl _, fun _ _ => rfl⟩
  · trivial
  dsimp only [Reg.mk, List.zip, List.zipWith, List.take]
  repeat (refine' Reg.pass_is _ (by rfl) (fun wz => ?_) ?_; rotate_left; (go_simp; first | rfl | rw [if_neg (by omega)]); simp only [Act.put, List.setIfInBounds_toArray, List.set_cons_zero, List.set_cons_succ]; (try simp only [List.nil_append]); (try simp only [List.cons_append]); (try simp only [id]))
  refine Reg.pass_minor (by rfl) (fun wz hI hF => ?_) (fun r1 => ?_)
  · unfold Reg.One
    have hcv := conv_read (hrd.out.keeps (Keeps.of_ext hI))
    go_wp2_with fail
    first | exact ⟨_, rfl, rfl, Reg.Ext.refl _⟩ | exact ⟨_, rfl, ⟨(), rfl, trivial⟩, Reg.Ext.refl _⟩
  simp only [Act.put, List.setIfInBounds_toArray, List.set_cons_zero, List.set_cons_succ]; (try simp only [List.nil_append]); (try simp only [List.cons_append]); (try simp only [id])
  repeat (refine' Reg.pass_is _ (by rfl) (fun wz => ?_) ?_; rotate_left; (go_simp; first | rfl | rw [if_neg (by omega)]); simp only [Act.put, List.setIfInBounds_toArray, List.set_cons_zero, List.set_cons_succ]; (try simp only [List.nil_append]); (try simp only [List.cons_append]); (try simp only [id]))
  refine Reg.pass_minor (by rfl) (fun wz hI hF => ?_) (fun r3 => ?_)
  · unfold Reg.One
    go_wp2_with (go_at_call 22; go_must (refine (hsum _ _ (hrd.out.keeps (Keeps.of_ext hI))).mono ?_); rintro e w' ⟨rfl, rfl⟩)
    first | exact ⟨_, rfl, rfl, Reg.Ext.refl _⟩ | exact ⟨_, rfl, ⟨(), rfl, trivial⟩, Reg.Ext.refl _⟩
  simp only [Act.put, List.setIfInBounds_toArray, List.set_cons_zero, List.set_cons_succ]; (try simp only [List.nil_append]); (try simp only [List.cons_append]); (try simp only [id])
  refine Reg.pass_minor (by rfl) (fun wz hI hF => ?_) (fun r4 => ?_)
  · unfold Reg.One
    go_wp2_with fail
    exact ⟨_, rfl, ⟨wz.heap.size, rfl, heap_alloc_new wz _⟩, (Below.refl wz.heap.size wz).alloc (Nat.le_refl _) _⟩
  simp only [Act.put, List.setIfInBounds_toArray, List.set_cons_zero, List.set_cons_succ]; (try simp only [List.nil_append]); (try simp only [List.cons_append]); (try simp only [id])
  refine Reg.pass_minor (by rfl) (fun wz hI hF => ?_) (fun r5 => ?_)
  · unfold Reg.One
    have hcv := conv_byte hF.2.2.1 hby.out
    go_wp2_with fail
    first | exact ⟨_, rfl, rfl, Reg.Ext.refl _⟩ | exact ⟨_, rfl, ⟨(), rfl, trivial⟩, Reg.Ext.refl _⟩
  simp only [Act.put, List.setIfInBounds_toArray, List.set_cons_zero, List.set_cons_succ]; (try simp only [List.nil_append]); (try simp only [List.cons_append]); (try simp only [id])
  refine Reg.pass_end ?_
  intro w5 HI5 _ HF5
  clear HF5
  have hb5 := hb1.out.trans (HI5.mono hb1.out.size)
  dsimp only [List.drop]
  go_wp2_with fail
  go_ret
  exact ⟨rfl, hb5⟩

set_option maxRecDepth 1000000 in
set_option maxHeartbeats 4000000 in
theorem bytes_9 (x2 x3 x4 x5 x6 : Int) (x7 : Bool) (x8 x9 : Int) (hf : FitsR ⟨9, x2, x3, x4, x5, x6, x7, x8, x9⟩) (w : World) : Calls Try.prog 11 #[.agg (encR ⟨9, x2, x3, x4, x5, x6, x7, x8, x9⟩).toArray] w fun e w' => e = .returned (.string (str (encQ ⟨9, x2, x3, x4, x5, x6, x7, x8, x9⟩))) ∧ Below w.heap.size w w' := by
  rw [show (encR ⟨9, x2, x3, x4, x5, x6, x7, x8, x9⟩).toArray = #[.int .i64 9, .int .i64 x2, .int .i64 x3, .int .i64 x4, .int .i64 x5, .int .i64 x6, .bool x7, .int .i64 x8, .int .i64 x9] from rfl]
  obtain ⟨wB, hwB⟩ : ∃ wB, wB = (w.alloc (.cells #[.int .i64 9, .int .i64 x2, .int .i64 x3, .int .i64 x4, .int .i64 x5, .int .i64 x6, .bool x7, .int .i64 x8, .int .i64 x9] 23)).alloc (.cells #[.int .u8 183, .int .u8 9] 5) := ⟨_, rfl⟩
  have hbB : Below w.heap.size w wB := by rw [hwB]; exact ((Below.refl _ _).alloc (Nat.le_refl _) _).alloc (by simp) _
  have hsB : wB.heap.size = w.heap.size + 2 := by rw [hwB]; simp
  have hRB : wB.heap[w.heap.size + 1]? = some (.cells #[.int .u8 183, .int .u8 9] 5 (0, 0)) := by rw [hwB]; exact heap_alloc2_new w _ _
  have hB : wB.heap[w.heap.size]? = some (.cells #[.int .i64 9, .int .i64 x2, .int .i64 x3, .int .i64 x4, .int .i64 x5, .int .i64 x6, .bool x7, .int .i64 x8, .int .i64 x9] 23 (0, 0)) := by rw [hwB]; exact heap_past (heap_alloc_new w _)
  have hcs : #[.int .u8 183, .int .u8 9] = (bv [byt 183, byt 9]).toArray := by simp [bv, byt_val]
  have hbuf : BBuf wB (w.heap.size + 2) (.slice (some ⟨w.heap.size + 1, 0, none⟩) 2 2) [byt 183, byt 9] := new_buf hRB hcs
  have hsg := Sign_any x9 hf.till [byt 183, byt 9] _ (w.heap.size + 2) wB hbuf (by simp) (by omega)
  rw [hwB] at hsg
  have hLq : encQ ⟨9, x2, x3, x4, x5, x6, x7, x8, x9⟩ = ([byt 183, byt 9] ++ enc (zg x9)) ++ [byt (ckF ([byt 183, byt 9] ++ enc (zg x9)))] := by
    have : bodyQ ⟨9, x2, x3, x4, x5, x6, x7, x8, x9⟩ = [byt 183, byt 9] ++ enc (zg x9) := by simp [bodyQ, fieldsQ]
    unfold encQ
    rw [this]
  have hLl : ([byt 183, byt 9] ++ enc (zg x9)).length ≤ 43 := by
    have := (enc_length (zg x9)).2
    simp only [List.length_append, List.length_cons, List.length_nil]
    omega
  obtain ⟨L, hL⟩ : ∃ L, L = [byt 183, byt 9] ++ enc (zg x9) := ⟨_, rfl⟩
  rw [← hL] at hLq hLl hsg
  rw [hLq]
  clear hLq hf hbuf hcs hRB hB
  replace hL := Lib.hid hL
  have hz1 : (str L).size ≤ 43 := by rw [str_size]; exact hLl
  have hz2 : (str [byt (ckF L)]).size ≤ 1 := by rw [str_size]; exact Nat.le_refl _
  have hck : ckF L < 256 := ckK_lt _ _
  have hll : L.length ≤ 10000 := by omega
  have hsum := fun (W : World) (v : Value) (h : BRead W v L) => sum_any h hll
  have hby := byt_val hck
  have hLc : str L ++ str [byt (ckF L)] = str (L ++ [byt (ckF L)]) := str_cat _ _
  rw [← hLc]
  clear hLc hLl hll
  generalize ckF L = s at *
  replace hck := Lib.hid hck
  replace hby := Lib.hid hby
  go_enter Try.func11, Try.ntmps11
  go_wp2_with fail
  go_at_call 21
  refine hsg.mono ?_
  clear hsg
  rintro e w1 ⟨v1, rfl, hown, hE⟩
  rw [← hwB] at hE
  have hb1 : Hid (Below w.heap.size w w1) := hbB.trans (hE.mono (by omega))
  have hrd : Hid (BRead w1 v1 L) := hown.read
  replace hwB := Lib.hid hwB
  clear hown hE hbB hsB
  go_wp2_with fail

  refine Reg.region_mk 6 57 [[], [true], [false, false], [false, false, true], [false, false, true, true], [false, false, true, true, true]] [0, 1, 0, 1, 1, 1]
    [.pure, .minor Unit () (fun _ => .string (str L)) (fun _ _ => True), .pure, .minor Unit () (fun _ => .int .u8 (s : Int)) (fun _ _ => True), .minor Nat 0 (fun g => .slice (some ⟨g, 0, none⟩) 1 1) (fun g W => W.heap[g]? = some (.cells #[.int .u8 (s : Int)] 5 (0, 0))), .minor Unit () (fun _ => .string (str [byt s])) (fun _ _ => True)]
    (fun W => Below w1.heap.size w1 W) (fun _ _ => True) (fun a b => Below a.heap.size a b) (by kernel_rfl) (by kernel_rfl) rfl rfl (fun vs a b h hs => trivial) ?_ ?_ ?_ ?_ ?_ ?_
  · intro a b he hb; exact hb.trans (Below.mono he hb.size)
  · intro a b he hb; exact hb.trans (Below.mono he hb.size)
  · exact ⟨trivial, ⟨fun _ _ _ _ _ => trivial, fun _ _ _ _ _ => trivial⟩, trivial, ⟨fun _ _ _ _ _ => trivial, fun _ _ _ _ _ => trivial⟩, ⟨fun x a b he hx => (he.block _ (lt_of_at hx)).trans hx, fun x a b he hx => (he.block _ (lt_of_at hx)).trans hx⟩, ⟨fun _ _ _ _ _ => trivial, fun _ _ _ _ _ => trivial⟩, trivial⟩
  · exact ⟨rfl, rfl, rfl, Nat.le_refl _, fun _ _ => rfl⟩
  · trivial
  dsimp only [Reg.mk, List.zip, List.zipWith, List.take]
  repeat (refine' Reg.pass_is _ (by rfl) (fun wz => ?_) ?_; rotate_left; (go_simp; first | rfl | rw [if_neg (by omega)]); simp only [Act.put, List.setIfInBounds_toArray, List.set_cons_zero, List.set_cons_succ]; (try simp only [List.nil_append]); (try simp only [List.cons_append]); (try simp only [id]))
  refine Reg.pass_minor (by rfl) (fun wz hI hF => ?_) (fun r1 => ?_)
  · unfold Reg.One
    have hcv := conv_read (hrd.out.keeps (Keeps.of_ext hI))
    go_wp2_with fail
    first | exact ⟨_, rfl, rfl, Reg.Ext.refl _⟩ | exact ⟨_, rfl, ⟨(), rfl, trivial⟩, Reg.Ext.refl _⟩
  simp only [Act.put, List.setIfInBounds_toArray, List.set_cons_zero, List.set_cons_succ]; (try simp only [List.nil_append]); (try simp only [List.cons_append]); (try simp only [id])
  repeat (refine' Reg.pass_is _ (by rfl) (fun wz => ?_) ?_; rotate_left; (go_simp; first | rfl | rw [if_neg (by omega)]); simp only [Act.put, List.setIfInBounds_toArray, List.set_cons_zero, List.set_cons_succ]; (try simp only [List.nil_append]); (try simp only [List.cons_append]); (try simp only [id]))
  refine Reg.pass_minor (by rfl) (fun wz hI hF => ?_) (fun r3 => ?_)
  · unfold Reg.One
    go_wp2_with (go_at_call 22; go_must (refine (hsum _ _ (hrd.out.keeps (Keeps.of_ext hI))).mono ?_); rintro e w' ⟨rfl, rfl⟩)
    first | exact ⟨_, rfl, rfl, Reg.Ext.refl _⟩ | exact ⟨_, rfl, ⟨(), rfl, trivial⟩, Reg.Ext.refl _⟩
  simp only [Act.put, List.setIfInBounds_toArray, List.set_cons_zero, List.set_cons_succ]; (try simp only [List.nil_append]); (try simp only [List.cons_append]); (try simp only [id])
  refine Reg.pass_minor (by rfl) (fun wz hI hF => ?_) (fun r4 => ?_)
  · unfold Reg.One
    go_wp2_with fail
    exact ⟨_, rfl, ⟨wz.heap.size, rfl, heap_alloc_new wz _⟩, (Below.refl wz.heap.size wz).alloc (Nat.le_refl _) _⟩
  simp only [Act.put, List.setIfInBounds_toArray, List.set_cons_zero, List.set_cons_succ]; (try simp only [List.nil_append]); (try simp only [List.cons_append]); (try simp only [id])
  refine Reg.pass_minor (by rfl) (fun wz hI hF => ?_) (fun r5 => ?_)
  · unfold Reg.One
    have hcv := conv_byte hF.2.2.1 hby.out
    go_wp2_with fail
    first | exact ⟨_, rfl, rfl, Reg.Ext.refl _⟩ | exact ⟨_, rfl, ⟨(), rfl, trivial⟩, Reg.Ext.refl _⟩
  simp only [Act.put, List.setIfInBounds_toArray, List.set_cons_zero, List.set_cons_succ]; (try simp only [List.nil_append]); (try simp only [List.cons_append]); (try simp only [id])
  refine Reg.pass_end ?_
  intro w5 HI5 _ HF5
  clear HF5
  have hb5 := hb1.out.trans (HI5.mono hb1.out.size)
  dsimp only [List.drop]
  go_wp2_with fail
  go_ret
  exact ⟨rfl, hb5⟩

set_option maxRecDepth 1000000 in
set_option maxHeartbeats 4000000 in
theorem bytes_10 (x2 x3 x4 x5 x6 : Int) (x7 : Bool) (x8 x9 : Int) (w : World) : Calls Try.prog 11 #[.agg (encR ⟨10, x2, x3, x4, x5, x6, x7, x8, x9⟩).toArray] w fun e w' => e = .returned (.string (str (encQ ⟨10, x2, x3, x4, x5, x6, x7, x8, x9⟩))) ∧ Below w.heap.size w w' := by
  rw [show (encR ⟨10, x2, x3, x4, x5, x6, x7, x8, x9⟩).toArray = #[.int .i64 10, .int .i64 x2, .int .i64 x3, .int .i64 x4, .int .i64 x5, .int .i64 x6, .bool x7, .int .i64 x8, .int .i64 x9] from rfl]
  obtain ⟨wB, hwB⟩ : ∃ wB, wB = (w.alloc (.cells #[.int .i64 10, .int .i64 x2, .int .i64 x3, .int .i64 x4, .int .i64 x5, .int .i64 x6, .bool x7, .int .i64 x8, .int .i64 x9] 23)).alloc (.cells #[.int .u8 183, .int .u8 10] 5) := ⟨_, rfl⟩
  have hbB : Below w.heap.size w wB := by rw [hwB]; exact ((Below.refl _ _).alloc (Nat.le_refl _) _).alloc (by simp) _
  have hsB : wB.heap.size = w.heap.size + 2 := by rw [hwB]; simp
  have hRB : wB.heap[w.heap.size + 1]? = some (.cells #[.int .u8 183, .int .u8 10] 5 (0, 0)) := by rw [hwB]; exact heap_alloc2_new w _ _
  have hB : wB.heap[w.heap.size]? = some (.cells #[.int .i64 10, .int .i64 x2, .int .i64 x3, .int .i64 x4, .int .i64 x5, .int .i64 x6, .bool x7, .int .i64 x8, .int .i64 x9] 23 (0, 0)) := by rw [hwB]; exact heap_past (heap_alloc_new w _)
  have hcs : #[.int .u8 183, .int .u8 10] = (bv [byt 183, byt 10]).toArray := by simp [bv, byt_val]
  have hLq : encQ ⟨10, x2, x3, x4, x5, x6, x7, x8, x9⟩ = [byt 183, byt 10] ++ [byt (ckF [byt 183, byt 10])] := rfl
  have hb1 : Hid (Below w.heap.size w wB) := hbB
  have hrd : Hid (BRead wB (.slice (some ⟨w.heap.size + 1, 0, none⟩) 2 2) [byt 183, byt 10]) := new_read hRB hcs
  have hLl : [byt 183, byt 10].length ≤ 43 := by simp
  obtain ⟨L, hL⟩ : ∃ L, L = [byt 183, byt 10] := ⟨_, rfl⟩
  rw [← hL] at hLq hLl hrd
  rw [hLq]
  clear hLq hcs hRB hB hsB hbB
  replace hL := Lib.hid hL
  have hz1 : (str L).size ≤ 43 := by rw [str_size]; exact hLl
  have hz2 : (str [byt (ckF L)]).size ≤ 1 := by rw [str_size]; exact Nat.le_refl _
  have hck : ckF L < 256 := ckK_lt _ _
  have hll : L.length ≤ 10000 := by omega
  have hsum := fun (W : World) (v : Value) (h : BRead W v L) => sum_any h hll
  have hby := byt_val hck
  have hLc : str L ++ str [byt (ckF L)] = str (L ++ [byt (ckF L)]) := str_cat _ _
  rw [← hLc]
  clear hLc hLl hll
  generalize ckF L = s at *
  replace hck := Lib.hid hck
  replace hby := Lib.hid hby
  go_enter Try.func11, Try.ntmps11
  go_wp2_with fail
  rw [← hwB]
  replace hwB := Lib.hid hwB
  obtain ⟨w1, rfl⟩ : ∃ w1, w1 = wB := ⟨_, rfl⟩

  refine Reg.region_mk 6 57 [[], [true], [false, false], [false, false, true], [false, false, true, true], [false, false, true, true, true]] [0, 1, 0, 1, 1, 1]
    [.pure, .minor Unit () (fun _ => .string (str L)) (fun _ _ => True), .pure, .minor Unit () (fun _ => .int .u8 (s : Int)) (fun _ _ => True), .minor Nat 0 (fun g => .slice (some ⟨g, 0, none⟩) 1 1) (fun g W => W.heap[g]? = some (.cells #[.int .u8 (s : Int)] 5 (0, 0))), .minor Unit () (fun _ => .string (str [byt s])) (fun _ _ => True)]
    (fun W => Below w1.heap.size w1 W) (fun _ _ => True) (fun a b => Below a.heap.size a b) (by kernel_rfl) (by kernel_rfl) rfl rfl (fun vs a b h hs => trivial) ?_ ?_ ?_ ?_ ?_ ?_
  · intro a b he hb; exact hb.trans (Below.mono he hb.size)
  · intro a b he hb; exact hb.trans (Below.mono he hb.size)
  · exact ⟨trivial, ⟨fun _ _ _ _ _ => trivial, fun _ _ _ _ _ => trivial⟩, trivial, ⟨fun _ _ _ _ _ => trivial, fun _ _ _ _ _ => trivial⟩, ⟨fun x a b he hx => (he.block _ (lt_of_at hx)).trans hx, fun x a b he hx => (he.block _ (lt_of_at hx)).trans hx⟩, ⟨fun _ _ _ _ _ => trivial, fun _ _ _ _ _ => trivial⟩, trivial⟩
  · exact ⟨rfl, rfl, rfl, Nat.le_refl _, fun _ _ => rfl⟩
  · trivial
  dsimp only [Reg.mk, List.zip, List.zipWith, List.take]
  repeat (refine' Reg.pass_is _ (by rfl) (fun wz => ?_) ?_; rotate_left; (go_simp; first | rfl | rw [if_neg (by omega)]); simp only [Act.put, List.setIfInBounds_toArray, List.set_cons_zero, List.set_cons_succ]; (try simp only [List.nil_append]); (try simp only [List.cons_append]); (try simp only [id]))
  refine Reg.pass_minor (by rfl) (fun wz hI hF => ?_) (fun r1 => ?_)
  · unfold Reg.One
    have hcv := conv_read (hrd.out.keeps (Keeps.of_ext hI))
    go_wp2_with fail
    first | exact ⟨_, rfl, rfl, Reg.Ext.refl _⟩ | exact ⟨_, rfl, ⟨(), rfl, trivial⟩, Reg.Ext.refl _⟩
  simp only [Act.put, List.setIfInBounds_toArray, List.set_cons_zero, List.set_cons_succ]; (try simp only [List.nil_append]); (try simp only [List.cons_append]); (try simp only [id])
  repeat (refine' Reg.pass_is _ (by rfl) (fun wz => ?_) ?_; rotate_left; (go_simp; first | rfl | rw [if_neg (by omega)]); simp only [Act.put, List.setIfInBounds_toArray, List.set_cons_zero, List.set_cons_succ]; (try simp only [List.nil_append]); (try simp only [List.cons_append]); (try simp only [id]))
  refine Reg.pass_minor (by rfl) (fun wz hI hF => ?_) (fun r3 => ?_)
  · unfold Reg.One
    go_wp2_with (go_at_call 22; go_must (refine (hsum _ _ (hrd.out.keeps (Keeps.of_ext hI))).mono ?_); rintro e w' ⟨rfl, rfl⟩)
    first | exact ⟨_, rfl, rfl, Reg.Ext.refl _⟩ | exact ⟨_, rfl, ⟨(), rfl, trivial⟩, Reg.Ext.refl _⟩
  simp only [Act.put, List.setIfInBounds_toArray, List.set_cons_zero, List.set_cons_succ]; (try simp only [List.nil_append]); (try simp only [List.cons_append]); (try simp only [id])
  refine Reg.pass_minor (by rfl) (fun wz hI hF => ?_) (fun r4 => ?_)
  · unfold Reg.One
    go_wp2_with fail
    exact ⟨_, rfl, ⟨wz.heap.size, rfl, heap_alloc_new wz _⟩, (Below.refl wz.heap.size wz).alloc (Nat.le_refl _) _⟩
  simp only [Act.put, List.setIfInBounds_toArray, List.set_cons_zero, List.set_cons_succ]; (try simp only [List.nil_append]); (try simp only [List.cons_append]); (try simp only [id])
  refine Reg.pass_minor (by rfl) (fun wz hI hF => ?_) (fun r5 => ?_)
  · unfold Reg.One
    have hcv := conv_byte hF.2.2.1 hby.out
    go_wp2_with fail
    first | exact ⟨_, rfl, rfl, Reg.Ext.refl _⟩ | exact ⟨_, rfl, ⟨(), rfl, trivial⟩, Reg.Ext.refl _⟩
  simp only [Act.put, List.setIfInBounds_toArray, List.set_cons_zero, List.set_cons_succ]; (try simp only [List.nil_append]); (try simp only [List.cons_append]); (try simp only [id])
  refine Reg.pass_end ?_
  intro w5 HI5 _ HF5
  clear HF5
  have hb5 := hb1.out.trans (HI5.mono hb1.out.size)
  dsimp only [List.drop]
  go_wp2_with fail
  go_ret
  exact ⟨rfl, hb5⟩

set_option maxRecDepth 1000000 in
set_option maxHeartbeats 4000000 in
theorem bytes_11 (x2 x3 x4 x5 x6 : Int) (x7 : Bool) (x8 x9 : Int) (w : World) : Calls Try.prog 11 #[.agg (encR ⟨11, x2, x3, x4, x5, x6, x7, x8, x9⟩).toArray] w fun e w' => e = .returned (.string (str (encQ ⟨11, x2, x3, x4, x5, x6, x7, x8, x9⟩))) ∧ Below w.heap.size w w' := by
  rw [show (encR ⟨11, x2, x3, x4, x5, x6, x7, x8, x9⟩).toArray = #[.int .i64 11, .int .i64 x2, .int .i64 x3, .int .i64 x4, .int .i64 x5, .int .i64 x6, .bool x7, .int .i64 x8, .int .i64 x9] from rfl]
  obtain ⟨wB, hwB⟩ : ∃ wB, wB = (w.alloc (.cells #[.int .i64 11, .int .i64 x2, .int .i64 x3, .int .i64 x4, .int .i64 x5, .int .i64 x6, .bool x7, .int .i64 x8, .int .i64 x9] 23)).alloc (.cells #[.int .u8 183, .int .u8 11] 5) := ⟨_, rfl⟩
  have hbB : Below w.heap.size w wB := by rw [hwB]; exact ((Below.refl _ _).alloc (Nat.le_refl _) _).alloc (by simp) _
  have hsB : wB.heap.size = w.heap.size + 2 := by rw [hwB]; simp
  have hRB : wB.heap[w.heap.size + 1]? = some (.cells #[.int .u8 183, .int .u8 11] 5 (0, 0)) := by rw [hwB]; exact heap_alloc2_new w _ _
  have hB : wB.heap[w.heap.size]? = some (.cells #[.int .i64 11, .int .i64 x2, .int .i64 x3, .int .i64 x4, .int .i64 x5, .int .i64 x6, .bool x7, .int .i64 x8, .int .i64 x9] 23 (0, 0)) := by rw [hwB]; exact heap_past (heap_alloc_new w _)
  have hcs : #[.int .u8 183, .int .u8 11] = (bv [byt 183, byt 11]).toArray := by simp [bv, byt_val]
  have hLq : encQ ⟨11, x2, x3, x4, x5, x6, x7, x8, x9⟩ = [byt 183, byt 11] ++ [byt (ckF [byt 183, byt 11])] := rfl
  have hb1 : Hid (Below w.heap.size w wB) := hbB
  have hrd : Hid (BRead wB (.slice (some ⟨w.heap.size + 1, 0, none⟩) 2 2) [byt 183, byt 11]) := new_read hRB hcs
  have hLl : [byt 183, byt 11].length ≤ 43 := by simp
  obtain ⟨L, hL⟩ : ∃ L, L = [byt 183, byt 11] := ⟨_, rfl⟩
  rw [← hL] at hLq hLl hrd
  rw [hLq]
  clear hLq hcs hRB hB hsB hbB
  replace hL := Lib.hid hL
  have hz1 : (str L).size ≤ 43 := by rw [str_size]; exact hLl
  have hz2 : (str [byt (ckF L)]).size ≤ 1 := by rw [str_size]; exact Nat.le_refl _
  have hck : ckF L < 256 := ckK_lt _ _
  have hll : L.length ≤ 10000 := by omega
  have hsum := fun (W : World) (v : Value) (h : BRead W v L) => sum_any h hll
  have hby := byt_val hck
  have hLc : str L ++ str [byt (ckF L)] = str (L ++ [byt (ckF L)]) := str_cat _ _
  rw [← hLc]
  clear hLc hLl hll
  generalize ckF L = s at *
  replace hck := Lib.hid hck
  replace hby := Lib.hid hby
  go_enter Try.func11, Try.ntmps11
  go_wp2_with fail
  rw [← hwB]
  replace hwB := Lib.hid hwB
  obtain ⟨w1, rfl⟩ : ∃ w1, w1 = wB := ⟨_, rfl⟩

  refine Reg.region_mk 6 57 [[], [true], [false, false], [false, false, true], [false, false, true, true], [false, false, true, true, true]] [0, 1, 0, 1, 1, 1]
    [.pure, .minor Unit () (fun _ => .string (str L)) (fun _ _ => True), .pure, .minor Unit () (fun _ => .int .u8 (s : Int)) (fun _ _ => True), .minor Nat 0 (fun g => .slice (some ⟨g, 0, none⟩) 1 1) (fun g W => W.heap[g]? = some (.cells #[.int .u8 (s : Int)] 5 (0, 0))), .minor Unit () (fun _ => .string (str [byt s])) (fun _ _ => True)]
    (fun W => Below w1.heap.size w1 W) (fun _ _ => True) (fun a b => Below a.heap.size a b) (by kernel_rfl) (by kernel_rfl) rfl rfl (fun vs a b h hs => trivial) ?_ ?_ ?_ ?_ ?_ ?_
  · intro a b he hb; exact hb.trans (Below.mono he hb.size)
  · intro a b he hb; exact hb.trans (Below.mono he hb.size)
  · exact ⟨trivial, ⟨fun _ _ _ _ _ => trivial, fun _ _ _ _ _ => trivial⟩, trivial, ⟨fun _ _ _ _ _ => trivial, fun _ _ _ _ _ => trivial⟩, ⟨fun x a b he hx => (he.block _ (lt_of_at hx)).trans hx, fun x a b he hx => (he.block _ (lt_of_at hx)).trans hx⟩, ⟨fun _ _ _ _ _ => trivial, fun _ _ _ _ _ => trivial⟩, trivial⟩
  · exact ⟨rfl, rfl, rfl, Nat.le_refl _, fun _ _ => rfl⟩
  · trivial
  dsimp only [Reg.mk, List.zip, List.zipWith, List.take]
  repeat (refine' Reg.pass_is _ (by rfl) (fun wz => ?_) ?_; rotate_left; (go_simp; first | rfl | rw [if_neg (by omega)]); simp only [Act.put, List.setIfInBounds_toArray, List.set_cons_zero, List.set_cons_succ]; (try simp only [List.nil_append]); (try simp only [List.cons_append]); (try simp only [id]))
  refine Reg.pass_minor (by rfl) (fun wz hI hF => ?_) (fun r1 => ?_)
  · unfold Reg.One
    have hcv := conv_read (hrd.out.keeps (Keeps.of_ext hI))
    go_wp2_with fail
    first | exact ⟨_, rfl, rfl, Reg.Ext.refl _⟩ | exact ⟨_, rfl, ⟨(), rfl, trivial⟩, Reg.Ext.refl _⟩
  simp only [Act.put, List.setIfInBounds_toArray, List.set_cons_zero, List.set_cons_succ]; (try simp only [List.nil_append]); (try simp only [List.cons_append]); (try simp only [id])
  repeat (refine' Reg.pass_is _ (by rfl) (fun wz => ?_) ?_; rotate_left; (go_simp; first | rfl | rw [if_neg (by omega)]); simp only [Act.put, List.setIfInBounds_toArray, List.set_cons_zero, List.set_cons_succ]; (try simp only [List.nil_append]); (try simp only [List.cons_append]); (try simp only [id]))
  refine Reg.pass_minor (by rfl) (fun wz hI hF => ?_) (fun r3 => ?_)
  · unfold Reg.One
    go_wp2_with (go_at_call 22; go_must (refine (hsum _ _ (hrd.out.keeps (Keeps.of_ext hI))).mono ?_); rintro e w' ⟨rfl, rfl⟩)
    first | exact ⟨_, rfl, rfl, Reg.Ext.refl _⟩ | exact ⟨_, rfl, ⟨(), rfl, trivial⟩, Reg.Ext.refl _⟩
  simp only [Act.put, List.setIfInBounds_toArray, List.set_cons_zero, List.set_cons_succ]; (try simp only [List.nil_append]); (try simp only [List.cons_append]); (try simp only [id])
  refine Reg.pass_minor (by rfl) (fun wz hI hF => ?_) (fun r4 => ?_)
  · unfold Reg.One
    go_wp2_with fail
    exact ⟨_, rfl, ⟨wz.heap.size, rfl, heap_alloc_new wz _⟩, (Below.refl wz.heap.size wz).alloc (Nat.le_refl _) _⟩
  simp only [Act.put, List.setIfInBounds_toArray, List.set_cons_zero, List.set_cons_succ]; (try simp only [List.nil_append]); (try simp only [List.cons_append]); (try simp only [id])
  refine Reg.pass_minor (by rfl) (fun wz hI hF => ?_) (fun r5 => ?_)
  · unfold Reg.One
    have hcv := conv_byte hF.2.2.1 hby.out
    go_wp2_with fail
    first | exact ⟨_, rfl, rfl, Reg.Ext.refl _⟩ | exact ⟨_, rfl, ⟨(), rfl, trivial⟩, Reg.Ext.refl _⟩
  simp only [Act.put, List.setIfInBounds_toArray, List.set_cons_zero, List.set_cons_succ]; (try simp only [List.nil_append]); (try simp only [List.cons_append]); (try simp only [id])
  refine Reg.pass_end ?_
  intro w5 HI5 _ HF5
  clear HF5
  have hb5 := hb1.out.trans (HI5.mono hb1.out.size)
  dsimp only [List.drop]
  go_wp2_with fail
  go_ret
  exact ⟨rfl, hb5⟩

set_option maxRecDepth 1000000 in
set_option maxHeartbeats 4000000 in
theorem bytes_12 (x2 x3 x4 x5 x6 : Int) (x7 : Bool) (x8 x9 : Int) (w : World) : Calls Try.prog 11 #[.agg (encR ⟨12, x2, x3, x4, x5, x6, x7, x8, x9⟩).toArray] w fun e w' => e = .returned (.string (str (encQ ⟨12, x2, x3, x4, x5, x6, x7, x8, x9⟩))) ∧ Below w.heap.size w w' := by
  rw [show (encR ⟨12, x2, x3, x4, x5, x6, x7, x8, x9⟩).toArray = #[.int .i64 12, .int .i64 x2, .int .i64 x3, .int .i64 x4, .int .i64 x5, .int .i64 x6, .bool x7, .int .i64 x8, .int .i64 x9] from rfl]
  obtain ⟨wB, hwB⟩ : ∃ wB, wB = (w.alloc (.cells #[.int .i64 12, .int .i64 x2, .int .i64 x3, .int .i64 x4, .int .i64 x5, .int .i64 x6, .bool x7, .int .i64 x8, .int .i64 x9] 23)).alloc (.cells #[.int .u8 183, .int .u8 12] 5) := ⟨_, rfl⟩
  have hbB : Below w.heap.size w wB := by rw [hwB]; exact ((Below.refl _ _).alloc (Nat.le_refl _) _).alloc (by simp) _
  have hsB : wB.heap.size = w.heap.size + 2 := by rw [hwB]; simp
  have hRB : wB.heap[w.heap.size + 1]? = some (.cells #[.int .u8 183, .int .u8 12] 5 (0, 0)) := by rw [hwB]; exact heap_alloc2_new w _ _
  have hB : wB.heap[w.heap.size]? = some (.cells #[.int .i64 12, .int .i64 x2, .int .i64 x3, .int .i64 x4, .int .i64 x5, .int .i64 x6, .bool x7, .int .i64 x8, .int .i64 x9] 23 (0, 0)) := by rw [hwB]; exact heap_past (heap_alloc_new w _)
  have hcs : #[.int .u8 183, .int .u8 12] = (bv [byt 183, byt 12]).toArray := by simp [bv, byt_val]
  have hLq : encQ ⟨12, x2, x3, x4, x5, x6, x7, x8, x9⟩ = [byt 183, byt 12] ++ [byt (ckF [byt 183, byt 12])] := rfl
  have hb1 : Hid (Below w.heap.size w wB) := hbB
  have hrd : Hid (BRead wB (.slice (some ⟨w.heap.size + 1, 0, none⟩) 2 2) [byt 183, byt 12]) := new_read hRB hcs
  have hLl : [byt 183, byt 12].length ≤ 43 := by simp
  obtain ⟨L, hL⟩ : ∃ L, L = [byt 183, byt 12] := ⟨_, rfl⟩
  rw [← hL] at hLq hLl hrd
  rw [hLq]
  clear hLq hcs hRB hB hsB hbB
  replace hL := Lib.hid hL
  have hz1 : (str L).size ≤ 43 := by rw [str_size]; exact hLl
  have hz2 : (str [byt (ckF L)]).size ≤ 1 := by rw [str_size]; exact Nat.le_refl _
  have hck : ckF L < 256 := ckK_lt _ _
  have hll : L.length ≤ 10000 := by omega
  have hsum := fun (W : World) (v : Value) (h : BRead W v L) => sum_any h hll
  have hby := byt_val hck
  have hLc : str L ++ str [byt (ckF L)] = str (L ++ [byt (ckF L)]) := str_cat _ _
  rw [← hLc]
  clear hLc hLl hll
  generalize ckF L = s at *
  replace hck := Lib.hid hck
  replace hby := Lib.hid hby
  go_enter Try.func11, Try.ntmps11
  go_wp2_with fail
  rw [← hwB]
  replace hwB := Lib.hid hwB
  obtain ⟨w1, rfl⟩ : ∃ w1, w1 = wB := ⟨_, rfl⟩

  refine Reg.region_mk 6 57 [[], [true], [false, false], [false, false, true], [false, false, true, true], [false, false, true, true, true]] [0, 1, 0, 1, 1, 1]
    [.pure, .minor Unit () (fun _ => .string (str L)) (fun _ _ => True), .pure, .minor Unit () (fun _ => .int .u8 (s : Int)) (fun _ _ => True), .minor Nat 0 (fun g => .slice (some ⟨g, 0, none⟩) 1 1) (fun g W => W.heap[g]? = some (.cells #[.int .u8 (s : Int)] 5 (0, 0))), .minor Unit () (fun _ => .string (str [byt s])) (fun _ _ => True)]
    (fun W => Below w1.heap.size w1 W) (fun _ _ => True) (fun a b => Below a.heap.size a b) (by kernel_rfl) (by kernel_rfl) rfl rfl (fun vs a b h hs => trivial) ?_ ?_ ?_ ?_ ?_ ?_
  · intro a b he hb; exact hb.trans (Below.mono he hb.size)
  · intro a b he hb; exact hb.trans (Below.mono he hb.size)
  · exact ⟨trivial, ⟨fun _ _ _ _ _ => trivial, fun _ _ _ _ _ => trivial⟩, trivial, ⟨fun _ _ _ _ _ => trivial, fun _ _ _ _ _ => trivial⟩, ⟨fun x a b he hx => (he.block _ (lt_of_at hx)).trans hx, fun x a b he hx => (he.block _ (lt_of_at hx)).trans hx⟩, ⟨fun _ _ _ _ _ => trivial, fun _ _ _ _ _ => trivial⟩, trivial⟩
  · exact ⟨rfl, rfl, rfl, Nat.le_refl _, fun _ _ => rfl⟩
  · trivial
  dsimp only [Reg.mk, List.zip, List.zipWith, List.take]
  repeat (refine' Reg.pass_is _ (by rfl) (fun wz => ?_) ?_; rotate_left; (go_simp; first | rfl | rw [if_neg (by omega)]); simp only [Act.put, List.setIfInBounds_toArray, List.set_cons_zero, List.set_cons_succ]; (try simp only [List.nil_append]); (try simp only [List.cons_append]); (try simp only [id]))
  refine Reg.pass_minor (by rfl) (fun wz hI hF => ?_) (fun r1 => ?_)
  · unfold Reg.One
    have hcv := conv_read (hrd.out.keeps (Keeps.of_ext hI))
    go_wp2_with fail
    first | exact ⟨_, rfl, rfl, Reg.Ext.refl _⟩ | exact ⟨_, rfl, ⟨(), rfl, trivial⟩, Reg.Ext.refl _⟩
  simp only [Act.put, List.setIfInBounds_toArray, List.set_cons_zero, List.set_cons_succ]; (try simp only [List.nil_append]); (try simp only [List.cons_append]); (try simp only [id])
  repeat (refine' Reg.pass_is _ (by rfl) (fun wz => ?_) ?_; rotate_left; (go_simp; first | rfl | rw [if_neg (by omega)]); simp only [Act.put, List.setIfInBounds_toArray, List.set_cons_zero, List.set_cons_succ]; (try simp only [List.nil_append]); (try simp only [List.cons_append]); (try simp only [id]))
  refine Reg.pass_minor (by rfl) (fun wz hI hF => ?_) (fun r3 => ?_)
  · unfold Reg.One
    go_wp2_with (go_at_call 22; go_must (refine (hsum _ _ (hrd.out.keeps (Keeps.of_ext hI))).mono ?_); rintro e w' ⟨rfl, rfl⟩)
    first | exact ⟨_, rfl, rfl, Reg.Ext.refl _⟩ | exact ⟨_, rfl, ⟨(), rfl, trivial⟩, Reg.Ext.refl _⟩
  simp only [Act.put, List.setIfInBounds_toArray, List.set_cons_zero, List.set_cons_succ]; (try simp only [List.nil_append]); (try simp only [List.cons_append]); (try simp only [id])
  refine Reg.pass_minor (by rfl) (fun wz hI hF => ?_) (fun r4 => ?_)
  · unfold Reg.One
    go_wp2_with fail
    exact ⟨_, rfl, ⟨wz.heap.size, rfl, heap_alloc_new wz _⟩, (Below.refl wz.heap.size wz).alloc (Nat.le_refl _) _⟩
  simp only [Act.put, List.setIfInBounds_toArray, List.set_cons_zero, List.set_cons_succ]; (try simp only [List.nil_append]); (try simp only [List.cons_append]); (try simp only [id])
  refine Reg.pass_minor (by rfl) (fun wz hI hF => ?_) (fun r5 => ?_)
  · unfold Reg.One
    have hcv := conv_byte hF.2.2.1 hby.out
    go_wp2_with fail
    first | exact ⟨_, rfl, rfl, Reg.Ext.refl _⟩ | exact ⟨_, rfl, ⟨(), rfl, trivial⟩, Reg.Ext.refl _⟩
  simp only [Act.put, List.setIfInBounds_toArray, List.set_cons_zero, List.set_cons_succ]; (try simp only [List.nil_append]); (try simp only [List.cons_append]); (try simp only [id])
  refine Reg.pass_end ?_
  intro w5 HI5 _ HF5
  clear HF5
  have hb5 := hb1.out.trans (HI5.mono hb1.out.size)
  dsimp only [List.drop]
  go_wp2_with fail
  go_ret
  exact ⟨rfl, hb5⟩

set_option maxRecDepth 1000000 in
set_option maxHeartbeats 4000000 in
theorem bytes_13 (x2 x3 x4 x5 x6 : Int) (x7 : Bool) (x8 x9 : Int) (w : World) : Calls Try.prog 11 #[.agg (encR ⟨13, x2, x3, x4, x5, x6, x7, x8, x9⟩).toArray] w fun e w' => e = .returned (.string (str (encQ ⟨13, x2, x3, x4, x5, x6, x7, x8, x9⟩))) ∧ Below w.heap.size w w' := by
  rw [show (encR ⟨13, x2, x3, x4, x5, x6, x7, x8, x9⟩).toArray = #[.int .i64 13, .int .i64 x2, .int .i64 x3, .int .i64 x4, .int .i64 x5, .int .i64 x6, .bool x7, .int .i64 x8, .int .i64 x9] from rfl]
  obtain ⟨wB, hwB⟩ : ∃ wB, wB = (w.alloc (.cells #[.int .i64 13, .int .i64 x2, .int .i64 x3, .int .i64 x4, .int .i64 x5, .int .i64 x6, .bool x7, .int .i64 x8, .int .i64 x9] 23)).alloc (.cells #[.int .u8 183, .int .u8 13] 5) := ⟨_, rfl⟩
  have hbB : Below w.heap.size w wB := by rw [hwB]; exact ((Below.refl _ _).alloc (Nat.le_refl _) _).alloc (by simp) _
  have hsB : wB.heap.size = w.heap.size + 2 := by rw [hwB]; simp
  have hRB : wB.heap[w.heap.size + 1]? = some (.cells #[.int .u8 183, .int .u8 13] 5 (0, 0)) := by rw [hwB]; exact heap_alloc2_new w _ _
  have hB : wB.heap[w.heap.size]? = some (.cells #[.int .i64 13, .int .i64 x2, .int .i64 x3, .int .i64 x4, .int .i64 x5, .int .i64 x6, .bool x7, .int .i64 x8, .int .i64 x9] 23 (0, 0)) := by rw [hwB]; exact heap_past (heap_alloc_new w _)
  have hcs : #[.int .u8 183, .int .u8 13] = (bv [byt 183, byt 13]).toArray := by simp [bv, byt_val]
  have hLq : encQ ⟨13, x2, x3, x4, x5, x6, x7, x8, x9⟩ = [byt 183, byt 13] ++ [byt (ckF [byt 183, byt 13])] := rfl
  have hb1 : Hid (Below w.heap.size w wB) := hbB
  have hrd : Hid (BRead wB (.slice (some ⟨w.heap.size + 1, 0, none⟩) 2 2) [byt 183, byt 13]) := new_read hRB hcs
  have hLl : [byt 183, byt 13].length ≤ 43 := by simp
  obtain ⟨L, hL⟩ : ∃ L, L = [byt 183, byt 13] := ⟨_, rfl⟩
  rw [← hL] at hLq hLl hrd
  rw [hLq]
  clear hLq hcs hRB hB hsB hbB
  replace hL := Lib.hid hL
  have hz1 : (str L).size ≤ 43 := by rw [str_size]; exact hLl
  have hz2 : (str [byt (ckF L)]).size ≤ 1 := by rw [str_size]; exact Nat.le_refl _
  have hck : ckF L < 256 := ckK_lt _ _
  have hll : L.length ≤ 10000 := by omega
  have hsum := fun (W : World) (v : Value) (h : BRead W v L) => sum_any h hll
  have hby := byt_val hck
  have hLc : str L ++ str [byt (ckF L)] = str (L ++ [byt (ckF L)]) := str_cat _ _
  rw [← hLc]
  clear hLc hLl hll
  generalize ckF L = s at *
  replace hck := Lib.hid hck
  replace hby := Lib.hid hby
  go_enter Try.func11, Try.ntmps11
  go_wp2_with fail
  rw [← hwB]
  replace hwB := Lib.hid hwB
  obtain ⟨w1, rfl⟩ : ∃ w1, w1 = wB := ⟨_, rfl⟩

  refine Reg.region_mk 6 57 [[], [true], [false, false], [false, false, true], [false, false, true, true], [false, false, true, true, true]] [0, 1, 0, 1, 1, 1]
    [.pure, .minor Unit () (fun _ => .string (str L)) (fun _ _ => True), .pure, .minor Unit () (fun _ => .int .u8 (s : Int)) (fun _ _ => True), .minor Nat 0 (fun g => .slice (some ⟨g, 0, none⟩) 1 1) (fun g W => W.heap[g]? = some (.cells #[.int .u8 (s : Int)] 5 (0, 0))), .minor Unit () (fun _ => .string (str [byt s])) (fun _ _ => True)]
    (fun W => Below w1.heap.size w1 W) (fun _ _ => True) (fun a b => Below a.heap.size a b) (by kernel_rfl) (by kernel_rfl) rfl rfl (fun vs a b h hs => trivial) ?_ ?_ ?_ ?_ ?_ ?_
  · intro a b he hb; exact hb.trans (Below.mono he hb.size)
  · intro a b he hb; exact hb.trans (Below.mono he hb.size)
  · exact ⟨trivial, ⟨fun _ _ _ _ _ => trivial, fun _ _ _ _ _ => trivial⟩, trivial, ⟨fun _ _ _ _ _ => trivial, fun _ _ _ _ _ => trivial⟩, ⟨fun x a b he hx => (he.block _ (lt_of_at hx)).trans hx, fun x a b he hx => (he.block _ (lt_of_at hx)).trans hx⟩, ⟨fun _ _ _ _ _ => trivial, fun _ _ _ _ _ => trivial⟩, trivial⟩
  · exact ⟨rfl, rfl, rfl, Nat.le_refl _, fun _ _ => rfl⟩
  · trivial
  dsimp only [Reg.mk, List.zip, List.zipWith, List.take]
  repeat (refine' Reg.pass_is _ (by rfl) (fun wz => ?_) ?_; rotate_left; (go_simp; first | rfl | rw [if_neg (by omega)]); simp only [Act.put, List.setIfInBounds_toArray, List.set_cons_zero, List.set_cons_succ]; (try simp only [List.nil_append]); (try simp only [List.cons_append]); (try simp only [id]))
  refine Reg.pass_minor (by rfl) (fun wz hI hF => ?_) (fun r1 => ?_)
  · unfold Reg.One
    have hcv := conv_read (hrd.out.keeps (Keeps.of_ext hI))
    go_wp2_with fail
    first | exact ⟨_, rfl, rfl, Reg.Ext.refl _⟩ | exact ⟨_, rfl, ⟨(), rfl, trivial⟩, Reg.Ext.refl _⟩
  simp only [Act.put, List.setIfInBounds_toArray, List.set_cons_zero, List.set_cons_succ]; (try simp only [List.nil_append]); (try simp only [List.cons_append]); (try simp only [id])
  repeat (refine' Reg.pass_is _ (by rfl) (fun wz => ?_) ?_; rotate_left; (go_simp; first | rfl | rw [if_neg (by omega)]); simp only [Act.put, List.setIfInBounds_toArray, List.set_cons_zero, List.set_cons_succ]; (try simp only [List.nil_append]); (try simp only [List.cons_append]); (try simp only [id]))
  refine Reg.pass_minor (by rfl) (fun wz hI hF => ?_) (fun r3 => ?_)
  · unfold Reg.One
    go_wp2_with (go_at_call 22; go_must (refine (hsum _ _ (hrd.out.keeps (Keeps.of_ext hI))).mono ?_); rintro e w' ⟨rfl, rfl⟩)
    first | exact ⟨_, rfl, rfl, Reg.Ext.refl _⟩ | exact ⟨_, rfl, ⟨(), rfl, trivial⟩, Reg.Ext.refl _⟩
  simp only [Act.put, List.setIfInBounds_toArray, List.set_cons_zero, List.set_cons_succ]; (try simp only [List.nil_append]); (try simp only [List.cons_append]); (try simp only [id])
  refine Reg.pass_minor (by rfl) (fun wz hI hF => ?_) (fun r4 => ?_)
  · unfold Reg.One
    go_wp2_with fail
    exact ⟨_, rfl, ⟨wz.heap.size, rfl, heap_alloc_new wz _⟩, (Below.refl wz.heap.size wz).alloc (Nat.le_refl _) _⟩
  simp only [Act.put, List.setIfInBounds_toArray, List.set_cons_zero, List.set_cons_succ]; (try simp only [List.nil_append]); (try simp only [List.cons_append]); (try simp only [id])
  refine Reg.pass_minor (by rfl) (fun wz hI hF => ?_) (fun r5 => ?_)
  · unfold Reg.One
    have hcv := conv_byte hF.2.2.1 hby.out
    go_wp2_with fail
    first | exact ⟨_, rfl, rfl, Reg.Ext.refl _⟩ | exact ⟨_, rfl, ⟨(), rfl, trivial⟩, Reg.Ext.refl _⟩
  simp only [Act.put, List.setIfInBounds_toArray, List.set_cons_zero, List.set_cons_succ]; (try simp only [List.nil_append]); (try simp only [List.cons_append]); (try simp only [id])
  refine Reg.pass_end ?_
  intro w5 HI5 _ HF5
  clear HF5
  have hb5 := hb1.out.trans (HI5.mono hb1.out.size)
  dsimp only [List.drop]
  go_wp2_with fail
  go_ret
  exact ⟨rfl, hb5⟩

theorem bytes_any (r : Rq) (hf : FitsR r) (h1 : 1 ≤ r.kind) (h2 : r.kind ≤ 13) (w : World) : Calls Try.prog 11 #[.agg (encR r).toArray] w fun e w' => e = .returned (.string (str (encQ r))) ∧ Below w.heap.size w w' := by
  obtain ⟨x1, x2, x3, x4, x5, x6, x7, x8, x9⟩ := r
  have h1 : 1 ≤ x1 := h1
  have h2 : x1 ≤ 13 := h2
  rcases (show x1 = 1 ∨ x1 = 2 ∨ x1 = 3 ∨ x1 = 4 ∨ x1 = 5 ∨ x1 = 6 ∨ x1 = 7 ∨ x1 = 8 ∨ x1 = 9 ∨ x1 = 10 ∨ x1 = 11 ∨ x1 = 12 ∨ x1 = 13 by omega) with rfl | rfl | rfl | rfl | rfl | rfl | rfl | rfl | rfl | rfl | rfl | rfl | rfl
  · exact bytes_1 x2 x3 x4 x5 x6 x7 x8 x9 hf w
  · exact bytes_2 x2 x3 x4 x5 x6 x7 x8 x9 hf w
  · exact bytes_3 x2 x3 x4 x5 x6 x7 x8 x9 hf w
  · exact bytes_4 x2 x3 x4 x5 x6 x7 x8 x9 hf w
  · exact bytes_5 x2 x3 x4 x5 x6 x7 x8 x9 hf w
  · exact bytes_6 x2 x3 x4 x5 x6 x7 x8 x9 hf w
  · exact bytes_7 x2 x3 x4 x5 x6 x7 x8 x9 hf w
  · exact bytes_8 x2 x3 x4 x5 x6 x7 x8 x9 hf w
  · exact bytes_9 x2 x3 x4 x5 x6 x7 x8 x9 hf w
  · exact bytes_10 x2 x3 x4 x5 x6 x7 x8 x9 w
  · exact bytes_11 x2 x3 x4 x5 x6 x7 x8 x9 w
  · exact bytes_12 x2 x3 x4 x5 x6 x7 x8 x9 w
  · exact bytes_13 x2 x3 x4 x5 x6 x7 x8 x9 w

end Go.Proofs.Ytojipdcckanbfaa
