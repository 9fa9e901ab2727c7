/-
 OpNobody of the Go text returns true for every input, and each argument reads afterwards as it read before. No condition.
-/
import Derived.Test.YtfmpgdafnlehaaaGreatChecked
import Derived.WalkKit
import Derived.WalkSpells
import Derived.WalkLawsBesides
import Derived.Deep.DeepMust
import Derived.Lib.Hide
import Derived.LaidEql
import Derived.Laws.StructEq
import Derived.Shelf.SlicesQ.Load
import Derived.Shelf.SlGeneric
import Derived.Shelf.SlSortCmp.InsertionK
import Derived.Ground.SlsfProg
import Derived.Test.YtfmpgdafnlehaaaGreatProg
import Derived.Laws.ResultCell
import Derived.Lib.MinMax
import Derived.RegionTactic
import Derived.ChangeAlike
import Derived.Deep.QuietTactic
import Derived.BigQuiet
import Derived.OwnWalk
import Derived.Laws.EntriesVeiled
import Derived.BigRegion
import Derived.Test.YtfmpgdafnlehaaaGreatRows
import Derived.ProofKit
import Derived.OpenShut
import Derived.Test.YtfmpgdafnlehaaaGreatOa1
set_option maxRecDepth 1000000
set_option maxHeartbeats 8000000
set_option linter.all false
namespace Go.Proofs.YtfmpgdafnlehaaaGreat
open Go.RowKit Go.Lib
open Go.ChangeShapes Go.WideShapes Go.ChangeAt Go.Deep
structure Rq where
 kind : Int
 id : Int
 user : Int
 width : Int
 limit : Int
 prio : Int
 held : Bool
 node : Int
 till : Int
deriving DecidableEq
def encR (r : Rq) : List Value := [.int .i64 r.kind, .int .i64 r.id, .int .i64 r.user, .int .i64 r.width, .int .i64 r.limit, .int .i64 r.prio, .bool r.held, .int .i64 r.node, .int .i64 r.till]
theorem gM : ∀ w, Sem.run Tryz.prog (Go.sizeOf 23) w = .ok 9 w := Tryz.sizeOf23
theorem dX (r : Rq) : (encR r).length = 9 := rfl
theorem fu {W : World} {p : Nat} {x : Rq} (h : W.heap[p]? = some (.cells (encR x).toArray 23 (0, 0))) : ∀ j u, (encR x)[j]? = some u → W.cell? ⟨p, j, none⟩ = some u := by
 intro j u hj
 simp [World.cell?, h, hj]
section
variable {H : Type} {enc : TypeId × Value → H} {w : World} {base : Nat} {v : Value} {d : DataW H} {ps : List MemPlace}
def nQ : List TypeId := [3, 3, 3, 3, 2, 3, 4, 3, 2]
theorem ja {ts : List TypeId} {cs : List Value} (h : bV enc Tryz.prog w 0 (fun _ => true) true ts cs) (j : Nat) {T : TypeId} {u : Value} (hT : ts[j]? = some T) (hu : Tryz.prog.underlying T = some .bool) (hc : cs[j]? = some u) : ∃ x, u = .bool x := by
 obtain ⟨_, _, t0⟩ := h j T u hT hc
 obtain ⟨x, hx, _⟩ := DataW.trod_bool hu t0
 exact ⟨x, by simpa using hx⟩
theorem aS {ts : List TypeId} {cs : List Value} (h : bV enc Tryz.prog w 0 (fun _ => true) true ts cs) (j : Nat) {T : TypeId} {u : Value} (hT : ts[j]? = some T) (hu : Tryz.prog.underlying T = some (.int .i64)) (hc : cs[j]? = some u) : ∃ x, u = .int .i64 x ∧ -9223372036854775808 ≤ x ∧ x ≤ 9223372036854775807 := by
 obtain ⟨_, _, t0⟩ := h j T u hT hc
 obtain ⟨x, hx, _, hw⟩ := DataW.trod_int hu t0
 exact ⟨x, by simpa using hx, bounds_i64 hw⟩
structure kZ (r : Rq) : Prop where
 kind : -9223372036854775808 ≤ r.kind ∧ r.kind ≤ 9223372036854775807
 id : -9223372036854775808 ≤ r.id ∧ r.id ≤ 9223372036854775807
 user : -9223372036854775808 ≤ r.user ∧ r.user ≤ 9223372036854775807
 width : -9223372036854775808 ≤ r.width ∧ r.width ≤ 9223372036854775807
 limit : -9223372036854775808 ≤ r.limit ∧ r.limit ≤ 9223372036854775807
 prio : -9223372036854775808 ≤ r.prio ∧ r.prio ≤ 9223372036854775807
 node : -9223372036854775808 ≤ r.node ∧ r.node ≤ 9223372036854775807
 till : -9223372036854775808 ≤ r.till ∧ r.till ≤ 9223372036854775807
theorem jN (hval : Value.okWide Tryz.prog w .any base 23 v) (hd : DataW.Trod enc Tryz.prog w 0 (fun _ => true) true 23 v d ps) : ∃ r : Rq, v = .agg (encR r).toArray ∧ kZ r := by
 obtain ⟨s, rfl, hl, hf⟩ := kY (n := 2) (ts := nQ) Tryz.underlying23 (by kernel_rfl) (by kernel_rfl) hval hd
 match s, hl with
 | [a0, a1, a2, a3, a4, a5, a6, a7, a8], _ =>
   obtain ⟨x0, rfl, b0⟩ := aS hf 0 rfl Tryz.underlying3 rfl
   obtain ⟨x1, rfl, b1⟩ := aS hf 1 rfl Tryz.underlying3 rfl
   obtain ⟨x2, rfl, b2⟩ := aS hf 2 rfl Tryz.underlying3 rfl
   obtain ⟨x3, rfl, b3⟩ := aS hf 3 rfl Tryz.underlying3 rfl
   obtain ⟨x4, rfl, b4⟩ := aS hf 4 rfl Tryz.underlying2 rfl
   obtain ⟨x5, rfl, b5⟩ := aS hf 5 rfl Tryz.underlying3 rfl
   obtain ⟨x6, rfl⟩ := ja hf 6 rfl Tryz.underlying4 rfl
   obtain ⟨x7, rfl, b7⟩ := aS hf 7 rfl Tryz.underlying3 rfl
   obtain ⟨x8, rfl, b8⟩ := aS hf 8 rfl Tryz.underlying2 rfl
   exact ⟨⟨x0, x1, x2, x3, x4, x5, x6, x7, x8⟩, rfl, ⟨b0, b1, b2, b3, b4, b5, b7, b8⟩⟩
end
theorem gN (x y : Rq) (w : World) : (Op.equalIn 10000 23 (.agg (encR x).toArray) (.agg (encR y).toArray)).run Tryz.prog w = .ok (decide (x = y)) w := by
 have u2 := Tryz.underlying2
 have a2 := Tryz.isAgg2
 have z2 := Tryz.sizeOf2
 have u3 := Tryz.underlying3
 have a3 := Tryz.isAgg3
 have z3 := Tryz.sizeOf3
 have u4 := Tryz.underlying4
 have a4 := Tryz.isAgg4
 have z4 := Tryz.sizeOf4
 have hS : Tryz.prog.underlying 23 = some (.struct (Tryz.prog.fieldsOf 23)) := by kernel_rfl
 have hp : Tryz.prog.stoodInHeld 23 = false := by kernel_rfl
 rw [show (10000 : Nat) = 9999 + 1 from rfl, run_equalIn_agg w 9999 23 _ _ hS hp]
 simp only [Program.fieldsOf, Tryz.underlying23]
 obtain ⟨x1, x2, x3, x4, x5, x6, x7, x8, x9⟩ := x
 obtain ⟨y1, y2, y3, y4, y5, y6, y7, y8, y9⟩ := y
 simp only [encR]
 go_simp
 by_cases h1 : x1 = y1
 ·by_cases h2 : x2 = y2
  ·by_cases h3 : x3 = y3
   ·by_cases h4 : x4 = y4
    ·by_cases h5 : x5 = y5
     ·by_cases h6 : x6 = y6
      ·by_cases h7 : x7 = y7
       ·by_cases h8 : x8 = y8
        ·by_cases h9 : x9 = y9 <;> simp [h1, h2, h3, h4, h5, h6, h7, h8, h9]
        ·simp [h1, h2, h3, h4, h5, h6, h7, h8]
       ·simp [h1, h2, h3, h4, h5, h6, h7]
      ·simp [h1, h2, h3, h4, h5, h6]
     ·simp [h1, h2, h3, h4, h5]
    ·simp [h1, h2, h3, h4]
   ·simp [h1, h2, h3]
  ·simp [h1, h2]
 ·simp [h1]
theorem ll (x y : Rq) (w : World) : (binOp .eql 23 (.agg (encR x).toArray) (.agg (encR y).toArray)).run Tryz.prog w = .ok (.bool (decide (x = y))) w := by
 rw [run_eql_struct, gN]; rfl
end Go.Proofs.YtfmpgdafnlehaaaGreat


namespace Go.Proofs
open Go.Shelf
def Tryz.insJ_ren : Go.Shelf.Ren := ⟨fun | 20 => 215 | n => n, fun | 24 => 94 | 22 => 115 | 3 => 3 | 25 => 199 | 4 => 4 | 0 => 0 | n => n, fun | n => n⟩
theorem Tryz.insJ : Go.Proofs.SlLaysF0.n20 Tryz.prog Tryz.insJ_ren := {
 mixed := by kernel_rfl
 f20 := ⟨Tryz.f215.name, by decide, Tryz.func215.trans (congrArg some (by kernel_rfl))⟩
 t0 := Tryz.underlying0
 a0 := Tryz.isAgg0
 z0 := Tryz.sizeOf0
 v0 := Tryz.zeroValue0
 t3 := Tryz.underlying3
 a3 := Tryz.isAgg3
 z3 := Tryz.sizeOf3
 v3 := Tryz.zeroValue3
 t4 := Tryz.underlying4
 a4 := Tryz.isAgg4
 z4 := Tryz.sizeOf4
 v4 := Tryz.zeroValue4
 t22 := Tryz.underlying115
 a22 := Tryz.isAgg115
 z22 := Tryz.sizeOf115
 v22 := Tryz.zeroValue115
 t25 := Tryz.underlying199
 a25 := Tryz.isAgg199
 z25 := Tryz.sizeOf199
 v25 := Tryz.zeroValue199 }
end Go.Proofs

namespace Go.Proofs.YtfmpgdafnlehaaaGreat
open Go.RowKit Go.Sort Go.Lib Go.Shelf Put
structure BV (T : TypeId) (pre : List Value) (w : World) (p : Nat) (v : Value) (L : List Jb) : Prop where
 cell : w.heap[p]? = some (.cells (pre ++ [v]).toArray T (0, 0))
 own : w.ownsRow 0 94 10 v L.length (L.flatMap mZ)
abbrev TV := BV 188 [.bool true]
section
end
section
variable {T : TypeId} {pre : List Value} {w w' : World} {p g n cap : Nat} {v : Value} {L : List Jb}
theorem BV.lt (h : BV T pre w p v L) : p < w.heap.size := Put.lt_of_heap h.cell
theorem BV.kept (h : BV T pre w p v L) (hb : Below w.heap.size w w') : BV T pre w' p v L := ⟨by rw [hb.block p h.lt]; exact h.cell, Put.jD h.own hb⟩
end
end Go.Proofs.YtfmpgdafnlehaaaGreat

namespace Go.Proofs.YtfmpgdafnlehaaaGreat
open Go.RowKit Go.Sort Go.Lib Go.Shelf Put
section
variable {w w' : World} {p : Nat} {v : Value} {L : List Jb}
theorem BV.oF (w : World) : TV (w.alloc (.cells #[.bool true, .slice none 0 0] 188)) w.heap.size (.slice none 0 0) [] :=
 ⟨heap_alloc_new w _, by simpa using World.ownsRow_nil _ 0 94 10⟩
theorem jb (w : World) : Calls Tryz.prog 86 #[] w fun e w' => e = .returned (.pointer (some ⟨w.heap.size, 0, none⟩)) ∧ w.alloc (.cells #[.bool true, .slice none 0 0] 188) = w' := by
 go_enter Tryz.func86, Tryz.ntmps86
 go_wp2_with fail
 go_ret
 exact ⟨rfl, rfl⟩
end
end Go.Proofs.YtfmpgdafnlehaaaGreat

namespace Go.Proofs.YtfmpgdafnlehaaaGreat
def ofK (f : Nat → Bool) : Nat → Nat
 | 0 => 0
 | k + 1 => ofK f k + (if f k then 2 ^ k else 0)
theorem jk (f : Nat → Bool) (k : Nat) : ofK f k < 2 ^ k := by
 induction k with
 | zero => simp [ofK]
 | succ k ih =>
   simp only [ofK, Nat.pow_succ]
   split <;> omega
theorem gP (f : Nat → Bool) (k i : Nat) : (ofK f k).testBit i = (decide (i < k) && f i) := by
 induction k with
 | zero => simp [ofK]
 | succ k ih =>
   have hlt := jk f k
   have e : ofK f (k + 1) = 2 ^ k * (if f k then 1 else 0) + ofK f k := by
    simp only [ofK]
    split <;> omega
   rw [e, Nat.testBit_two_pow_mul_add _ hlt, ih]
   by_cases h : i < k
   ·simp [h, show i < k + 1 by omega]
   ·by_cases h2 : i = k
    ·subst h2
     simp
     cases f i <;> rfl
    ·have : (if f k = true then 1 else 0).testBit (i - k) = false := by
      have h3 : 0 < i - k := by omega
      split
      ·exact Nat.testBit_lt_two_pow (Nat.one_lt_two_pow (by omega))
      ·simp
     simp [this, h, show ¬ i < k + 1 by omega]
def dw (f : Nat → Bool) : Nat := ofK f 64
theorem mP (f : Nat → Bool) : dw f < 18446744073709551616 := jk f 64
theorem bW (f : Nat → Bool) (i : Nat) : (dw f).testBit i = (decide (i < 64) && f i) := gP f 64 i
theorem jO {u i : Nat} (hu : u < 18446744073709551616) (hi : 64 ≤ i) : u.testBit i = false :=
 Nat.testBit_lt_two_pow (Nat.lt_of_lt_of_le hu (show 2 ^ 64 ≤ 2 ^ i from Nat.pow_le_pow_right (by decide) hi))
theorem gQ {f : Nat → Bool} {u : Nat} (hu : u < 18446744073709551616) (h : ∀ i, i < 64 → f i = u.testBit i) : dw f = u := by
 apply Nat.eq_of_testBit_eq
 intro i
 rw [bW]
 by_cases hi : i < 64
 ·simp [hi, h i hi]
 ·rw [jO hu (Nat.le_of_not_lt hi)]; simp [hi]
theorem jc {f g : Nat → Bool} (h : ∀ i, i < 64 → f i = g i) : dw f = dw g :=
 gQ (mP g) fun i hi => by rw [bW, h i hi]; simp [hi]
end Go.Proofs.YtfmpgdafnlehaaaGreat

namespace Go.Proofs.YtfmpgdafnlehaaaGreat
open Go.RowKit
theorem lq : ∀ m : Fin 65, IntKind.u64.wrap (IntKind.u64.wrap (2 ^ m.val) - 1) = ((2 ^ m.val - 1 : Nat) : Int) := by decide +kernel
theorem mQ (n : Int) (w : World) (hn : -9223372036854775808 ≤ n ∧ n ≤ 9223372036854775807) :
 Calls Tryz.prog 127 #[.int .i64 n] w fun e w' => e = .returned (.int .u64 (dw fun i => decide ((i : Int) < n))) ∧ w = w' := by
 go_enter Tryz.func127, Tryz.ntmps127
 go_wp2
 go_ret
 refine ⟨congrArg (fun n => Ending.returned (.int .u64 n)) ?_, rfl⟩
 have hm : (max 0 (min n 64)).toNat < 65 := by omega
 refine (lq ⟨(max 0 (min n 64)).toNat, hm⟩).trans ?_
 have hl : 2 ^ (max 0 (min n 64)).toNat - 1 < 18446744073709551616 := by
  have : 2 ^ (max 0 (min n 64)).toNat ≤ 2 ^ 64 := Nat.pow_le_pow_right (by decide) (by omega)
  have h2 : 0 < 2 ^ (max 0 (min n 64)).toNat := Nat.pow_pos (by decide)
  simp only [Nat.reducePow] at this
  omega
 have e := gQ (f := fun i => decide ((i : Int) < n)) hl fun i hi => by
  rw [Nat.testBit_two_pow_sub_one, Bool.eq_iff_iff]
  simp
  omega
 rw [e]
end Go.Proofs.YtfmpgdafnlehaaaGreat

namespace Go.Proofs.YtfmpgdafnlehaaaGreat
open Go.RowKit
def iA (l : List Int) : Nat → Bool := fun i => decide (i < l.length)
def lu (l : List Int) : Nat → Bool := fun i => decide (l.getD i 0 = 2) || decide (l.getD i 0 = 3)
def lC (l : List Int) : Nat → Bool := fun i => decide (l.getD i 0 = 3) || decide (l.getD i 0 = 4)
theorem gm {f : Nat → Bool} : dw f = 0 ↔ ∀ i, i < 64 → f i = false := by
 constructor
 ·intro h i hi
  have := congrArg (fun x => x.testBit i) h
  simp only [Nat.zero_testBit] at this
  rw [bW] at this
  simpa [hi] using this
 ·intro h
  exact gQ (by decide) fun i hi => by rw [h i hi, Nat.zero_testBit]
section
end
end Go.Proofs.YtfmpgdafnlehaaaGreat

namespace Go.Proofs.YtfmpgdafnlehaaaGreat
open Go.RowKit Go.Lib Go.Sort
theorem fw {w : World} {p : Nat} {o : Obj} (h : w.heap[p]? = some o) : p < w.heap.size := by
 rcases Nat.lt_or_ge p w.heap.size with h' | h'
 ·exact h'
 ·rw [Array.getElem?_eq_none h'] at h; cases h
def T3 (w : World) (p : Nat) (a u b : Nat) : Prop := w.heap[p]? = some (.cells #[.int .u64 a, .int .u64 u, .int .u64 b] 181 (0, 0))
def TW (w : World) (p : Nat) (l : List Int) : Prop := T3 w p (dw (iA l)) (dw (lu l)) (dw (lC l))
section
variable {w w' : World} {p a u b : Nat} {l : List Int}
theorem T3.kept (h : T3 w p a u b) (hb : Below w.heap.size w w') : T3 w' p a u b := by
 unfold T3 at *
 rw [hb.block p (fw h)]
 exact h
end
end Go.Proofs.YtfmpgdafnlehaaaGreat

namespace Go.Proofs.YtfmpgdafnlehaaaGreat
open Go.RowKit Go.Lib Go.Sort
section
variable {w w' : World} {p : Nat} {l : List Int}
theorem iB (n i : Nat) : (List.replicate n (1 : Int)).getD i 0 = if i < n then 1 else 0 := by
 by_cases hi : i < n
 ·simp [List.getD_eq_getElem?_getD, hi]
 ·simp [List.getD_eq_getElem?_getD, hi]
theorem lD (n : Nat) : (dw fun i => decide ((i : Int) < (n : Int))) = dw (iA (List.replicate n 1)) := by
 refine jc fun i _ => ?_
 unfold iA
 rw [List.length_replicate, Bool.eq_iff_iff]
 simp
theorem lF (n : Nat) : dw (lu (List.replicate n 1)) = 0 := gm.2 fun i _ => by
 unfold lu
 rw [iB]
 split <;> simp
theorem lG (n : Nat) : dw (lC (List.replicate n 1)) = 0 := gm.2 fun i _ => by
 unfold lC
 rw [iB]
 split <;> simp
def nk (n : Nat) (w : World) (e : Ending) (w' : World) : Prop := e = .returned (.tuple #[.pointer (some ⟨w.heap.size, 0, none⟩), .int .i64 0]) ∧ TW w' w.heap.size (List.replicate n 1) ∧ Below w.heap.size w w'
theorem iC (n : Nat) (w : World) (h1 : 1 ≤ n) (h2 : n ≤ 64) : Calls Tryz.prog 84 #[.int .i64 n] w (nk n w) := by
 have ha := mQ (n : Int) w (by omega)
 rw [lD] at ha
 have hg : Hid (nk n w (.returned (.tuple #[.pointer (some ⟨w.heap.size, 0, none⟩), .int .i64 0])) (w.alloc (.cells #[.int .u64 (dw (iA (List.replicate n 1))), .int .u64 0, .int .u64 0] 181))) := by
  refine ⟨rfl, ?_, (Below.refl _ _).alloc (Nat.le_refl _) _⟩
  unfold TW
  rw [lF, lG]
  exact heap_alloc_new w _
 generalize dw (iA (List.replicate n 1)) = A at *
 have b1 : ¬ ((n : Int) < 1) := by omega
 have b2 : ¬ (64 < (n : Int)) := by omega
 go_enter Tryz.func84, Tryz.ntmps84
 go_wp2_with (go_at_call 127; go_must (refine ha.mono ?_); rintro e w' ⟨rfl, rfl⟩)
 go_ret2
 exact hg.out
end
end Go.Proofs.YtfmpgdafnlehaaaGreat

namespace Go.Proofs.YtfmpgdafnlehaaaGreat
open Go.RowKit Go.Sort Go.Lib
theorem bA {w w' : World} {base : Nat} {e : TypeId} {size : Nat} {v : Value} {n : Nat} {xs : List Value} (h : w.ownsRow base e size v n xs) (hb : Below w.heap.size w w') : w'.ownsRow base e size v n xs :=
 ownsRow_below h hb fun k hk => (h.lt k hk).2
def enc2 (x : Int × Int) : List Value := [.int .i64 x.1, .int .i64 x.2]
def fI (l : List (Int × Int)) : List Value := l.flatMap enc2
theorem lH {l : List (Int × Int)} {i : Nat} {x : Int × Int} (h : l[i]? = some x) : (fI l)[i * 2]? = some (.int .i64 x.1) ∧ (fI l)[i * 2 + 1]? = some (.int .i64 x.2) := by
 induction l generalizing i with
 | nil => simp at h
 | cons a l ih =>
   have e : fI (a :: l) = enc2 a ++ fI l := by simp [fI]
   rw [e]
   rcases i with _ | i
   ·simp at h; subst h; exact ⟨rfl, rfl⟩
   ·have := ih (i := i) (by simpa using h)
    rw [List.getElem?_append_right (by simp [enc2]; omega), List.getElem?_append_right (by simp [enc2]; omega)]
    have e1 : (i + 1) * 2 - (enc2 a).length = i * 2 := by simp [enc2]; omega
    have e2 : (i + 1) * 2 + 1 - (enc2 a).length = i * 2 + 1 := by simp [enc2]; omega
    rw [e1, e2]
    exact this
theorem lI {L : List (Int × Int)} {i : Nat} (h : i < L.length) : L[i]? = some (tA L i, tV L i) := by
 simp [tA, tV, h]
section
end
def PW (w : World) (p g : Nat) (L : List (Int × Int)) (aO : Int) : Prop :=
 ∃ cap, w.heap[p]? = some (.cells #[.slice (some ⟨g, 0, none⟩) L.length cap, .int .i64 aO] 186 (0, 0)) ∧ w.ownsRow 0 183 2 (.slice (some ⟨g, 0, none⟩) L.length cap) L.length (fI L)
theorem bG {w : World} {p : Nat} {o : Obj} (h : w.heap[p]? = some o) : p < w.heap.size := by
 rcases Nat.lt_or_ge p w.heap.size with h' | h'
 ·exact h'
 ·rw [Array.getElem?_eq_none h'] at h; cases h
theorem eG {w : World} {p q : Nat} {a b : Array Value} {s t : TypeId} {x y : Nat × Nat} (h : w.heap[p]? = some (.cells a s x)) (h' : w.heap[q]? = some (.cells b t y)) (hne : s ≠ t) : p ≠ q := by
 intro e
 subst e
 rw [h] at h'
 injection h' with h'
 injection h' with _ h3
 exact hne h3
theorem jP {w : World} {base g n cap sz : Nat} {e : TypeId} {xs : List Value} (h : w.ownsRow base e sz (.slice (some ⟨g, 0, none⟩) n cap) n xs) : ∃ cur, w.heap[g]? = some (.cells cur e (0, 0)) ∧ n ≤ cap ∧ cap ≤ maxLen ∧ cur.size = cap * sz ∧ cur.toList.take (n * sz) = xs := by
 rcases h.2 with ⟨e0, _⟩ | ⟨g', cap', cur, e0, _, hg, hn, hm, hs, ht⟩
 ·cases e0
 ·cases e0
  exact ⟨cur, hg, hn, hm, hs, ht⟩
section
variable {w w' : World} {p g : Nat} {L : List (Int × Int)} {aO : Int}
structure mR (w : World) (p g : Nat) (L : List (Int × Int)) (aO : Int) (cap : Nat) : Prop where
 obj : w.heap[p]? = some (.cells #[.slice (some ⟨g, 0, none⟩) L.length cap, .int .i64 aO] 186 (0, 0))
 own : w.ownsRow 0 183 2 (.slice (some ⟨g, 0, none⟩) L.length cap) L.length (fI L)
 c0 : w.cell? ⟨p, 0, none⟩ = some (.slice (some ⟨g, 0, none⟩) L.length cap)
 c1 : w.cell? ⟨p, 1, none⟩ = some (.int .i64 aO)
 fz : ∀ j, w.frozen? ⟨p, j, none⟩ = false
 pl : p < w.heap.size
 gl : g < w.heap.size
 pg : p ≠ g
 lc : L.length ≤ cap
 cm : cap ≤ maxLen
theorem PW.facts (h : PW w p g L aO) : ∃ cap, mR w p g L aO cap := by
 obtain ⟨cap, h1, h2⟩ := h
 obtain ⟨cur, hg, hn, hm, _, _⟩ := jP h2
 refine ⟨cap, h1, h2, ?_, ?_, fun j => ?_, bG h1, bG hg, eG h1 hg (by decide), hn, hm⟩
 ·simp [World.cell?, h1]
 ·simp [World.cell?, h1]
 ·simp [World.frozen?, h1]
theorem PW.kept (h : PW w p g L aO) (hb : Below w.heap.size w w') : PW w' p g L aO := by
 obtain ⟨cap, h1, h2⟩ := h
 exact ⟨cap, by rw [hb.block p (bG h1)]; exact h1, bA h2 hb⟩
theorem step_cells {cap i : Nat} (h : w.ownsRow 0 183 2 (.slice (some ⟨g, 0, none⟩) L.length cap) L.length (fI L)) (hi : i < L.length) :
 w.cell? ⟨g, i * 2, none⟩ = some (.int .i64 (tA L i)) ∧ w.cell? ⟨g, i * 2 + 1, none⟩ = some (.int .i64 (tV L i)) := by
 obtain ⟨h0, h1⟩ := lH (lI hi)
 have c0 := h.cells (g := g) rfl _ _ h0
 have c1 := h.cells (g := g) rfl _ _ h1
 rw [Go.WideShapes.add_plain] at c0 c1
 simp only [Nat.zero_add] at c0 c1
 exact ⟨c0, c1⟩
theorem dP (h : PW w p g L aO) (hp : 0 < L.length) :
 Calls Tryz.prog 133 #[.pointer (some ⟨p, 0, none⟩)] w fun e w' => e = .returned (.bool false) ∧ w = w' := by
 obtain ⟨cap, F⟩ := h.facts
 have c0 := F.c0
 have hne : ((L.length : Int) == 0) = false := beq_eq_false_iff_ne.2 (by omega)
 clear F h
 go_enter Tryz.func133, Tryz.ntmps133
 go_wp2_with fail
 go_ret
 exact ⟨rfl, rfl⟩
theorem lJ (h : PW w p g L aO) (hp : 0 < L.length) :
 Calls Tryz.prog 155 #[.pointer (some ⟨p, 0, none⟩)] w fun e w' => e = .returned (.int .i64 (tA L 0)) ∧ w = w' := by
 have hn := dP h hp
 obtain ⟨cap, F⟩ := h.facts
 have c0 := F.c0
 have s0 := (step_cells F.own hp).1
 have hp' : (0 : Int) < (L.length : Int) := by omega
 rw [Nat.zero_mul] at s0
 clear F h
 go_enter Tryz.func155, Tryz.ntmps155
 go_wp2_with (go_at_call 133; go_must (refine hn.mono ?_); rintro e w' ⟨rfl, rfl⟩)
 go_ret
 exact ⟨rfl, rfl⟩
end
end Go.Proofs.YtfmpgdafnlehaaaGreat

namespace Go.Proofs.YtfmpgdafnlehaaaGreat
open Go.RowKit Go.Sort Go.Lib
def bY (x y : Int) : Int := if x < y then -1 else if x = y then 0 else 1
theorem fA {x y : Int} (h : x < y) : bY x y = -1 := if_pos h
theorem iD {x y : Int} (h : x = y) : bY x y = 0 := by unfold bY; rw [if_neg (by omega), if_pos h]
theorem iE {x y : Int} (h : y < x) : bY x y = 1 := by unfold bY; rw [if_neg (by omega), if_neg (by omega)]
theorem dG (x : Int) (w : World) : Calls Tryz.prog 239 #[.int .i64 x] w fun e w' => e = .returned (.bool false) ∧ w' = w := by
 go_enter Tryz.func239, Tryz.ntmps239
 go_wp2_with fail
 go_ret
 exact ⟨by simp, rfl⟩
theorem lL (x y : Int) (w : World) : Calls Tryz.prog 222 #[.int .i64 x, .int .i64 y] w fun e w' => e = .returned (.int .i64 (bY x y)) ∧ w' = w := by
 rcases Int.lt_trichotomy x y with h | h | h
 ·rw [fA h]
  go_enter Tryz.func222, Tryz.ntmps222
  go_wp2_with (go_at_call 239; refine (dG _ _).mono ?_; rintro e w' ⟨rfl, rfl⟩)
  go_ret
  exact ⟨rfl, rfl⟩
 ·subst h
  rw [iD rfl]
  have h1 : ¬ (x < x) := by omega
  go_enter Tryz.func222, Tryz.ntmps222
  go_wp2_with (go_at_call 239; refine (dG _ _).mono ?_; rintro e w' ⟨rfl, rfl⟩)
  go_ret
  exact ⟨rfl, rfl⟩
 ·rw [iE h]
  have h1 : ¬ (x < y) := by omega
  go_enter Tryz.func222, Tryz.ntmps222
  go_wp2_with (go_at_call 239; refine (dG _ _).mono ?_; rintro e w' ⟨rfl, rfl⟩)
  go_ret
  exact ⟨rfl, rfl⟩
theorem dY (a f t : Int) (w : World) : Calls Tryz.prog 221 #[.agg #[.int .i64 a, .int .i64 f], .int .i64 t] w fun e w' => e = .returned (.int .i64 (bY a t)) ∧ w' = w.alloc (.cells #[.int .i64 a, .int .i64 f] 183) := by
 go_enter Tryz.func221, Tryz.ntmps221
 go_wp2_with (go_at_call 222; refine (lL _ _ _).mono ?_; rintro e w' ⟨rfl, rfl⟩)
 go_ret
 exact ⟨rfl, rfl⟩
structure nu (L : List (Int × Int)) (t : Int) (i : Nat) : Prop where
 le : i ≤ L.length
 lo : ∀ m, m < i → tA L m < t
 hi : ∀ m, i ≤ m → m < L.length → t ≤ tA L m
section
variable {w : World} {g : Nat} {L : List (Int × Int)} {now : Int} {f : Int → Int} {cap : Nat}
theorem mV (t : Int) (hs : Sm L now f) (hl : L.length ≤ 1000) (ho : w.ownsRow 0 183 2 (.slice (some ⟨g, 0, none⟩) L.length cap) L.length (fI L)) :
 Calls Tryz.prog 220 #[.slice (some ⟨g, 0, none⟩) L.length cap, .int .i64 t, .func (.func 221) #[] #[]] w
  fun e w' => ∃ i : Nat, e = .returned (.tuple #[.int .i64 i, .bool (decide (i < L.length ∧ tA L i = t))]) ∧ nu L t i ∧ Below w.heap.size w w' := by
 have hgw : g < w.heap.size := (ho.lt g rfl).2
 go_enter Tryz.func220, Tryz.ntmps220
 go_wp2_with fail
 go_loopw [9, 10] (fun i j wr => ∃ (lo hi : Nat), lo ≤ hi ∧ hi ≤ L.length ∧ i = .int .i64 lo ∧ j = .int .i64 hi ∧ (∀ m, m < lo → tA L m < t) ∧ (∀ m, hi ≤ m → m < L.length → t ≤ tA L m) ∧ Below w.heap.size w wr) (fun i j _ => (intOf j - intOf i).toNat)
 case atStart => exact ⟨0, L.length, Nat.zero_le _, Nat.le_refl _, rfl, rfl, fun m hm => by omega, fun m h1 h2 => by omega, Below.refl _ _⟩
 case round =>
  obtain ⟨lo, hi, hlh, nR, rfl, rfl, hlo, hhi, hb⟩ := hrel
  have hown := bA ho hb
  have hsz := hb.size
  by_cases hlt : lo < hi
  ·obtain ⟨h, hh⟩ : ∃ h, h = (lo + hi) / 2 := ⟨_, rfl⟩
   have h1 : lo ≤ h := by omega
   have h2 : h < hi := by omega
   obtain ⟨a0, a1⟩ := step_cells hown (show h < L.length by omega)
   obtain ⟨x, hx⟩ : ∃ x, x = tA L h := ⟨_, rfl⟩
   obtain ⟨y, hy⟩ : ∃ y, y = tV L h := ⟨_, rfl⟩
   rw [← hx] at a0
   rw [← hy] at a1
   have hw1 : IntKind.i64.wrap ((lo : Int) + hi) = (lo : Int) + hi := IntWalk.i64_in _ (by omega)
   have hw2 : IntKind.u64.wrap ((lo : Int) + hi) = (lo : Int) + hi := by rw [IntKind.wrap_u64]; omega
   have hw4 : ((lo : Int) + hi) / 2 = (h : Int) := by omega
   have pJ : IntKind.i64.wrap (h : Int) = h := IntWalk.i64_in _ (by omega)
   have pK : IntKind.i64.wrap ((h : Int) + 1) = (h : Int) + 1 := IntWalk.i64_in _ (by omega)
   have hb1 : (0 : Int) ≤ h := by omega
   have hb2 : (h : Int) < (L.length : Int) := by omega
   have hin : (lo : Int) < (hi : Int) := by omega
   have hbd : Below w.heap.size w (wr.alloc (.cells #[.int .i64 x, .int .i64 y] 183)) := hb.alloc hsz _
   replace hh := Lib.hid hh
   replace hx := Lib.hid hx
   replace hy := Lib.hid hy
   replace hlo := Lib.hid hlo
   replace hhi := Lib.hid hhi
   by_cases hc : x < t
   ·have e := fA hc
    go_wp2_with (go_at_call 221; refine (dY _ _ _ _).mono ?_; rintro e w' ⟨rfl, rfl⟩; rw [e])
    go_roundw
    case rel => exact ⟨h + 1, hi, by omega, nR, by go_num, rfl, fun m hm => by
     rcases Nat.lt_or_ge m h with h3 | h3
     ·have := hs.le (i := m) (j := h) (by omega) (by have := h2; have := nR; omega)
      rw [← hx.out] at this; have := hc; omega
     ·have : m = h := by omega
      subst this; rw [← hx.out]; exact hc, hhi.out, hbd⟩
    case measure => simp [intOf]; omega
   ·have e : 0 ≤ bY x t := by unfold bY; rw [if_neg hc]; split <;> omega
    obtain ⟨c, hcc⟩ : ∃ c, bY x t = c := ⟨_, rfl⟩
    rw [hcc] at e
    have e2 : ¬ (c < 0) := by omega
    replace hc := Lib.hid hc
    go_wp2_with (go_at_call 221; refine (dY _ _ _ _).mono ?_; rintro e w' ⟨rfl, rfl⟩; rw [hcc])
    go_roundw
    case rel => exact ⟨lo, h, h1, by omega, rfl, by go_num, hlo.out, fun m hm1 hm2 => by
     have := hs.le (i := h) (j := m) hm1 hm2
     rw [← hx.out] at this
     have := hc.out
     omega, hbd⟩
    case measure => simp [intOf]; omega
  ·obtain rfl : lo = hi := by omega
   have oG : Hid (nu L t lo) := ⟨nR, hlo, hhi⟩
   replace hlo := Lib.hid hlo
   replace hhi := Lib.hid hhi
   by_cases hend : lo < L.length
   ·obtain ⟨a0, a1⟩ := step_cells hown hend
    obtain ⟨x, hx⟩ : ∃ x, x = tA L lo := ⟨_, rfl⟩
    obtain ⟨y, hy⟩ : ∃ y, y = tV L lo := ⟨_, rfl⟩
    have hbd : Below w.heap.size w (wr.alloc (.cells #[.int .i64 x, .int .i64 y] 183)) := hb.alloc hsz _
    rw [← hx] at a0
    rw [← hy] at a1
    have hb2 : (lo : Int) < (L.length : Int) := by omega
    have hd : decide ((lo : Int) < (L.length : Int)) = true := decide_eq_true hb2
    have hr : Hid (decide (lo < L.length ∧ tA L lo = t) = (bY x t == 0)) := by
     show _ = _
     rw [← hx]
     rcases Int.lt_trichotomy x t with h | h | h
     ·rw [fA h, decide_eq_false (by omega)]; rfl
     ·rw [iD h, decide_eq_true ⟨hend, h⟩]; rfl
     ·rw [iE h, decide_eq_false (by omega)]; rfl
    replace hx := Lib.hid hx
    replace hy := Lib.hid hy
    replace hend := Lib.hid hend
    obtain ⟨c, hcc⟩ : ∃ c, bY x t = c := ⟨_, rfl⟩
    rw [hcc] at hr
    go_wp2_with (go_at_call 221; refine (dY _ _ _ _).mono ?_; rintro e w' ⟨rfl, rfl⟩; rw [hcc])
    go_ret2
    exact ⟨lo, by rw [hr.out]; rfl, oG.out, hbd⟩
   ·have hd : decide ((lo : Int) < (L.length : Int)) = false := decide_eq_false (by omega)
    have hr : Hid (decide (lo < L.length ∧ tA L lo = t) = false) := decide_eq_false (by omega)
    replace hend := Lib.hid hend
    go_wp2_with fail
    go_ret2
    exact ⟨lo, by rw [hr.out]; rfl, oG.out, hb⟩
end
section
variable {w : World} {p g : Nat} {L : List (Int × Int)} {aO now : Int} {f : Int → Int}
theorem jd (t : Int) (hs : Sm L now f) (hl : L.length ≤ 1000) (h : PW w p g L aO) :
 Calls Tryz.prog 187 #[.pointer (some ⟨p, 0, none⟩), .int .i64 t] w fun e w' => ∃ i : Nat, e = .returned (.int .i64 i) ∧ bu L t i ∧ Below w.heap.size w w' := by
 obtain ⟨cap, F⟩ := h.facts
 have c0 := F.c0
 have hbs := mV t hs hl F.own
 have hpos := hs.pos
 clear F h
 go_enter Tryz.func187, Tryz.ntmps187
 go_wp2_with fail
 go_at_call 220
 refine hbs.mono ?_
 clear hbs
 rintro e w' ⟨i, rfl, hC, hb⟩
 have nS := hC.le
 by_cases hd : i < L.length ∧ tA L i = t
 ·rw [decide_eq_true hd]
  have hi0 : (0 : Int) ≤ i := by omega
  have hI : Hid (bu L t i) := ⟨hd.1, fun _ => by rw [hd.2]; exact Int.le_refl _, fun hx => by rw [← hd.2]; exact hs.inc i hx⟩
  replace hd := Lib.hid hd
  clear c0
  go_wp2_with fail
  go_ret
  exact ⟨i, by go_num, hI.out, hb⟩
 ·rw [decide_eq_false hd]
  have hw : IntKind.i64.wrap ((i : Int) - 1) = (i : Int) - 1 := IntWalk.i64_in _ (by omega)
  have hI : Hid (bu L t (i - 1)) := by
   refine ⟨by omega, fun h0 => Int.le_of_lt (hC.lo _ (by omega)), fun hx => ?_⟩
   rcases Nat.eq_zero_or_pos i with h0 | h0
   ·subst h0
    have := hC.hi 0 (Nat.zero_le _) hpos
    have := hs.inc 0 (by omega)
    show t < tA L (0 + 1)
    omega
   ·rw [show i - 1 + 1 = i by omega] at hx ⊢
    have h1 := hC.hi i (Nat.le_refl _) hx
    have h2 : tA L i ≠ t := fun e => hd ⟨hx, e⟩
    omega
  have hm : Hid (max ((i : Int) - 1) 0 = ((i - 1 : Nat) : Int)) := by show _ = _; omega
  replace hd := Lib.hid hd
  clear c0
  go_wp2_with fail
  go_ret
  exact ⟨i - 1, by rw [← hm.out]; rfl, hI.out, hb⟩
end
end Go.Proofs.YtfmpgdafnlehaaaGreat

namespace Go.Proofs.YtfmpgdafnlehaaaGreat
open Go.RowKit Go.Sort Go.Lib
theorem jQ : Tryz.prog.follows .mixedOrders = true := by kernel_rfl
section
variable {w : World} {p g : Nat} {L : List (Int × Int)} {aO now : Int} {f : Int → Int}
theorem bu.uniq (hs : Sm L now f) {t : Int} {i j : Nat} (h : bu L t i) (h' : bu L t j) : i = j := by
 have key : ∀ {i j : Nat}, bu L t i → bu L t j → ¬ i < j := by
  intro i j h h' hlt
  have h1 := h.nx (by have := h'.lt; omega)
  have h2 := h'.le (by omega)
  have h3 := hs.le (i := i + 1) (j := j) hlt h'.lt
  omega
 have := key h h'
 have := key h' h
 omega
theorem nT (t : Int) {i : Nat} (hi : bu L t i) (hs : Sm L now f) (hl : L.length ≤ 1000) (h : PW w p g L aO) :
 Calls Tryz.prog 187 #[.pointer (some ⟨p, 0, none⟩), .int .i64 t] w fun e w' => e = .returned (.int .i64 i) ∧ Below w.heap.size w w' := by
 refine (jd t hs hl h).mono ?_
 rintro e w' ⟨j, rfl, hj, hb⟩
 rw [hi.uniq hs hj]
 exact ⟨rfl, hb⟩
theorem jR (t : Int) {i : Nat} (hi : bu L t i) (hs : Sm L now f) (hl : L.length ≤ 1000) (h : PW w p g L aO) :
 Calls Tryz.prog 156 #[.pointer (some ⟨p, 0, none⟩), .int .i64 t] w fun e w' => e = .returned (.int .i64 (tV L i)) ∧ Below w.heap.size w w' := by
 have hn := dP h hs.pos
 have pF := jQ
 have hil := hi.lt
 obtain ⟨cap, F⟩ := h.facts
 have pl := F.pl
 have c0 := F.c0
 clear F
 replace hi := Lib.hid hi
 go_enter Tryz.func156, Tryz.ntmps156
 go_wp2_with (go_at_call 133; go_must (refine hn.mono ?_); rintro e w' ⟨rfl, rfl⟩)
 refine Reg2.mO 7 17 [[],[aP],[aP,aP],[aP,aP,aP],[az,az,az,az],[az,az,az,az,az],[az,az,az,az,aP,aP]] [0, 0, 0, 1, 0, 0, 1]
  [.pure, .pure, .pure, .mU (.slice (some ⟨g, 0, none⟩) L.length cap), .pure, .pure, .mU (.int .i64 i)]
  (fun W => Below w.heap.size w W) (fun _ _ => True) (fun _ _ => False) (by kernel_rfl) (by kernel_rfl) rfl rfl (fun _ _ _ _ h => h) ?_ ?_ ?_ ?_ ?_ ?_
 ·intro w1 w2 he hb; exact hb.trans (he.mono hb.size)
 ·intro _ _ h; exact h.elim
 ·refine ⟨trivial, trivial, trivial, ⟨?_, ?_⟩, trivial, trivial, ⟨?_, ?_⟩, trivial⟩
  all_goals (first | exact fun _ _ _ _ h => h | exact fun _ _ _ h => h.elim | exact fun _ w1 w2 he hx => ⟨hx.1, bA hx.2 he⟩)
 ·exact (Below.refl _ _).drew
 ·exact trivial
 dsimp only [Reg2.mk, List.zip, List.zipWith, List.take]
 repeat (refine' Reg2.aW _ (by rfl) (fun wz => ?_) ?_; rotate_left; (go_simp; first | rfl | rw [if_neg (by omega)]); simp only [Act.put, xA, xB, xC]; (try simp only [xD]); (try simp only [xE]))
 refine Reg2.pm (fun wz hI hF => ?_) (fun x3 => ?_) (by rfl)
 ·have d0 := (hI.cell (p := ⟨p, 0, none⟩) pl).trans c0
  go_wp2_with fail
  exact ⟨_, rfl, ⟨(), rfl, trivial⟩, Reg2.Ext.refl _⟩
 simp only [Act.put, xA, xB, xC, xD, xE, id]
 repeat (refine' Reg2.aW _ (by rfl) (fun wz => ?_) ?_; rotate_left; (go_simp; first | rfl | rw [if_neg (by omega)]); simp only [Act.put, xA, xB, xC]; (try simp only [xD]); (try simp only [xE]))
 refine Reg2.pm (fun wz hI hF => ?_) (fun x6 => ?_) (by rfl)
 ·go_wp2_with (go_at_call 187; go_must (refine (nT t hi.out hs hl (h.kept hI)).mono ?_); rintro e w1 ⟨rfl, oH⟩)
  exact ⟨_, rfl, ⟨(), rfl, trivial⟩, oH⟩
 simp only [Act.put, xA, xB, xC, xD, xE, id]
 refine Reg2.aZ ?_
 intro w3 HI3 _ oZ
 clear oZ c0
 obtain ⟨cap', F'⟩ := (h.kept HI3).facts
 have s1 := (step_cells F'.own hil).2
 have b1 : (0 : Int) ≤ i := by omega
 have b2 : (i : Int) < (L.length : Int) := by omega
 clear F'
 dsimp only [List.drop]
 go_wp2_with fail
 go_ret
 exact ⟨rfl, HI3⟩
end
end Go.Proofs.YtfmpgdafnlehaaaGreat

namespace Go.Proofs.YtfmpgdafnlehaaaGreat
open Go.RowKit Go.Sort Go.Lib
section
variable {w : World} {p g : Nat} {L : List (Int × Int)} {aO now : Int} {f : Int → Int}
theorem iF (n : Int) (w : World) (h : 0 ≤ n ∧ n ≤ 64) : Calls Tryz.prog 85 #[.int .i64 n] w fun e w' => ∃ p g : Nat, e = .returned (.tuple #[.pointer (some ⟨p, 0, none⟩), .int .i64 0]) ∧ PW w' p g [(0, n)] 0 ∧ w.heap.size ≤ p ∧ w.heap.size ≤ g ∧ Below w.heap.size w w' := by
 have h1 : ¬ (n < 0) := by omega
 have h2 : ¬ (64 < n) := by omega
 have hp : Hid (∀ w2, w2 = ((w.alloc (.cells #[.int .i64 0, .int .i64 n] 183)).alloc (.cells #[.slice (some ⟨w.heap.size, 0, none⟩) 1 1, .int .i64 0] 186)) → PW w2 (w.heap.size + 1) w.heap.size [(0, n)] 0) := by
  rintro w2 rfl
  have ho : (w.alloc (.cells #[.int .i64 0, .int .i64 n] 183)).ownsRow 0 183 2 (.slice (some ⟨w.heap.size, 0, none⟩) 1 1) 1 (fI [(0, n)]) := kF (vs := [.int .i64 0, .int .i64 n]) rfl (Nat.zero_le _) rfl (by decide)
  refine ⟨1, ?_, bA ho ((Below.refl _ _).alloc (Nat.le_refl _) _)⟩
  have := heap_alloc_new (w.alloc (.cells #[.int .i64 0, .int .i64 n] 183)) (.cells #[.slice (some ⟨w.heap.size, 0, none⟩) 1 1, .int .i64 0] 186)
  simpa using this
 have hb : Below w.heap.size w ((w.alloc (.cells #[.int .i64 0, .int .i64 n] 183)).alloc (.cells #[.slice (some ⟨w.heap.size, 0, none⟩) 1 1, .int .i64 0] 186)) := ((Below.refl _ _).alloc (Nat.le_refl _) _).alloc (by simp) _
 clear h
 go_enter Tryz.func85, Tryz.ntmps85
 go_wp2_with fail
 go_ret2
 exact ⟨w.heap.size + 1, rfl, w.heap.size, hp.out _ rfl, by omega, Nat.le_refl _, hb⟩
theorem lM (n : Int) : Can [(0, n)] 0 (fun _ => n) :=
 ⟨⟨by simp, rfl, fun i hi => by simp at hi, fun i hi => by simp at hi; subst hi; simp [tA], fun i t hi _ _ => by simp at hi; subst hi; simp [tV]⟩, fun i hi => by simp at hi⟩
end
end Go.Proofs.YtfmpgdafnlehaaaGreat

namespace Go.Proofs.YtfmpgdafnlehaaaGreat
open Go.RowKit Go.Lib Go.Sort
structure Pg where
 now : Int
 J : List Jb
 T : List Int
 f : Int → Int
 cl : Bool
def bq (c t d p : Nat) (v : Value) (g : Nat) (k : Nat) : Prop := k = c ∨ k = t ∨ k = d ∨ k = p ∨ v.ownBlock = some k ∨ k = g
def PR (w : World) (p g : Nat) (a : Nat) (m : Int) (now : Int) (f : Int → Int) : Prop :=
 ∃ S aO, PW w p g S aO ∧ Can S now f ∧ S.length ≤ a ∧ 0 ≤ aO ∧ aO ≤ m
structure CW (w : World) (c t d p : Nat) (v : Value) (g : Nat) (a : Nat) (m : Int) (P : Pg) : Prop where
 cell : w.heap[c]? = some (.cells #[.pointer (some ⟨t, 0, none⟩), .pointer (some ⟨d, 0, none⟩), .pointer (some ⟨p, 0, none⟩), .bool true, .bool P.cl] 122 (0, 0))
 fB : TV w t v P.J
 nodes : TW w d P.T
 gp : PR w p g a m P.now P.f
section
variable {w w' w1 w2 : World} {c t d p g g' g1 g2 a a' : Nat} {v v' v1 v2 : Value} {m m' : Int} {P : Pg}
theorem PW.at {S : List (Int × Int)} {aO : Int} (h : PW w p g S aO) : ∃ cs, w.heap[p]? = some (.cells cs 186 (0, 0)) := by obtain ⟨cap, h1, _⟩ := h; exact ⟨_, h1⟩
theorem PW.o5 {S : List (Int × Int)} {aO : Int} (h : PW w p g S aO) : ∃ cs, w.heap[g]? = some (.cells cs 183 (0, 0)) := by
 obtain ⟨cap, _, h2⟩ := h
 exact dB h2 rfl
theorem CW.types (h : CW w c t d p v g a m P) {k : Nat} (hk : bq c t d p v g k) : ∃ cs T, w.heap[k]? = some (.cells cs T (0, 0)) ∧
 ((k = c ∧ T = 122) ∨ (k = t ∧ T = 188) ∨ (k = d ∧ T = 181) ∨ (k = p ∧ T = 186) ∨ (v.ownBlock = some k ∧ T = 94) ∨ (k = g ∧ T = 183)) := by
 obtain ⟨S, aO, hp, _⟩ := h.gp
 rcases hk with rfl | rfl | rfl | rfl | hv | rfl
 ·exact ⟨_, _, h.cell, .inl ⟨rfl, rfl⟩⟩
 ·exact ⟨_, _, h.fB.cell, .inr (.inl ⟨rfl, rfl⟩)⟩
 ·exact ⟨_, _, h.nodes, .inr (.inr (.inl ⟨rfl, rfl⟩))⟩
 ·obtain ⟨cs, h1⟩ := hp.at; exact ⟨_, _, h1, .inr (.inr (.inr (.inl ⟨rfl, rfl⟩)))⟩
 ·obtain ⟨cs, h1⟩ := dB h.fB.own hv; exact ⟨_, _, h1, .inr (.inr (.inr (.inr (.inl ⟨hv, rfl⟩))))⟩
 ·obtain ⟨cs, h1⟩ := hp.o5; exact ⟨_, _, h1, .inr (.inr (.inr (.inr (.inr ⟨rfl, rfl⟩))))⟩
theorem CW.lt (h : CW w c t d p v g a m P) {k : Nat} (hk : bq c t d p v g k) : k < w.heap.size := by
 obtain ⟨cs, T, h1, _⟩ := h.types hk
 exact aD h1
theorem CW.other (h : CW w c t d p v g a m P) {k : Nat} {cs : Array Value} {T : TypeId} {fz : Nat × Nat} (hk : w.heap[k]? = some (.cells cs T fz)) (hT : T ≠ 122 ∧ T ≠ 188 ∧ T ≠ 181 ∧ T ≠ 186 ∧ T ≠ 94 ∧ T ≠ 183) : ¬ bq c t d p v g k := by
 intro hf
 obtain ⟨cs', T', h1, h2⟩ := h.types hf
 rw [hk] at h1
 have e := (Obj.cells.inj (Option.some.inj h1)).2.1
 subst e
 obtain ⟨a1, a2, a3, a4, a5, a6⟩ := hT
 rcases h2 with ⟨_, e⟩ | ⟨_, e⟩ | ⟨_, e⟩ | ⟨_, e⟩ | ⟨_, e⟩ | ⟨_, e⟩
 ·exact a1 e
 ·exact a2 e
 ·exact a3 e
 ·exact a4 e
 ·exact a5 e
 ·exact a6 e
theorem CW.kept (h : CW w c t d p v g a m P) (hb : Below w.heap.size w w') : CW w' c t d p v g a m P := by
 obtain ⟨S, aO, hp, hrest⟩ := h.gp
 exact ⟨(hb.block c (h.lt (.inl rfl))).trans h.cell, h.fB.kept hb, h.nodes.kept hb, S, aO, hp.kept hb, hrest⟩
theorem CW.c2 (h : CW w c t d p v g a m P) : w.cell? ⟨c, 2, none⟩ = some (.pointer (some ⟨p, 0, none⟩)) := by simp [World.cell?, h.cell]
theorem CW.c3 (h : CW w c t d p v g a m P) : w.cell? ⟨c, 3, none⟩ = some (.bool true) := by simp [World.cell?, h.cell]
theorem CW.c4 (h : CW w c t d p v g a m P) : w.cell? ⟨c, 4, none⟩ = some (.bool P.cl) := by simp [World.cell?, h.cell]
end
end Go.Proofs.YtfmpgdafnlehaaaGreat

namespace Go.Proofs.YtfmpgdafnlehaaaGreat
open Go.RowKit Go.Lib Go.Sort
section
variable {w w' w1 w2 : World} {c t d p g a : Nat} {v : Value} {m : Int} {P : Pg}
theorem iG (h : CW w c t d p v g a m P) : Calls Tryz.prog 155 #[.pointer (some ⟨p, 0, none⟩)] w fun e w' => e = .returned (.int .i64 P.now) ∧ w = w' := by
 obtain ⟨S, aO, hp, hC, _⟩ := h.gp
 have := lJ hp hC.sm.pos
 rw [hC.sm.hd] at this
 exact this
end
end Go.Proofs.YtfmpgdafnlehaaaGreat

namespace Go.Proofs.YtfmpgdafnlehaaaGreat
open Go.RowKit Go.Lib
def iH (M : Md) : List Int := (List.range M.dr.length).map fun k : Nat => df M (k : Int)
def cB (M : Md) : Pg := ⟨M.now, M.L, iH M, fun t => iP M t 0, M.cl⟩
section
variable {M : Md}
theorem iI : (iH M).length = M.dr.length := by simp [iH]
theorem lN (i : Nat) : (iH M).getD i 0 = df M (i : Int) := by
 by_cases h : i < M.dr.length
 ·simp [iH, List.getD_eq_getElem?_getD, h]
 ·rw [iy h]
  simp [iH, List.getD_eq_getElem?_getD, h]
theorem lQ {l l' : List Int} (h1 : l.length = l'.length) (h2 : ∀ i, i < l.length → l.getD i 0 = l'.getD i 0) : l = l' := by
 refine List.ext_getElem h1 fun i a b => ?_
 have := h2 i a
 simpa [List.getD_eq_getElem?_getD, a, b] using this
end
end Go.Proofs.YtfmpgdafnlehaaaGreat

namespace Go.Proofs.YtfmpgdafnlehaaaGreat
open Go.RowKit Go.Lib
open Go.ChangeShapes Go.WideShapes Go.ChangeAt Go.Deep
structure Ry where
 err : Int
 id : Int
 state : Int
 start : Int
 stop : Int
 plan : Int
 a : Int
 b : Int
 c : Int
deriving DecidableEq
def lS (r : Ry) : List Value := [.int .i64 r.err, .int .i64 r.id, .int .i64 r.state, .int .i64 r.start, .int .i64 r.stop, .int .i64 r.plan, .int .i64 r.a, .int .i64 r.b, .int .i64 r.c]
section
end
end Go.Proofs.YtfmpgdafnlehaaaGreat

namespace Go.Proofs.YtfmpgdafnlehaaaGreat
open Go.RowKit Go.Lib Go.Sort
structure Wk where
 eH : Rq
 o6 : Int
 o7 : Int
 left : Value
 o8 : Jb
 idle : Int
 target : Int
 rep : Ry
 ok : Bool
def gq (R : Wk) : List Value := encR R.eH ++ ([.int .i64 R.o6, .int .i64 R.o7, R.left] ++ (mZ R.o8 ++ ([.int .i64 R.idle, .int .i64 R.target] ++ (lS R.rep ++ [.bool R.ok]))))
def nU : Jb := (0, 0, 0, 0, 0, 0, 0, 0, 0, 0)
def mW : Ry := ⟨0, 0, 0, 0, 0, 0, 0, 0, 0⟩
def av (w : World) (b : Nat) (R : Wk) : Prop := w.heap[b]? = some (.cells (gq R).toArray 96 (0, 0))
section
variable {w w' w1 w2 : World} {b c t d p g a g' g1 g2 a' : Nat} {v v' v1 v2 : Value} {m m' : Int} {P P' : Pg} {R R' : Wk}
theorem av.lt (h : av w b R) : b < w.heap.size := aD h
theorem av.at (h : av w b R) (j : Nat) (u : Value) (hj : (gq R)[j]? = some u) : w.cell? ⟨b, j, none⟩ = some u := by
 simp [World.cell?, show w.heap[b]? = _ from h, hj]
theorem av.free (h : av w b R) (j : Nat) : w.frozen? ⟨b, j, none⟩ = false := by simp [World.frozen?, show w.heap[b]? = _ from h]
theorem av.put (h : av w b R) (j : Nat) (u : Value) (he : (gq R).set j u = gq R') : av (w.setCell ⟨b, j, none⟩ u) b R' := by
 refine (heap_put h u).trans ?_
 rw [xA, he]
theorem av.left (h : av w b R) (u : Value) : av (w.setCell ⟨b, 11, none⟩ u) b { R with left := u } := h.put 11 u rfl
theorem lT {w : World} {g off k : Nat} {all cs : List Value} {t : TypeId} (h : w.heap[g]? = some (.cells all.toArray t (0, 0))) (hk : cs.length = k) (hc : ∀ j u, cs[j]? = some u → all[off + j]? = some u) :
 Sem.run Tryz.prog (loadCellsFrom ⟨g, off, none⟩ 0 k #[]) w = .ok cs.toArray w :=
 run_loadCellsFrom_list Tryz.prog w _ _ k hk fun j u hj => by
  rw [Go.WideShapes.add_plain]
  have := hc j u hj
  simp [World.cell?, h, this]
def dZ (b c t d p : Nat) (v : Value) (g : Nat) (k : Nat) : Prop := k = b ∨ bq c t d p v g k
structure SW (w : World) (b c t d p : Nat) (v : Value) (g a : Nat) (m : Int) (R : Wk) (P : Pg) : Prop where
 wk : av w b R
 cw : CW w c t d p v g a m P
structure WS (w w' : World) (b c t d p : Nat) (v : Value) (g : Nat) (v' : Value) (g' : Nat) : Prop where
 off : ai (dZ b c t d p v g) w w'
 grew : bL w (dZ b c t d p v g) (dZ b c t d p v' g')
theorem SW.apart (h : SW w b c t d p v g a m R P) : ¬ bq c t d p v g b := h.cw.other h.wk (by decide)
theorem WS.of_below (h : Below w.heap.size w w1) : WS w w1 b c t d p v g v g := ⟨ai.of_below h, bL.refl _ _⟩
theorem WS.trans (h : WS w w1 b c t d p v g v1 g1) (h' : WS w1 w2 b c t d p v1 g1 v2 g2) : WS w w2 b c t d p v g v2 g2 :=
 ⟨h.off.trans h'.off h.grew, h.grew.trans h'.grew h.off.size⟩
theorem WS.heap (h : WS w w1 b c t d p v g v1 g1) {k : Nat} (hk : k < w.heap.size) (hn : ¬ dZ b c t d p v g k) : w1.heap[k]? = w.heap[k]? := h.off.block k hk hn
theorem WS.iJ (ho : ai (fun k => k = b) w w1) : WS w w1 b c t d p v g v g := ⟨⟨ho.os, ho.tape, ho.output, ho.size, fun k hk hf => ho.block k hk fun e => hf (.inl e)⟩, bL.refl _ _⟩
theorem SW.kept (h : SW w b c t d p v g a m R P) (hb : Below w.heap.size w w1) : SW w1 b c t d p v g a m R P := ⟨(hb.block b h.wk.lt).trans h.wk, h.cw.kept hb⟩
theorem CW.oI (h : CW w c t d p v g a m P) (ho : ai (fun k => k = b) w w1) (hb : ¬ bq c t d p v g b) : CW w1 c t d p v g a m P := by
 have blk : ∀ k, bq c t d p v g k → w1.heap[k]? = w.heap[k]? := fun k hk => ho.block k (h.lt hk) (fun e => hb (e ▸ hk))
 obtain ⟨S, aO, ⟨cap, hp1, hp2⟩, hrest⟩ := h.gp
 refine ⟨(blk c (.inl rfl)).trans h.cell, ⟨(blk t (.inr (.inl rfl))).trans h.fB.cell, aI h.fB.own fun k hk => blk k (.inr (.inr (.inr (.inr (.inl hk)))))⟩, (blk d (.inr (.inr (.inl rfl)))).trans h.nodes, S, aO, ⟨cap, (blk p (.inr (.inr (.inr (.inl rfl))))).trans hp1, aI hp2 fun k hk => ?_⟩, hrest⟩
 have e : k = g := by simpa [Value.ownBlock] using hk.symm
 exact blk k (.inr (.inr (.inr (.inr (.inr e)))))
theorem SW.work (h : SW w b c t d p v g a m R P) (hw : av w1 b R') (ho : ai (fun k => k = b) w w1) : SW w1 b c t d p v g a m R' P := ⟨hw, h.cw.oI ho h.apart⟩
theorem aA (w : World) (j : Nat) (u : Value) : ai (fun k => k = b) w (w.setCell ⟨b, j, none⟩ u) := ⟨rfl, rfl, rfl, by simp, fun k _ hk => Below.heap_setCell w ⟨b, j, none⟩ u k hk⟩
theorem aG (h : ai (fun k => k = b) w w1) (h' : ai (fun k => k = b) w1 w2) : ai (fun k => k = b) w w2 := h.trans h' (bL.refl _ _)
def bR (w : World) (b c t d p : Nat) (v : Value) (g a : Nat) (m : Int) (L : Value) (R' : Wk) (P' : Pg) (e : Ending) (w' : World) : Prop :=
 e = .returned L ∧ ∃ v' g', SW w' b c t d p v' g' a m R' P' ∧ WS w w' b c t d p v g v' g'
end
end Go.Proofs.YtfmpgdafnlehaaaGreat

namespace Go.Proofs.YtfmpgdafnlehaaaGreat
open Go.RowKit Go.Lib Go.Sort
def gT (k : Nat) : Value := .func (.func k) #[] #[]
section
variable {w w' w1 w2 : World} {b c t d p g a : Nat} {v : Value} {m : Int} {P P' : Pg} {R R' : Wk}
theorem iK (h : CW w c t d p v g a m P) : Calls Tryz.prog 88 #[.pointer (some ⟨c, 0, none⟩)] w fun e w' => e = .returned (.bool false) ∧ w = w' := by
 have c3 := h.c3
 clear h
 go_enter Tryz.func88, Tryz.ntmps88
 go_wp2_with fail
 go_ret
 exact ⟨rfl, rfl⟩
theorem je (h : CW w c t d p v g a m P) : Calls Tryz.prog 73 #[.pointer (some ⟨c, 0, none⟩)] w fun e w' => e = .returned (.bool P.cl) ∧ w = w' := by
 have c4 := h.c4
 have hno := iK h
 clear h
 go_enter Tryz.func73, Tryz.ntmps73
 go_wp2_with (go_at_call 88; go_must (refine hno.mono ?_); rintro e w' ⟨rfl, rfl⟩)
 go_ret
 exact ⟨rfl, rfl⟩
theorem iL (h : av w b R) (l : Bool) (hl : R.left = .nilFunc ∧ l = true ∨ (∃ k, R.left = gT k) ∧ l = false) : Calls Tryz.prog 125 #[.pointer (some ⟨b, 0, none⟩)] w fun e w' => e = .returned (.bool l) ∧ w = w' := by
 have c11 := h.at 11 R.left rfl
 clear h
 have e1 : ∀ w, Sem.run Tryz.prog (binOp .eql 91 .nilFunc .nilFunc) w = .ok (.bool true) w := fun w => rfl
 have e2 : ∀ k w, Sem.run Tryz.prog (binOp .eql 91 (.func (.func k) #[] #[]) .nilFunc) w = .ok (.bool false) w := fun k w => rfl
 rcases hl with ⟨hl, rfl⟩ | ⟨⟨k, hl⟩, rfl⟩
 ·rw [hl] at c11
  go_enter Tryz.func125, Tryz.ntmps125
  go_wp2_with fail
  go_ret
  exact ⟨rfl, rfl⟩
 ·rw [hl] at c11
  unfold gT at *
  go_enter Tryz.func125, Tryz.ntmps125
  go_wp2_with fail
  go_ret
  exact ⟨rfl, rfl⟩
end
end Go.Proofs.YtfmpgdafnlehaaaGreat

namespace Go.Proofs.YtfmpgdafnlehaaaGreat
open Go.RowKit Go.Lib Go.Sort
section
variable {w w' w1 w2 : World} {b c t d p g a : Nat} {v : Value} {m : Int} {P P' : Pg} {R R' : Wk}
theorem lU {k a' : Nat} {m' : Int} {L : Value} {l : Bool} (h : SW w b c t d p v g a m R P) (hl : R.left = gT k) (hl' : R'.left = gT k) (hL : L = .nilFunc ∧ l = true ∨ (∃ k, L = gT k) ∧ l = false)
 (hk : ∀ args w, Sem.run Tryz.prog (callFunc k args) w = .ok (.enter k args) w)
 (hp : Calls Tryz.prog k #[.pointer (some ⟨b, 0, none⟩), .pointer (some ⟨c, 0, none⟩)] w (bR w b c t d p v g a' m' L R' P')) :
 Calls Tryz.prog 81 #[.pointer (some ⟨b, 0, none⟩), .pointer (some ⟨c, 0, none⟩)] w fun e w' => e = .returned (.bool l) ∧ ∃ v' g', SW w' b c t d p v' g' a' m' { R' with left := L } P' ∧ WS w w' b c t d p v g v' g' := by
 have hd := iL h.wk false (.inr ⟨⟨k, hl⟩, rfl⟩)
 have hn := iK h.cw
 have c11 := h.wk.at 11 R.left rfl
 rw [hl] at c11
 unfold gT at c11
 go_enter Tryz.func81, Tryz.ntmps81
 go_wp2_with (first | (go_at_call 125; go_must (refine hd.mono ?_); rintro e w' ⟨rfl, rfl⟩) | (go_at_call 88; go_must (refine hn.mono ?_); rintro e w' ⟨rfl, rfl⟩))
 refine hp.mono ?_
 clear hp
 rintro e w1 ⟨rfl, v1, g1, hS, hW⟩
 have hW2 := hS.wk.left L
 have c11' := hS.wk.at 11 R'.left rfl
 rw [hl'] at c11'
 unfold gT at c11'
 have f11 := hS.wk.free 11
 have hd2 := iL hW2 l hL
 have hS2 := hS.work hW2 (aA w1 11 L)
 have fin := hW.trans (WS.iJ (aA w1 11 L))
 clear hW hW2 hS hd hn h c11
 rcases hL with ⟨rfl, rfl⟩ | ⟨⟨k2, rfl⟩, rfl⟩
 ·go_wp2_with (go_at_call 125; go_must (refine hd2.mono ?_); rintro e w' ⟨rfl, rfl⟩)
  go_ret
  exact ⟨rfl, v1, g1, hS2, fin⟩
 ·unfold gT at *
  go_wp2_with (go_at_call 125; go_must (refine hd2.mono ?_); rintro e w' ⟨rfl, rfl⟩)
  go_ret
  exact ⟨rfl, v1, g1, hS2, fin⟩
theorem gU : ∀ args w, Sem.run Tryz.prog (callFunc 43 args) w = .ok (.enter 43 args) w := fun _ _ => rfl
end
end Go.Proofs.YtfmpgdafnlehaaaGreat

namespace Go.Proofs.YtfmpgdafnlehaaaGreat
open Go.RowKit Go.Lib Go.Sort
theorem ed {w : World} {b k : Nat} {cs : List Value} {t : TypeId} (h : w.heap[b]? = some (.cells cs.toArray t (0, 0))) (hk : cs.length = k) : Sem.run Tryz.prog (loadCellsFrom ⟨b, 0, none⟩ 0 k #[]) w = .ok cs.toArray w :=
 lT h hk fun j u hj => by rw [Nat.zero_add]; exact hj
section
end
end Go.Proofs.YtfmpgdafnlehaaaGreat

namespace Go.Proofs.YtfmpgdafnlehaaaGreat
open Go.RowKit Go.Lib
def bg (r : Rq) : Rq :=
 if r.kind = 1 then ⟨r.kind, 0, r.user, r.width, r.limit, r.prio, r.held, 0, 0⟩
 else if r.kind = 2 ∨ r.kind = 3 ∨ r.kind = 4 ∨ r.kind = 5 ∨ r.kind = 6 then ⟨r.kind, r.id, 0, 0, 0, 0, false, 0, 0⟩
 else if r.kind = 7 ∨ r.kind = 8 then ⟨r.kind, 0, 0, 0, 0, 0, false, r.node, 0⟩
 else if r.kind = 9 then ⟨r.kind, 0, 0, 0, 0, 0, false, 0, r.till⟩
 else ⟨r.kind, 0, 0, 0, 0, 0, false, 0, 0⟩
theorem lV (x2 x3 x4 x5 x6 : Int) (x7 : Bool) (x8 x9 : Int) (w : World) : Calls Tryz.prog 42 #[.agg #[.int .i64 1, .int .i64 x2, .int .i64 x3, .int .i64 x4, .int .i64 x5, .int .i64 x6, .bool x7, .int .i64 x8, .int .i64 x9]] w fun e w' => e = .returned (.agg #[.int .i64 1, .int .i64 0, .int .i64 x3, .int .i64 x4, .int .i64 x5, .int .i64 x6, .bool x7, .int .i64 0, .int .i64 0]) ∧ Below w.heap.size w w' := by
 go_enter Tryz.func42, Tryz.ntmps42
 go_wp2_with fail
 go_region
 all_goals (try go_wp2_with fail)
 refine ah rfl rfl rfl (show (World.drew _).heap[_]? = _ from au (heap_alloc2_new w _ _)) Tryz.underlying23 rfl (by kernel_rfl) ⟨rfl, ?_⟩
 exact ((((Below.refl _ _).alloc (Nat.le_refl _) _).alloc (by simp) _).alloc (by simp; omega) _).drew
theorem lW (x2 x3 x4 x5 x6 : Int) (x7 : Bool) (x8 x9 : Int) (w : World) : Calls Tryz.prog 42 #[.agg #[.int .i64 2, .int .i64 x2, .int .i64 x3, .int .i64 x4, .int .i64 x5, .int .i64 x6, .bool x7, .int .i64 x8, .int .i64 x9]] w fun e w' => e = .returned (.agg #[.int .i64 2, .int .i64 x2, .int .i64 0, .int .i64 0, .int .i64 0, .int .i64 0, .bool false, .int .i64 0, .int .i64 0]) ∧ Below w.heap.size w w' := by
 go_enter Tryz.func42, Tryz.ntmps42
 go_wp2_with fail
 refine ah rfl rfl rfl (au (heap_alloc2_new w _ _)) Tryz.underlying23 rfl (by kernel_rfl) ⟨rfl, ?_⟩
 exact ((((Below.refl _ _).alloc (Nat.le_refl _) _).alloc (by simp) _).alloc (by simp; omega) _)
theorem lX (x2 x3 x4 x5 x6 : Int) (x7 : Bool) (x8 x9 : Int) (w : World) : Calls Tryz.prog 42 #[.agg #[.int .i64 3, .int .i64 x2, .int .i64 x3, .int .i64 x4, .int .i64 x5, .int .i64 x6, .bool x7, .int .i64 x8, .int .i64 x9]] w fun e w' => e = .returned (.agg #[.int .i64 3, .int .i64 x2, .int .i64 0, .int .i64 0, .int .i64 0, .int .i64 0, .bool false, .int .i64 0, .int .i64 0]) ∧ Below w.heap.size w w' := by
 go_enter Tryz.func42, Tryz.ntmps42
 go_wp2_with fail
 refine ah rfl rfl rfl (au (heap_alloc2_new w _ _)) Tryz.underlying23 rfl (by kernel_rfl) ⟨rfl, ?_⟩
 exact ((((Below.refl _ _).alloc (Nat.le_refl _) _).alloc (by simp) _).alloc (by simp; omega) _)
theorem lY (x2 x3 x4 x5 x6 : Int) (x7 : Bool) (x8 x9 : Int) (w : World) : Calls Tryz.prog 42 #[.agg #[.int .i64 4, .int .i64 x2, .int .i64 x3, .int .i64 x4, .int .i64 x5, .int .i64 x6, .bool x7, .int .i64 x8, .int .i64 x9]] w fun e w' => e = .returned (.agg #[.int .i64 4, .int .i64 x2, .int .i64 0, .int .i64 0, .int .i64 0, .int .i64 0, .bool false, .int .i64 0, .int .i64 0]) ∧ Below w.heap.size w w' := by
 go_enter Tryz.func42, Tryz.ntmps42
 go_wp2_with fail
 refine ah rfl rfl rfl (au (heap_alloc2_new w _ _)) Tryz.underlying23 rfl (by kernel_rfl) ⟨rfl, ?_⟩
 exact ((((Below.refl _ _).alloc (Nat.le_refl _) _).alloc (by simp) _).alloc (by simp; omega) _)
theorem lZ (x2 x3 x4 x5 x6 : Int) (x7 : Bool) (x8 x9 : Int) (w : World) : Calls Tryz.prog 42 #[.agg #[.int .i64 5, .int .i64 x2, .int .i64 x3, .int .i64 x4, .int .i64 x5, .int .i64 x6, .bool x7, .int .i64 x8, .int .i64 x9]] w fun e w' => e = .returned (.agg #[.int .i64 5, .int .i64 x2, .int .i64 0, .int .i64 0, .int .i64 0, .int .i64 0, .bool false, .int .i64 0, .int .i64 0]) ∧ Below w.heap.size w w' := by
 go_enter Tryz.func42, Tryz.ntmps42
 go_wp2_with fail
 refine ah rfl rfl rfl (au (heap_alloc2_new w _ _)) Tryz.underlying23 rfl (by kernel_rfl) ⟨rfl, ?_⟩
 exact ((((Below.refl _ _).alloc (Nat.le_refl _) _).alloc (by simp) _).alloc (by simp; omega) _)
theorem l5 (x2 x3 x4 x5 x6 : Int) (x7 : Bool) (x8 x9 : Int) (w : World) : Calls Tryz.prog 42 #[.agg #[.int .i64 6, .int .i64 x2, .int .i64 x3, .int .i64 x4, .int .i64 x5, .int .i64 x6, .bool x7, .int .i64 x8, .int .i64 x9]] w fun e w' => e = .returned (.agg #[.int .i64 6, .int .i64 x2, .int .i64 0, .int .i64 0, .int .i64 0, .int .i64 0, .bool false, .int .i64 0, .int .i64 0]) ∧ Below w.heap.size w w' := by
 go_enter Tryz.func42, Tryz.ntmps42
 go_wp2_with fail
 refine ah rfl rfl rfl (au (heap_alloc2_new w _ _)) Tryz.underlying23 rfl (by kernel_rfl) ⟨rfl, ?_⟩
 exact ((((Below.refl _ _).alloc (Nat.le_refl _) _).alloc (by simp) _).alloc (by simp; omega) _)
theorem l6 (x2 x3 x4 x5 x6 : Int) (x7 : Bool) (x8 x9 : Int) (w : World) : Calls Tryz.prog 42 #[.agg #[.int .i64 7, .int .i64 x2, .int .i64 x3, .int .i64 x4, .int .i64 x5, .int .i64 x6, .bool x7, .int .i64 x8, .int .i64 x9]] w fun e w' => e = .returned (.agg #[.int .i64 7, .int .i64 0, .int .i64 0, .int .i64 0, .int .i64 0, .int .i64 0, .bool false, .int .i64 x8, .int .i64 0]) ∧ Below w.heap.size w w' := by
 go_enter Tryz.func42, Tryz.ntmps42
 go_wp2_with fail
 refine ah rfl rfl rfl (au (heap_alloc2_new w _ _)) Tryz.underlying23 rfl (by kernel_rfl) ⟨rfl, ?_⟩
 exact ((((Below.refl _ _).alloc (Nat.le_refl _) _).alloc (by simp) _).alloc (by simp; omega) _)
theorem l7 (x2 x3 x4 x5 x6 : Int) (x7 : Bool) (x8 x9 : Int) (w : World) : Calls Tryz.prog 42 #[.agg #[.int .i64 8, .int .i64 x2, .int .i64 x3, .int .i64 x4, .int .i64 x5, .int .i64 x6, .bool x7, .int .i64 x8, .int .i64 x9]] w fun e w' => e = .returned (.agg #[.int .i64 8, .int .i64 0, .int .i64 0, .int .i64 0, .int .i64 0, .int .i64 0, .bool false, .int .i64 x8, .int .i64 0]) ∧ Below w.heap.size w w' := by
 go_enter Tryz.func42, Tryz.ntmps42
 go_wp2_with fail
 refine ah rfl rfl rfl (au (heap_alloc2_new w _ _)) Tryz.underlying23 rfl (by kernel_rfl) ⟨rfl, ?_⟩
 exact ((((Below.refl _ _).alloc (Nat.le_refl _) _).alloc (by simp) _).alloc (by simp; omega) _)
theorem l8 (x2 x3 x4 x5 x6 : Int) (x7 : Bool) (x8 x9 : Int) (w : World) : Calls Tryz.prog 42 #[.agg #[.int .i64 9, .int .i64 x2, .int .i64 x3, .int .i64 x4, .int .i64 x5, .int .i64 x6, .bool x7, .int .i64 x8, .int .i64 x9]] w fun e w' => e = .returned (.agg #[.int .i64 9, .int .i64 0, .int .i64 0, .int .i64 0, .int .i64 0, .int .i64 0, .bool false, .int .i64 0, .int .i64 x9]) ∧ Below w.heap.size w w' := by
 go_enter Tryz.func42, Tryz.ntmps42
 go_wp2_with fail
 refine ah rfl rfl rfl (au (heap_alloc2_new w _ _)) Tryz.underlying23 rfl (by kernel_rfl) ⟨rfl, ?_⟩
 exact ((((Below.refl _ _).alloc (Nat.le_refl _) _).alloc (by simp) _).alloc (by simp; omega) _)
theorem jS (x1 : Int) (x2 x3 x4 x5 x6 : Int) (x7 : Bool) (x8 x9 : Int) (w : World) (h1 : x1 ≠ 1) (h2 : x1 ≠ 2) (h3 : x1 ≠ 3) (h4 : x1 ≠ 4) (h5 : x1 ≠ 5) (h6 : x1 ≠ 6) (h7 : x1 ≠ 7) (h8 : x1 ≠ 8) (h9 : x1 ≠ 9) : Calls Tryz.prog 42 #[.agg #[.int .i64 x1, .int .i64 x2, .int .i64 x3, .int .i64 x4, .int .i64 x5, .int .i64 x6, .bool x7, .int .i64 x8, .int .i64 x9]] w fun e w' => e = .returned (.agg #[.int .i64 x1, .int .i64 0, .int .i64 0, .int .i64 0, .int .i64 0, .int .i64 0, .bool false, .int .i64 0, .int .i64 0]) ∧ Below w.heap.size w w' := by
 have t1 : (x1 == 1) = false := beq_eq_false_iff_ne.2 h1
 have t2 : (x1 == 2) = false := beq_eq_false_iff_ne.2 h2
 have t3 : (x1 == 3) = false := beq_eq_false_iff_ne.2 h3
 have t4 : (x1 == 4) = false := beq_eq_false_iff_ne.2 h4
 have t5 : (x1 == 5) = false := beq_eq_false_iff_ne.2 h5
 have t6 : (x1 == 6) = false := beq_eq_false_iff_ne.2 h6
 have t7 : (x1 == 7) = false := beq_eq_false_iff_ne.2 h7
 have t8 : (x1 == 8) = false := beq_eq_false_iff_ne.2 h8
 have t9 : (x1 == 9) = false := beq_eq_false_iff_ne.2 h9
 clear h1 h2 h3 h4 h5 h6 h7 h8 h9
 go_enter Tryz.func42, Tryz.ntmps42
 go_wp2_with fail
 refine ah rfl rfl rfl (au (heap_alloc2_new w _ _)) Tryz.underlying23 rfl (by kernel_rfl) ⟨rfl, ?_⟩
 exact ((((Below.refl _ _).alloc (Nat.le_refl _) _).alloc (by simp) _).alloc (by simp; omega) _)
theorem gu (r : Rq) (w : World) : Calls Tryz.prog 42 #[.agg (encR r).toArray] w fun e w' => e = .returned (.agg (encR (bg r)).toArray) ∧ Below w.heap.size w w' := by
 obtain ⟨x1, x2, x3, x4, x5, x6, x7, x8, x9⟩ := r
 by_cases h1 : x1 = 1
 ·subst h1
  exact lV x2 x3 x4 x5 x6 x7 x8 x9 w
 by_cases h2 : x1 = 2
 ·subst h2
  exact lW x2 x3 x4 x5 x6 x7 x8 x9 w
 by_cases h3 : x1 = 3
 ·subst h3
  exact lX x2 x3 x4 x5 x6 x7 x8 x9 w
 by_cases h4 : x1 = 4
 ·subst h4
  exact lY x2 x3 x4 x5 x6 x7 x8 x9 w
 by_cases h5 : x1 = 5
 ·subst h5
  exact lZ x2 x3 x4 x5 x6 x7 x8 x9 w
 by_cases h6 : x1 = 6
 ·subst h6
  exact l5 x2 x3 x4 x5 x6 x7 x8 x9 w
 by_cases h7 : x1 = 7
 ·subst h7
  exact l6 x2 x3 x4 x5 x6 x7 x8 x9 w
 by_cases h8 : x1 = 8
 ·subst h8
  exact l7 x2 x3 x4 x5 x6 x7 x8 x9 w
 by_cases h9 : x1 = 9
 ·subst h9
  exact l8 x2 x3 x4 x5 x6 x7 x8 x9 w
 have e : bg ⟨x1, x2, x3, x4, x5, x6, x7, x8, x9⟩ = ⟨x1, 0, 0, 0, 0, 0, false, 0, 0⟩ := by simp [bg, h1, h2, h3, h4, h5, h6, h7, h8, h9]
 rw [e]
 exact jS x1 x2 x3 x4 x5 x6 x7 x8 x9 w h1 h2 h3 h4 h5 h6 h7 h8 h9
end Go.Proofs.YtfmpgdafnlehaaaGreat

namespace Go.Proofs.YtfmpgdafnlehaaaGreat
open Go.RowKit Go.Lib Go.Sort
theorem nV {w : World} {b : Nat} {R : Wk} (h : av w b R) (v0 v1 v2 v3 v4 v5 v6 v7 v8 : Int) : ∃ W, W = (((((((((w).setCell ⟨b, 24, none⟩ (.int .i64 v0)).setCell ⟨b, 25, none⟩ (.int .i64 v1)).setCell ⟨b, 26, none⟩ (.int .i64 v2)).setCell ⟨b, 27, none⟩ (.int .i64 v3)).setCell ⟨b, 28, none⟩ (.int .i64 v4)).setCell ⟨b, 29, none⟩ (.int .i64 v5)).setCell ⟨b, 30, none⟩ (.int .i64 v6)).setCell ⟨b, 31, none⟩ (.int .i64 v7)).setCell ⟨b, 32, none⟩ (.int .i64 v8) ∧ av W b { R with rep := ⟨v0, v1, v2, v3, v4, v5, v6, v7, v8⟩ } ∧ ai (fun k => k = b) w W := by
 refine ⟨_, rfl, ?_, ?_⟩
 ·have h0 := h.put 24 (.int .i64 v0) (R' := { R with rep := { R.rep with err := v0 } }) rfl
  have h1 := h0.put 25 (.int .i64 v1) (R' := { R with rep := { R.rep with err := v0, id := v1 } }) rfl
  have h2 := h1.put 26 (.int .i64 v2) (R' := { R with rep := { R.rep with err := v0, id := v1, state := v2 } }) rfl
  have h3 := h2.put 27 (.int .i64 v3) (R' := { R with rep := { R.rep with err := v0, id := v1, state := v2, start := v3 } }) rfl
  have h4 := h3.put 28 (.int .i64 v4) (R' := { R with rep := { R.rep with err := v0, id := v1, state := v2, start := v3, stop := v4 } }) rfl
  have h5 := h4.put 29 (.int .i64 v5) (R' := { R with rep := { R.rep with err := v0, id := v1, state := v2, start := v3, stop := v4, plan := v5 } }) rfl
  have h6 := h5.put 30 (.int .i64 v6) (R' := { R with rep := { R.rep with err := v0, id := v1, state := v2, start := v3, stop := v4, plan := v5, a := v6 } }) rfl
  have h7 := h6.put 31 (.int .i64 v7) (R' := { R with rep := { R.rep with err := v0, id := v1, state := v2, start := v3, stop := v4, plan := v5, a := v6, b := v7 } }) rfl
  have h8 := h7.put 32 (.int .i64 v8) (R' := { R with rep := { R.rep with err := v0, id := v1, state := v2, start := v3, stop := v4, plan := v5, a := v6, b := v7, c := v8 } }) rfl
  exact h8
 ·exact aG (aG (aG (aG (aG (aG (aG (aG (aA _ 24 _) (aA _ 25 _)) (aA _ 26 _)) (aA _ 27 _)) (aA _ 28 _)) (aA _ 29 _)) (aA _ 30 _)) (aA _ 31 _)) (aA _ 32 _)
section
end
end Go.Proofs.YtfmpgdafnlehaaaGreat

namespace Go.Proofs.YtfmpgdafnlehaaaGreat
open Go.RowKit Go.Lib Go.Sort
section
end
section
variable {w : World} {b c t d p g a : Nat} {v : Value} {m : Int} {P : Pg} {M : Md} {R : Wk}
theorem jT (h : CW w c t d p v g a m P) (ha : a ≤ 1000) : Calls Tryz.prog 156 #[.pointer (some ⟨p, 0, none⟩), .int .i64 P.now] w fun e w' => e = .returned (.int .i64 (P.f P.now)) ∧ Below w.heap.size w w' := by
 obtain ⟨S, aO, hp, hC, hl, _⟩ := h.gp
 obtain ⟨i, hi⟩ := hC.sm.ix P.now
 rw [hi.val hC.sm (Int.le_refl _)]
 exact jR P.now hi hC.sm (by omega) hp
theorem jU (h : SW w b c t d p v g a m R P) (ha : a ≤ 1000) : Calls Tryz.prog 115 #[.pointer (some ⟨b, 0, none⟩), .pointer (some ⟨c, 0, none⟩)] w (bR w b c t d p v g a m (.tuple #[]) { R with rep := ⟨0, 0, 0, P.now, 0, 0, P.f P.now, 0, 0⟩ } P) := by
 have hS := Lib.hid h
 have hfr := fun (W : World) (hW : SW W b c t d p v g a m R P) => jT hW.cw ha
 obtain ⟨fn, hfn⟩ : ∃ fn, fn = P.f P.now := ⟨_, rfl⟩
 rw [← hfn] at hfr ⊢
 replace hfn := Lib.hid hfn
 clear h
 go_enter Tryz.func115, Tryz.ntmps115
 go_wp2_with fail
 refine Reg2.ro w 17 23 [.p 0, .p 0, .p 2, .p 6, .m 14, .m 30, .p 0, .p 64, .p 192, .m 448, .p 0, .p 1024, .p 3072, .m 7168, .m 15422, .m 32766, .p 65534] [.pointer (some ⟨p, 0, none⟩), .int .i64 P.now, .pointer (some ⟨p, 0, none⟩), .pointer (some ⟨p, 0, none⟩), .int .i64 P.now, .int .i64 fn] (by kernel_rfl) (by kernel_rfl) rfl rfl ⟨rfl, rfl, rfl, Nat.le_refl _, fun _ _ => rfl⟩ ?_
 dsimp only [Reg2.eF]
 repeat ((first
  | (refine' Reg2.aW _ (by rfl) (fun wz => ?_) ?_; rotate_left; (go_simp; first | rfl | rw [if_neg (by omega)]))
  | (refine Reg2.aL (by rfl) (fun wz hI hF => ?_) (fun _ => ?_)
     ·unfold Reg2.One
      have c0 := (hS.out.cw.kept hI).c2
      go_wp2_with fail
      first | exact ⟨_, rfl, rfl, Reg2.Ext.refl _⟩ | exact ⟨_, rfl, ⟨(), rfl, trivial⟩, Reg2.Ext.refl _⟩)); simp only [Act.put, xA, xB, xC, xD, xE, id])
 refine Reg2.pm (fun wz hI hF => ?_) (fun r5 => ?_) (by rfl)
 ·go_wp2_with (go_at_call 155; go_must (refine (iG (hS.out.kept hI).cw).mono ?_); rintro e w' ⟨rfl, rfl⟩)
  first | exact ⟨_, rfl, rfl, Reg2.Ext.refl _⟩ | exact ⟨_, rfl, ⟨(), rfl, trivial⟩, Reg2.Ext.refl _⟩
 simp only [Act.put, xA, xB, xC, xD, xE, id]
 repeat ((first
  | (refine' Reg2.aW _ (by rfl) (fun wz => ?_) ?_; rotate_left; (go_simp; first | rfl | rw [if_neg (by omega)]))
  | (refine Reg2.aL (by rfl) (fun wz hI hF => ?_) (fun _ => ?_)
     ·unfold Reg2.One
      have c0 := (hS.out.cw.kept hI).c2
      go_wp2_with fail
      first | exact ⟨_, rfl, rfl, Reg2.Ext.refl _⟩ | exact ⟨_, rfl, ⟨(), rfl, trivial⟩, Reg2.Ext.refl _⟩)); simp only [Act.put, xA, xB, xC, xD, xE, id])
 refine Reg2.pm (fun wz hI hF => ?_) (fun pM => ?_) (by rfl)
 ·go_wp2_with (go_at_call 155; go_must (refine (iG (hS.out.kept hI).cw).mono ?_); rintro e w' ⟨rfl, rfl⟩)
  first | exact ⟨_, rfl, rfl, Reg2.Ext.refl _⟩ | exact ⟨_, rfl, ⟨(), rfl, trivial⟩, Reg2.Ext.refl _⟩
 simp only [Act.put, xA, xB, xC, xD, xE, id]
 refine Reg2.pm (fun wz hI hF => ?_) (fun pO => ?_) (by rfl)
 ·go_wp2_with (go_at_call 156; go_must (refine (hfr wz (hS.out.kept hI)).mono ?_); rintro e w' ⟨rfl, hb5⟩)
  first | exact ⟨_, rfl, ⟨(), rfl, trivial⟩, hb5⟩ | exact ⟨_, rfl, rfl, hb5⟩
 simp only [Act.put, xA, xB, xC, xD, xE, id]
 repeat (refine' Reg2.aW _ (by rfl) (fun wz => ?_) ?_; rotate_left; (go_simp; first | rfl | rw [if_neg (by omega)]); simp only [Act.put, xA, xB, xC, xD, xE, id])
 refine Reg2.aZ ?_
 intro w4 HI4 _ iW
 clear iW
 dsimp only [List.drop]
 have bS := hS.out.kept HI4
 obtain ⟨w7, hw7, o9, oJ⟩ := nV bS.wk 0 0 0 P.now 0 0 fn 0 0
 have a24 := bS.wk.at 24 (.int .i64 R.rep.err) rfl
 have f24 := bS.wk.free 24
 have a25 := bS.wk.at 25 (.int .i64 R.rep.id) rfl
 have f25 := bS.wk.free 25
 have a26 := bS.wk.at 26 (.int .i64 R.rep.state) rfl
 have f26 := bS.wk.free 26
 have a27 := bS.wk.at 27 (.int .i64 R.rep.start) rfl
 have f27 := bS.wk.free 27
 have a28 := bS.wk.at 28 (.int .i64 R.rep.stop) rfl
 have f28 := bS.wk.free 28
 have a29 := bS.wk.at 29 (.int .i64 R.rep.plan) rfl
 have f29 := bS.wk.free 29
 have a30 := bS.wk.at 30 (.int .i64 R.rep.a) rfl
 have f30 := bS.wk.free 30
 have a31 := bS.wk.at 31 (.int .i64 R.rep.b) rfl
 have f31 := bS.wk.free 31
 have a32 := bS.wk.at 32 (.int .i64 R.rep.c) rfl
 have f32 := bS.wk.free 32
 have pq := bS.work o9 oJ
 have pz := (WS.of_below HI4 : WS w w4 b c t d p v g v g).trans (WS.iJ oJ)
 go_wp2_with fail
 rw [← hw7]
 go_end0
 exact ⟨rfl, v, g, pq, pz⟩
end
end Go.Proofs.YtfmpgdafnlehaaaGreat

namespace Go.Proofs.YtfmpgdafnlehaaaGreat
open Go.RowKit Go.Lib Go.Sort
section
variable {w : World} {b c t d p g a : Nat} {v : Value} {m : Int} {P : Pg} {M : Md} {R : Wk}
theorem iM (h : SW w b c t d p v g a m R P) (ha : a ≤ 1000) (hq : R.eH.kind = 12) :
 Calls Tryz.prog 77 #[.pointer (some ⟨b, 0, none⟩), .pointer (some ⟨c, 0, none⟩)] w (bR w b c t d p v g a m .nilFunc { R with rep := ⟨0, 0, 0, P.now, 0, 0, P.f P.now, 0, 0⟩ } P) := by
 have q0 := h.wk.at 0 (.int .i64 R.eH.kind) rfl
 rw [hq] at q0
 replace hq := Lib.hid hq
 have hc := jU h ha
 go_enter Tryz.func77, Tryz.ntmps77
 go_wp2_with (go_at_call 115; go_must (refine hc.mono ?_); rintro e w8 ⟨rfl, v8, g8, nW, nX⟩)
 go_ret
 exact ⟨rfl, v8, g8, nW, nX⟩
theorem iN (h : SW w b c t d p v g a m R P) (hc : P.cl = false) (hq : 1 ≤ R.eH.kind ∧ R.eH.kind ≤ 13) (hr : eO R.eH.kind = true) {L : Value} {a' : Nat} {m' : Int} {R' : Wk} {P' : Pg}
 (hn : Calls Tryz.prog 77 #[.pointer (some ⟨b, 0, none⟩), .pointer (some ⟨c, 0, none⟩)] w (bR w b c t d p v g a' m' L R' P')) :
 Calls Tryz.prog 43 #[.pointer (some ⟨b, 0, none⟩), .pointer (some ⟨c, 0, none⟩)] w (bR w b c t d p v g a' m' L R' P') := by
 have hcl := je h.cw
 rw [hc] at hcl
 have q0 := h.wk.at 0 (.int .i64 R.eH.kind) rfl
 have his := nA R.eH.kind w
 rw [show (decide (1 ≤ R.eH.kind) && decide (R.eH.kind ≤ 13)) = true by rw [decide_eq_true hq.1, decide_eq_true hq.2]; rfl] at his
 have hre := jC R.eH.kind w
 rw [hr] at hre
 generalize R.eH.kind = kk at *
 replace hq := Lib.hid hq
 replace hr := Lib.hid hr
 go_enter Tryz.func43, Tryz.ntmps43
 go_wp2_with (first | (go_at_call 73; go_must (refine hcl.mono ?_); rintro e w' ⟨rfl, rfl⟩) | (go_at_call 75; go_must (refine his.mono ?_); rintro e w' ⟨rfl, rfl⟩) | (go_at_call 76; go_must (refine hre.mono ?_); rintro e w' ⟨rfl, rfl⟩) | (go_at_call 77; go_must (refine hn.mono ?_); rintro e w8 ⟨rfl, v8, g8, nW, nX⟩))
 go_ret
 exact ⟨rfl, v8, g8, nW, nX⟩
end
end Go.Proofs.YtfmpgdafnlehaaaGreat

namespace Go.Proofs.YtfmpgdafnlehaaaGreat
open Go.RowKit Go.Lib Go.Sort
theorem jV (n : Nat) : iH (aH n) = List.replicate n 1 := by
 refine lQ (by rw [iI]; simp [aH]) fun i hi => ?_
 have hin : i < n := by rw [iI] at hi; simpa [aH] using hi
 rw [lN, iZ (by simpa [aH] using hin)]
 have h1 : ¬ 0 ≤ holderL (aH n).L i := by unfold aH holderL; simp
 rw [if_neg h1]
 simp [aH, List.getD_eq_getElem?_getD, hin]
theorem fC (n : Nat) (t : Int) : iP (aH n) t 0 = n := by
 unfold iP eT jh
 have h1 : (List.range (aH n).dr.length).countP (gz (aH n) t) = n := by
  have e : (aH n).dr.length = n := by simp [aH]
  rw [e]
  have : (List.range n).countP (gz (aH n) t) = (List.range n).length := by
   rw [List.countP_eq_length]
   intro k hk
   have hk := List.mem_range.1 hk
   unfold gz aH holderL
   simp [List.getD_eq_getElem?_getD, hk]
  rw [this, List.length_range]
 rw [h1]
 simp [aH]
structure oK (w0 w : World) (c t d p : Nat) (v : Value) (g a : Nat) (m : Int) (P : Pg) : Prop where
 cw : CW w c t d p v g a m P
 lo : ∀ k, bq c t d p v g k → w0.heap.size ≤ k
section
variable {w : World}
theorem l9 (n : Nat) (w : World) (h1 : 1 ≤ n) (h2 : n ≤ 64) : Calls Tryz.prog 48 #[.int .i64 n] w fun e w' => ∃ c t d p v g, e = .returned (.tuple #[.pointer (some ⟨c, 0, none⟩), .int .i64 0]) ∧ oK w w' c t d p v g 1 0 (cB (aH n)) ∧ Below w.heap.size w w' := by
 have hn := iC n w h1 h2
 go_enter Tryz.func48, Tryz.ntmps48
 go_wp2_with fail
 go_at_call 84
 refine hn.mono ?_
 clear hn
 rintro e w1 ⟨rfl, hT1, hb1⟩
 have hs1 : w.heap.size < w1.heap.size := aD hT1
 have hp := iF (n : Int) w1 (by omega)
 go_wp2_with fail
 go_at_call 85
 refine hp.mono ?_
 clear hp
 rintro e w2 ⟨p, g, rfl, hP2, lp, lg, hb2⟩
 have oL : TW w2 w.heap.size (List.replicate n 1) := hT1.kept hb2
 have hj := jb w2
 go_wp2_with fail
 go_at_call 86
 refine hj.mono ?_
 clear hj
 rintro e w3 ⟨rfl, hw3⟩
 have hb3 : Below w2.heap.size w2 w3 := by rw [← hw3]; exact (Below.refl _ _).alloc (Nat.le_refl _) _
 have hJ3 : TV w3 w2.heap.size (.slice none 0 0) [] := by rw [← hw3]; exact BV.oF w2
 have aj := oL.kept hb3
 have hP3 := hP2.kept hb3
 have hs2 := hb2.size
 replace hw3 := Lib.hid hw3
 obtain ⟨w4, hw4⟩ : ∃ w4, w4 = w3.alloc (.cells #[.pointer (some ⟨w2.heap.size, 0, none⟩), .pointer (some ⟨w.heap.size, 0, none⟩), .pointer (some ⟨p, 0, none⟩), .bool true, .bool false] 122) := ⟨_, rfl⟩
 have hb4 : Below w3.heap.size w3 w4 := by rw [hw4]; exact (Below.refl _ _).alloc (Nat.le_refl _) _
 have hc4 : w4.heap[w3.heap.size]? = some (.cells #[.pointer (some ⟨w2.heap.size, 0, none⟩), .pointer (some ⟨w.heap.size, 0, none⟩), .pointer (some ⟨p, 0, none⟩), .bool true, .bool false] 122 (0, 0)) := by rw [hw4]; exact heap_alloc_new w3 _
 have hs3 := hb3.size
 have hCW : Hid (CW w4 w3.heap.size w2.heap.size w.heap.size p (.slice none 0 0) g 1 0 (cB (aH n))) := by
  refine ⟨hc4, hJ3.kept hb4, by show TW w4 w.heap.size (iH (aH n)); rw [jV]; exact aj.kept hb4, [(0, (n : Int))], 0, hP3.kept hb4, ?_, Nat.le_refl _, Int.le_refl _, Int.le_refl _⟩
  exact (lM n).congr fun t _ => (fC n t).symm
 have hlo : Hid (∀ k, bq w3.heap.size w2.heap.size w.heap.size p (.slice none 0 0) g k → w.heap.size ≤ k) := by
  rintro k (rfl | rfl | rfl | rfl | hv | rfl)
  ·omega
  ·omega
  ·exact Nat.le_refl _
  ·omega
  ·cases hv
  ·omega
 have hbw := hb1.trans ((hb2.trans ((hb3.trans (hb4.mono hb3.size)).mono hb2.size)).mono hb1.size)
 clear hc4 hJ3 aj hP3 hT1 oL hP2
 go_wp2_with fail
 rw [← hw4]
 go_ret2
 exact ⟨w3.heap.size, w2.heap.size, w.heap.size, p, .slice none 0 0, g, rfl, ⟨hCW.out, hlo.out⟩, hbw⟩
def aX (r : Rq) : Wk := ⟨bg r, 0, 0, gT 43, nU, 0, 0, mW, false⟩
theorem eB (r : Rq) (w : World) : Calls Tryz.prog 9 #[.agg (encR r).toArray] w fun e w' => ∃ b, e = .returned (.pointer (some ⟨b, 0, none⟩)) ∧ av w' b (aX r) ∧ w.heap.size ≤ b ∧ Below w.heap.size w w' := by
 have zR := gM
 obtain ⟨k9, dQ⟩ : ∃ k, k = 9 := ⟨_, rfl⟩
 rw [← dQ] at zR
 have hk0 : ¬ k9 = 0 := by omega
 have lR := dX r
 rw [← dQ] at lR
 replace dQ := Lib.hid dQ
 obtain ⟨wA, bH⟩ : ∃ wA, wA = w.alloc (.cells (encR r).toArray 23) := ⟨_, rfl⟩
 have fD : Below w.heap.size w wA := by rw [bH]; exact (Below.refl _ _).alloc (Nat.le_refl _) _
 have fJ : wA.heap[w.heap.size]? = some (.cells (encR r).toArray 23 (0, 0)) := by rw [bH]; exact heap_alloc_new w _
 have oM := ed fJ lR
 have hcl := gu r wA
 rw [bH] at oM hcl
 generalize hcr : encR r = cR at *
 replace hcr := Lib.hid hcr
 go_enter Tryz.func9, Tryz.ntmps9
 go_wp2_with fail
 go_at_call 42
 refine hcl.mono ?_
 clear hcl oM
 rw [← bH]
 rintro e w1 ⟨rfl, hb1⟩
 replace bH := Lib.hid bH
 obtain ⟨y1, y2, y3, y4, y5, y6, y7, y8, y9, hy⟩ : ∃ y1 y2 y3 y4 y5 y6 y7 y8 y9, bg r = ⟨y1, y2, y3, y4, y5, y6, y7, y8, y9⟩ := ⟨_, _, _, _, _, _, _, _, _, rfl⟩
 obtain ⟨w2, hw2⟩ : ∃ w2, w2 = w1.alloc (.cells (gq (aX r)).toArray 96) := ⟨_, rfl⟩
 have hb2 : Below w1.heap.size w1 w2 := by rw [hw2]; exact (Below.refl _ _).alloc (Nat.le_refl _) _
 have hW2 : av w2 w1.heap.size (aX r) := by show _ = _; rw [hw2]; exact heap_alloc_new w1 _
 have hl : (gq (aX r)).toArray = #[.int .i64 y1, .int .i64 y2, .int .i64 y3, .int .i64 y4, .int .i64 y5, .int .i64 y6, .bool y7, .int .i64 y8, .int .i64 y9, .int .i64 0, .int .i64 0, .func (.func 43) #[] #[], .int .i64 0, .int .i64 0, .int .i64 0, .int .i64 0, .int .i64 0, .int .i64 0, .int .i64 0, .int .i64 0, .int .i64 0, .int .u64 0, .int .i64 0, .int .i64 0, .int .i64 0, .int .i64 0, .int .i64 0, .int .i64 0, .int .i64 0, .int .i64 0, .int .i64 0, .int .i64 0, .int .i64 0, .bool false] := by unfold aX; rw [hy]; rfl
 have hbw := fD.trans ((hb1.trans (hb2.mono hb1.size)).mono fD.size)
 have hlo : w.heap.size ≤ w1.heap.size := Nat.le_trans fD.size hb1.size
 rw [hl] at hw2
 rw [hy, show (encR ⟨y1, y2, y3, y4, y5, y6, y7, y8, y9⟩).toArray = #[.int .i64 y1, .int .i64 y2, .int .i64 y3, .int .i64 y4, .int .i64 y5, .int .i64 y6, .bool y7, .int .i64 y8, .int .i64 y9] from rfl]
 replace hl := Lib.hid hl
 replace hy := Lib.hid hy
 obtain rfl := dQ.out
 go_wp2_with fail
 rw [← hw2]
 go_ret
 exact ⟨w1.heap.size, rfl, hW2, hlo, hbw⟩
end
end Go.Proofs.YtfmpgdafnlehaaaGreat

namespace Go.Proofs.YtfmpgdafnlehaaaGreat
open Go.RowKit Go.Lib Go.Sort
section
variable {w : World} {b c t d p g a : Nat} {v : Value} {m : Int} {M : Md} {R : Wk}
theorem jW (h : av w b R) : Calls Tryz.prog 50 #[.pointer (some ⟨b, 0, none⟩)] w fun e w' => e = .returned (.agg (lS R.rep).toArray) ∧ Below w.heap.size w w' := by
 obtain ⟨y1, y2, y3, y4, y5, y6, y7, y8, y9, hy⟩ : ∃ y1 y2 y3 y4 y5 y6 y7 y8 y9, R.rep = ⟨y1, y2, y3, y4, y5, y6, y7, y8, y9⟩ := ⟨_, _, _, _, _, _, _, _, _, rfl⟩
 have h' : ∀ o, av (w.alloc o) b R := fun o => (((Below.refl w.heap.size w).alloc (Nat.le_refl _) o).block b h.lt).trans h
 have c24 : ∀ o, (w.alloc o).cell? ⟨b, 24, none⟩ = some (.int .i64 y1) := fun o => (h' o).at 24 (.int .i64 y1) (by show some (Value.int .i64 R.rep.1) = _; rw [hy])
 have pQ : ∀ o, (w.alloc o).cell? ⟨b, 25, none⟩ = some (.int .i64 y2) := fun o => (h' o).at 25 (.int .i64 y2) (by show some (Value.int .i64 R.rep.2) = _; rw [hy])
 have pR : ∀ o, (w.alloc o).cell? ⟨b, 26, none⟩ = some (.int .i64 y3) := fun o => (h' o).at 26 (.int .i64 y3) (by show some (Value.int .i64 R.rep.3) = _; rw [hy])
 have pU : ∀ o, (w.alloc o).cell? ⟨b, 27, none⟩ = some (.int .i64 y4) := fun o => (h' o).at 27 (.int .i64 y4) (by show some (Value.int .i64 R.rep.4) = _; rw [hy])
 have c28 : ∀ o, (w.alloc o).cell? ⟨b, 28, none⟩ = some (.int .i64 y5) := fun o => (h' o).at 28 (.int .i64 y5) (by show some (Value.int .i64 R.rep.5) = _; rw [hy])
 have pV : ∀ o, (w.alloc o).cell? ⟨b, 29, none⟩ = some (.int .i64 y6) := fun o => (h' o).at 29 (.int .i64 y6) (by show some (Value.int .i64 R.rep.6) = _; rw [hy])
 have pW : ∀ o, (w.alloc o).cell? ⟨b, 30, none⟩ = some (.int .i64 y7) := fun o => (h' o).at 30 (.int .i64 y7) (by show some (Value.int .i64 R.rep.7) = _; rw [hy])
 have c31 : ∀ o, (w.alloc o).cell? ⟨b, 31, none⟩ = some (.int .i64 y8) := fun o => (h' o).at 31 (.int .i64 y8) (by show some (Value.int .i64 R.rep.8) = _; rw [hy])
 have c32 : ∀ o, (w.alloc o).cell? ⟨b, 32, none⟩ = some (.int .i64 y9) := fun o => (h' o).at 32 (.int .i64 y9) (by show some (Value.int .i64 R.rep.9) = _; rw [hy])
 rw [hy]
 clear h h' hy
 go_enter Tryz.func50, Tryz.ntmps50
 go_wp2_with fail
 refine ah rfl rfl rfl (heap_alloc_new w _) Tryz.underlying71 rfl (by kernel_rfl) ⟨rfl, ?_⟩
 exact (Below.refl _ _).alloc (Nat.le_refl _) _
end
end Go.Proofs.YtfmpgdafnlehaaaGreat

namespace Go.Proofs.YtfmpgdafnlehaaaGreat
open Go.RowKit Go.Lib
def cK (k : Int) : Bool := decide (k = 1) || decide (k = 3) || decide (k = 4) || decide (k = 2) || decide (k = 5) || decide (k = 7) || decide (k = 8) || decide (k = 9) || decide (k = 6) || decide (k = 11)
def cO (k : Int) : Bool := decide (k = 2) || decide (k = 5) || decide (k = 7) || decide (k = 8) || decide (k = 9) || decide (k = 10)
def cZ (k : Int) : Bool := decide (k = 1) || decide (k = 3) || decide (k = 4) || decide (k = 2) || decide (k = 5) || decide (k = 7) || decide (k = 8) || decide (k = 9) || decide (k = 12)
theorem dH (k : Int) (w : World) : Calls Tryz.prog 7 #[.int .i64 k] w fun e w' => e = .returned (ae (cK k) (cO k) (cZ k)) ∧ Below w.heap.size w w' := by
 by_cases h1 : k = 1; · subst h1; exact ko w
 by_cases h3 : k = 3; · subst h3; exact kr w
 by_cases h4 : k = 4; · subst h4; exact ku w
 by_cases h2 : k = 2; · subst h2; exact ky w
 by_cases h5 : k = 5; · subst h5; exact kz w
 by_cases h7 : k = 7; · subst h7; exact kC w
 by_cases h8 : k = 8; · subst h8; exact kD w
 by_cases h9 : k = 9; · subst h9; exact kE w
 by_cases h6 : k = 6; · subst h6; exact kv w
 by_cases h11 : k = 11; · subst h11; exact jr w
 by_cases h10 : k = 10; · subst h10; exact jv w
 by_cases h12 : k = 12; · subst h12; exact jw w
 have h := jy k w h1 h3 h4 h2 h5 h7 h8 h9 h6 h11 h10 h12
 rw [show cK k = false by simp [cK, *], show cO k = false by simp [cO, *], show cZ k = false by simp [cZ, *]]
 exact h
def dR (w : World) (o h : Nat) (r : Rq) : Prop := w.heap[o]? = some (.cells (Value.pointer (some ⟨h, 0, none⟩) :: encR r).toArray 98 (0, 0))
section
variable {w w' : World} {o h : Nat} {r : Rq} {H : Hd}
theorem dR.lt (q : dR w o h r) : o < w.heap.size := aD q
theorem dR.c0 (q : dR w o h r) : w.cell? ⟨o, 0, none⟩ = some (.pointer (some ⟨h, 0, none⟩)) := by simp [World.cell?, show w.heap[o]? = _ from q]
theorem dS (q : dR w o h r) (qh : af w h H) : Calls Tryz.prog 12 #[.pointer (some ⟨o, 0, none⟩)] w fun e w' => e = .returned (.bool (H.st == 5)) ∧ w = w' := by
 have c0 := q.c0
 have hs := bC qh
 clear q qh
 go_enter Tryz.func12, Tryz.ntmps12
 go_wp2_with (go_at_call 11; go_must (refine hs.mono ?_); rintro e w' ⟨rfl, rfl⟩)
 go_ret
 exact ⟨rfl, rfl⟩
theorem dC (w : World) : Calls Tryz.prog 12 #[.pointer none] w fun e w' => e = .returned (.bool true) ∧ w = w' := by
 go_enter Tryz.func12, Tryz.ntmps12
 go_wp2_with fail
 go_ret
 exact ⟨rfl, rfl⟩
theorem jX (x y z : Bool) (w : World) : Calls Tryz.prog 52 #[ae x y z] w fun e w' => e = .returned (.int .i64 (2 * dx x y z + 2)) ∧ Below w.heap.size w w' := by
 have hb1 : Below w.heap.size w (w.alloc (.cells #[.bool x, .bool y, .bool z] 31)) := (Below.refl _ _).alloc (Nat.le_refl _) _
 have hl := jg x y z (w.alloc (.cells #[.bool x, .bool y, .bool z] 31))
 have hr : 0 ≤ dx x y z ∧ dx x y z ≤ 3 := by cases x <;> cases y <;> cases z <;> decide
 generalize dx x y z = n at *
 have w1 : IntKind.i64.wrap (2 * n) = 2 * n := IntWalk.i64_in _ (by omega)
 have w2 : IntKind.i64.wrap (2 * n + 2) = 2 * n + 2 := IntWalk.i64_in _ (by omega)
 unfold ae at *
 replace hb1 := Lib.hid hb1
 go_enter Tryz.func52, Tryz.ntmps52
 go_wp2_with (go_at_call 10; go_must (refine hl.mono ?_); rintro e w' ⟨rfl, hb⟩)
 go_ret
 exact ⟨rfl, hb1.out.trans (hb.mono hb1.out.size)⟩
def fE (b : Nat) (who : Int) (r : Rq) : Hd := kX b who (cK r.kind) (cO r.kind) (cZ r.kind)
theorem jY (r : Rq) (who : Int) (w : World) : Calls Tryz.prog 49 #[.agg (encR r).toArray, .int .i64 who] w fun e w' => ∃ o h b, e = .returned (.pointer (some ⟨o, 0, none⟩)) ∧ dR w' o h (bg r) ∧ af w' h (fE b who r) ∧ av w' b (aX r) ∧ w.heap.size ≤ o ∧ w.heap.size ≤ h ∧ w.heap.size ≤ b ∧ Below w.heap.size w w' := by
 have zR := gM
 have lR := dX r
 obtain ⟨k9, dQ⟩ : ∃ k, k = 9 := ⟨_, rfl⟩
 rw [← dQ] at zR lR
 have hk0 : ¬ k9 = 0 := by omega
 replace dQ := Lib.hid dQ
 obtain ⟨wA, bH⟩ : ∃ wA, wA = w.alloc (.cells (encR r).toArray 23) := ⟨_, rfl⟩
 have fD : Hid (Below w.heap.size w wA) := by show Below _ _ _; rw [bH]; exact (Below.refl _ _).alloc (Nat.le_refl _) _
 have fJ : wA.heap[w.heap.size]? = some (.cells (encR r).toArray 23 (0, 0)) := by rw [bH]; exact heap_alloc_new w _
 have hlA : Hid (w.heap.size < wA.heap.size) := aD fJ
 have hz := Lib.hid fJ
 have hld : Hid (∀ W, Below wA.heap.size wA W → Sem.run Tryz.prog (loadCellsFrom ⟨w.heap.size, 0, none⟩ 0 k9 #[]) W = .ok (encR r).toArray W) := fun W hW => ed ((hW.block _ hlA.out).trans hz.out) lR
 have hki : Hid (∀ W, Below wA.heap.size wA W → W.cell? ⟨w.heap.size, 0, none⟩ = some (.int .i64 r.kind)) := fun W hW => fu ((hW.block _ hlA.out).trans hz.out) 0 _ rfl
 clear fJ lR
 obtain ⟨cR, hcR⟩ : ∃ cR, cR = encR r := ⟨_, rfl⟩
 have ma := Lib.hid (eB r)
 have nS := Lib.hid (gu r)
 rw [← hcR] at hld ma nS bH ⊢
 replace hcR := Lib.hid hcR
 go_enter Tryz.func49, Tryz.ntmps49
 go_wp2_with fail
 rw [← bH]
 replace bH := Lib.hid bH
 refine Reg2.mO 8 16 [[],[aP],[az,az],[az,az,az],[az,az,az,aP],[aP,aP,az,aP,aP],[aP,aP,aP,aP,aP,aP],[az,az,az,az,az,az,az]] [1, 1, 0, 0, 1, 1, 1, 1]
  [.mU (.agg cR.toArray), .minor Nat 0 (fun q => .pointer (some ⟨q, 0, none⟩)) (fun q W => wA.heap.size ≤ q ∧ av W q (aX r)), .pure, .pure, .mU (.int .i64 r.kind), .mU (ae (cK r.kind) (cO r.kind) (cZ r.kind)), .minor Nat 0 (fun q => .pointer (some ⟨q, 0, none⟩)) (fun q W => wA.heap.size ≤ q ∧ ∃ b, wA.heap.size ≤ b ∧ av W b (aX r) ∧ af W q (fE b who r)), .mU (.agg cR.toArray)]
  (fun W => Below wA.heap.size wA W) (fun _ _ => True) (fun a b => Below a.heap.size a b) (by kernel_rfl) (by kernel_rfl) rfl rfl (fun vs a b h hs => trivial) ?_ ?_ ?_ ?_ ?_ ?_
 ·intro a b he hb; exact hb.trans (Below.mono he hb.size)
 ·intro a b he hb; exact hb.trans (Below.mono he hb.size)
 ·have k1 : ∀ (x : Nat) (a b : World), Below a.heap.size a b → (wA.heap.size ≤ x ∧ av a x (aX r)) → wA.heap.size ≤ x ∧ av b x (aX r) := fun x a b he h => ⟨h.1, (he.block _ h.2.lt).trans h.2⟩
  have k2 : ∀ (x : Nat) (a b : World), Below a.heap.size a b → (wA.heap.size ≤ x ∧ ∃ b, wA.heap.size ≤ b ∧ av a b (aX r) ∧ af a x (fE b who r)) → wA.heap.size ≤ x ∧ ∃ c, wA.heap.size ≤ c ∧ av b c (aX r) ∧ af b x (fE c who r) := fun x a b he h => by
   obtain ⟨h1, c, h2, h3, h4⟩ := h
   exact ⟨h1, c, h2, (he.block _ h3.lt).trans h3, (he.block _ h4.lt).trans h4⟩
  exact ⟨⟨fun _ _ _ _ _ => trivial, fun _ _ _ _ _ => trivial⟩, ⟨k1, k1⟩, trivial, trivial, ⟨fun _ _ _ _ _ => trivial, fun _ _ _ _ _ => trivial⟩, ⟨fun _ _ _ _ _ => trivial, fun _ _ _ _ _ => trivial⟩, ⟨k2, k2⟩, ⟨fun _ _ _ _ _ => trivial, fun _ _ _ _ _ => trivial⟩, trivial⟩
 ·exact ⟨rfl, rfl, rfl, Nat.le_refl _, fun _ _ => rfl⟩
 ·trivial
 dsimp only [Reg2.mk, List.zip, List.zipWith, List.take]
 refine Reg2.pm (fun wz hI hF => ?_) (fun r0 => ?_) (by rfl)
 ·have d0 := hld.out wz hI
  go_wp2_with fail
  first | exact ⟨_, rfl, rfl, Reg2.Ext.refl _⟩ | exact ⟨_, rfl, ⟨(), rfl, trivial⟩, Reg2.Ext.refl _⟩
 simp only [Act.put, xA, xB, xC, xD, xE, id]
 refine Reg2.pm (fun wz hI hF => ?_) (fun r1 => ?_) (by rfl)
 ·have hc := ma.out wz
  go_wp2_with fail
  go_at_call 9
  refine hc.mono ?_
  clear hc
  rintro e w2 ⟨b, rfl, hW, hlo, hb⟩
  have hlo2 := hI.size
  go_wp2_with fail
  exact ⟨_, rfl, ⟨b, rfl, by omega, hW⟩, hb⟩
 simp only [Act.put, xA, xB, xC, xD, xE, id]
 repeat ((first
  | (refine' Reg2.aW _ (by rfl) (fun wz => ?_) ?_; rotate_left; (go_simp; first | rfl | rw [if_neg (by omega)]))
  | (refine Reg2.aL (by rfl) (fun wz hI hF => ?_) (fun _ => ?_)
     ·unfold Reg2.One
      have d0 := hki.out wz hI
      go_wp2_with fail
      first | exact ⟨_, rfl, rfl, Reg2.Ext.refl _⟩ | exact ⟨_, rfl, ⟨(), rfl, trivial⟩, Reg2.Ext.refl _⟩)); simp only [Act.put, xA, xB, xC, xD, xE, id])
 refine Reg2.pm (fun wz hI hF => ?_) (fun r5 => ?_) (by rfl)
 ·have hc := dH r.kind wz
  go_wp2_with fail
  go_at_call 7
  refine hc.mono ?_
  clear hc
  rintro e w2 ⟨rfl, hb⟩
  go_wp2_with fail
  first | exact ⟨_, rfl, rfl, hb⟩ | exact ⟨_, rfl, ⟨(), rfl, trivial⟩, hb⟩
 simp only [Act.put, xA, xB, xC, xD, xE, id]
 refine Reg2.pm (fun wz hI hF => ?_) (fun r6 => ?_) (by rfl)
 ·have hW1 := hF.2.1.2
  have hl1 := hF.2.1.1
  have hc := eu r1 who (cK r.kind) (cO r.kind) (cZ r.kind) wz
  replace hW1 := Lib.hid hW1
  clear hF
  go_wp2_with fail
  go_at_call 8
  refine hc.mono ?_
  clear hc
  rintro e w2 ⟨b, rfl, hH, hlo, hb⟩
  have hlo2 := hI.size
  have hW2 : av w2 r1 (aX r) := (hb.block _ hW1.out.lt).trans hW1.out
  go_wp2_with fail
  exact ⟨_, rfl, ⟨b, rfl, by omega, r1, hl1, hW2, hH⟩, hb⟩
 simp only [Act.put, xA, xB, xC, xD, xE, id]
 refine Reg2.pm (fun wz hI hF => ?_) (fun r7 => ?_) (by rfl)
 ·have d0 := hld.out wz hI
  go_wp2_with fail
  first | exact ⟨_, rfl, rfl, Reg2.Ext.refl _⟩ | exact ⟨_, rfl, ⟨(), rfl, trivial⟩, Reg2.Ext.refl _⟩
 simp only [Act.put, xA, xB, xC, xD, xE, id]
 refine Reg2.aZ ?_
 intro w1 HI _ HF
 obtain ⟨pX, b, hlb, jf, hH6⟩ := HF.2.2.2.2.2.2.1
 clear HF hki r0 r5 r7
 dsimp only [List.drop]
 have hc := nS.out w1
 replace jf := Lib.hid jf
 replace hH6 := Lib.hid hH6
 go_wp2_with fail
 go_at_call 42
 refine hc.mono ?_
 clear hc
 rintro e w2 ⟨rfl, hb2⟩
 obtain ⟨y1, y2, y3, y4, y5, y6, y7, y8, y9, hy⟩ : ∃ y1 y2 y3 y4 y5 y6 y7 y8 y9, bg r = ⟨y1, y2, y3, y4, y5, y6, y7, y8, y9⟩ := ⟨_, _, _, _, _, _, _, _, _, rfl⟩
 obtain ⟨w3, hw3⟩ : ∃ w3, w3 = w2.alloc (.cells (Value.pointer (some ⟨r6, 0, none⟩) :: encR (bg r)).toArray 98) := ⟨_, rfl⟩
 have hb3 : Below w2.heap.size w2 w3 := by rw [hw3]; exact (Below.refl _ _).alloc (Nat.le_refl _) _
 have hO3 : dR w3 w2.heap.size r6 (bg r) := by show _ = _; rw [hw3]; exact heap_alloc_new w2 _
 have hH3 : af w3 r6 (fE b who r) := hH6.out.below ((hb2.trans (hb3.mono hb2.size))) hH6.out.lt
 have hW3 : av w3 b (aX r) := ((hb2.trans (hb3.mono hb2.size)).block _ jf.out.lt).trans jf.out
 have hbw : Below w.heap.size w w3 := fD.out.trans ((HI.trans ((hb2.trans (hb3.mono hb2.size)).mono HI.size)).mono fD.out.size)
 have hlo : w.heap.size ≤ w2.heap.size := Nat.le_trans fD.out.size (Nat.le_trans HI.size hb2.size)
 have hs := fD.out.size
 rw [show (Value.pointer (some ⟨r6, 0, none⟩) :: encR (bg r)).toArray = #[.pointer (some ⟨r6, 0, none⟩), .int .i64 y1, .int .i64 y2, .int .i64 y3, .int .i64 y4, .int .i64 y5, .int .i64 y6, .bool y7, .int .i64 y8, .int .i64 y9] by rw [hy]; rfl] at hw3
 rw [hy, show (encR ⟨y1, y2, y3, y4, y5, y6, y7, y8, y9⟩).toArray = #[.int .i64 y1, .int .i64 y2, .int .i64 y3, .int .i64 y4, .int .i64 y5, .int .i64 y6, .bool y7, .int .i64 y8, .int .i64 y9] from rfl]
 rw [hy] at hO3
 replace hy := Lib.hid hy
 replace hO3 := Lib.hid hO3
 replace hH3 := Lib.hid hH3
 replace hW3 := Lib.hid hW3
 replace hbw := Lib.hid hbw
 clear hb2 hb3 HI hld
 obtain rfl := dQ.out
 go_wp2_with fail
 rw [← hw3]
 go_ret
 exact ⟨w2.heap.size, r6, b, rfl, by rw [hy.out]; exact hO3.out, hH3.out, hW3.out, hlo, by omega, by omega, hbw.out⟩
end
end Go.Proofs.YtfmpgdafnlehaaaGreat

namespace Go.Proofs.YtfmpgdafnlehaaaGreat
open Go.RowKit Go.Lib Go.Sort
theorem CW.pE {w w1 : World} {c t d p g a : Nat} {v : Value} {m : Int} {P : Pg} (h : CW w c t d p v g a m P) (blk : ∀ k, bq c t d p v g k → w1.heap[k]? = w.heap[k]?) : CW w1 c t d p v g a m P := by
 obtain ⟨S, aO, ⟨cap, hp1, hp2⟩, hrest⟩ := h.gp
 refine ⟨(blk c (.inl rfl)).trans h.cell, ⟨(blk t (.inr (.inl rfl))).trans h.fB.cell, aI h.fB.own fun k hk => blk k (.inr (.inr (.inr (.inr (.inl hk)))))⟩, (blk d (.inr (.inr (.inl rfl)))).trans h.nodes, S, aO, ⟨cap, (blk p (.inr (.inr (.inr (.inl rfl))))).trans hp1, aI hp2 fun k hk => ?_⟩, hrest⟩
 have e : k = g := by simpa [Value.ownBlock] using hk.symm
 exact blk k (.inr (.inr (.inr (.inr (.inr e)))))
def hK (b : Nat) : Nat → Hd
 | 0 => ⟨b, 1, false, false, true, 0, 2⟩
 | 1 => ⟨b, 1, false, false, true, 1, 3⟩
 | 2 => ⟨b, 1, false, false, true, 3, 2⟩
 | 3 => ⟨b, 1, false, false, true, 4, -1⟩
 | _ => ⟨b, 1, false, false, true, 5, -1⟩
def lK : Nat → Lk
 | 0 => ⟨0, 0, 0, 0⟩
 | 1 => ⟨0, 0, 1, 1⟩
 | 2 => ⟨0, 0, 1, 1⟩
 | _ => ⟨0, 0, 0, 1⟩
def rC : Rq := ⟨12, 0, 0, 0, 0, 0, false, 0, 0⟩
def wC : Wk := { aX rC with rep := ⟨0, 0, 0, 0, 0, 0, 3, 0, 0⟩, left := .nilFunc }
structure mX (B : Nat) (W : World) (b c t d p : Nat) (v : Value) (g s h o k : Nat) : Prop where
 hd : af W h (hK b k)
 lk : ag 29 W s (lK k)
 op : dR W o h rC
 core : k ≤ 1 → SW W b c t d p v g 1 0 (aX rC) (cB (aH 3))
 wk : 2 ≤ k → av W b wC
structure Geo (B b c t d p : Nat) (v : Value) (g s h o : Nat) : Prop where
 lo : ∀ k, bq c t d p v g k → B ≤ k ∧ k < s
 gs : B ≤ s
 gh : s < h
 go : s < o
 gb : s < b
 oN : h ≠ o
 nY : h ≠ b
 nZ : o ≠ b
section
variable {B b c t d p g s h o k : Nat} {v : Value} {W : World}
theorem mf : (⟨0, 0, 0, (cB (aH 3)).now, 0, 0, (cB (aH 3)).f (cB (aH 3)).now, 0, 0⟩ : Ry) = ⟨0, 0, 0, 0, 0, 0, 3, 0, 0⟩ := by
 have h : (cB (aH 3)).f (cB (aH 3)).now = 3 := fC 3 _
 rw [h]; rfl
theorem jZ (G : Geo B b c t d p v g s h o) (C : mX B W b c t d p v g s h o k) (hk : k < 4) (hB : B ≤ W.heap.size) :
 Calls Tryz.prog 15 #[.pointer (some ⟨h, 0, none⟩), .pointer (some ⟨c, 0, none⟩), .pointer (some ⟨s, 0, none⟩)] W fun e w' => e = .returned (.bool (k == 1)) ∧ mX B w' b c t d p v g s h o (k + 1) ∧ Below B W w' := by
 have hne : h ≠ s := by have := G.gh; omega
 have gh := G.gh
 have go := G.go
 have gb := G.gb
 have gs := G.gs
 have oN := G.oN
 have nY := G.nY
 have nZ := G.nZ
 have hq : k = 0 ∨ k = 1 ∨ k = 2 ∨ k = 3 := by omega
 rcases hq with rfl | rfl | rfl | rfl
 ·refine (ik C.hd rfl C.lk (by decide) (show (0 : Int) ≤ 2 ∧ (2 : Int) ≤ 3 by decide) hne).mono ?_
  rintro e w' ⟨rfl, h1, h2, h3⟩
  have hS := C.core (by decide)
  refine ⟨rfl, ⟨h1, h2, (h3.block o C.op.lt (by omega)).trans C.op, fun _ => ⟨(h3.block b hS.wk.lt (by omega)).trans hS.wk, hS.cw.pE fun k hk => h3.block k (hS.cw.lt hk) (by have := (G.lo k hk).2; omega)⟩, fun h => by omega⟩, h3.below (fun k hk => by omega) hB⟩
 ·have hS := C.core (by decide)
  have hst := lU hS (k := 43) (l := true) (L := .nilFunc) rfl rfl (.inl ⟨rfl, rfl⟩) gU (iN hS rfl (by decide) rfl (iM hS (by decide) rfl))
  refine (il C.hd (.inl rfl) (Q := fun w' => av w' b wC ∧ ag 29 w' s (lK 2) ∧ dR w' o h rC ∧ ai (dZ b c t d p v g) W w') true (hst.mono ?_)).mono ?_
  ·rintro e w' ⟨rfl, v', g', hS', hW'⟩
   have nf : ∀ q, s ≤ q → q ≠ b → ¬ dZ b c t d p v g q := fun q h1 h2 h3 => h3.elim h2 fun h3 => by have := (G.lo q h3).2; omega
   refine ⟨rfl, ⟨?_, (hW'.heap C.lk.lt (nf s (Nat.le_refl _) (by omega))).trans C.lk, (hW'.heap C.op.lt (nf o (by omega) nZ)).trans C.op, hW'.off⟩, (hW'.heap C.hd.lt (nf h (by omega) nY)).trans C.hd⟩
   have := hS'.wk
   rw [mf] at this
   exact this
  ·rintro e w' ⟨rfl, w1, ⟨h1, h2, h3, h4⟩, h5, h6⟩
   refine ⟨rfl, ⟨h5, (h6.block s h2.lt (by omega)).trans h2, (h6.block o h3.lt (by omega)).trans h3, fun h => by omega, fun _ => (h6.block b h1.lt (by omega)).trans h1⟩, (h4.below (fun k hk => hk.elim (fun e => by omega) fun hk => (G.lo k hk).1) hB).trans (h6.below (fun k hk => by omega) (Nat.le_trans hB h4.size))⟩
 ·refine (iq C.hd rfl C.lk (show (0 : Int) ≤ 2 ∧ (2 : Int) ≤ 3 by decide) hne).mono ?_
  rintro e w' ⟨rfl, h1, h2, h3⟩
  have hS := C.wk (by decide)
  exact ⟨rfl, ⟨h1, h2, (h3.block o C.op.lt (by omega)).trans C.op, fun h => by omega, fun _ => (h3.block b hS.lt (by omega)).trans hS⟩, h3.below (fun k hk => by omega) hB⟩
 ·refine (iw C.hd rfl _).mono ?_
  rintro e w' ⟨rfl, h1, h3⟩
  have hS := C.wk (by decide)
  exact ⟨rfl, ⟨h1, (h3.block s C.lk.lt (by omega)).trans C.lk, (h3.block o C.op.lt (by omega)).trans C.op, fun h => by omega, fun _ => (h3.block b hS.lt (by omega)).trans hS⟩, h3.below (fun k hk => by omega) hB⟩
theorem fF (w : World) : Calls Tryz.prog 16 #[] w fun e w' => e = .returned (.bool true) ∧ Below w.heap.size w w' := by
 have hc := l9 3 w (by decide) (by decide)
 go_enter Tryz.func16, Tryz.ntmps16
 go_wp2_with fail
 go_at_call 48
 refine hc.mono ?_
 clear hc
 rintro e w1 ⟨c, t, d, p, v, g, rfl, mY, hb1⟩
 have hlt1 : Hid (∀ k, bq c t d p v g k → k < w1.heap.size) := fun k hk => mY.cw.lt hk
 obtain ⟨w2, hw2⟩ : ∃ w2, w2 = w1.alloc (.cells #[.int .i64 0, .int .i64 0, .int .i64 0, .int .i64 0] 29) := ⟨_, rfl⟩
 have hb2 : Below w1.heap.size w1 w2 := by rw [hw2]; exact (Below.refl _ _).alloc (Nat.le_refl _) _
 have hL2 : ag 29 w2 w1.heap.size (lK 0) := by rw [hw2]; exact heap_alloc_new w1 _
 obtain ⟨s, hs⟩ : ∃ s, s = w1.heap.size := ⟨_, rfl⟩
 have hC2 := Lib.hid (mY.cw.kept hb2)
 have hlo := Lib.hid mY.lo
 have hbw : Hid (Below w.heap.size w w2) := hb1.trans (hb2.mono hb1.size)
 have hss : Hid (w.heap.size ≤ s ∧ s < w2.heap.size) := ⟨by rw [hs]; exact hb1.size, by rw [hs]; exact hL2.lt⟩
 have hn := jY rC 1 w2
 rw [show (encR rC).toArray = #[.int .i64 12, .int .i64 0, .int .i64 0, .int .i64 0, .int .i64 0, .int .i64 0, .bool false, .int .i64 0, .int .i64 0] from rfl] at hn
 rw [← hs] at hL2 hlt1
 replace hL2 := Lib.hid hL2
 clear hb2 hb1 mY
 go_wp2_with fail
 rw [← hw2, ← hs]
 replace hw2 := Lib.hid hw2
 replace hs := Lib.hid hs
 go_at_call 49
 refine hn.mono ?_
 clear hn
 rintro e w3 ⟨o, h, b, rfl, hO, hH, hW, lo, lh, lb, hb3⟩
 have G : Geo w.heap.size b c t d p v g s h o := by
  have h1 := hss.out
  refine ⟨fun k hk => ⟨hlo.out k hk, hlt1.out k hk⟩, h1.1, by omega, by omega, by omega, ?_, ?_, ?_⟩
  ·exact Put.bT hH hO (by decide)
  ·exact Put.bT hH hW (by decide)
  ·exact Put.bT hO hW (by decide)
 have C0 : Hid (mX w.heap.size w3 b c t d p v g s h o 0) := ⟨hH, hL2.out.below hb3 hss.out.2, hO, fun _ => ⟨hW, hC2.out.kept hb3⟩, fun h => by omega⟩
 replace G := Lib.hid G
 have hb0 : Hid (Below w.heap.size w w3) := hbw.out.trans (hb3.mono hbw.out.size)
 clear hO hH hW lo lh lb hb3
 go_wp2_with fail
 go_loopw [5, 6] (fun tt ii wr => ∃ k : Nat, k ≤ 4 ∧ ii = .int .i64 k ∧ tt = .int .i64 (if k ≤ 1 then 0 else 1) ∧ Hid (mX w.heap.size wr b c t d p v g s h o k) ∧ Hid (Below w.heap.size w wr)) (fun _ ii _ => 4 - (intOf ii).toNat)
 case atStart => exact ⟨0, by decide, rfl, rfl, C0, hb0⟩
 case round =>
  obtain ⟨k, hk, rfl, rfl, hC, hbr⟩ := hrel
  by_cases h4 : k < 4
  ·have b4 : (k : Int) < 4 := by omega
   have wk : IntKind.i64.wrap ((k : Int) + 1) = (k : Int) + 1 := IntWalk.i64_in _ (by omega)
   have hst := jZ G.out hC.out h4 hbr.out.size
   have hf := dS hC.out.op hC.out.hd
   have hs5 : ((hK b k).st == 5) = false := by
    have : k = 0 ∨ k = 1 ∨ k = 2 ∨ k = 3 := by omega
    rcases this with rfl | rfl | rfl | rfl <;> rfl
   rw [hs5] at hf
   have c0 := hC.out.op.c0
   by_cases h1 : k = 1
   ·subst h1
    go_wp2_with (first | (go_at_call 12; go_must (refine hf.mono ?_); rintro e w' ⟨rfl, rfl⟩) | (go_at_call 15; go_must (refine hst.mono ?_); rintro e w' ⟨rfl, hz⟩; replace hz := Lib.hid hz))
    go_roundw
    case rel => exact ⟨2, by decide, by go_num, by go_num, hz.out.1, hbr.out.trans hz.out.2⟩
    case measure => simp [intOf]
   ·have e1 : (k == 1) = false := by simp [h1]
    rw [e1] at hst
    have e2 : (if k + 1 ≤ 1 then (0 : Int) else 1) = if k ≤ 1 then 0 else 1 := by
     by_cases hk0 : k = 0
     ·subst hk0; rfl
     ·rw [if_neg (by omega), if_neg (by omega)]
    replace e2 := Lib.hid e2
    generalize (if k ≤ 1 then (0 : Int) else 1) = tn at *
    go_wp2_with (first | (go_at_call 12; go_must (refine hf.mono ?_); rintro e w' ⟨rfl, rfl⟩) | (go_at_call 15; go_must (refine hst.mono ?_); rintro e w' ⟨rfl, hz⟩; replace hz := Lib.hid hz))
    go_roundw
    case rel => exact ⟨k + 1, by omega, by go_num, by rw [e2.out], hz.out.1, hbr.out.trans hz.out.2⟩
    case measure => simp [intOf]; omega
  ·obtain rfl : k = 4 := by omega
   have hf := dS hC.out.op hC.out.hd
   rw [show ((hK b 4).st == 5) = true from rfl] at hf
   have c0 := hC.out.op.c0
   have d0 := hC.out.hd.c0
   have hr := jW (hC.out.wk (by decide))
   have e1 : ∀ W, Sem.run Tryz.prog (Instr.field 71 (.agg #[.int .i64 0, .int .i64 0, .int .i64 0, .int .i64 0, .int .i64 0, .int .i64 0, .int .i64 3, .int .i64 0, .int .i64 0]) 6) W = .ok (.int .i64 3) W := fun W => by kernel_rfl
   rw [show (lS wC.rep).toArray = #[.int .i64 0, .int .i64 0, .int .i64 0, .int .i64 0, .int .i64 0, .int .i64 0, .int .i64 3, .int .i64 0, .int .i64 0] from rfl] at hr
   go_wp2_with (first
    | (go_at_call 12; go_must (refine hf.mono ?_); rintro e w' ⟨rfl, rfl⟩)
    | (go_at_call 50; go_must (refine hr.mono ?_); rintro e w4 ⟨rfl, hb4⟩
       have hi := kH (hC.out.lk.below hb4 hC.out.lk.lt)
       rw [show (lK 4).free = true from rfl] at hi
       have hnd := dH 12 w4)
    | (go_at_call 51; go_must (refine hi.mono ?_); rintro e w' ⟨rfl, rfl⟩)
    | (go_at_call 7; go_must (refine hnd.mono ?_); rintro e w5 ⟨rfl, hb5⟩
       have hsp := jX (cK 12) (cO 12) (cZ 12) w5)
    | (go_at_call 52; go_must (refine hsp.mono ?_); rintro e w6 ⟨rfl, hb6⟩))
   go_ret
   exact ⟨rfl, hbr.out.trans ((hb4.trans ((hb5.trans (hb6.mono hb5.size)).mono hb4.size)).mono hbr.out.size)⟩
end
end Go.Proofs.YtfmpgdafnlehaaaGreat

namespace Go.Proofs.YtfmpgdafnlehaaaGreat
open Go.RowKit Go.Lib Go.Sort
theorem gV (x y z : Bool) (b : Nat) (who : Int) : (kX b who x y z).st = if dx x y z = 0 then 1 else 0 := by
 cases x <;> cases y <;> cases z <;> rfl
theorem mg (w : World) : Sem.run Tryz.prog (binOp .eql 23 (.agg #[.int .i64 0, .int .i64 0, .int .i64 0, .int .i64 0, .int .i64 0, .int .i64 0, .bool false, .int .i64 0, .int .i64 0]) (.agg #[.int .i64 0, .int .i64 0, .int .i64 0, .int .i64 0, .int .i64 0, .int .i64 0, .bool false, .int .i64 0, .int .i64 0])) w = .ok (.bool true) w := by
 have h := ll ⟨0, 0, 0, 0, 0, 0, false, 0, 0⟩ ⟨0, 0, 0, 0, 0, 0, false, 0, 0⟩ w
 rw [decide_eq_true rfl] at h
 exact h
theorem mh (w : World) : Calls Tryz.prog 13 #[.pointer none] w fun e w' => e = .returned (.agg #[.int .i64 0, .int .i64 0, .int .i64 0, .int .i64 0, .int .i64 0, .int .i64 0, .bool false, .int .i64 0, .int .i64 0]) ∧ Below w.heap.size w w' := by
 go_enter Tryz.func13, Tryz.ntmps13
 go_wp2_with fail
 exact ah rfl rfl rfl (heap_alloc_new w _) Tryz.underlying23 rfl (by kernel_rfl) ⟨rfl, (Below.refl _ _).alloc (Nat.le_refl _) _⟩
theorem j4 (r : Rq) (w : World) : Calls Tryz.prog 3 #[.agg (encR r).toArray] w fun e w' => e = .returned (.bool true) ∧ Below w.heap.size w w' := by
 have zR := gM
 have lR := dX r
 obtain ⟨k9, dQ⟩ : ∃ k, k = 9 := ⟨_, rfl⟩
 rw [← dQ] at zR lR
 have hk0 : ¬ k9 = 0 := by omega
 replace dQ := Lib.hid dQ
 obtain ⟨wA, bH⟩ : ∃ wA, wA = (w.alloc (.cells (encR r).toArray 23)).alloc (.cells #[.int .i64 0, .int .i64 0, .int .i64 0, .int .i64 0] 29) := ⟨_, rfl⟩
 have fD : Hid (Below w.heap.size w wA) := by show Below _ _ _; rw [bH]; exact ((Below.refl _ _).alloc (Nat.le_refl _) _).alloc (by simp) _
 have fJ : wA.heap[w.heap.size]? = some (.cells (encR r).toArray 23 (0, 0)) := by rw [bH]; exact au (heap_alloc_new w _)
 have oO : Hid (ag 29 wA (w.heap.size + 1) ⟨0, 0, 0, 0⟩) := by show ag _ _ _ _; rw [bH]; exact heap_alloc2_new w _ _
 have hlA : Hid (w.heap.size < wA.heap.size) := aD fJ
 have hz := Lib.hid fJ
 have hki : wA.cell? ⟨w.heap.size, 0, none⟩ = some (.int .i64 r.kind) := fu fJ 0 _ rfl
 have j5 := dH r.kind wA
 have ma := Lib.hid (eB r)
 clear fJ
 obtain ⟨x, hx⟩ : ∃ x, x = cK r.kind := ⟨_, rfl⟩
 obtain ⟨y, hy⟩ : ∃ y, y = cO r.kind := ⟨_, rfl⟩
 obtain ⟨z, hzz⟩ : ∃ z, z = cZ r.kind := ⟨_, rfl⟩
 rw [← hx, ← hy, ← hzz] at j5
 clear hx hy hzz
 obtain ⟨cR, hcR⟩ : ∃ cR, cR = encR r := ⟨_, rfl⟩
 rw [← hcR] at hz lR ma bH ⊢
 replace hcR := Lib.hid hcR
 unfold ae at j5
 rw [bH] at hki j5
 go_enter Tryz.func3, Tryz.ntmps3
 go_wp2_with fail
 rw [← bH] at hki j5 ⊢
 replace bH := Lib.hid bH
 go_at_call 7
 refine j5.mono ?_
 clear j5 hki
 rintro e w1 ⟨rfl, hb1⟩
 obtain ⟨w2, hw2⟩ : ∃ w2, w2 = w1.alloc (.cells #[.bool x, .bool y, .bool z] 31) := ⟨_, rfl⟩
 have hb2 : Below w1.heap.size w1 w2 := by rw [hw2]; exact (Below.refl _ _).alloc (Nat.le_refl _) _
 have hq2 : w2.heap[w1.heap.size]? = some (.cells #[.bool x, .bool y, .bool z] 31 (0, 0)) := by rw [hw2]; exact heap_alloc_new w1 _
 have jl : Hid (Below wA.heap.size wA w2) := hb1.trans (hb2.mono hb1.size)
 have hz2 := Lib.hid ((jl.out.block _ hlA.out).trans hz.out)
 have hL2 := Lib.hid (oO.out.below jl.out oO.out.lt)
 obtain ⟨q, hq⟩ : ∃ q, q = w1.heap.size := ⟨_, rfl⟩
 rw [← hq] at hq2
 replace hq2 := Lib.hid hq2
 clear hb1 hb2 hz
 go_wp2_with fail
 rw [← hw2, ← hq]
 replace hw2 := Lib.hid hw2
 replace hq := Lib.hid hq
 refine Reg2.mO 3 59 [[],[aP],[az,az]] [1, 1, 1]
  [.mU (.agg cR.toArray), .minor Nat 0 (fun q => .pointer (some ⟨q, 0, none⟩)) (fun q W => w2.heap.size ≤ q ∧ av W q (aX r)), .mU (.agg #[.bool x, .bool y, .bool z])]
  (fun W => Below w2.heap.size w2 W) (fun _ _ => True) (fun a b => Below a.heap.size a b) (by kernel_rfl) (by kernel_rfl) rfl rfl (fun vs a b h hs => trivial) ?_ ?_ ?_ ?_ ?_ ?_
 ·intro a b he hb; exact hb.trans (Below.mono he hb.size)
 ·intro a b he hb; exact hb.trans (Below.mono he hb.size)
 ·have k1 : ∀ (x : Nat) (a b : World), Below a.heap.size a b → (w2.heap.size ≤ x ∧ av a x (aX r)) → w2.heap.size ≤ x ∧ av b x (aX r) := fun x a b he h => ⟨h.1, (he.block _ h.2.lt).trans h.2⟩
  exact ⟨⟨fun _ _ _ _ _ => trivial, fun _ _ _ _ _ => trivial⟩, ⟨k1, k1⟩, ⟨fun _ _ _ _ _ => trivial, fun _ _ _ _ _ => trivial⟩, trivial⟩
 ·exact ⟨rfl, rfl, rfl, Nat.le_refl _, fun _ _ => rfl⟩
 ·trivial
 dsimp only [Reg2.mk, List.zip, List.zipWith, List.take]
 refine Reg2.pm (fun wz hI hF => ?_) (fun r0 => ?_) (by rfl)
 ·have d0 := ed ((hI.block _ (aD hz2.out)).trans hz2.out) lR
  go_wp2_with fail
  first | exact ⟨_, rfl, rfl, Reg2.Ext.refl _⟩ | exact ⟨_, rfl, ⟨(), rfl, trivial⟩, Reg2.Ext.refl _⟩
 simp only [Act.put, xA, xB, xC, xD, xE, id]
 refine Reg2.pm (fun wz hI hF => ?_) (fun r1 => ?_) (by rfl)
 ·have hc := ma.out wz
  go_wp2_with fail
  go_at_call 9
  refine hc.mono ?_
  clear hc
  rintro e w5 ⟨b, rfl, hW, hlo, hb⟩
  have hlo2 := hI.size
  go_wp2_with fail
  exact ⟨_, rfl, ⟨b, rfl, by omega, hW⟩, hb⟩
 simp only [Act.put, xA, xB, xC, xD, xE, id]
 refine Reg2.pm (fun wz hI hF => ?_) (fun r2 => ?_) (by rfl)
 ·have hX := (hI.block _ (aD hq2.out)).trans hq2.out
  have d0 : wz.cell? ⟨q, 0, none⟩ = some (.bool x) := by simp [World.cell?, hX]
  have d1 : wz.cell? ⟨q, 1, none⟩ = some (.bool y) := by simp [World.cell?, hX]
  have d2 : wz.cell? ⟨q, 2, none⟩ = some (.bool z) := by simp [World.cell?, hX]
  clear hX
  go_wp2_with fail
  first | exact ⟨_, rfl, rfl, Reg2.Ext.refl _⟩ | exact ⟨_, rfl, ⟨(), rfl, trivial⟩, Reg2.Ext.refl _⟩
 simp only [Act.put, xA, xB, xC, xD, xE, id]
 refine Reg2.aZ ?_
 intro w3 HI _ HF
 obtain ⟨hl1, jf⟩ := HF.2.1
 clear HF r0 r2
 dsimp only [List.drop]
 have og := eu r1 1 x y z w3
 unfold ae at og
 replace jf := Lib.hid jf
 go_wp2_with fail
 go_at_call 8
 refine og.mono ?_
 clear og
 rintro e w4 ⟨h, rfl, hH, hlo, hb4⟩
 have jm : Hid (Below w2.heap.size w2 w4) := HI.trans (hb4.mono HI.size)
 have hX := (jm.out.block _ (aD hq2.out)).trans hq2.out
 have d0 : w4.cell? ⟨q, 0, none⟩ = some (.bool x) := by simp [World.cell?, hX]
 have d1 : w4.cell? ⟨q, 1, none⟩ = some (.bool y) := by simp [World.cell?, hX]
 have d2 : w4.cell? ⟨q, 2, none⟩ = some (.bool z) := by simp [World.cell?, hX]
 have hln := jg x y z w4
 have hfs := gV x y z r1 1
 unfold ae at hln
 have hr : 0 ≤ dx x y z ∧ dx x y z ≤ 3 := by cases x <;> cases y <;> cases z <;> decide
 generalize dx x y z = n at *
 replace hH := Lib.hid hH
 clear hX hb4 HI
 go_wp2_with fail
 go_at_call 10
 refine hln.mono ?_
 clear hln d0 d1 d2
 rintro e w5 ⟨rfl, hb5⟩
 have ny : Hid (Below w2.heap.size w2 w5) := jm.out.trans (hb5.mono jm.out.size)
 have jo : Hid (Below w.heap.size w w5) := fD.out.trans ((jl.out.trans (ny.out.mono jl.out.size)).mono fD.out.size)
 have hst := bC (hH.out.below hb5 hH.out.lt)
 rw [hfs] at hst
 have hL5 := hL2.out.below ny.out hL2.out.lt
 have hrn := mh w5
 have hqe := mg
 clear hb5 jm hH
 by_cases h0 : n = 0
 ·subst h0
  rw [if_pos rfl] at hst
  go_wp2_with (first
   | (go_at_call 11; refine hst.mono ?_; rintro e w' ⟨rfl, rfl⟩; clear hst)
   | (go_at_call 11; go_must (refine (bU _).mono ?_); rintro e w' ⟨rfl, rfl⟩)
   | (go_at_call 12; go_must (refine (dC _).mono ?_); rintro e w' ⟨rfl, rfl⟩)
   | (go_at_call 13; go_must (refine hrn.mono ?_); rintro e w6 ⟨rfl, hb6⟩
      have hrn := fF w6)
   | (go_at_call 14; go_must (refine (fo _ _).mono ?_); rintro e w' ⟨rfl, rfl⟩)
   | (go_at_call 15; go_must (refine (fq _ _ _).mono ?_); rintro e w' ⟨rfl, rfl⟩)
   | (go_at_call 16; go_must (refine hrn.mono ?_); rintro e w7 ⟨rfl, oh⟩))
  go_ret
  exact ⟨rfl, jo.out.trans ((hb6.trans (oh.mono hb6.size)).mono jo.out.size)⟩
 ·have d0 : (n == 0) = false := by simp [h0]
  rw [if_neg h0] at hst
  go_wp2_with (first
   | (go_at_call 11; refine hst.mono ?_; rintro e w' ⟨rfl, rfl⟩; clear hst)
   | (go_at_call 11; go_must (refine (bU _).mono ?_); rintro e w' ⟨rfl, rfl⟩)
   | (go_at_call 12; go_must (refine (dC _).mono ?_); rintro e w' ⟨rfl, rfl⟩)
   | (go_at_call 13; go_must (refine hrn.mono ?_); rintro e w6 ⟨rfl, hb6⟩
      have hrn := fF w6)
   | (go_at_call 14; go_must (refine (fo _ _).mono ?_); rintro e w' ⟨rfl, rfl⟩)
   | (go_at_call 15; go_must (refine (fq _ _ _).mono ?_); rintro e w' ⟨rfl, rfl⟩)
   | (go_at_call 16; go_must (refine hrn.mono ?_); rintro e w7 ⟨rfl, oh⟩))
  go_ret
  exact ⟨rfl, jo.out.trans ((hb6.trans (oh.mono hb6.size)).mono jo.out.size)⟩
theorem mi (r : Rq) (w : World) (_ : kZ r) : Calls Tryz.prog 3 #[.agg (encR r).toArray] w fun e w' => e = .returned (.bool true) ∧ Below w.heap.size w w' := j4 r w
end Go.Proofs.YtfmpgdafnlehaaaGreat


namespace Go.Proofs.YtfmpgdafnlehaaaGreat.opNobody
open Go.ChangeShapes Go.WideShapes Go.ChangeAt Go.RowKit
theorem own : ownKnob Tryz.prog.godebug = none := by kernel_rfl
theorem laid : laidOutB Tryz.prog = true := by kernel_rfl
theorem readable : (Tryz.f3.params.toList.all fun t => Tryz.prog.readableRec t && decide (t < Tryz.prog.types.size)) = true := by kernel_rfl
theorem lifted (os : Os) (started : os.Started) (H : Type) (enc : TypeId × Value → H) :
 ReturnsInHanded {} Tryz.checked os 3 .any (Rows.opNobodySpec.pre6 enc Tryz.prog Tryz.f3 Rows.opNobodyRow.domain false) (Rows.opNobodySpec.post enc Tryz.prog Tryz.f3 false true false false) := by
 refine returnsInHanded_of_change (C := Tryz.checked) own started (by kernel_rfl) Tryz.func3
  (ChangeSpec.witness6 (enc := enc) (C := Tryz.checked) false ⟨#[], #[.agg #[.int .i64 0, .int .i64 0, .int .i64 0, .int .i64 0, .int .i64 0, .int .i64 0, .bool false, .int .i64 0, .int .i64 0]], []⟩ 8 (by kernel_rfl) (by kernel_rfl) (by kernel_rfl) (by kernel_rfl)) ?_
 intro W base args ds gs before hval0 hW hcnd _
 have hval : ∀ (j : Nat) t v, Tryz.f3.params[j]? = some t → args[j]? = some v → Value.okWide Tryz.prog W .any base t v := hval0
 have hW' := hW
 obtain ⟨p, q, oP, hV, hpq, hfz, hnd⟩ := hW
 have hA : DataW.TrodAll enc Tryz.prog W 0 (fun _ => true) true Tryz.f3.params.toList args.toList ds p := oP
 rw [Tryz.params3] at hA hval
 obtain ⟨v0, pY, d0, ds0, p0, q0, hargs, rfl, rfl, h0, r0⟩ := trodAll_cons hA
 obtain ⟨rfl, rfl, rfl⟩ := trodAll_nil r0
 obtain rfl : args = #[v0] := by cases args; simp_all
 obtain ⟨rfl, rfl⟩ := trodVars_none hV
 obtain ⟨l0, rfl, hf0⟩ := jN (hval 0 23 v0 rfl rfl) h0
 clear oP hval0
 refine (mi l0 W hf0).mono fun e W' ⟨he, hg⟩ => ?_
 subst he
 exact ⟨_, rfl, jq hW' rfl rfl rfl Tryz.underlying4 laid (mo readable) hg⟩
theorem over : Rows.opNobodyRow.holds Tryz.pinned (OpenSpec.ofChange Rows.opNobodySpec) :=
 OpenClaim.holds_of_wide 3 Tryz.f3 rfl rfl rfl rfl rfl rfl rfl ⟨rfl, rfl, rfl, rfl, rfl⟩ rfl rfl rfl rfl rfl (by kernel_rfl) Tryz.func3 (by kernel_rfl)
  (of_decide_eq_true (by kernel_rfl)) (by unfold Func.isWrapper; first | (rw [if_pos (by decide +kernel)]; kernel_rfl) | (rw [if_neg (by decide +kernel)]; exact ⟨rfl, rfl⟩))
  (fun os started H enc _ => lifted os started H enc)
theorem proved : Rows.OpNobodySaid := over
#print axioms proved
end Go.Proofs.YtfmpgdafnlehaaaGreat.opNobody
