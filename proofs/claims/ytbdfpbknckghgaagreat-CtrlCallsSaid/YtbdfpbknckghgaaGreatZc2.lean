/-
 Own words and walks, merged: part 2 of 4.
-/
import Derived.WalkKit
import Derived.Test.YtbdfpbknckghgaaGreatChecked
import Derived.WalkSpells
import Derived.WalkLawsBesides
import Derived.Deep.DeepMust
import Derived.Lib.Hide
import Derived.LaidEql
import Derived.Laws.StructEq
import Derived.Shelf.SlicesQ.Load
import Derived.Test.YtbdfpbknckghgaaGreatRows
import Derived.ProofKit
import Derived.OpenShut
import Derived.BigRegion
import Derived.BigQuiet
import Derived.Shelf.GgSortFunc.RowK
import Derived.Carry
import Derived.Test.YtbdfpbknckghgaaGreatZc1
set_option maxRecDepth 1000000
set_option maxHeartbeats 8000000
set_option linter.all false
namespace Go.Proofs.YtbdfpbknckghgaaGreat
theorem mE {p : Prop} (f : p := by
 simp only [h1, h2, if_true, if_false, xE, xD, List.cons.injEq] at h
 have := congrArg UInt8.toNat h.1
 rw [aX (by omega), aX (by omega)] at this
 omega) : p := f
theorem mF {p : Prop} (f : p := by
 have := congrArg UInt8.toNat h.1
 rw [aX (by omega), aX (by omega)] at this
 exact ⟨this, h.2⟩) : p := f
end Go.Proofs.YtbdfpbknckghgaaGreat
namespace Go.Proofs.YtbdfpbknckghgaaGreat
def bW (n : Nat) : UInt8 := UInt8.ofNat n
theorem aX {n : Nat} (h : n < 256) : (bW n).toNat = n := by unfold bW; simp; omega
def encF : Nat → Nat → List UInt8
 | 0, u => [bW u]
 | f + 1, u => if u < 128 then [bW u] else bW (u % 128 + 128) :: encF f (u / 128)
def enc (u : Nat) : List UInt8 := encF 9 u
theorem eO (f : Nat) : ∀ u, 1 ≤ (encF f u).length ∧ (encF f u).length ≤ f + 1 := by
 induction f with
 | zero => intro u; simp [encF]
 | succ f ih =>
   intro u
   unfold encF
   split
   ·simp
   ·have := ih (u / 128); simp only [List.length_cons]; omega
theorem fE (u : Nat) : 1 ≤ (enc u).length ∧ (enc u).length ≤ 10 := eO 9 u
def zg (v : Int) : Nat := if v < 0 then (-2 * v - 1).toNat else (2 * v).toNat
theorem kH {v : Int} (h : -9223372036854775808 ≤ v ∧ v ≤ 9223372036854775807) : zg v < 18446744073709551616 := by unfold zg; split <;> omega
theorem yB {v w : Int} (h : zg v = zg w) : v = w := by unfold zg at h; split at h <;> split at h <;> omega
def bv (l : List UInt8) : List Value := l.map fun c => Value.int .u8 (c.toNat : Int)
theorem iG (a b : List UInt8) : bv (a ++ b) = bv a ++ bv b := by simp [bv]
theorem qI (a : List UInt8) : (bv a).length = a.length := by simp [bv]
def str (l : List UInt8) : ByteArray := ⟨l.toArray⟩
theorem oq (f : Nat) : ∀ u v (s t : List UInt8), u < 128 ^ (f + 1) → v < 128 ^ (f + 1) → encF f u ++ s = encF f v ++ t → u = v ∧ s = t := by
 induction f with
 | zero =>
   intro u v s t hu hv h
   simp [encF] at h hu hv
   exact mF
 | succ f ih =>
   intro u v s t hu hv h
   unfold encF at h
   by_cases h1 : u < 128 <;> by_cases h2 : v < 128
   ·simp only [h1, h2, if_true, xE, xD, List.cons.injEq] at h
    exact mF
   ·exact mE
   ·exact mE
   ·simp only [h1, h2, if_false, xE, List.cons.injEq] at h
    have := congrArg UInt8.toNat h.1
    rw [aX (by omega), aX (by omega)] at this
    have hp : 128 ^ (f + 1 + 1) = 128 ^ (f + 1) * 128 := Nat.pow_succ ..
    have hx := ih (u / 128) (v / 128) s t (by omega) (by omega) h.2
    exact ⟨by omega, hx.2⟩
theorem pR {u v : Nat} {s t : List UInt8} (hu : u < 18446744073709551616) (hv : v < 18446744073709551616) (h : enc u ++ s = enc v ++ t) : u = v ∧ s = t :=
 oq 9 u v s t (by omega) (by omega) h
theorem iH {f u : Nat} (h : 128 ≤ u) : encF (f + 1) u = bW (u % 128 + 128) :: encF f (u / 128) := by rw [encF, if_neg (by omega)]
theorem iI {f u : Nat} (h : u < 128) : encF f u = [bW u] := by cases f <;> simp [encF, h]
theorem kI {f u : Nat} (hu : u < 128 ^ (f + 1)) (h : 128 ≤ u) : 1 ≤ f := by
 cases f with
 | zero => simp at hu; omega
 | succ f => omega
end Go.Proofs.YtbdfpbknckghgaaGreat

namespace Go.Proofs.YtbdfpbknckghgaaGreat
open Go.RowKit Go.Lib
open Go.ChangeShapes Go.WideShapes Go.ChangeAt Go.Deep
structure Ry where
 err : Int
 id : Int
 state : Int
 start : Int
 stop : Int
 plan : Int
 a : Int
 b : Int
 c : Int
deriving DecidableEq
def aI (r : Ry) : List Value := [.int .i64 r.err, .int .i64 r.id, .int .i64 r.state, .int .i64 r.start, .int .i64 r.stop, .int .i64 r.plan, .int .i64 r.a, .int .i64 r.b, .int .i64 r.c]
theorem mG (r : Ry) : (aI r).length = 9 := rfl
theorem mH (r : Ry) : ∀ v ∈ aI r, v.oneCell' = true := by
 intro v hv
 simp [aI] at hv
 rcases hv with rfl | rfl | rfl | rfl | rfl | rfl | rfl | rfl | rfl <;> rfl
theorem aZ {W : World} {p : Nat} {x : Ry} (h : W.heap[p]? = some (.cells (aI x).toArray 44 (0, 0))) : ∀ j u, (aI x)[j]? = some u → W.cell? ⟨p, j, none⟩ = some u := by
 intro j u hj
 simp [World.cell?, h, hj]
theorem vV {W : World} {p k : Nat} {x : Ry} (h : W.heap[p]? = some (.cells (aI x).toArray 44 (0, 0))) (hk : (aI x).length = k) : Sem.run Tryz.prog (loadCellsFrom ⟨p, 0, none⟩ 0 k #[]) W = .ok (aI x).toArray W := by
 refine run_loadCellsFrom_list Tryz.prog W _ _ k hk fun j u hj => ?_
 rw [Go.WideShapes.add_plain]
 simpa using aZ h j u hj
section
end
theorem pU (x y : Ry) (w : World) : (Op.equalIn 10000 44 (.agg (aI x).toArray) (.agg (aI y).toArray)).run Tryz.prog w = .ok (decide (x = y)) w := by
 have u2 := Tryz.underlying2
 have a2 := Tryz.isAgg2
 have z2 := Tryz.sizeOf2
 have u3 := Tryz.underlying3
 have a3 := Tryz.isAgg3
 have z3 := Tryz.sizeOf3
 have u4 := Tryz.underlying24
 have a4 := Tryz.isAgg24
 have z4 := Tryz.sizeOf24
 have hS : Tryz.prog.underlying 44 = some (.struct (Tryz.prog.fieldsOf 44)) := by kernel_rfl
 have hp : Tryz.prog.stoodInHeld 44 = false := by kernel_rfl
 rw [show (10000 : Nat) = 9999 + 1 from rfl, run_equalIn_agg w 9999 44 _ _ hS hp]
 simp only [Program.fieldsOf, Tryz.underlying44]
 obtain ⟨x1, x2, x3, x4, x5, x6, x7, x8, x9⟩ := x
 obtain ⟨y1, y2, y3, y4, y5, y6, y7, y8, y9⟩ := y
 simp only [aI]
 go_simp
 exact mq
end Go.Proofs.YtbdfpbknckghgaaGreat

namespace Go.Proofs.YtbdfpbknckghgaaGreat
theorem mI {p : Prop} (f : p := by
 apply Nat.eq_of_testBit_eq
 intro j
 rw [Nat.testBit_xor, Nat.testBit_two_pow_sub_one, show 2 ^ 64 - 1 - q = 2 ^ 64 - (q + 1) by omega, Nat.testBit_two_pow_sub_succ hlt]
 by_cases hj : j < 64
 ·simp [hj]
 ·simp [hj]
  exact Nat.testBit_lt_two_pow (Nat.lt_of_lt_of_le hlt (Nat.pow_le_pow_right (by decide) (by omega)))) : p := f
theorem mJ {p : Prop} (f : p := by
 have hfin : Below base w w1 := ((Below.refl _ _).alloc hbase _).trans hb1
 clear hown1 hb1
 go_wp2
 go_ret
 exact ⟨v', rfl, hby, hfin⟩) : p := f
theorem jD {p : Prop} (f : p := by
 rw [iG, List.length_append]
 exact hown1) : p := f
end Go.Proofs.YtbdfpbknckghgaaGreat
namespace Go.Proofs.YtbdfpbknckghgaaGreat
open Go.RowKit
theorem qJ : (Tryz.prog.info? 5).map (fun i => (i.zero, i.size, i.bytes)) = some (some (.int .u8 0), 1, 1) := by kernel_rfl
def aJ (w : World) (base : Nat) (v : Value) (l : List UInt8) : Prop := Buf w base 5 1 v l.length (bv l)
def dV (w : World) (base : Nat) (v : Value) (l : List UInt8) : Prop := w.ownsRow base 5 1 v l.length (bv l)
theorem tC {u : Nat} : bits .or .u8 (IntKind.u8.wrap (u : Int)) 128 = ((bW (u % 128 + 128)).toNat : Int) := by
 rw [IntKind.wrap_u8', u8_or _ _ (by omega) (by omega) (by omega) (by omega), aX (by omega)]
 have e1 : ((u : Int) % 256).toNat = u % 256 := by omega
 have e2 : (128 : Int).toNat = 128 := rfl
 rw [e1, e2, show u % 256 = u % 256 / 128 * 128 + u % 128 by omega]
 have h2 : u % 256 / 128 = 0 ∨ u % 256 / 128 = 1 := by omega
 rcases h2 with h2 | h2
 ·rw [h2, Nat.or_comm, nat_join 7 128 _ rfl (by omega)]; omega
 ·rw [h2]
  have e3 : 1 * 128 + u % 128 = 128 ||| (u % 128) := (nat_join 7 128 _ rfl (by omega)).symm
  rw [e3, Nat.or_comm, ← Nat.or_assoc, Nat.or_self, nat_join 7 128 _ rfl (by omega)]; omega
theorem vW (u : Nat) (hu : u < 18446744073709551616) (l : List UInt8) (v : Value) (base : Nat) (w : World) (hb : aJ w base v l) (hl : l.length ≤ 1000000) (hbase : base ≤ w.heap.size) :
 Calls Tryz.prog 146 #[v, .int .u64 u] w fun e w' => ∃ v', e = .returned v' ∧ dV w' base v' (l ++ enc u) ∧ Below base w w' := by
 obtain ⟨i0, hi, hz0, hz1, hz2⟩ := info_parts qJ
 go_enter Tryz.func146, Tryz.ntmps146
 go_wp2
 go_loopw [0, 1] (fun b q wr => ∃ (f : Nat) (c : List UInt8) (x : Nat), q = .int .u64 x ∧ Hid (x < 128 ^ (f + 1)) ∧ Hid (x < 18446744073709551616) ∧ c.length + (encF f x).length ≤ l.length + 10 ∧ aJ wr base b c ∧ Hid (c ++ encF f x = l ++ enc u) ∧ base ≤ wr.heap.size ∧ Below base w wr) (fun _ q _ => (intOf q).toNat)
 case atStart =>
  refine ⟨9, l, u, rfl, (by omega : u < 128 ^ (9 + 1)), hu, ?_, hb, rfl, hbase, Below.refl _ _⟩
  have := eO 9 u; omega
 case round =>
  obtain ⟨f, c, x, rfl, hx, hxu, hc, hbuf, henc, hwb, hbel⟩ := hrel
  have hln := eO f x
  clear hu
  by_cases hlt : 128 ≤ x
  ·have hf := kI hx.out hlt
   obtain ⟨f, rfl⟩ : ∃ g, f = g + 1 := ⟨f - 1, by omega⟩
   have hlow : Hid _ := tC (u := x)
   have hst : Hid _ := iH (f := f) hlt
   go_wp2_with (at_builtin; go_must (refine bH _ rfl (.tmp 9) (.tmp 13) 22 rfl base 5 i0 (.int .u8 0) 1 1 Tryz.underlying22 hi hz0 hz1 hz2 rfl (by decide) u0 c.length (bv c) rfl (Buf.alloc hbuf _) ⟨wr.heap.size, 0, none⟩ 1 1 [.int .u8 (bits .or .u8 (IntKind.u8.wrap (x : Int)) 128)] rfl rfl (cell_one_new _ _ _) ?c1 (by omega) ?c2 ?c3 ?c4 ?c5))
   case c5 =>
    intro v' w1 hown1 hb1
    have hby : Hid (dV w1 base v' (c ++ [bW (x % 128 + 128)])) := by
     show w1.ownsRow _ _ _ _ _ _
     rw [iG, List.length_append]
     rw [hlow.out] at hown1
     exact hown1
    have hs1 := hb1.size
    simp only [World.size_alloc] at hs1
    go_wp2
    go_roundw
    case rel =>
     have h1 := hx.out
     have h2 := hxu.out
     have h3 := hst.out
     have h4 : (encF (f + 1) x).length = (encF f (x / 128)).length + 1 := by rw [h3]; rfl
     have hp : 128 ^ (f + 1 + 1) = 128 ^ (f + 1) * 128 := Nat.pow_succ ..
     have hq : 0 < 128 ^ (f + 1) := Nat.pow_pos (by decide)
     refine ⟨f, c ++ [bW (x % 128 + 128)], x / 128, by go_num, (by omega : x / 128 < 128 ^ (f + 1)), (by omega : x / 128 < 18446744073709551616), ?_, Or.inl hby.out, ?_, by omega, ?_⟩
     ·simp only [List.length_append, List.length_cons, List.length_nil]; omega
     ·show c ++ [bW (x % 128 + 128)] ++ encF f (x / 128) = l ++ enc u
      rw [← henc.out, h3, List.append_assoc]; rfl
     ·exact (hbel.alloc hwb _).trans hb1
    case measure => simp [intOf]; omega
   case c1 => simp [Value.oneCell']
   case c2 => unfold maxLen; omega
   case c3 => omega
   case c4 => simp; omega
  ·have hst : Hid (encF f x = [bW x]) := iI (by omega)
   have hlow : Hid ((x : Int) = ((bW x).toNat : Int)) := by
    show _ = _
    rw [aX (by omega)]
   go_wp2_with (at_builtin; go_must (refine bH _ rfl (.tmp 15) (.tmp 18) 22 rfl base 5 i0 (.int .u8 0) 1 1 Tryz.underlying22 hi hz0 hz1 hz2 rfl (by decide) u0 c.length (bv c) rfl (Buf.alloc hbuf _) ⟨wr.heap.size, 0, none⟩ 1 1 [.int .u8 (x : Int)] rfl rfl ?d0 ?d1 (by omega) ?d2 ?d3 ?d4 ?d5))
   case d5 =>
    intro v' w1 hown1 hb1
    have hby : dV w1 base v' (l ++ enc u) := by
     rw [← henc.out, hst.out]
     show w1.ownsRow _ _ _ _ _ _
     rw [iG, List.length_append]
     rw [hlow.out] at hown1
     exact hown1
    have hfin : Below base w w1 := (hbel.alloc hwb _).trans hb1
    clear hown1 hb1
    go_wp2
    go_ret
    exact ⟨v', rfl, hby, hfin⟩
   case d0 => exact cell_one_new _ _ _
   case d1 => simp [Value.oneCell']
   case d2 => unfold maxLen; omega
   case d3 => omega
   case d4 => simp; omega
theorem dV.buf {w : World} {base : Nat} {v : Value} {l : List UInt8} (h : dV w base v l) : aJ w base v l := Or.inl h
theorem tF (v : Int) (w : World) (hv : -9223372036854775808 ≤ v ∧ v ≤ 9223372036854775807) :
 Calls Tryz.prog 147 #[.int .i64 v] w fun e w' => e = .returned (.int .u64 (zg v)) ∧ w = w' := by
 by_cases h : v < 0
 ·have hx : bits .xor .u64 IntKind.u64.max (IntKind.u64.wrap (IntKind.u64.wrap v * 2)) = (zg v : Int) := by
   simp only [IntKind.wrap_u64, zg, h, if_true]
   have hm : IntKind.u64.max = 18446744073709551615 := by rfl
   rw [hm, u64_xor _ _ (by omega) (by omega) (by omega) (by omega)]
   have e1 : (18446744073709551615 : Int).toNat = 2 ^ 64 - 1 := rfl
   rw [e1, Nat.xor_comm]
   have hlt : (v % 18446744073709551616 * 2 % 18446744073709551616).toNat < 2 ^ 64 := by omega
   generalize hq : (v % 18446744073709551616 * 2 % 18446744073709551616).toNat = q at hlt ⊢
   have : q ^^^ (2 ^ 64 - 1) = 2 ^ 64 - 1 - q := by
    exact mI
   rw [this]
   omega
  have hX := Lib.hid hx
  clear hx
  go_enter Tryz.func147, Tryz.ntmps147
  go_wp2
  go_ret
  exact ⟨congrArg (fun n => Ending.returned (.int .u64 n)) hX.out, rfl⟩
 ·go_enter Tryz.func147, Tryz.ntmps147
  go_wp2
  go_ret
  exact ⟨congrArg (fun n => Ending.returned (.int .u64 n)) (by unfold zg; rw [if_neg (by omega)]; omega), rfl⟩
theorem tH (x : Int) (hx : -9223372036854775808 ≤ x ∧ x ≤ 9223372036854775807) (l : List UInt8) (v : Value) (base : Nat) (w : World) (hb : aJ w base v l) (hl : l.length ≤ 1000000) (hbase : base ≤ w.heap.size) :
 Calls Tryz.prog 135 #[v, .int .i64 x] w fun e w' => ∃ v', e = .returned v' ∧ dV w' base v' (l ++ enc (zg x)) ∧ Below base w w' := by
 go_enter Tryz.func135, Tryz.ntmps135
 go_wp2_with (first | (go_at_call 147; go_must (refine (tF x w hx).mono ?_); rintro e w' ⟨rfl, rfl⟩) | (go_at_call 146; go_must (refine (vW (zg x) (kH hx) l v base w hb hl hbase).mono ?_); rintro e w' ⟨v', rfl, hown, hbl⟩))
 go_ret
 exact ⟨v', rfl, hown, hbl⟩
theorem tJ (x : Bool) (l : List UInt8) (v : Value) (base : Nat) (w : World) (hb : aJ w base v l) (hl : l.length ≤ 1000000) (hbase : base ≤ w.heap.size) :
 Calls Tryz.prog 113 #[v, .bool x] w fun e w' => ∃ v', e = .returned v' ∧ dV w' base v' (l ++ [if x then 1 else 0]) ∧ Below base w w' := by
 obtain ⟨i0, hi, hz0, hz1, hz2⟩ := info_parts qJ
 cases x
 ·go_enter Tryz.func113, Tryz.ntmps113
  go_wp2_with (at_builtin; go_must (refine bH _ rfl (.tmp 9) (.tmp 10) 22 rfl base 5 i0 (.int .u8 0) 1 1 Tryz.underlying22 hi hz0 hz1 hz2 rfl (by decide) v l.length (bv l) rfl (Buf.alloc hb _) ⟨w.heap.size, 0, none⟩ 1 1 [.int .u8 ((0 : UInt8).toNat : Int)] rfl rfl (cell_one_new _ _ _) ?d1 (by omega) ?d2 ?d3 ?d4 ?d5))
  case d5 =>
   intro v' w1 hown1 hb1
   have hby : dV w1 base v' (l ++ [if false then 1 else 0]) := by
    show w1.ownsRow _ _ _ _ _ _
    exact jD
   exact mJ
  case d1 => simp [Value.oneCell']
  case d2 => unfold maxLen; omega
  case d3 => omega
  case d4 => simp; omega
 ·go_enter Tryz.func113, Tryz.ntmps113
  go_wp2_with (at_builtin; go_must (refine bH _ rfl (.tmp 6) (.tmp 7) 22 rfl base 5 i0 (.int .u8 0) 1 1 Tryz.underlying22 hi hz0 hz1 hz2 rfl (by decide) v l.length (bv l) rfl (Buf.alloc hb _) ⟨w.heap.size, 0, none⟩ 1 1 [.int .u8 ((1 : UInt8).toNat : Int)] rfl rfl (cell_one_new _ _ _) ?e1 (by omega) ?e2 ?e3 ?e4 ?e5))
  case e5 =>
   intro v' w1 hown1 hb1
   have hby : dV w1 base v' (l ++ [if true then 1 else 0]) := by
    show w1.ownsRow _ _ _ _ _ _
    exact jD
   exact mJ
  case e1 => simp [Value.oneCell']
  case e2 => unfold maxLen; omega
  case e3 => omega
  case e4 => simp; omega
end Go.Proofs.YtbdfpbknckghgaaGreat

namespace Go.Proofs.YtbdfpbknckghgaaGreat
open Go.RowKit
theorem mK (l : List UInt8) : (str l).size = l.length := by simp [str, ByteArray.size]
theorem jR (l : List UInt8) : (str l).toList = l := ByteArray.toList_mk l
def au (zs : List Int) : List UInt8 := zs.flatMap fun z => enc (zg z)
theorem ou (zs : List Int) (z : Int) : au (zs ++ [z]) = au zs ++ enc (zg z) := by simp [au]
theorem eZ (zs : List Int) : (au zs).length ≤ 10 * zs.length := by
 induction zs with
 | nil => simp [au]
 | cons z zs ih => have := fE (zg z); simp only [au, List.flatMap_cons, List.length_append, List.length_cons] at *; omega
theorem dP (zs : List Int) (hz : ∀ z ∈ zs, -9223372036854775808 ≤ z ∧ z ≤ 9223372036854775807) (hn : zs.length ≤ 1000) (g off cap : Nat) (l : List UInt8) (v : Value) (base : Nat) (w : World) (hb : aJ w base v l) (hl : l.length ≤ 10000) (hbase : base ≤ w.heap.size)
 (hg : g < base) (hc : ∀ j, j < zs.length → w.cell? ⟨g, off + j, none⟩ = some (.int .i64 (zs.getD j 0))) :
 Calls Tryz.prog 112 #[v, .slice (some ⟨g, off, none⟩) zs.length cap] w fun e w' => ∃ v', e = .returned v' ∧ aJ w' base v' (l ++ au zs) ∧ (zs = [] ∨ dV w' base v' (l ++ au zs)) ∧ Below base w w' := by
 go_enter Tryz.func112, Tryz.ntmps112
 go_wp2
 go_loopw [0, 9] (fun b i wr => ∃ (k : Nat), k ≤ zs.length ∧ i = .int .i64 k ∧ aJ wr base b (l ++ au (zs.take k)) ∧ (k = 0 ∨ dV wr base b (l ++ au (zs.take k))) ∧ Below base w wr) (fun _ i _ => zs.length - (intOf i).toNat)
 case atStart => exact ⟨0, Nat.zero_le _, rfl, by simpa [au] using hb, Or.inl rfl, Below.refl _ _⟩
 case round =>
  obtain ⟨k, hk, rfl, hbuf, hor, hbel⟩ := hrel
  clear hb
  have hsz := hbel.size
  by_cases hlt : k < zs.length
  ·have hcell : wr.cell? ⟨g, off + k, none⟩ = some (.int .i64 (zs.getD k 0)) := by rw [hbel.cell hg]; exact hc k hlt
   have BD := hz (zs.getD k 0) (by rw [getD_lt hlt]; exact List.getElem_mem _)
   have htk : Hid (zs.take (k + 1) = zs.take k ++ [zs.getD k 0]) := by
    show _ = _
    rw [List.take_succ_eq_append_getElem hlt, getD_lt hlt]
   have hle := eZ (zs.take k)
   have htl : (zs.take k).length ≤ k := List.length_take_le _ _
   have hll : (l ++ au (zs.take k)).length ≤ 1000000 := by rw [List.length_append]; omega
   generalize hzz : zs.getD k 0 = z at *
   have HZ := Lib.hid hzz
   clear hc hzz hor
   go_wp2_with (go_at_call 135; go_must (refine (tH z BD _ _ base _ hbuf hll (by omega)).mono ?_); rintro e w1 ⟨v1, rfl, hown1, Ap⟩)
   go_roundw
   case rel =>
    have hfin : dV w1 base v1 (l ++ au (zs.take (k + 1))) := by rw [htk.out, ou, ← List.append_assoc]; exact hown1
    exact ⟨k + 1, by omega, by go_num, hfin.buf, Or.inr hfin, hbel.trans Ap⟩
   case measure => simp [intOf]; omega
  ·obtain rfl : k = zs.length := by omega
   rw [List.take_length] at hbuf hor
   clear hc
   go_wp2
   go_ret
   refine ⟨_, rfl, hbuf, ?_, hbel⟩
   rcases hor with h0 | h
   ·exact Or.inl (List.eq_nil_of_length_eq_zero h0)
   ·exact Or.inr h
end Go.Proofs.YtbdfpbknckghgaaGreat

namespace Go.Proofs.YtbdfpbknckghgaaGreat
open Go.RowKit
def dW (w w' : World) : Prop := ∀ a v, w.cell? a = some v → w'.cell? a = some v
theorem dW.dZ {w w' : World} (h : Reg2.Ext w w') : dW w w' := fun a v hv => by
 rw [Below.cell h (World.block_lt_of_cell? w a hv)]; exact hv
def bJ (w : World) (v : Value) (l : List UInt8) : Prop :=
 (v = .slice none 0 0 ∧ l = []) ∨ ∃ b off cap, v = .slice (some ⟨b, off, none⟩) l.length cap ∧ ∀ i, i < l.length → w.cell? ⟨b, off + i, none⟩ = some (.int .u8 ((l.map fun c : UInt8 => (c.toNat : Int)).getD i 0))
theorem bJ.keeps {w w' : World} {v : Value} {l : List UInt8} (h : bJ w v l) (hk : dW w w') : bJ w' v l := by
 rcases h with h | ⟨b, off, cap, hv, hc⟩
 ·exact Or.inl h
 ·exact Or.inr ⟨b, off, cap, hv, fun i hi => hk _ _ (hc i hi)⟩
theorem dV.read {w : World} {base : Nat} {v : Value} {l : List UInt8} (h : dV w base v l) : bJ w v l := by
 obtain ⟨h1, h2⟩ := h
 rcases h2 with ⟨rfl, h0⟩ | ⟨g, cap, cur, rfl, hg, hh, hn, hm, hs, ht⟩
 ·exact Or.inl ⟨rfl, List.eq_nil_of_length_eq_zero h0⟩
 ·refine Or.inr ⟨g, 0, cap, rfl, fun i hi => ?_⟩
  have hx := World.ownsRow.cells (v := .slice (some ⟨g, 0, none⟩) l.length cap) (n := l.length) (xs := bv l) ⟨h1, .inr ⟨g, cap, cur, rfl, hg, hh, hn, hm, hs, ht⟩⟩ rfl i (.int .u8 (l[i].toNat : Int)) (by simp [bv, hi])
  rw [Addr.add_lit] at hx
  rw [hx]
  simp [List.getD, hi]
theorem kJ {w : World} {v : Value} {l : List UInt8} (h : bJ w v l) : (convert 22 9 v).run Tryz.prog w = .ok (.string (str l)) w := by
 rcases h with ⟨rfl, rfl⟩ | ⟨b, off, cap, rfl, hc⟩
 ·exact run_convert_bytes_nil w 22 5 Tryz.underlying22 Tryz.underlying5 0 0 9 Tryz.underlying9
 ·have := run_convert_bytes_arg (P := Tryz.prog) w 22 5 Tryz.underlying22 Tryz.underlying5 b off l.length cap (l.map fun c : UInt8 => (c.toNat : Int)) (by simp) hc 9 Tryz.underlying9
  rw [this]
  congr 2
  unfold strOfNums str
  congr 2
  rw [List.map_map]
  conv => rhs; rw [← List.map_id l]
  apply List.map_congr_left
  intro c _
  simp
end Go.Proofs.YtbdfpbknckghgaaGreat

namespace Go.Proofs.YtbdfpbknckghgaaGreat
open Go.ChangeShapes Go.WideShapes Go.ChangeAt Go.RowKit
def cO (c : UInt8) : List Value := [.int .u8 (c.toNat : Int)]
theorem vX (l : List UInt8) : bv l = l.flatMap cO := by
 induction l with
 | nil => rfl
 | cons a l ih => rw [List.flatMap_cons, ← ih]; rfl
theorem dV.row {w : World} {base : Nat} {v : Value} {l : List UInt8} (h : dV w base v l) : ai cO 1 w v l := ai.fT h (fun _ => rfl) (vX l) rfl
theorem kK {w : World} {v : Value} {l : List UInt8} (h : ai cO 1 w v l) (hp : 0 < l.length) : bJ w v l := by
 obtain ⟨ao, cap, rfl, h1, h2, h3⟩ := h
 obtain ⟨b, off, rfl, hb, hc⟩ := h3 hp
 refine .inr ⟨b, off, cap, rfl, fun i hi => ?_⟩
 have := hc i l[i] 0 _ (List.getElem?_eq_getElem hi) rfl
 simp only [Nat.mul_one, Nat.add_zero] at this
 rw [this]
 simp [List.getD, hi]
theorem qK (w : World) (ao : Option Addr) (cap : Nat) : (convert 22 9 (.slice ao 0 cap)).run Tryz.prog w = .ok (.string (str [])) w := by
 cases ao with
 | none => exact run_convert_bytes_nil w 22 5 Tryz.underlying22 Tryz.underlying5 0 cap 9 Tryz.underlying9
 | some a =>
   have hl : (loadCells a 0).run Tryz.prog w = .ok #[] w := by
    have := run_loadCells_list (P := Tryz.prog) w a [] (fun j v hj => by simp at hj)
    simpa using this
   rw [run_convert_bytes_string w 22 9 5 (some a) 0 cap Tryz.underlying22 Tryz.underlying5 Tryz.underlying9]
   simp [Conv.bytesToString, hl, Sem.run_bind, Result.andThen, str]
   rfl
theorem mM {w : World} {v : Value} {l : List UInt8} (h : ai cO 1 w v l) : (convert 22 9 v).run Tryz.prog w = .ok (.string (str l)) w := by
 rcases Nat.eq_zero_or_pos l.length with h0 | hp
 ·have hl := List.eq_nil_of_length_eq_zero h0
  subst hl
  obtain ⟨ao, cap, rfl, _⟩ := h
  exact qK w ao cap
 ·exact kJ (kK h hp)
theorem tK {H : Type} {enc : TypeId × Value → H} {P : Program} {w : World} {base : Nat} {t e : TypeId} {v : Value} {d : DataW H} {ps : List MemPlace} (ht : P.underlying t = some (.slice e)) (he : P.underlying e = some (.int .u8)) (hc : P.cellsOf e = 1)
 (hval : Value.okWide P w .any base t v) (hd : DataW.Trod enc P w 0 (fun _ => true) true t v d ps) : ∃ l : List UInt8, ai cO 1 w v l := by
 obtain ⟨a0, len, cap, rfl⟩ := okWide_slice ht hval
 obtain ⟨fuel, hf⟩ := hd
 rcases open_ints ht he hc hf with ⟨hcs, _⟩ | ⟨a, len', cap', zs, hcs, _, hl, hm, hz, _, hcell, hw⟩
 ·simp [Value.cells] at hcs
  obtain ⟨rfl, rfl, rfl⟩ := hcs
  exact ⟨[], ai.nil w⟩
 ·simp [Value.cells] at hcs
  obtain ⟨rfl, rfl, rfl⟩ := hcs
  simp only [if_true] at hz
  have hlen : ((zs.take len).map fun z => UInt8.ofNat z.toNat).length = len := by rw [List.length_map, List.length_take]; omega
  refine ⟨(zs.take len).map fun z => UInt8.ofNat z.toNat, some a, cap, by rw [hlen], by rw [hlen]; exact hl, hm, fun hp => ?_⟩
  rw [hlen] at hp
  obtain ⟨b, off, sp⟩ := a
  have h0 := hcell 0 (by omega)
  have hsp : sp = none := by simpa [Addr.add] using World.cell?_spot h0
  subst hsp
  refine ⟨b, off, rfl, ?_, fun i s j u hi hj => ?_⟩
  ·rw [Go.WideShapes.add_plain] at h0
   exact World.block_lt_of_cell? w ⟨b, _, none⟩ h0
  ·have hil : i < len := by
    have := (List.getElem?_eq_some_iff.1 hi).1
    omega
   have hi' : i < zs.length := by omega
   rw [List.getElem?_map, List.getElem?_take, if_pos hil, List.getElem?_eq_getElem hi'] at hi
   have hs : UInt8.ofNat (zs[i].toNat) = s := by simpa using hi
   have hj0 : j = 0 := by
    have := (List.getElem?_eq_some_iff.1 hj).1
    simp [cO] at this
    exact this
   subst hj0
   have hu : u = .int .u8 (s.toNat : Int) := by simpa [cO] using hj.symm
   have h1 := hcell i hi'
   rw [show zs.getD i 0 = zs[i] by simp [List.getD, hi']] at h1
   rw [Go.WideShapes.add_plain] at h1
   have hb := bounds_u8 (hw zs[i] (List.getElem_mem _))
   rw [hu, ← hs]
   simp only [Nat.mul_one, Nat.add_zero]
   rw [h1]
   congr 2
   have : (UInt8.ofNat zs[i].toNat).toNat = zs[i].toNat := by simp; omega
   rw [this]
   omega
end Go.Proofs.YtbdfpbknckghgaaGreat

namespace Go.Proofs.YtbdfpbknckghgaaGreat
open Go.RowKit
theorem tL {q : Nat} (hlt : q < 2 ^ 64) : q ^^^ (2 ^ 64 - 1) = 2 ^ 64 - 1 - q := by
 exact mI
structure Only (b : Nat) (w w' : World) : Prop where
 os : w'.os = w.os
 tape : w'.tape = w.tape
 output : w'.output = w.output
 size : w'.heap.size = w.heap.size
 block : ∀ k : Nat, k ≠ b → w'.heap[k]? = w.heap[k]?
theorem Only.refl (b : Nat) (w : World) : Only b w w := ⟨rfl, rfl, rfl, rfl, fun _ _ => rfl⟩
theorem Only.trans {b : Nat} {w w' w'' : World} (h : Only b w w') (k : Only b w' w'') : Only b w w'' :=
 ⟨k.os.trans h.os, k.tape.trans h.tape, k.output.trans h.output, k.size.trans h.size, fun i hi => (k.block i hi).trans (h.block i hi)⟩
theorem Only.setCell (b off : Nat) (w : World) (v : Value) : Only b w (w.setCell ⟨b, off, none⟩ v) :=
 ⟨rfl, rfl, rfl, by simp [World.setCell], fun k hk => Below.heap_setCell _ _ _ _ hk⟩
theorem Only.below {b B : Nat} {w w' : World} (h : Only b w w') (hB : B ≤ b) : Below B w w' :=
 ⟨h.os, h.tape, h.output, Nat.le_of_eq h.size.symm, fun k hk => h.block k (by omega)⟩
theorem tN (c : UInt8) (l : List UInt8) : (str (c :: l)).extract 1 (str (c :: l)).size = str l := by
 apply ByteArray.ext
 simp [str, ByteArray.size]
theorem gK (x : Int) (hx : -9223372036854775808 ≤ x ∧ x ≤ 9223372036854775807) (w : World) :
 Calls Tryz.prog 110 #[.int .u64 (zg x)] w fun e w' => e = .returned (.int .i64 x) ∧ w = w' := by
 have hz := kH hx
 by_cases h : x < 0
 ·have h1 : bits .and .u64 ((zg x : Nat) : Int) 1 = 1 := by
   rw [u64_and _ _ (by omega) (by omega) (by omega) (by omega)]
   have e : ((zg x : Nat) : Int).toNat &&& (1 : Int).toNat = 1 := by
    show (zg x : Nat) &&& 1 = 1
    rw [nat_mask1]; unfold zg; rw [if_pos h]; omega
   rw [e]; rfl
  have h2 : wrap64 (bits .xor .u64 IntKind.u64.max (((zg x : Nat) : Int) / 2)) = x := by
   have hm : IntKind.u64.max = 18446744073709551615 := by rfl
   rw [hm, u64_xor _ _ (by omega) (by omega) (by omega) (by omega)]
   have e1 : (18446744073709551615 : Int).toNat = 2 ^ 64 - 1 := rfl
   have hlt : (((zg x : Nat) : Int) / 2).toNat < 2 ^ 64 := by omega
   have hq : (((zg x : Nat) : Int) / 2).toNat = zg x / 2 := by omega
   rw [e1, Nat.xor_comm, tL hlt, hq]
   have hz2 : zg x / 2 = (-x - 1).toNat := by unfold zg; rw [if_pos h]; omega
   rw [hz2]
   unfold wrap64
   omega
  clear hz
  generalize zg x = z at *
  go_enter Tryz.func110, Tryz.ntmps110
  go_wp2
  go_ret
  exact ⟨rfl, rfl⟩
 ·obtain ⟨n, rfl⟩ := Int.eq_ofNat_of_zero_le (show 0 ≤ x by omega)
  have hzn : zg (n : Int) = 2 * n := by unfold zg; rw [if_neg (by omega)]; omega
  have h1 : bits .and .u64 ((2 * n : Nat) : Int) 1 = 0 := by
   rw [u64_and _ _ (by omega) (by omega) (by omega) (by omega)]
   have e : ((2 * n : Nat) : Int).toNat &&& (1 : Int).toNat = 0 := by
    show (2 * n) &&& 1 = 0
    rw [nat_mask1]; omega
   rw [e]; rfl
  rw [hzn]
  have h3 : ((2 * n : Nat) : Int) / 2 = n := by omega
  clear hz hzn h
  generalize hm : 2 * n = m at *
  have HM := Lib.hid hm
  clear hm
  go_enter Tryz.func110, Tryz.ntmps110
  go_wp2
  go_ret
  exact ⟨rfl, rfl⟩
theorem kM (u k : Nat) : u % 128 * 128 ^ k + u / 128 * 128 ^ (k + 1) = u * 128 ^ k := by
 rw [Nat.pow_succ, Nat.mul_comm (128 ^ k) 128, ← Nat.mul_assoc, ← Nat.add_mul]
 congr 1
 omega
theorem gL (k : Nat) : 128 ^ k = 2 ^ (7 * k) := by rw [Nat.pow_mul]
theorem vY {bits k u acc x : Nat} (hx : x < 2 ^ bits) (hs : acc + u * 128 ^ k = x) (h0 : u ≠ 0) : u < 2 ^ (bits - 7 * k) ∧ 7 * k ≤ bits := by
 have h1 : u * 128 ^ k < 2 ^ bits := by omega
 rw [gL] at h1
 have h2 : 7 * k ≤ bits := by
  rcases Nat.lt_or_ge bits (7 * k) with h | h
  ·have h3 : 2 ^ bits ≤ 2 ^ (7 * k) := Nat.pow_le_pow_right (by decide) (by omega)
   have h4 : 1 * 2 ^ (7 * k) ≤ u * 2 ^ (7 * k) := Nat.mul_le_mul_right _ (by omega)
   omega
  ·exact h
 refine ⟨?_, h2⟩
 have h3 : 2 ^ bits = 2 ^ (bits - 7 * k) * 2 ^ (7 * k) := by rw [← Nat.pow_add]; congr 1; omega
 rw [h3] at h1
 exact Nat.lt_of_mul_lt_mul_right h1
theorem qL (c : Nat) (y : Int) (hy : 0 ≤ y) (hc : c < 2 ^ y.toNat) (hc8 : c < 256) : Op.shift .shr .u8 (c : Int) .i64 y = pure (.int .u8 0) := by
 unfold Op.shift
 rw [if_neg (by omega)]
 have hm : c < 2 ^ (min y.toNat IntKind.u8.bits) := by
  rcases Nat.le_total y.toNat 8 with h | h
  ·rw [Nat.min_eq_left (by simpa [IntKind.bits] using h)]; exact hc
  ·rw [Nat.min_eq_right (by simpa [IntKind.bits] using h)]; simpa [IntKind.bits] using hc8
 have : (c : Int).fdiv (2 ^ (min y.toNat IntKind.u8.bits)) = 0 := by
  have e : ((2 : Int) ^ (min y.toNat IntKind.u8.bits)) = ((2 ^ (min y.toNat IntKind.u8.bits) : Nat) : Int) := by simp
  rw [e, Int.fdiv_eq_ediv_of_nonneg _ (by omega)]
  exact Int.ediv_eq_zero_of_lt (by omega) (by omega)
 simp only [this]
theorem mO (m k y : Nat) (hy : y = m * 128 ^ k) (hlt : y < 18446744073709551616) : IntKind.u64.wrap ((m : Int) * 2 ^ (7 * k)) = (y : Int) := by
 have e2 : (m : Int) * 2 ^ (7 * k) = (y : Int) := by rw [hy, gL]; simp
 rw [e2, IntKind.wrap_u64, Int.emod_eq_of_lt (by omega) (by omega)]
theorem pV (acc y z k m : Nat) (ha : acc < 128 ^ k) (hy : y = m * 128 ^ k) (hz : z = acc + y) (hlt : z < 18446744073709551616) : Go.bits .or .u64 (acc : Int) (y : Int) = (z : Int) := by
 rw [u64_or_nat _ _ (by omega) (by omega)]
 have h0 : y % 2 ^ (7 * k) = 0 := by rw [hy, gL]; exact Nat.mul_mod_left ..
 rw [Nat.or_comm, nat_join (7 * k) y acc h0 (by rw [← gL]; exact ha)]
 omega
theorem pW (c m : Nat) (hc : c = m + 128 ∨ c = m) (hm : m < 128) : Go.bits .andNot .u8 (c : Int) 128 = (m : Int) := by
 rw [show (128 : Int) = ((128 : Nat) : Int) from rfl, u8_andNot_nat _ _ (by omega) (by decide)]
 show ((c &&& 127 : Nat) : Int) = _
 rw [nat_mask7]
 omega
end Go.Proofs.YtbdfpbknckghgaaGreat

namespace Go.Proofs.YtbdfpbknckghgaaGreat
theorem mR {p : Prop} (f : p := by
 clear hq
 go_enter Tryz.func109, Tryz.ntmps109
 go_wp2_with fail
 refine bodyPost_ret (results_none rfl _ _ _) rfl ?_
 exact ⟨rfl, rfl⟩) : p := f
end Go.Proofs.YtbdfpbknckghgaaGreat
namespace Go.Proofs.YtbdfpbknckghgaaGreat
open Go.RowKit
def RS (w : World) (b : Nat) (l : List UInt8) (e : Int) : Prop := w.heap[b]? = some (.cells #[.string (str l), .int .i64 e] 197 (0, 0))
section
variable {w w' : World} {b : Nat} {l : List UInt8} {e : Int}
theorem RS.c0 (h : RS w b l e) : w.cell? ⟨b, 0, none⟩ = some (.string (str l)) := by simp [World.cell?, show w.heap[b]? = _ from h]
theorem RS.c1 (h : RS w b l e) : w.cell? ⟨b, 1, none⟩ = some (.int .i64 e) := by simp [World.cell?, show w.heap[b]? = _ from h]
theorem RS.f0 (h : RS w b l e) : w.frozen? ⟨b, 0, none⟩ = false := by simp [World.frozen?, show w.heap[b]? = _ from h]
theorem RS.f1 (h : RS w b l e) : w.frozen? ⟨b, 1, none⟩ = false := by simp [World.frozen?, show w.heap[b]? = _ from h]
theorem RS.lt (h : RS w b l e) : b < w.heap.size := ae h
theorem RS.below {B : Nat} (h : RS w b l e) (hb : Below B w w') (hB : b < B) : RS w' b l e := (hb.block b hB).trans h
theorem RS.set (h : RS w b l e) (l' : List UInt8) : RS (w.setCell ⟨b, 0, none⟩ (.string (str l'))) b l' e := by
 have := heap_put (i := 0) h (.string (str l'))
 show _ = _
 simpa using this
theorem RS.bad (h : RS w b l e) (q : Int) : RS ((w.setCell ⟨b, 0, none⟩ (.string (str []))).setCell ⟨b, 1, none⟩ (.int .i64 q)) b [] q := by
 have := heap_put (i := 1) (heap_put (i := 0) h (.string (str []))) (.int .i64 q)
 show _ = _
 simpa using this
theorem kN (h : RS w b l e) : Calls Tryz.prog 108 #[.pointer (some ⟨b, 0, none⟩)] w fun e w' => e = .returned (.int .i64 l.length) ∧ w = w' := by
 have c0 := h.c0
 have hsz := mK l
 clear h
 go_enter Tryz.func108, Tryz.ntmps108
 go_wp2
 go_ret
 exact ⟨rfl, rfl⟩
theorem iV (h : RS w b l e) : Calls Tryz.prog 134 #[.pointer (some ⟨b, 0, none⟩)] w fun en w' => en = .returned (.int .i64 e) ∧ w = w' := by
 have c1 := h.c1
 clear h
 go_enter Tryz.func134, Tryz.ntmps134
 go_wp2
 go_ret
 exact ⟨rfl, rfl⟩
theorem kP (q : Int) (hq : q ≠ 0) (h : RS w b l 0) : Calls Tryz.prog 109 #[.pointer (some ⟨b, 0, none⟩), .int .i64 q] w fun en w' => en = .returned (.tuple #[]) ∧ RS w' b [] q ∧ Only b w w' := by
 have c1 := h.c1
 have c0 := h.c0
 have f0 := h.f0
 have f1 := h.f1
 have hb := Lib.hid (h.bad q)
 have tq : (q == 0) = false := beq_eq_false_iff_ne.2 hq
 clear h
 go_enter Tryz.func109, Tryz.ntmps109
 go_wp2_with fail
 go_end0
 exact ⟨rfl, hb.out, (Only.setCell b 0 w _).trans (Only.setCell b 1 _ _)⟩
theorem qM (q : Int) (he : e ≠ 0) (h : RS w b l e) : Calls Tryz.prog 109 #[.pointer (some ⟨b, 0, none⟩), .int .i64 q] w fun en w' => en = .returned (.tuple #[]) ∧ w = w' := by
 have c1 := h.c1
 have te : (e == 0) = false := beq_eq_false_iff_ne.2 he
 clear h he
 by_cases hq : q = 0
 ·have tq : (q == 0) = true := beq_iff_eq.2 hq
  exact mR
 ·have tq : (q == 0) = false := beq_eq_false_iff_ne.2 hq
  exact mR
theorem fe (c : UInt8) (h : RS w b (c :: l) 0) (hl : l.length ≤ 100000) :
 Calls Tryz.prog 69 #[.pointer (some ⟨b, 0, none⟩)] w fun e w' => e = .returned (.int .u8 c.toNat) ∧ RS w' b l 0 ∧ Only b w w' := by
 have hL := Lib.hid h
 have c0 := h.c0
 have c1 := h.c1
 have f0 := h.f0
 have hsz := mK (c :: l)
 have htl := tN c l
 rw [hsz] at htl
 have hne : (((c :: l).length : Int) == 0) = false := by simp; omega
 clear h
 go_enter Tryz.func69, Tryz.ntmps69
 go_wp2_with (go_at_call 108; go_must (refine (kN hL.out).mono ?_); rintro e w1 ⟨rfl, rfl⟩)
 go_ret
 refine ⟨congrArg (fun n => Ending.returned (.int .u8 n)) ?_, ?_, Only.setCell b 0 w _⟩
 ·rfl
 ·have := hL.out.set l
  rw [← htl] at this
  exact this
theorem jE (h : RS w b [] 0) : Calls Tryz.prog 69 #[.pointer (some ⟨b, 0, none⟩)] w fun e w' => e = .returned (.int .u8 0) ∧ RS w' b [] 2 ∧ Only b w w' := by
 have hL := Lib.hid h
 clear h
 go_enter Tryz.func69, Tryz.ntmps69
 go_wp2_with (first | (go_at_call 108; go_must (refine (kN hL.out).mono ?_); rintro e w1 ⟨rfl, rfl⟩) | (go_at_call 109; go_must (refine (kP 2 (by decide) hL.out).mono ?_); rintro e w1 ⟨rfl, h2, o2⟩))
 go_ret
 exact ⟨rfl, h2, o2⟩
theorem jF (he : e ≠ 0) (h : RS w b [] e) : Calls Tryz.prog 69 #[.pointer (some ⟨b, 0, none⟩)] w fun en w' => en = .returned (.int .u8 0) ∧ w = w' := by
 have hL := Lib.hid h
 replace he := Lib.hid he
 clear h
 go_enter Tryz.func69, Tryz.ntmps69
 go_wp2_with (first | (go_at_call 108; go_must (refine (kN hL.out).mono ?_); rintro e w1 ⟨rfl, rfl⟩) | (go_at_call 109; go_must (refine (qM 2 he.out hL.out).mono ?_); rintro e w1 ⟨rfl, rfl⟩))
 go_ret
 exact ⟨rfl, rfl⟩
end
end Go.Proofs.YtbdfpbknckghgaaGreat

namespace Go.Proofs.YtbdfpbknckghgaaGreat
def iW (bits : Nat) (l : List UInt8) (k f acc : Nat) (l' : List UInt8) : Prop :=
 ∀ x rest, (x < 2 ^ bits ∧ l = enc x ++ rest) ↔ ∃ u, (k = 0 ∨ u ≠ 0) ∧ u < 128 ^ (f + 1) ∧ acc + u * 128 ^ k = x ∧ x < 2 ^ bits ∧ l' = encF f u ++ rest
def ow (bits : Nat) (l : List UInt8) : Prop := ∀ x rest, x < 2 ^ bits → l ≠ enc x ++ rest
theorem pX {bits : Nat} (hb : bits ≤ 64) (l : List UInt8) : iW bits l 0 9 0 l := by
 intro x rest
 constructor
 ·rintro ⟨hx, rfl⟩
  have h2 : 2 ^ bits ≤ 2 ^ 64 := Nat.pow_le_pow_right (by decide) hb
  exact ⟨x, .inl rfl, by omega, by simp, hx, rfl⟩
 ·rintro ⟨u, _, _, hs, hx, h⟩
  have : u = x := by simpa using hs
  subst this
  exact ⟨hx, h⟩
theorem tO {f u : Nat} {l : List UInt8} : encF f u ++ l ≠ [] := by
 have := (eO f u).1
 intro h
 have := congrArg List.length h
 rw [List.length_append] at this
 simp only [List.length_nil] at this
 omega
theorem tQ {bits k f acc : Nat} {l : List UInt8} (h : iW bits l k f acc []) : ow bits l := by
 intro x rest hx he
 obtain ⟨u, _, _, _, _, h2⟩ := (h x rest).1 ⟨hx, he⟩
 exact tO h2.symm
theorem iJ {f u : Nat} {c : UInt8} {l rest : List UInt8} (h : c :: l = encF f u ++ rest) (hf : u < 128 ^ (f + 1)) : (u < 128 ∧ c.toNat = u ∧ l = rest) ∨ (128 ≤ u ∧ c.toNat = u % 128 + 128 ∧ ∃ g, f = g + 1 ∧ l = encF g (u / 128) ++ rest) := by
 by_cases h1 : u < 128
 ·rw [iI h1] at h
  simp only [xE, xD, List.cons.injEq] at h
  obtain ⟨rfl, rfl⟩ := h
  exact .inl ⟨h1, aX (by omega), rfl⟩
 ·have hf1 := kI hf (by omega)
  obtain ⟨g, rfl⟩ : ∃ g, f = g + 1 := ⟨f - 1, by omega⟩
  rw [iH (by omega)] at h
  simp only [xE, List.cons.injEq] at h
  obtain ⟨rfl, rfl⟩ := h
  exact .inr ⟨by omega, aX (by omega), g, rfl, rfl⟩
theorem tT {bits k f acc : Nat} {l l' : List UInt8} {c : UInt8} (h : iW bits l k f acc (c :: l')) (hc : 2 ^ (bits - 7 * k) ≤ c.toNat) : ow bits l := by
 intro x rest hx he
 obtain ⟨u, h0, hu, hs, _, h2⟩ := (h x rest).1 ⟨hx, he⟩
 have hr : u ≠ 0 → u < 2 ^ (bits - 7 * k) ∧ 7 * k ≤ bits := fun h => vY hx hs h
 have hc256 : c.toNat < 256 := c.toNat_lt
 have hp : 0 < 2 ^ (bits - 7 * k) := Nat.pow_pos (by decide)
 rcases iJ h2 hu with ⟨h3, h4, _⟩ | ⟨h3, h4, _⟩
 ·by_cases hz : u = 0
  ·omega
  ·have := (hr hz).1; omega
 ·have h5 := (hr (by omega)).1
  have h6 : bits - 7 * k < 8 := by
   rcases Nat.lt_or_ge (bits - 7 * k) 8 with h | h
   ·exact h
   ·have : 2 ^ 8 ≤ 2 ^ (bits - 7 * k) := Nat.pow_le_pow_right (by decide) h
    omega
  have h7 : 2 ^ (bits - 7 * k) ≤ 2 ^ 7 := Nat.pow_le_pow_right (by decide) (by omega)
  omega
theorem qN {bits k f acc : Nat} {l l' : List UInt8} {c : UInt8} (h : iW bits l k f acc (c :: l')) (hc : c.toNat = 0) (hk : 0 < k) : ow bits l := by
 intro x rest hx he
 obtain ⟨u, h0, hu, hs, _, h2⟩ := (h x rest).1 ⟨hx, he⟩
 rcases iJ h2 hu with ⟨h3, h4, _⟩ | ⟨h3, h4, _⟩ <;> omega
theorem qO {bits k f acc : Nat} {l l' : List UInt8} {c : UInt8} (h : iW bits l k f acc (c :: l')) (hacc : acc < 128 ^ k) (h7 : 7 * k ≤ bits) (hc : c.toNat < 128) (hr : c.toNat < 2 ^ (bits - 7 * k)) (h0 : c.toNat ≠ 0 ∨ k = 0) :
 acc + c.toNat * 128 ^ k < 2 ^ bits ∧ l = enc (acc + c.toNat * 128 ^ k) ++ l' := by
 have hx : acc + c.toNat * 128 ^ k < 2 ^ bits := by
  have h1 : 2 ^ bits = 2 ^ (bits - 7 * k) * 2 ^ (7 * k) := by rw [← Nat.pow_add]; congr 1; omega
  rw [h1, ← gL]
  have h2 : (c.toNat + 1) * 128 ^ k ≤ 2 ^ (bits - 7 * k) * 128 ^ k := Nat.mul_le_mul_right _ (by omega)
  rw [Nat.add_mul, Nat.one_mul] at h2
  omega
 refine (h _ _).2 ⟨c.toNat, by omega, ?_, rfl, hx, ?_⟩
 ·have : 128 ^ 1 ≤ 128 ^ (f + 1) := Nat.pow_le_pow_right (by decide) (by omega)
  omega
 ·rw [iI hc]
  have : bW c.toNat = c := by unfold bW; simp
  rw [this]; rfl
theorem qP {bits k f acc : Nat} {l l' : List UInt8} {c : UInt8} (h : iW bits l k (f + 1) acc (c :: l')) (hacc : acc < 128 ^ k) (hc : 128 ≤ c.toNat) :
 iW bits l (k + 1) f (acc + (c.toNat - 128) * 128 ^ k) l' ∧ acc + (c.toNat - 128) * 128 ^ k < 128 ^ (k + 1) := by
 have hc256 : c.toNat < 256 := c.toNat_lt
 constructor
 ·intro x rest
  rw [h x rest]
  constructor
  ·rintro ⟨u, h0, hu, hs, hx, h2⟩
   rcases iJ h2 hu with ⟨h3, h4, _⟩ | ⟨h3, h4, g, h5, h6⟩
   ·omega
   ·obtain rfl : g = f := by omega
    refine ⟨u / 128, .inr (by omega), ?_, ?_, hx, h6⟩
    ·have hp : 128 ^ (g + 1 + 1) = 128 ^ (g + 1) * 128 := Nat.pow_succ ..
     omega
    ·have hps := kM u k
     have : c.toNat - 128 = u % 128 := by omega
     rw [this]; omega
  ·rintro ⟨v, h0, hv, hs, hx, h2⟩
   have hv0 : v ≠ 0 := by omega
   have hm : (v * 128 + (c.toNat - 128)) % 128 = c.toNat - 128 := by omega
   have hd : (v * 128 + (c.toNat - 128)) / 128 = v := by omega
   refine ⟨v * 128 + (c.toNat - 128), .inr (by omega), ?_, ?_, hx, ?_⟩
   ·have hp : 128 ^ (f + 1 + 1) = 128 ^ (f + 1) * 128 := Nat.pow_succ ..
    omega
   ·have hps := kM (v * 128 + (c.toNat - 128)) k
    rw [hm, hd] at hps
    omega
   ·rw [iH (by omega), hm, hd, h2]
    have : bW (c.toNat - 128 + 128) = c := by unfold bW; rw [Nat.sub_add_cancel hc]; simp
    rw [this]; rfl
 ·have hp : 128 ^ (k + 1) = 128 ^ k * 128 := Nat.pow_succ ..
  have h7 : (c.toNat - 128) * 128 ^ k ≤ 127 * 128 ^ k := Nat.mul_le_mul_right _ (by omega)
  omega
theorem qQ {bits k f : Nat} (hb : bits ≤ 64) (hk : k + f = 9) {c : Nat} (hc : 128 ≤ c) (hr : c < 2 ^ (bits - 7 * k)) : 1 ≤ f := by
 rcases Nat.lt_or_ge (bits - 7 * k) 8 with h | h
 ·have : 2 ^ (bits - 7 * k) ≤ 2 ^ 7 := Nat.pow_le_pow_right (by decide) (by omega)
  omega
 ·omega
theorem qR (c : Nat) (y : Int) (hy : 0 ≤ y) (hc : 2 ^ y.toNat ≤ c) (hc8 : c < 256) : ∃ d : Int, Op.shift .shr .u8 (c : Int) .i64 y = pure (.int .u8 d) ∧ (d == 0) = false := by
 unfold Op.shift
 rw [if_neg (by omega)]
 have h8 : y.toNat < 8 := by
  rcases Nat.lt_or_ge y.toNat 8 with h | h
  ·exact h
  ·have : 2 ^ 8 ≤ 2 ^ y.toNat := Nat.pow_le_pow_right (by decide) h
   omega
 have hm : min y.toNat IntKind.u8.bits = y.toNat := Nat.min_eq_left (by simp [IntKind.bits]; omega)
 refine ⟨(c : Int).fdiv (2 ^ (min y.toNat IntKind.u8.bits)), rfl, ?_⟩
 rw [hm]
 have e : ((2 : Int) ^ y.toNat) = ((2 ^ y.toNat : Nat) : Int) := by simp
 rw [e, Int.fdiv_eq_ediv_of_nonneg _ (Int.natCast_nonneg _)]
 have hd : 0 < c / 2 ^ y.toNat := Nat.div_pos hc (Nat.pow_pos (by decide))
 have : (c : Int) / ((2 ^ y.toNat : Nat) : Int) = ((c / 2 ^ y.toNat : Nat) : Int) := by simp
 rw [this]
 exact beq_eq_false_iff_ne.2 (by omega)
end Go.Proofs.YtbdfpbknckghgaaGreat

namespace Go.Proofs.YtbdfpbknckghgaaGreat
theorem mV {p : Prop} (f : p := by
 have hnn : (c.toNat : Int) = (n : Int) := by rw [hn]
 have HN := Lib.hid hnn
 clear hnn hn hinv hbig hyn hacc hsm hz hz' hy hzz hzx hxb hxe pY hc h0 hc256
 go_wp2_with (first | (go_at_call 69; go_must (refine (fe c hrs vZ).mono ?_); rintro e w1 ⟨rfl, h2, o2⟩; rw [HN.out]) | (go_at_call 134; go_must (refine (iV h2).mono ?_); rintro e w2 ⟨rfl, rfl⟩))
 go_ret
 exact ⟨.inl ⟨z, l', HX.out, HE.out, rfl, h2⟩, hon.trans o2⟩) : p := f
theorem mW {p : Prop} (f : p := by
 go_wp2_with (first | (go_at_call 69; go_must (refine (fe c hrs vZ).mono ?_); rintro e w1 ⟨rfl, h2, o2⟩) | (go_at_call 134; go_must (refine (iV h2).mono ?_); rintro e w2 ⟨rfl, rfl⟩) | (go_at_call 109; go_must (refine (kP 4 (by decide) h2).mono ?_); rintro e w3 ⟨rfl, h3, o3⟩))
 go_ret
 exact ⟨.inr ⟨hnone.out, rfl, 4, rW, h3⟩, (hon.trans o2).trans o3⟩) : p := f
end Go.Proofs.YtbdfpbknckghgaaGreat
namespace Go.Proofs.YtbdfpbknckghgaaGreat
open Go.RowKit
def fV (q : Int) : Prop := q = 2 ∨ q = 3 ∨ q = 4
theorem fV.ne {q : Int} (h : fV q) : q ≠ 0 := by unfold fV at h; omega
theorem oz : fV 2 := .inl rfl
theorem rW : fV 4 := .inr (.inr rfl)
section
variable {w : World} {b : Nat} {l : List UInt8}
theorem qU (bits : Nat) (wh : bits = 63 ∨ bits = 64) (hl : l.length ≤ 10000) (h : RS w b l 0) :
 Calls Tryz.prog 111 #[.pointer (some ⟨b, 0, none⟩), .int .i64 bits] w fun e w' => ((∃ x rest, x < 2 ^ bits ∧ l = enc x ++ rest ∧ e = .returned (.int .u64 x) ∧ RS w' b rest 0) ∨ (ow bits l ∧ e = .returned (.int .u64 0) ∧ ∃ q, fV q ∧ RS w' b [] q)) ∧ Only b w w' := by
 have wm : bits ≤ 64 := by omega
 have Cq : 63 ≤ bits := by omega
 have h0 : Hid (iW bits l 0 9 0 l) := pX wm l
 have HB := Lib.hid wh
 clear wh
 go_enter Tryz.func111, Tryz.ntmps111
 go_wp2_with fail
 go_loopw [5, 6] (fun v sh wr => ∃ (k f acc : Nat) (l' : List UInt8), v = .int .u64 acc ∧ sh = .int .i64 ((7 * k : Nat) : Int) ∧ k + f = 9 ∧ Hid (acc < 128 ^ k) ∧ Hid (iW bits l k f acc l') ∧ Hid (l'.length ≤ 10000) ∧ RS wr b l' 0 ∧ Only b w wr) (fun _ sh _ => 100 - (intOf sh).toNat)
 case atStart => exact ⟨0, 9, 0, l, rfl, rfl, rfl, (by decide : 0 < 128 ^ 0), h0, hl, h, Only.refl _ _⟩
 case round =>
  obtain ⟨k, f, acc, l', rfl, rfl, BF, hacc, hinv, hll, hrs, hon⟩ := hrel
  clear h h0 hl
  match l', hinv, hll, hrs with
  | [], hinv, hll, hrs =>
    have hnone := Lib.hid (tQ hinv.out)
    clear hinv hll
    go_wp2_with (first | (go_at_call 69; go_must (refine (jE hrs).mono ?_); rintro e w1 ⟨rfl, h2, o2⟩) | (go_at_call 134; go_must (refine (iV h2).mono ?_); rintro e w2 ⟨rfl, rfl⟩))
    go_ret
    exact ⟨.inr ⟨hnone.out, rfl, 2, oz, h2⟩, hon.trans o2⟩
  | c :: l', hinv, hll, hrs =>
    have yZ : l'.length ≤ 10000 := by have := hll.out; simp at this; omega
    have HL := Lib.hid yZ
    have vZ : l'.length ≤ 100000 := by omega
    clear hll yZ
    have hc256 : c.toNat < 256 := c.toNat_lt
    obtain ⟨n, hn⟩ : ∃ n, n = c.toNat := ⟨_, rfl⟩
    have hy0 : (0 : Int) ≤ (bits : Int) - 7 * (k : Int) := by omega
    have hyn : ((bits : Int) - 7 * (k : Int)).toNat = bits - 7 * k := by omega
    have Cw : 7 * (k : Int) ≤ 63 := by omega
    by_cases hbig : 2 ^ (bits - 7 * k) ≤ c.toNat
    ·have hnone := Lib.hid (tT hinv.out hbig)
     obtain ⟨d, wo, hd⟩ := qR n ((bits : Int) - 7 * (k : Int)) hy0 (by rw [hyn, hn]; exact hbig) (by omega)
     have hd2 : (d != 0) = true := by simp [bne, hd]
     rw [hn] at wo
     clear hinv hbig hyn hacc hn HL
     exact mW
    ·have hsm : n < 2 ^ (bits - 7 * k) := by omega
     have wo : Op.shift .shr .u8 (n : Int) .i64 ((bits : Int) - 7 * (k : Int)) = pure (.int .u8 0) := qL n _ hy0 (by rw [hyn]; exact hsm) (by omega)
     by_cases hz : c.toNat = 0 ∧ 0 < k
     ·have hnone := Lib.hid (qN hinv.out hz.1 hz.2)
      have hcz : ((n : Int) == 0) = true := by rw [hn, hz.1]; rfl
      have hk0 : 0 < 7 * (k : Int) := by omega
      rw [hn] at wo hcz
      clear hinv hbig hyn hacc hsm hz hn HL
      exact mW
     ·have hz' : c.toNat ≠ 0 ∨ k = 0 := by omega
      have hkb : 7 * k ≤ bits := by omega
      by_cases hc : c.toNat < 128
      ·obtain ⟨hxb, hxe⟩ := qO hinv.out hacc.out hkb hc (by omega) hz'
       obtain ⟨y, hy⟩ : ∃ y, y = n * 128 ^ k := ⟨_, rfl⟩
       obtain ⟨z, hzz⟩ : ∃ z, z = acc + y := ⟨_, rfl⟩
       have hzx : z = acc + c.toNat * 128 ^ k := by rw [hzz, hy, hn]
       rw [← hzx] at hxb hxe
       have pY : z < 18446744073709551616 := by
        have h2 : 2 ^ bits ≤ 2 ^ 64 := Nat.pow_le_pow_right (by decide) wm
        omega
       have hand : Go.bits BinOp.andNot IntKind.u8 (n : Int) 128 = (n : Int) := pW n n (Or.inr rfl) (by omega)
       have Aq : IntKind.u64.wrap ((n : Int) * 2 ^ (7 * k)) = (y : Int) := mO n k y hy (by omega)
       have hor : Go.bits BinOp.or IntKind.u64 (acc : Int) (y : Int) = (z : Int) := pV acc y z k n hacc.out hy hzz pY
       have hlt : ((n : Int) < 128) := by omega
       have HX := Lib.hid hxb
       have HE := Lib.hid hxe
       by_cases h0 : c.toNat = 0
       ·have hcz : ((n : Int) == 0) = true := by rw [hn, h0]; rfl
        have hk0 : ¬ (0 < 7 * (k : Int)) := by omega
        exact mV
       ·have hcz : ((n : Int) == 0) = false := beq_eq_false_iff_ne.2 (by omega)
        exact mV
      ·have hf1 := qQ wm BF (show 128 ≤ n by omega) hsm
       obtain ⟨f, rfl⟩ : ∃ g, f = g + 1 := ⟨f - 1, by omega⟩
       obtain ⟨hst, hlt2⟩ := qP hinv.out hacc.out (show 128 ≤ c.toNat by omega)
       obtain ⟨m, hm⟩ : ∃ m, m = c.toNat - 128 := ⟨_, rfl⟩
       have hnm : n = m + 128 := by omega
       obtain ⟨y, hy⟩ : ∃ y, y = m * 128 ^ k := ⟨_, rfl⟩
       obtain ⟨z, hzz⟩ : ∃ z, z = acc + y := ⟨_, rfl⟩
       have hzx : z = acc + (c.toNat - 128) * 128 ^ k := by rw [hzz, hy, hm]
       rw [← hzx] at hst hlt2
       have pY : z < 18446744073709551616 := by
        have h2 : 128 ^ (k + 1) ≤ 128 ^ 9 := Nat.pow_le_pow_right (by decide) (by omega)
        have h3 : (128 : Nat) ^ 9 = 9223372036854775808 := by decide
        omega
       have hand : Go.bits BinOp.andNot IntKind.u8 (n : Int) 128 = (m : Int) := pW n m (Or.inl hnm) (by omega)
       have Aq : IntKind.u64.wrap ((m : Int) * 2 ^ (7 * k)) = (y : Int) := mO m k y hy (by omega)
       have hor : Go.bits BinOp.or IntKind.u64 (acc : Int) (y : Int) = (z : Int) := pV acc y z k m hacc.out hy hzz pY
       have hlt : ¬ ((n : Int) < 128) := by omega
       have hcz : ((n : Int) == 0) = false := beq_eq_false_iff_ne.2 (by omega)
       have HS := Lib.hid hst
       have HT := Lib.hid hlt2
       have hnn : (c.toNat : Int) = (n : Int) := by rw [hn]
       have HN := Lib.hid hnn
       have Cx : 7 * (k : Int) ≤ 56 := by omega
       have BG : (m : Int) < 128 := by omega
       clear hnn hn hinv hbig hyn hacc hsm hz hz' hy hzz hzx hst hlt2 pY hc hc256 hm hnm
       go_wp2_with (first | (go_at_call 69; go_must (refine (fe c hrs vZ).mono ?_); rintro e w1 ⟨rfl, h2, o2⟩; rw [HN.out]) | (go_at_call 134; go_must (refine (iV h2).mono ?_); rintro e w2 ⟨rfl, rfl⟩))
       go_roundw
       case rel => exact ⟨k + 1, f, z, l', rfl, by go_num, by omega, HT.out, HS.out, HL.out, h2, hon.trans o2⟩
       case measure => simp [intOf]; omega
theorem p8 (bits : Int) {q : Int} (hq : q ≠ 0) (h : RS w b [] q) :
 Calls Tryz.prog 111 #[.pointer (some ⟨b, 0, none⟩), .int .i64 bits] w fun e w' => e = .returned (.int .u64 0) ∧ w = w' := by
 have HQ := Lib.hid hq
 have tq : (q != 0) = true := by simp [hq]
 clear hq
 go_enter Tryz.func111, Tryz.ntmps111
 go_wp2_with fail
 go_loopw [5, 6] (fun v sh wr => v = .int .u64 0 ∧ sh = .int .i64 0 ∧ w = wr) (fun _ sh _ => 100 - (intOf sh).toNat)
 case atStart => exact ⟨rfl, rfl, rfl⟩
 case round =>
  obtain ⟨rfl, rfl, rfl⟩ := hrel
  go_wp2_with (first | (go_at_call 69; go_must (refine (jF HQ.out h).mono ?_); rintro e w1 ⟨rfl, rfl⟩) | (go_at_call 134; go_must (refine (iV h).mono ?_); rintro e w2 ⟨rfl, rfl⟩))
  go_ret
  exact ⟨rfl, rfl⟩
def wu (l : List UInt8) (w' : World) (b : Nat) (e : Ending) : Prop :=
 (∃ x rest, (-9223372036854775808 ≤ x ∧ x ≤ 9223372036854775807) ∧ l = enc (zg x) ++ rest ∧ e = .returned (.int .i64 x) ∧ RS w' b rest 0) ∨
 ((∀ x rest, (-9223372036854775808 ≤ x ∧ x ≤ 9223372036854775807) → l ≠ enc (zg x) ++ rest) ∧ e = .returned (.int .i64 0) ∧ ∃ q, fV q ∧ RS w' b [] q)
theorem yC (u : Nat) (hu : u < 18446744073709551616) : ∃ x : Int, (-9223372036854775808 ≤ x ∧ x ≤ 9223372036854775807) ∧ zg x = u := by
 by_cases h : u % 2 = 0
 ·exact ⟨(u / 2 : Nat), by omega, by unfold zg; rw [if_neg (by omega)]; omega⟩
 ·exact ⟨-((u / 2 : Nat) : Int) - 1, by omega, by unfold zg; rw [if_pos (by omega)]; omega⟩
theorem wy (hl : l.length ≤ 10000) (h : RS w b l 0) : Calls Tryz.prog 70 #[.pointer (some ⟨b, 0, none⟩)] w fun e w' => wu l w' b e ∧ Only b w w' := by
 have hn := qU 64 (.inr rfl) hl h
 have h0 := fun W => gK 0 (by omega) W
 rw [show zg 0 = 0 from rfl] at h0
 go_enter Tryz.func70, Tryz.ntmps70
 go_wp2_with fail
 go_at_call 111
 refine hn.mono ?_
 clear hn
 rintro e w1 ⟨⟨x, rest, hx, hxe, rfl, hr⟩ | ⟨hno, rfl, q, hq, hr⟩, ho⟩
 ·have za : x < 18446744073709551616 := by omega
  obtain ⟨v, hv, hz⟩ := yC x za
  have hu := fun W => gK v hv W
  rw [hz] at hu
  have HX := Lib.hid hxe
  have HZ := Lib.hid hz
  have HV := Lib.hid hv
  clear hx za hxe hz hv h0
  go_wp2_with (go_at_call 110; go_must (refine (hu _).mono ?_); rintro e w2 ⟨rfl, rfl⟩)
  go_ret
  exact ⟨.inl ⟨v, rest, HV.out, by rw [HZ.out]; exact HX.out, rfl, hr⟩, ho⟩
 ·have HN := Lib.hid hno
  have HQ := Lib.hid hq
  clear hno hq
  go_wp2_with (go_at_call 110; go_must (refine (h0 _).mono ?_); rintro e w2 ⟨rfl, rfl⟩)
  go_ret
  exact ⟨.inr ⟨fun x rest hx => HN.out _ _ (kH hx), rfl, q, HQ.out, hr⟩, ho⟩
theorem tX {q : Int} (hq : q ≠ 0) (h : RS w b [] q) : Calls Tryz.prog 70 #[.pointer (some ⟨b, 0, none⟩)] w fun e w' => e = .returned (.int .i64 0) ∧ w = w' := by
 have hn := p8 64 hq h
 have h0 := fun W => gK 0 (by omega) W
 rw [show zg 0 = 0 from rfl] at h0
 clear hq
 go_enter Tryz.func70, Tryz.ntmps70
 go_wp2_with (first | (go_at_call 111; go_must (refine hn.mono ?_); rintro e w1 ⟨rfl, rfl⟩) | (go_at_call 110; go_must (refine (h0 _).mono ?_); rintro e w2 ⟨rfl, rfl⟩))
 go_ret
 exact ⟨rfl, rfl⟩
theorem wE (v : Value) (h : bJ w v l) : Calls Tryz.prog 68 #[v] w fun e w' => e = .returned (.pointer (some ⟨w.heap.size, 0, none⟩)) ∧ RS w' w.heap.size l 0 ∧ Reg2.Ext w w' := by
 have hcv := kJ h
 go_enter Tryz.func68, Tryz.ntmps68
 go_wp2
 go_ret
 exact ⟨rfl, heap_alloc_new w _, (Below.refl _ _).alloc (Nat.le_refl _) _⟩
end
end Go.Proofs.YtbdfpbknckghgaaGreat

namespace Go.Proofs.YtbdfpbknckghgaaGreat
theorem mX {p : Prop} (f : p := by
 rintro e w' ⟨rfl, rfl⟩
 exact ⟨0, none, rfl, ⟨rfl, rfl⟩, ⟨q, hq, h⟩, Only.refl _ _⟩) : p := f
end Go.Proofs.YtbdfpbknckghgaaGreat
namespace Go.Proofs.YtbdfpbknckghgaaGreat
open Go.RowKit
def RU (w : World) (b : Nat) : Option (List UInt8) → Prop
 | some l => RS w b l 0 ∧ l.length ≤ 10000
 | none => ∃ q, fV q ∧ RS w b [] q
theorem RU.lt {w : World} {b : Nat} {o : Option (List UInt8)} (h : RU w b o) : b < w.heap.size := by
 cases o with
 | some l => exact h.1.lt
 | none => obtain ⟨q, _, h⟩ := h; exact h.lt
theorem RU.below {w w' : World} {b B : Nat} {o : Option (List UInt8)} (h : RU w b o) (hb : Below B w w') (hB : b < B) : RU w' b o := by
 cases o with
 | some l => exact ⟨h.1.below hb hB, h.2⟩
 | none => obtain ⟨q, hq, h⟩ := h; exact ⟨q, hq, h.below hb hB⟩
theorem RU.ext {w w' : World} {b : Nat} {o : Option (List UInt8)} (h : RU w b o) (he : Reg2.Ext w w') : RU w' b o := h.below he h.lt
def Fit (x : Int) : Prop := -9223372036854775808 ≤ x ∧ x ≤ 9223372036854775807
def SR : Option (List UInt8) → Int → Option (List UInt8) → Prop
 | none, x, o' => x = 0 ∧ o' = none
 | some l, x, o' => (Fit x ∧ ∃ rest, l = enc (zg x) ++ rest ∧ o' = some rest) ∨ (x = 0 ∧ o' = none ∧ ∀ y rest, Fit y → l ≠ enc (zg y) ++ rest)
def BR : Option (List UInt8) → Bool → Option (List UInt8) → Prop
 | none, x, o' => x = false ∧ o' = none
 | some l, x, o' => (∃ rest, l = (if x then 1 else 0) :: rest ∧ o' = some rest) ∨ (x = false ∧ o' = none ∧ ∀ (y : Bool) (rest : List UInt8), l ≠ (if y then 1 else 0) :: rest)
def YR : Option (List UInt8) → UInt8 → Option (List UInt8) → Prop
 | none, c, o' => c = 0 ∧ o' = none
 | some [], c, o' => c = 0 ∧ o' = none
 | some (a :: l), c, o' => c = a ∧ o' = some l
section
variable {w : World} {b : Nat} {o : Option (List UInt8)}
theorem bX (h : RU w b o) : Calls Tryz.prog 70 #[.pointer (some ⟨b, 0, none⟩)] w fun e w' => ∃ x o', e = .returned (.int .i64 x) ∧ SR o x o' ∧ RU w' b o' ∧ Only b w w' := by
 cases o with
 | some l =>
   refine (wy h.2 h.1).mono ?_
   rintro e w' ⟨⟨x, rest, hx, hl, rfl, hr⟩ | ⟨no, rfl, q, hq, hr⟩, ho⟩
   ·refine ⟨x, some rest, rfl, .inl ⟨hx, rest, hl, rfl⟩, ⟨hr, ?_⟩, ho⟩
    have := h.2
    rw [hl, List.length_append] at this
    omega
   ·exact ⟨0, none, rfl, .inr ⟨rfl, rfl, fun y rest hy => no y rest hy⟩, ⟨q, hq, hr⟩, ho⟩
 | none =>
   obtain ⟨q, hq, h⟩ := h
   refine (tX hq.ne h).mono ?_
   exact mX
theorem dw (h : RU w b o) : Calls Tryz.prog 69 #[.pointer (some ⟨b, 0, none⟩)] w fun e w' => ∃ c o', e = .returned (.int .u8 (UInt8.toNat c)) ∧ YR o c o' ∧ RU w' b o' ∧ Only b w w' := by
 match o, h with
 | some (a :: l), h =>
   have hl : l.length ≤ 10000 := by have := h.2; rw [List.length_cons] at this; omega
   refine (fe a h.1 (by omega)).mono ?_
   rintro e w' ⟨rfl, hr, ho⟩
   exact ⟨a, some l, rfl, ⟨rfl, rfl⟩, ⟨hr, hl⟩, ho⟩
 | some [], h =>
   refine (jE h.1).mono ?_
   rintro e w' ⟨rfl, hr, ho⟩
   exact ⟨0, none, rfl, ⟨rfl, rfl⟩, ⟨2, oz, hr⟩, ho⟩
 | none, h =>
   obtain ⟨q, hq, h⟩ := h
   refine (jF hq.ne h).mono ?_
   exact mX
theorem dx {l : List UInt8} (v : Value) (h : bJ w v l) (hl : l.length ≤ 10000) : Calls Tryz.prog 68 #[v] w fun e w' => e = .returned (.pointer (some ⟨w.heap.size, 0, none⟩)) ∧ RU w' w.heap.size (some l) ∧ Reg2.Ext w w' := by
 refine (wE v h).mono ?_
 rintro e w' ⟨rfl, h1, h2⟩
 exact ⟨rfl, ⟨h1, hl⟩, h2⟩
end
end Go.Proofs.YtbdfpbknckghgaaGreat

namespace Go.Proofs.YtbdfpbknckghgaaGreat
open Go.RowKit
def qV : Ry := ⟨0, 0, 0, 0, 0, 0, 0, 0, 0⟩
end Go.Proofs.YtbdfpbknckghgaaGreat

namespace Go.Proofs.YtbdfpbknckghgaaGreat
open Go.RowKit Go.Lib
section
variable {w : World}
theorem wF (q : Int) (w : World) : Calls Tryz.prog 64 #[.int .i64 q] w fun e w' => e = .returned (.agg (aI ⟨q, 0, 0, 0, 0, 0, 0, 0, 0⟩).toArray) ∧ Below w.heap.size w w' := by
 simp only [aI]
 go_enter Tryz.func64, Tryz.ntmps64
 go_wp2_with fail
 (try simp only [Exit.inBlock, Exit.then])
 refine bg rfl rfl rfl (heap_alloc_new w _) Tryz.underlying44 rfl (by kernel_rfl) ⟨rfl, ?_⟩
 exact (Below.refl _ _).alloc (Nat.le_refl _) _
end
end Go.Proofs.YtbdfpbknckghgaaGreat

namespace Go.Proofs.YtbdfpbknckghgaaGreat
open Go.RowKit Go.Lib
def rX (w : World) (b : Nat) (r : Ry) : Prop := w.heap[b]? = some (.cells (aI r).toArray 44 (0, 0))
theorem rX.store {w : World} {b : Nat} {r : Ry} (h : rX w b r) (x : Ry) : Sem.run Tryz.prog (storeCells ⟨b, 0, none⟩ (aI x) 0) w = .ok () (w.setRow b (aI x).toArray) ∧ rX (w.setRow b (aI x).toArray) b x := by
 refine ⟨?_, setRow_heap w b _ _ _ _ h⟩
 have hst := run_storeCells_at Tryz.prog b 0 44 (aI x) 0 (aI r).toArray w h (by simp [aI]) (mH x)
 simp only [Nat.add_zero] at hst
 rw [hst]
 rfl
theorem wG {B g : Nat} {w0 w : World} (hb : Below B w0 w) (hBg : B ≤ g) (cs : Array Value) : Below B w0 (w.setRow g cs) := hb.trans ((⟨rfl, rfl, rfl, by simp, fun k hk => setRow_other w g k _ hk⟩ : Only g w (w.setRow g cs)).below hBg)
end Go.Proofs.YtbdfpbknckghgaaGreat

namespace Go.Proofs.YtbdfpbknckghgaaGreat
open Go.RowKit Go.Lib Go.Sort
structure Wk where
 BH : Rq
 BI : Int
 BJ : Int
 left : Value
 BK : Jb
 idle : Int
 target : Int
 rep : Ry
 ok : Bool
def rY (R : Wk) : List Value := encR R.BH ++ ([.int .i64 R.BI, .int .i64 R.BJ, R.left] ++ (yR R.BK ++ ([.int .i64 R.idle, .int .i64 R.target] ++ (aI R.rep ++ [.bool R.ok]))))
def zF : Jb := (0, 0, 0, 0, 0, 0, 0, 0, 0, 0)
def yD : Ry := ⟨0, 0, 0, 0, 0, 0, 0, 0, 0⟩
def fo (w : World) (b : Nat) (R : Wk) : Prop := w.heap[b]? = some (.cells (rY R).toArray 209 (0, 0))
section
variable {w w' w1 w2 : World} {b c t d p g a g' g1 g2 a' : Nat} {v v' v1 v2 : Value} {m m' : Int} {P P' : Pg} {R R' : Wk}
theorem Ae (R : Wk) : (rY R).length = 34 := rfl
theorem fo.lt (h : fo w b R) : b < w.heap.size := ae h
theorem wH {w : World} {g off k : Nat} {all cs : List Value} {t : TypeId} (h : w.heap[g]? = some (.cells all.toArray t (0, 0))) (hk : cs.length = k) (hc : ∀ j u, cs[j]? = some u → all[off + j]? = some u) :
 Sem.run Tryz.prog (loadCellsFrom ⟨g, off, none⟩ 0 k #[]) w = .ok cs.toArray w :=
 run_loadCellsFrom_list Tryz.prog w _ _ k hk fun j u hj => by
  rw [Go.WideShapes.add_plain]
  have := hc j u hj
  simp [World.cell?, h, this]
end
end Go.Proofs.YtbdfpbknckghgaaGreat

namespace Go.Proofs.YtbdfpbknckghgaaGreat
open Go.RowKit Go.Lib Go.Sort
def BL (k : Nat) : Value := .func (.func k) #[] #[]
section
end
end Go.Proofs.YtbdfpbknckghgaaGreat

namespace Go.Proofs.YtbdfpbknckghgaaGreat
open Go.RowKit Go.Lib Go.Sort
theorem jG {w : World} {b k : Nat} {cs : List Value} {t : TypeId} (h : w.heap[b]? = some (.cells cs.toArray t (0, 0))) (hk : cs.length = k) : Sem.run Tryz.prog (loadCellsFrom ⟨b, 0, none⟩ 0 k #[]) w = .ok cs.toArray w :=
 wH h hk fun j u hj => by rw [Nat.zero_add]; exact hj
section
end
end Go.Proofs.YtbdfpbknckghgaaGreat

namespace Go.Proofs.YtbdfpbknckghgaaGreat
theorem di {p : Prop} (f : p := by
 go_enter Tryz.func79, Tryz.ntmps79
 go_wp2_with fail
 refine bg rfl rfl rfl (dF (heap_alloc2_new w _ _)) Tryz.underlying28 rfl (by kernel_rfl) ⟨rfl, ?_⟩
 exact ((((Below.refl _ _).alloc (Nat.le_refl _) _).alloc (by simp) _).alloc (by simp; omega) _)) : p := f
end Go.Proofs.YtbdfpbknckghgaaGreat
namespace Go.Proofs.YtbdfpbknckghgaaGreat
open Go.RowKit Go.Lib
def aj (r : Rq) : Rq :=
 if r.kind = 1 then ⟨r.kind, 0, r.user, r.width, r.limit, r.prio, r.held, 0, 0⟩
 else if r.kind = 2 ∨ r.kind = 3 ∨ r.kind = 4 ∨ r.kind = 5 ∨ r.kind = 6 then ⟨r.kind, r.id, 0, 0, 0, 0, false, 0, 0⟩
 else if r.kind = 7 ∨ r.kind = 8 then ⟨r.kind, 0, 0, 0, 0, 0, false, r.node, 0⟩
 else if r.kind = 9 then ⟨r.kind, 0, 0, 0, 0, 0, false, 0, r.till⟩
 else ⟨r.kind, 0, 0, 0, 0, 0, false, 0, 0⟩
theorem wI (x2 x3 x4 x5 x6 : Int) (x7 : Bool) (x8 x9 : Int) (w : World) : Calls Tryz.prog 79 #[.agg #[.int .i64 1, .int .i64 x2, .int .i64 x3, .int .i64 x4, .int .i64 x5, .int .i64 x6, .bool x7, .int .i64 x8, .int .i64 x9]] w fun e w' => e = .returned (.agg #[.int .i64 1, .int .i64 0, .int .i64 x3, .int .i64 x4, .int .i64 x5, .int .i64 x6, .bool x7, .int .i64 0, .int .i64 0]) ∧ Below w.heap.size w w' := by
 go_enter Tryz.func79, Tryz.ntmps79
 go_wp2_with fail
 go_region
 all_goals (try go_wp2_with fail)
 refine bg rfl rfl rfl (show (World.drew _).heap[_]? = _ from dF (heap_alloc2_new w _ _)) Tryz.underlying28 rfl (by kernel_rfl) ⟨rfl, ?_⟩
 exact ((((Below.refl _ _).alloc (Nat.le_refl _) _).alloc (by simp) _).alloc (by simp; omega) _).drew
theorem wJ (x2 x3 x4 x5 x6 : Int) (x7 : Bool) (x8 x9 : Int) (w : World) : Calls Tryz.prog 79 #[.agg #[.int .i64 2, .int .i64 x2, .int .i64 x3, .int .i64 x4, .int .i64 x5, .int .i64 x6, .bool x7, .int .i64 x8, .int .i64 x9]] w fun e w' => e = .returned (.agg #[.int .i64 2, .int .i64 x2, .int .i64 0, .int .i64 0, .int .i64 0, .int .i64 0, .bool false, .int .i64 0, .int .i64 0]) ∧ Below w.heap.size w w' := by
 exact di
theorem wK (x2 x3 x4 x5 x6 : Int) (x7 : Bool) (x8 x9 : Int) (w : World) : Calls Tryz.prog 79 #[.agg #[.int .i64 3, .int .i64 x2, .int .i64 x3, .int .i64 x4, .int .i64 x5, .int .i64 x6, .bool x7, .int .i64 x8, .int .i64 x9]] w fun e w' => e = .returned (.agg #[.int .i64 3, .int .i64 x2, .int .i64 0, .int .i64 0, .int .i64 0, .int .i64 0, .bool false, .int .i64 0, .int .i64 0]) ∧ Below w.heap.size w w' := by
 exact di
theorem wL (x2 x3 x4 x5 x6 : Int) (x7 : Bool) (x8 x9 : Int) (w : World) : Calls Tryz.prog 79 #[.agg #[.int .i64 4, .int .i64 x2, .int .i64 x3, .int .i64 x4, .int .i64 x5, .int .i64 x6, .bool x7, .int .i64 x8, .int .i64 x9]] w fun e w' => e = .returned (.agg #[.int .i64 4, .int .i64 x2, .int .i64 0, .int .i64 0, .int .i64 0, .int .i64 0, .bool false, .int .i64 0, .int .i64 0]) ∧ Below w.heap.size w w' := by
 exact di
theorem wM (x2 x3 x4 x5 x6 : Int) (x7 : Bool) (x8 x9 : Int) (w : World) : Calls Tryz.prog 79 #[.agg #[.int .i64 5, .int .i64 x2, .int .i64 x3, .int .i64 x4, .int .i64 x5, .int .i64 x6, .bool x7, .int .i64 x8, .int .i64 x9]] w fun e w' => e = .returned (.agg #[.int .i64 5, .int .i64 x2, .int .i64 0, .int .i64 0, .int .i64 0, .int .i64 0, .bool false, .int .i64 0, .int .i64 0]) ∧ Below w.heap.size w w' := by
 exact di
theorem wN (x2 x3 x4 x5 x6 : Int) (x7 : Bool) (x8 x9 : Int) (w : World) : Calls Tryz.prog 79 #[.agg #[.int .i64 6, .int .i64 x2, .int .i64 x3, .int .i64 x4, .int .i64 x5, .int .i64 x6, .bool x7, .int .i64 x8, .int .i64 x9]] w fun e w' => e = .returned (.agg #[.int .i64 6, .int .i64 x2, .int .i64 0, .int .i64 0, .int .i64 0, .int .i64 0, .bool false, .int .i64 0, .int .i64 0]) ∧ Below w.heap.size w w' := by
 exact di
theorem wO (x2 x3 x4 x5 x6 : Int) (x7 : Bool) (x8 x9 : Int) (w : World) : Calls Tryz.prog 79 #[.agg #[.int .i64 7, .int .i64 x2, .int .i64 x3, .int .i64 x4, .int .i64 x5, .int .i64 x6, .bool x7, .int .i64 x8, .int .i64 x9]] w fun e w' => e = .returned (.agg #[.int .i64 7, .int .i64 0, .int .i64 0, .int .i64 0, .int .i64 0, .int .i64 0, .bool false, .int .i64 x8, .int .i64 0]) ∧ Below w.heap.size w w' := by
 exact di
theorem wP (x2 x3 x4 x5 x6 : Int) (x7 : Bool) (x8 x9 : Int) (w : World) : Calls Tryz.prog 79 #[.agg #[.int .i64 8, .int .i64 x2, .int .i64 x3, .int .i64 x4, .int .i64 x5, .int .i64 x6, .bool x7, .int .i64 x8, .int .i64 x9]] w fun e w' => e = .returned (.agg #[.int .i64 8, .int .i64 0, .int .i64 0, .int .i64 0, .int .i64 0, .int .i64 0, .bool false, .int .i64 x8, .int .i64 0]) ∧ Below w.heap.size w w' := by
 exact di
theorem wQ (x2 x3 x4 x5 x6 : Int) (x7 : Bool) (x8 x9 : Int) (w : World) : Calls Tryz.prog 79 #[.agg #[.int .i64 9, .int .i64 x2, .int .i64 x3, .int .i64 x4, .int .i64 x5, .int .i64 x6, .bool x7, .int .i64 x8, .int .i64 x9]] w fun e w' => e = .returned (.agg #[.int .i64 9, .int .i64 0, .int .i64 0, .int .i64 0, .int .i64 0, .int .i64 0, .bool false, .int .i64 0, .int .i64 x9]) ∧ Below w.heap.size w w' := by
 exact di
theorem tY (x1 : Int) (x2 x3 x4 x5 x6 : Int) (x7 : Bool) (x8 x9 : Int) (w : World) (h1 : x1 ≠ 1) (h2 : x1 ≠ 2) (h3 : x1 ≠ 3) (h4 : x1 ≠ 4) (h5 : x1 ≠ 5) (h6 : x1 ≠ 6) (h7 : x1 ≠ 7) (h8 : x1 ≠ 8) (h9 : x1 ≠ 9) : Calls Tryz.prog 79 #[.agg #[.int .i64 x1, .int .i64 x2, .int .i64 x3, .int .i64 x4, .int .i64 x5, .int .i64 x6, .bool x7, .int .i64 x8, .int .i64 x9]] w fun e w' => e = .returned (.agg #[.int .i64 x1, .int .i64 0, .int .i64 0, .int .i64 0, .int .i64 0, .int .i64 0, .bool false, .int .i64 0, .int .i64 0]) ∧ Below w.heap.size w w' := by
 have t1 : (x1 == 1) = false := beq_eq_false_iff_ne.2 h1
 have t2 : (x1 == 2) = false := beq_eq_false_iff_ne.2 h2
 have t3 : (x1 == 3) = false := beq_eq_false_iff_ne.2 h3
 have t4 : (x1 == 4) = false := beq_eq_false_iff_ne.2 h4
 have t5 : (x1 == 5) = false := beq_eq_false_iff_ne.2 h5
 have t6 : (x1 == 6) = false := beq_eq_false_iff_ne.2 h6
 have t7 : (x1 == 7) = false := beq_eq_false_iff_ne.2 h7
 have t8 : (x1 == 8) = false := beq_eq_false_iff_ne.2 h8
 have t9 : (x1 == 9) = false := beq_eq_false_iff_ne.2 h9
 clear h1 h2 h3 h4 h5 h6 h7 h8 h9
 exact di
theorem gZ (r : Rq) (w : World) : Calls Tryz.prog 79 #[.agg (encR r).toArray] w fun e w' => e = .returned (.agg (encR (aj r)).toArray) ∧ Below w.heap.size w w' := by
 obtain ⟨x1, x2, x3, x4, x5, x6, x7, x8, x9⟩ := r
 by_cases h1 : x1 = 1
 ·subst h1
  exact wI x2 x3 x4 x5 x6 x7 x8 x9 w
 by_cases h2 : x1 = 2
 ·subst h2
  exact wJ x2 x3 x4 x5 x6 x7 x8 x9 w
 by_cases h3 : x1 = 3
 ·subst h3
  exact wK x2 x3 x4 x5 x6 x7 x8 x9 w
 by_cases h4 : x1 = 4
 ·subst h4
  exact wL x2 x3 x4 x5 x6 x7 x8 x9 w
 by_cases h5 : x1 = 5
 ·subst h5
  exact wM x2 x3 x4 x5 x6 x7 x8 x9 w
 by_cases h6 : x1 = 6
 ·subst h6
  exact wN x2 x3 x4 x5 x6 x7 x8 x9 w
 by_cases h7 : x1 = 7
 ·subst h7
  exact wO x2 x3 x4 x5 x6 x7 x8 x9 w
 by_cases h8 : x1 = 8
 ·subst h8
  exact wP x2 x3 x4 x5 x6 x7 x8 x9 w
 by_cases h9 : x1 = 9
 ·subst h9
  exact wQ x2 x3 x4 x5 x6 x7 x8 x9 w
 have e : aj ⟨x1, x2, x3, x4, x5, x6, x7, x8, x9⟩ = ⟨x1, 0, 0, 0, 0, 0, false, 0, 0⟩ := by simp [aj, h1, h2, h3, h4, h5, h6, h7, h8, h9]
 rw [e]
 exact tY x1 x2 x3 x4 x5 x6 x7 x8 x9 w h1 h2 h3 h4 h5 h6 h7 h8 h9
end Go.Proofs.YtbdfpbknckghgaaGreat

namespace Go.Proofs.YtbdfpbknckghgaaGreat
open Go.RowKit Go.Lib Go.Sort
theorem tZ (n : Nat) : pO (dJ n) = List.replicate n 1 := by
 refine vU (by rw [pQ]; simp [dJ]) fun i hi => ?_
 have hin : i < n := by rw [pQ] at hi; simpa [dJ] using hi
 rw [vT, qE (by simpa [dJ] using hin)]
 have h1 : ¬ 0 ≤ holderL (dJ n).L i := by unfold dJ holderL; simp
 rw [if_neg h1]
 simp [dJ, List.getD_eq_getElem?_getD, hin]
theorem qW (n : Nat) (t : Int) : qx (dJ n) t 0 = n := by
 unfold qx kr rT
 have h1 : (List.range (dJ n).dr.length).countP (nP (dJ n) t) = n := by
  have e : (dJ n).dr.length = n := by simp [dJ]
  rw [e]
  have : (List.range n).countP (nP (dJ n) t) = (List.range n).length := by
   rw [List.countP_eq_length]
   intro k hk
   have hk := List.mem_range.1 hk
   unfold nP dJ holderL
   simp [List.getD_eq_getElem?_getD, hk]
  rw [this, List.length_range]
 rw [h1]
 simp [dJ]
structure wR (w0 w : World) (c t d p : Nat) (v : Value) (g a : Nat) (m : Int) (P : Pg) : Prop where
 cw : CW w c t d p v g a m P
 lo : ∀ k, jC c t d p v g k → w0.heap.size ≤ k
section
variable {w : World}
theorem wS (n : Nat) (w : World) (h1 : 1 ≤ n) (h2 : n ≤ 64) : Calls Tryz.prog 34 #[.int .i64 n] w fun e w' => ∃ c t d p v g, e = .returned (.tuple #[.pointer (some ⟨c, 0, none⟩), .int .i64 0]) ∧ wR w w' c t d p v g 1 0 (oo (dJ n)) ∧ Below w.heap.size w w' := by
 have hn := pK n w h1 h2
 go_enter Tryz.func34, Tryz.ntmps34
 go_wp2_with fail
 go_at_call 65
 refine hn.mono ?_
 clear hn
 rintro e w1 ⟨rfl, hT1, hb1⟩
 have hs1 : w.heap.size < w1.heap.size := ae hT1
 have hp := pM (n : Int) w1 (by omega)
 go_wp2_with fail
 go_at_call 66
 refine hp.mono ?_
 clear hp
 rintro e w2 ⟨p, g, rfl, hP2, lp, lg, hb2⟩
 have Ar : TW w2 w.heap.size (List.replicate n 1) := hT1.kept hb2
 have hj := qG w2
 go_wp2_with fail
 go_at_call 67
 refine hj.mono ?_
 clear hj
 rintro e w3 ⟨rfl, hw3⟩
 have hb3 : Below w2.heap.size w2 w3 := by rw [← hw3]; exact (Below.refl _ _).alloc (Nat.le_refl _) _
 have hJ3 : TV w3 w2.heap.size (.slice none 0 0) [] := by rw [← hw3]; exact BV.Am w2
 have gG := Ar.kept hb3
 have hP3 := hP2.kept hb3
 have hs2 := hb2.size
 replace hw3 := Lib.hid hw3
 obtain ⟨w4, hw4⟩ : ∃ w4, w4 = w3.alloc (.cells #[.pointer (some ⟨w2.heap.size, 0, none⟩), .pointer (some ⟨w.heap.size, 0, none⟩), .pointer (some ⟨p, 0, none⟩), .bool true, .bool false] 134) := ⟨_, rfl⟩
 have hb4 : Below w3.heap.size w3 w4 := by rw [hw4]; exact (Below.refl _ _).alloc (Nat.le_refl _) _
 have hc4 : w4.heap[w3.heap.size]? = some (.cells #[.pointer (some ⟨w2.heap.size, 0, none⟩), .pointer (some ⟨w.heap.size, 0, none⟩), .pointer (some ⟨p, 0, none⟩), .bool true, .bool false] 134 (0, 0)) := by rw [hw4]; exact heap_alloc_new w3 _
 have hs3 := hb3.size
 have hCW : Hid (CW w4 w3.heap.size w2.heap.size w.heap.size p (.slice none 0 0) g 1 0 (oo (dJ n))) := by
  refine ⟨hc4, hJ3.kept hb4, by show TW w4 w.heap.size (pO (dJ n)); rw [tZ]; exact gG.kept hb4, [(0, (n : Int))], 0, hP3.kept hb4, ?_, Nat.le_refl _, Int.le_refl _, Int.le_refl _⟩
  exact (vR n).congr fun t _ => (qW n t).symm
 have hlo : Hid (∀ k, jC w3.heap.size w2.heap.size w.heap.size p (.slice none 0 0) g k → w.heap.size ≤ k) := by
  rintro k (rfl | rfl | rfl | rfl | hv | rfl)
  ·omega
  ·omega
  ·exact Nat.le_refl _
  ·omega
  ·cases hv
  ·omega
 have hbw := hb1.trans ((hb2.trans ((hb3.trans (hb4.mono hb3.size)).mono hb2.size)).mono hb1.size)
 clear hc4 hJ3 gG hP3 hT1 Ar hP2
 go_wp2_with fail
 rw [← hw4]
 go_ret2
 exact ⟨w3.heap.size, w2.heap.size, w.heap.size, p, .slice none 0 0, g, rfl, ⟨hCW.out, hlo.out⟩, hbw⟩
def eF (r : Rq) : Wk := ⟨aj r, 0, 0, BL 115, zF, 0, 0, yD, false⟩
theorem p9 (r : Rq) (w : World) : Calls Tryz.prog 77 #[.agg (encR r).toArray] w fun e w' => ∃ b, e = .returned (.pointer (some ⟨b, 0, none⟩)) ∧ fo w' b (eF r) ∧ w.heap.size ≤ b ∧ Below w.heap.size w w' := by
 have zR := bL
 obtain ⟨k9, aK⟩ : ∃ k, k = 9 := ⟨_, rfl⟩
 rw [← aK] at zR
 have hk0 : ¬ k9 = 0 := by omega
 have lR := aG r
 rw [← aK] at lR
 replace aK := Lib.hid aK
 obtain ⟨wA, ah⟩ : ∃ wA, wA = w.alloc (.cells (encR r).toArray 28) := ⟨_, rfl⟩
 have bN : Below w.heap.size w wA := by rw [ah]; exact (Below.refl _ _).alloc (Nat.le_refl _) _
 have qa : wA.heap[w.heap.size]? = some (.cells (encR r).toArray 28 (0, 0)) := by rw [ah]; exact heap_alloc_new w _
 have Au := jG qa lR
 have hcl := gZ r wA
 rw [ah] at Au hcl
 generalize hcr : encR r = cR at *
 replace hcr := Lib.hid hcr
 go_enter Tryz.func77, Tryz.ntmps77
 go_wp2_with fail
 go_at_call 79
 refine hcl.mono ?_
 clear hcl Au
 rw [← ah]
 rintro e w1 ⟨rfl, hb1⟩
 replace ah := Lib.hid ah
 obtain ⟨y1, y2, y3, y4, y5, y6, y7, y8, y9, hy⟩ : ∃ y1 y2 y3 y4 y5 y6 y7 y8 y9, aj r = ⟨y1, y2, y3, y4, y5, y6, y7, y8, y9⟩ := ⟨_, _, _, _, _, _, _, _, _, rfl⟩
 obtain ⟨w2, hw2⟩ : ∃ w2, w2 = w1.alloc (.cells (rY (eF r)).toArray 209) := ⟨_, rfl⟩
 have hb2 : Below w1.heap.size w1 w2 := by rw [hw2]; exact (Below.refl _ _).alloc (Nat.le_refl _) _
 have hW2 : fo w2 w1.heap.size (eF r) := by show _ = _; rw [hw2]; exact heap_alloc_new w1 _
 have hl : (rY (eF r)).toArray = #[.int .i64 y1, .int .i64 y2, .int .i64 y3, .int .i64 y4, .int .i64 y5, .int .i64 y6, .bool y7, .int .i64 y8, .int .i64 y9, .int .i64 0, .int .i64 0, .func (.func 115) #[] #[], .int .i64 0, .int .i64 0, .int .i64 0, .int .i64 0, .int .i64 0, .int .i64 0, .int .i64 0, .int .i64 0, .int .i64 0, .int .u64 0, .int .i64 0, .int .i64 0, .int .i64 0, .int .i64 0, .int .i64 0, .int .i64 0, .int .i64 0, .int .i64 0, .int .i64 0, .int .i64 0, .int .i64 0, .bool false] := by unfold eF; rw [hy]; rfl
 have hbw := bN.trans ((hb1.trans (hb2.mono hb1.size)).mono bN.size)
 have hlo : w.heap.size ≤ w1.heap.size := Nat.le_trans bN.size hb1.size
 rw [hl] at hw2
 rw [hy, show (encR ⟨y1, y2, y3, y4, y5, y6, y7, y8, y9⟩).toArray = #[.int .i64 y1, .int .i64 y2, .int .i64 y3, .int .i64 y4, .int .i64 y5, .int .i64 y6, .bool y7, .int .i64 y8, .int .i64 y9] from rfl]
 replace hl := Lib.hid hl
 replace hy := Lib.hid hy
 obtain rfl := aK.out
 go_wp2_with fail
 rw [← hw2]
 go_ret
 exact ⟨w1.heap.size, rfl, hW2, hlo, hbw⟩
end
end Go.Proofs.YtbdfpbknckghgaaGreat

namespace Go.Proofs.YtbdfpbknckghgaaGreat
theorem fK {p : Prop} (f : p := by
 exact ⟨rfl, rfl, rfl, Nat.le_refl _, fun _ _ => rfl⟩) : p := f
end Go.Proofs.YtbdfpbknckghgaaGreat
namespace Go.Proofs.YtbdfpbknckghgaaGreat
open Go.RowKit Go.Lib
def jH (k : Int) : Bool := decide (k = 1) || decide (k = 3) || decide (k = 4) || decide (k = 2) || decide (k = 5) || decide (k = 7) || decide (k = 8) || decide (k = 9) || decide (k = 6) || decide (k = 11)
def jI (k : Int) : Bool := decide (k = 2) || decide (k = 5) || decide (k = 7) || decide (k = 8) || decide (k = 9) || decide (k = 10)
def jJ (k : Int) : Bool := decide (k = 1) || decide (k = 3) || decide (k = 4) || decide (k = 2) || decide (k = 5) || decide (k = 7) || decide (k = 8) || decide (k = 9) || decide (k = 12)
theorem qX (k : Int) (w : World) : Calls Tryz.prog 78 #[.int .i64 k] w fun e w' => e = .returned (az (jH k) (jI k) (jJ k)) ∧ Below w.heap.size w w' := by
 by_cases h1 : k = 1; · subst h1; exact uQ w
 by_cases h3 : k = 3; · subst h3; exact uR w
 by_cases h4 : k = 4; · subst h4; exact uS w
 by_cases h2 : k = 2; · subst h2; exact uU w
 by_cases h5 : k = 5; · subst h5; exact uV w
 by_cases h7 : k = 7; · subst h7; exact uW w
 by_cases h8 : k = 8; · subst h8; exact uX w
 by_cases h9 : k = 9; · subst h9; exact uY w
 by_cases h6 : k = 6; · subst h6; exact uT w
 by_cases h11 : k = 11; · subst h11; exact sH w
 by_cases h10 : k = 10; · subst h10; exact sI w
 by_cases h12 : k = 12; · subst h12; exact sJ w
 have h := sK k w h1 h3 h4 h2 h5 h7 h8 h9 h6 h11 h10 h12
 rw [show jH k = false by simp [jH, *], show jI k = false by simp [jI, *], show jJ k = false by simp [jJ, *]]
 exact h
def bZ (w : World) (o h : Nat) (r : Rq) : Prop := w.heap[o]? = some (.cells (Value.pointer (some ⟨h, 0, none⟩) :: encR r).toArray 162 (0, 0))
section
variable {w w' : World} {o h : Nat} {r : Rq} {H : Hd}
theorem bZ.lt (q : bZ w o h r) : o < w.heap.size := ae q
theorem bZ.c0 (q : bZ w o h r) : w.cell? ⟨o, 0, none⟩ = some (.pointer (some ⟨h, 0, none⟩)) := by simp [World.cell?, show w.heap[o]? = _ from q]
theorem oC (q : bZ w o h r) (qh : aA w h H) : Calls Tryz.prog 269 #[.pointer (some ⟨o, 0, none⟩)] w fun e w' => e = .returned (.bool (H.st == 5)) ∧ w = w' := by
 have c0 := q.c0
 have hs := jA qh
 clear q qh
 go_enter Tryz.func269, Tryz.ntmps269
 go_wp2_with (go_at_call 263; go_must (refine hs.mono ?_); rintro e w' ⟨rfl, rfl⟩)
 go_ret
 exact ⟨rfl, rfl⟩
def fZ (b : Nat) (who : Int) (r : Rq) : Hd := yU b who (jH r.kind) (jI r.kind) (jJ r.kind)
theorem uf (r : Rq) (who : Int) (w : World) : Calls Tryz.prog 41 #[.agg (encR r).toArray, .int .i64 who] w fun e w' => ∃ o h b, e = .returned (.pointer (some ⟨o, 0, none⟩)) ∧ bZ w' o h (aj r) ∧ aA w' h (fZ b who r) ∧ fo w' b (eF r) ∧ w.heap.size ≤ o ∧ w.heap.size ≤ h ∧ w.heap.size ≤ b ∧ Below w.heap.size w w' := by
 have zR := bL
 have lR := aG r
 obtain ⟨k9, aK⟩ : ∃ k, k = 9 := ⟨_, rfl⟩
 rw [← aK] at zR lR
 have hk0 : ¬ k9 = 0 := by omega
 replace aK := Lib.hid aK
 obtain ⟨wA, ah⟩ : ∃ wA, wA = w.alloc (.cells (encR r).toArray 28) := ⟨_, rfl⟩
 have bN : Hid (Below w.heap.size w wA) := by show Below _ _ _; rw [ah]; exact (Below.refl _ _).alloc (Nat.le_refl _) _
 have qa : wA.heap[w.heap.size]? = some (.cells (encR r).toArray 28 (0, 0)) := by rw [ah]; exact heap_alloc_new w _
 have hlA : Hid (w.heap.size < wA.heap.size) := ae qa
 have hz := Lib.hid qa
 have hld : Hid (∀ W, Below wA.heap.size wA W → Sem.run Tryz.prog (loadCellsFrom ⟨w.heap.size, 0, none⟩ 0 k9 #[]) W = .ok (encR r).toArray W) := fun W hW => jG ((hW.block _ hlA.out).trans hz.out) lR
 have hki : Hid (∀ W, Below wA.heap.size wA W → W.cell? ⟨w.heap.size, 0, none⟩ = some (.int .i64 r.kind)) := fun W hW => ay ((hW.block _ hlA.out).trans hz.out) 0 _ rfl
 clear qa lR
 obtain ⟨cR, hcR⟩ : ∃ cR, cR = encR r := ⟨_, rfl⟩
 have Av := Lib.hid (p9 r)
 have Aw := Lib.hid (gZ r)
 rw [← hcR] at hld Av Aw ah ⊢
 replace hcR := Lib.hid hcR
 go_enter Tryz.func41, Tryz.ntmps41
 go_wp2_with fail
 rw [← ah]
 replace ah := Lib.hid ah
 refine Reg2.pg 8 16 [[],[bV],[bI,bI],[bI,bI,bI],[bI,bI,bI,bV],[bV,bV,bI,bV,bV],[bV,bV,bV,bV,bV,bV],[bI,bI,bI,bI,bI,bI,bI]] [1, 1, 0, 0, 1, 1, 1, 1]
  [.mU (.agg cR.toArray), .minor Nat 0 (fun q => .pointer (some ⟨q, 0, none⟩)) (fun q W => wA.heap.size ≤ q ∧ fo W q (eF r)), .pure, .pure, .mU (.int .i64 r.kind), .mU (az (jH r.kind) (jI r.kind) (jJ r.kind)), .minor Nat 0 (fun q => .pointer (some ⟨q, 0, none⟩)) (fun q W => wA.heap.size ≤ q ∧ ∃ b, wA.heap.size ≤ b ∧ fo W b (eF r) ∧ aA W q (fZ b who r)), .mU (.agg cR.toArray)]
  (fun W => Below wA.heap.size wA W) (fun _ _ => True) (fun a b => Below a.heap.size a b) (by kernel_rfl) (by kernel_rfl) rfl rfl (fun vs a b h hs => trivial) ?_ ?_ ?_ ?_ ?_ ?_
 ·intro a b he hb; exact hb.trans (Below.mono he hb.size)
 ·intro a b he hb; exact hb.trans (Below.mono he hb.size)
 ·have k1 : ∀ (x : Nat) (a b : World), Below a.heap.size a b → (wA.heap.size ≤ x ∧ fo a x (eF r)) → wA.heap.size ≤ x ∧ fo b x (eF r) := fun x a b he h => ⟨h.1, (he.block _ h.2.lt).trans h.2⟩
  have k2 : ∀ (x : Nat) (a b : World), Below a.heap.size a b → (wA.heap.size ≤ x ∧ ∃ b, wA.heap.size ≤ b ∧ fo a b (eF r) ∧ aA a x (fZ b who r)) → wA.heap.size ≤ x ∧ ∃ c, wA.heap.size ≤ c ∧ fo b c (eF r) ∧ aA b x (fZ c who r) := fun x a b he h => by
   obtain ⟨h1, c, h2, h3, h4⟩ := h
   exact ⟨h1, c, h2, (he.block _ h3.lt).trans h3, (he.block _ h4.lt).trans h4⟩
  exact ⟨⟨fun _ _ _ _ _ => trivial, fun _ _ _ _ _ => trivial⟩, ⟨k1, k1⟩, trivial, trivial, ⟨fun _ _ _ _ _ => trivial, fun _ _ _ _ _ => trivial⟩, ⟨fun _ _ _ _ _ => trivial, fun _ _ _ _ _ => trivial⟩, ⟨k2, k2⟩, ⟨fun _ _ _ _ _ => trivial, fun _ _ _ _ _ => trivial⟩, trivial⟩
 ·exact fK
 ·trivial
 dsimp only [Reg2.mk, List.zip, List.zipWith, List.take]
 refine Reg2.pm (fun wz hI hF => ?_) fun r0 => ?_
 ·have d0 := hld.out wz hI
  go_wp2_with fail
  first | exact ⟨_, rfl, rfl, Reg2.Ext.refl _⟩ | exact ⟨_, rfl, ⟨(), rfl, trivial⟩, Reg2.Ext.refl _⟩
 simp only [Act.put, xA, xB, xC, xD, xE, id]
 refine Reg2.pm (fun wz hI hF => ?_) fun r1 => ?_
 ·have hc := Av.out wz
  go_wp2_with fail
  go_at_call 77
  refine hc.mono ?_
  clear hc
  rintro e w2 ⟨b, rfl, hW, hlo, hb⟩
  have hlo2 := hI.size
  go_wp2_with fail
  exact ⟨_, rfl, ⟨b, rfl, by omega, hW⟩, hb⟩
 simp only [Act.put, xA, xB, xC, xD, xE, id]
 repeat ((first
  | (refine' Reg2.aO _ (by rfl) (fun wz => ?_) ?_; rotate_left; (go_simp; first | rfl | rw [if_neg (by omega)]))
  | (refine Reg2.aD (by rfl) (fun wz hI hF => ?_) (fun _ => ?_)
     ·unfold Reg2.One
      have d0 := hki.out wz hI
      go_wp2_with fail
      first | exact ⟨_, rfl, rfl, Reg2.Ext.refl _⟩ | exact ⟨_, rfl, ⟨(), rfl, trivial⟩, Reg2.Ext.refl _⟩)); simp only [Act.put, xA, xB, xC, xD, xE, id])
 refine Reg2.pm (fun wz hI hF => ?_) fun r5 => ?_
 ·have hc := qX r.kind wz
  go_wp2_with fail
  go_at_call 78
  refine hc.mono ?_
  clear hc
  rintro e w2 ⟨rfl, hb⟩
  go_wp2_with fail
  first | exact ⟨_, rfl, rfl, hb⟩ | exact ⟨_, rfl, ⟨(), rfl, trivial⟩, hb⟩
 simp only [Act.put, xA, xB, xC, xD, xE, id]
 refine Reg2.pm (fun wz hI hF => ?_) fun r6 => ?_
 ·have hW1 := hF.2.1.2
  have hl1 := hF.2.1.1
  have hc := pF r1 who (jH r.kind) (jI r.kind) (jJ r.kind) wz
  replace hW1 := Lib.hid hW1
  clear hF
  go_wp2_with fail
  go_at_call 76
  refine hc.mono ?_
  clear hc
  rintro e w2 ⟨b, rfl, hH, hlo, hb⟩
  have hlo2 := hI.size
  have hW2 : fo w2 r1 (eF r) := (hb.block _ hW1.out.lt).trans hW1.out
  go_wp2_with fail
  exact ⟨_, rfl, ⟨b, rfl, by omega, r1, hl1, hW2, hH⟩, hb⟩
 simp only [Act.put, xA, xB, xC, xD, xE, id]
 refine Reg2.pm (fun wz hI hF => ?_) fun r7 => ?_
 ·have d0 := hld.out wz hI
  go_wp2_with fail
  first | exact ⟨_, rfl, rfl, Reg2.Ext.refl _⟩ | exact ⟨_, rfl, ⟨(), rfl, trivial⟩, Reg2.Ext.refl _⟩
 simp only [Act.put, xA, xB, xC, xD, xE, id]
 refine Reg2.aY ?_
 intro w1 HI _ HF
 obtain ⟨Cy, b, hlb, yE, hH6⟩ := HF.2.2.2.2.2.2.1
 clear HF hki r0 r5 r7
 dsimp only [List.drop]
 have hc := Aw.out w1
 replace yE := Lib.hid yE
 replace hH6 := Lib.hid hH6
 go_wp2_with fail
 go_at_call 79
 refine hc.mono ?_
 clear hc
 rintro e w2 ⟨rfl, hb2⟩
 obtain ⟨y1, y2, y3, y4, y5, y6, y7, y8, y9, hy⟩ : ∃ y1 y2 y3 y4 y5 y6 y7 y8 y9, aj r = ⟨y1, y2, y3, y4, y5, y6, y7, y8, y9⟩ := ⟨_, _, _, _, _, _, _, _, _, rfl⟩
 obtain ⟨w3, hw3⟩ : ∃ w3, w3 = w2.alloc (.cells (Value.pointer (some ⟨r6, 0, none⟩) :: encR (aj r)).toArray 162) := ⟨_, rfl⟩
 have hb3 : Below w2.heap.size w2 w3 := by rw [hw3]; exact (Below.refl _ _).alloc (Nat.le_refl _) _
 have hO3 : bZ w3 w2.heap.size r6 (aj r) := by show _ = _; rw [hw3]; exact heap_alloc_new w2 _
 have hH3 : aA w3 r6 (fZ b who r) := hH6.out.below ((hb2.trans (hb3.mono hb2.size))) hH6.out.lt
 have hW3 : fo w3 b (eF r) := ((hb2.trans (hb3.mono hb2.size)).block _ yE.out.lt).trans yE.out
 have hbw : Below w.heap.size w w3 := bN.out.trans ((HI.trans ((hb2.trans (hb3.mono hb2.size)).mono HI.size)).mono bN.out.size)
 have hlo : w.heap.size ≤ w2.heap.size := Nat.le_trans bN.out.size (Nat.le_trans HI.size hb2.size)
 have hs := bN.out.size
 rw [show (Value.pointer (some ⟨r6, 0, none⟩) :: encR (aj r)).toArray = #[.pointer (some ⟨r6, 0, none⟩), .int .i64 y1, .int .i64 y2, .int .i64 y3, .int .i64 y4, .int .i64 y5, .int .i64 y6, .bool y7, .int .i64 y8, .int .i64 y9] by rw [hy]; rfl] at hw3
 rw [hy, show (encR ⟨y1, y2, y3, y4, y5, y6, y7, y8, y9⟩).toArray = #[.int .i64 y1, .int .i64 y2, .int .i64 y3, .int .i64 y4, .int .i64 y5, .int .i64 y6, .bool y7, .int .i64 y8, .int .i64 y9] from rfl]
 rw [hy] at hO3
 replace hy := Lib.hid hy
 replace hO3 := Lib.hid hO3
 replace hH3 := Lib.hid hH3
 replace hW3 := Lib.hid hW3
 replace hbw := Lib.hid hbw
 clear hb2 hb3 HI hld
 obtain rfl := aK.out
 go_wp2_with fail
 rw [← hw3]
 go_ret
 exact ⟨w2.heap.size, r6, b, rfl, by rw [hy.out]; exact hO3.out, hH3.out, hW3.out, hlo, by omega, by omega, hbw.out⟩
end
end Go.Proofs.YtbdfpbknckghgaaGreat

namespace Go.Proofs.YtbdfpbknckghgaaGreat
open Go.RowKit Go.Lib
structure Ct where
 core : Nat
 log : Nat
 bf : Nat
 tasks : Int
 live : Value
 told : Value
def aB (w : World) (c : Nat) (C : Ct) : Prop := w.heap[c]? = some (.cells #[.pointer (some ⟨C.core, 0, none⟩), .pointer (some ⟨C.log, 0, none⟩), .pointer (some ⟨C.bf, 0, none⟩), .int .i64 C.tasks, C.live, C.told] 41 (0, 0))
section
variable {w w' : World} {c : Nat} {C : Ct}
theorem aB.lt (q : aB w c C) : c < w.heap.size := ae q
theorem aB.below {B : Nat} (q : aB w c C) (hb : Below B w w') (hs : c < B) : aB w' c C := by
 unfold aB at *; rw [hb.block c hs]; exact q
theorem aB.c0 (q : aB w c C) : w.cell? ⟨c, 0, none⟩ = some (.pointer (some ⟨C.core, 0, none⟩)) := by simp [World.cell?, show w.heap[c]? = _ from q]
theorem aB.c1 (q : aB w c C) : w.cell? ⟨c, 1, none⟩ = some (.pointer (some ⟨C.log, 0, none⟩)) := by simp [World.cell?, show w.heap[c]? = _ from q]
theorem aB.c2 (q : aB w c C) : w.cell? ⟨c, 2, none⟩ = some (.pointer (some ⟨C.bf, 0, none⟩)) := by simp [World.cell?, show w.heap[c]? = _ from q]
theorem aB.c3 (q : aB w c C) : w.cell? ⟨c, 3, none⟩ = some (.int .i64 C.tasks) := by simp [World.cell?, show w.heap[c]? = _ from q]
theorem aB.c4 (q : aB w c C) : w.cell? ⟨c, 4, none⟩ = some C.live := by simp [World.cell?, show w.heap[c]? = _ from q]
theorem aB.c5 (q : aB w c C) : w.cell? ⟨c, 5, none⟩ = some C.told := by simp [World.cell?, show w.heap[c]? = _ from q]
theorem aB.free (q : aB w c C) (j : Nat) : w.frozen? ⟨c, j, none⟩ = false := by simp [World.frozen?, show w.heap[c]? = _ from q]
theorem ug (q : aB w c C) : Calls Tryz.prog 17 #[.pointer (some ⟨c, 0, none⟩)] w fun e w' => e = .returned (.pointer (some ⟨C.bf, 0, none⟩)) ∧ w = w' := by
 have c2 := q.c2
 clear q
 go_enter Tryz.func17, Tryz.ntmps17
 go_wp2_with fail
 go_ret
 exact ⟨rfl, rfl⟩
theorem bP (q : aB w c C) : Calls Tryz.prog 12 #[.pointer (some ⟨c, 0, none⟩)] w fun e w' => e = .returned (.int .i64 C.tasks) ∧ w = w' := by
 have c3 := q.c3
 clear q
 go_enter Tryz.func12, Tryz.ntmps12
 go_wp2_with fail
 go_ret
 exact ⟨rfl, rfl⟩
theorem dX (q : aB w c C) : Calls Tryz.prog 42 #[.pointer (some ⟨c, 0, none⟩)] w fun e w' => e = .returned C.live ∧ w = w' := by
 have c4 := q.c4
 clear q
 go_enter Tryz.func42, Tryz.ntmps42
 go_wp2_with fail
 go_ret
 exact ⟨rfl, rfl⟩
theorem iX {p : Value} {ao : Option Addr} {n cap : Nat} (h : Calls Tryz.prog 42 #[p] w fun e w' => e = .returned (.slice ao n cap) ∧ w = w') : Calls Tryz.prog 14 #[p] w fun e w' => e = .returned (.int .i64 n) ∧ w = w' := by
 go_enter Tryz.func14, Tryz.ntmps14
 go_wp2_with (go_at_call 42; go_must (refine h.mono ?_); rintro e w' ⟨rfl, rfl⟩)
 go_ret
 exact ⟨rfl, rfl⟩
theorem wT {ao : Option Addr} {n cap : Nat} (q : aB w c C) (hl : C.live = .slice ao n cap) (hn : n < 64) : Calls Tryz.prog 38 #[.pointer (some ⟨c, 0, none⟩)] w fun e w' => e = .returned (.int .i64 0) ∧ w = w' := by
 have h1 := ug q
 have ha := dX q
 rw [hl] at ha
 have h2 := iX ha
 have d1 : decide ((64 : Int) ≤ (n : Int)) = false := decide_eq_false (by omega)
 clear q ha
 go_enter Tryz.func38, Tryz.ntmps38
 go_wp2_with (first | (go_at_call 17; go_must (refine h1.mono ?_); rintro e w' ⟨rfl, rfl⟩) | (go_at_call 14; go_must (refine h2.mono ?_); rintro e w' ⟨rfl, rfl⟩))
 go_ret
 exact ⟨rfl, rfl⟩
end
end Go.Proofs.YtbdfpbknckghgaaGreat

namespace Go.Proofs.YtbdfpbknckghgaaGreat
open Go.RowKit Go.Lib
open Go.ChangeShapes Go.WideShapes Go.ChangeAt Go.Deep
structure Ev where
 st : Int
 kd : Int
 tk : Int
 q1 : Int
 q2 : Int
 q3 : Int
 q4 : Int
 q5 : Int
 q6 : Int
 qh : Bool
 q7 : Int
 q8 : Int
 r1 : Int
 r2 : Int
 r3 : Int
 r4 : Int
 r5 : Int
 r6 : Int
 r7 : Int
 r8 : Int
 r9 : Int
 c1 : Int
 c2 : Int
 ok : Bool
deriving Inhabited
def av (e : Ev) : List Value := [.int .i64 e.st, .int .i64 e.kd, .int .i64 e.tk, .int .i64 e.q1, .int .i64 e.q2, .int .i64 e.q3, .int .i64 e.q4, .int .i64 e.q5, .int .i64 e.q6, .bool e.qh, .int .i64 e.q7, .int .i64 e.q8, .int .i64 e.r1, .int .i64 e.r2, .int .i64 e.r3, .int .i64 e.r4, .int .i64 e.r5, .int .i64 e.r6, .int .i64 e.r7, .int .i64 e.r8, .int .i64 e.r9, .int .i64 e.c1, .int .i64 e.c2, .bool e.ok]
theorem qY : ∀ w, Sem.run Tryz.prog (Go.sizeOf 50) w = .ok 24 w := Tryz.sizeOf50
theorem dY (x : Ev) : (av x).length = 24 := rfl
theorem jK (x : Ev) : ∀ v ∈ av x, v.oneCell' = true := by
 intro v hv
 simp only [av, List.mem_cons, List.not_mem_nil, or_false] at hv
 rcases hv with rfl | rfl | rfl | rfl | rfl | rfl | rfl | rfl | rfl | rfl | rfl | rfl | rfl | rfl | rfl | rfl | rfl | rfl | rfl | rfl | rfl | rfl | rfl | rfl <;> rfl
theorem ib {W : World} {p : Nat} {x : Ev} (h : W.heap[p]? = some (.cells (av x).toArray 50 (0, 0))) : ∀ j u, (av x)[j]? = some u → W.cell? ⟨p, j, none⟩ = some u := by
 intro j u hj
 simp only [World.cell?, h]
 simpa using hj
theorem wU {W : World} {p k : Nat} {x : Ev} (h : W.heap[p]? = some (.cells (av x).toArray 50 (0, 0))) (hk : k = 24) : Sem.run Tryz.prog (loadCellsFrom ⟨p, 0, none⟩ 0 k #[]) W = .ok (av x).toArray W := by
 subst hk
 refine run_loadCellsFrom_list Tryz.prog W _ _ 24 (dY x) fun j u hj => ?_
 rw [Go.WideShapes.add_plain, Nat.zero_add]
 exact ib h j u hj
theorem iY {W : World} {b off k n c i : Nat} {l : List Ev} (h : ai av 24 W (.slice (some ⟨b, off, none⟩) n c) l) (hk : k = 24) (hi : i < l.length) : Sem.run Tryz.prog (loadCellsFrom ⟨b, off + i * k, none⟩ 0 k #[]) W = .ok (av l[i]!).toArray W := by
 subst hk
 obtain ⟨ao, cap, h1, _, _, h4⟩ := h
 obtain ⟨b', off', e, _, hc⟩ := h4 (by omega)
 cases h1
 cases e
 refine run_loadCellsFrom_list Tryz.prog W _ _ 24 (dY _) fun j u hj => ?_
 rw [Go.WideShapes.add_plain, Nat.add_assoc]
 exact hc i _ j u (by rw [List.getElem?_eq_getElem hi, getElem!_pos l i hi]) hj
section
end
theorem qb (x : Ev) (w : World) : (Op.equalIn 10000 50 (.agg (av x).toArray) (.agg (av x).toArray)).run Tryz.prog w = .ok true w := by
 have u0 := Tryz.underlying3
 have a0 := Tryz.isAgg3
 have z0 := Tryz.sizeOf3
 have u1 := Tryz.underlying4
 have a1 := Tryz.isAgg4
 have z1 := Tryz.sizeOf4
 have u2 := Tryz.underlying2
 have a2 := Tryz.isAgg2
 have z2 := Tryz.sizeOf2
 have u3 := Tryz.underlying24
 have a3 := Tryz.isAgg24
 have z3 := Tryz.sizeOf24
 have u4 := Tryz.underlying28
 have a4 := Tryz.isAgg28
 have z4 := Tryz.sizeOf28
 have wV : Tryz.prog.underlying 28 = some (.struct (Tryz.prog.fieldsOf 28)) := by kernel_rfl
 have Cz : Tryz.prog.stoodInHeld 28 = false := by kernel_rfl
 have u5 := Tryz.underlying44
 have a5 := Tryz.isAgg44
 have z5 := Tryz.sizeOf44
 have hS5 : Tryz.prog.underlying 44 = some (.struct (Tryz.prog.fieldsOf 44)) := by kernel_rfl
 have CB : Tryz.prog.stoodInHeld 44 = false := by kernel_rfl
 have u6 := Tryz.underlying48
 have a6 := Tryz.isAgg48
 have z6 := Tryz.sizeOf48
 have wW : Tryz.prog.underlying 48 = some (.struct (Tryz.prog.fieldsOf 48)) := by kernel_rfl
 have CE : Tryz.prog.stoodInHeld 48 = false := by kernel_rfl
 have hS : Tryz.prog.underlying 50 = some (.struct (Tryz.prog.fieldsOf 50)) := by kernel_rfl
 have hp : Tryz.prog.stoodInHeld 50 = false := by kernel_rfl
 rw [show (10000 : Nat) = 9999 + 1 from rfl, run_equalIn_agg w 9999 50 _ _ hS hp]
 simp only [Program.fieldsOf, Tryz.underlying50, Tryz.underlying28, Tryz.underlying44, Tryz.underlying48] at *
 obtain ⟨x0, x1, x2, x3, x4, x5, x6, x7, x8, x9, lC, lD, lF, lG, lH, lJ, lK, lL, lM, lN, x20, lQ, lS, lT⟩ := x
 simp only [av]
 go_simp
theorem j5 (x : Ev) (w : World) : (binOp .neq 50 (.agg (av x).toArray) (.agg (av x).toArray)).run Tryz.prog w = .ok (.bool false) w := by
 rw [run_neq_struct, qb]; rfl
end Go.Proofs.YtbdfpbknckghgaaGreat

namespace Go.Proofs.YtbdfpbknckghgaaGreat
theorem mY {p : Prop} (f : p := by
 intro e
 rcases h.2 with ⟨e0, _⟩ | ⟨g', cap', cur, e0, _, hg, _⟩
 ·rw [e0] at e; simp [Value.ownBlock] at e
 ·rw [e0] at e
  simp [Value.ownBlock] at e
  subst e
  rw [hs] at hg
  injection hg with hg
  injection hg with _ h2
  exact hT h2) : p := f
theorem mZ {p : Prop} (f : p := by
 intro a b he hb
 exact ⟨he.os.trans hb.os, he.tape.trans hb.tape, he.output.trans hb.output, Nat.le_trans hb.size he.size, fun q hq' h2 => (he.block q (Nat.lt_of_lt_of_le hq' hb.size) h2).trans (hb.block q hq' h2)⟩) : p := f
theorem ng {p : Prop} (f : p := by
 intro a b he hb
 exact ⟨he.os.trans hb.os, he.tape.trans hb.tape, he.output.trans hb.output, Nat.le_trans hb.size he.size, fun q hq' h2 => (he.block q (Nat.lt_of_lt_of_le hq' hb.size)).trans (hb.block q hq' h2)⟩) : p := f
end Go.Proofs.YtbdfpbknckghgaaGreat
namespace Go.Proofs.YtbdfpbknckghgaaGreat
open Go.RowKit Go.Lib Put
structure bQ (p : Nat) (o : Option Nat) (w w' : World) : Prop where
 os : w'.os = w.os
 tape : w'.tape = w.tape
 output : w'.output = w.output
 size : w.heap.size ≤ w'.heap.size
 block : ∀ k, k < w.heap.size → k ≠ p → o ≠ some k → w'.heap[k]? = w.heap[k]?
def bE (w : World) (o o' : Option Nat) : Prop := o' = o ∨ ∃ k, o' = some k ∧ w.heap.size ≤ k
section
variable {p : Nat} {o o1 o2 : Option Nat} {w w1 w2 : World}
theorem bQ.refl (p : Nat) (o : Option Nat) (w : World) : bQ p o w w := ⟨rfl, rfl, rfl, Nat.le_refl _, fun _ _ _ _ => rfl⟩
theorem bQ.of_below (h : Below w.heap.size w w1) : bQ p o w w1 := ⟨h.os, h.tape, h.output, h.size, fun k hk _ _ => h.block k hk⟩
theorem bQ.uh (h : w.grownBy w1 o) : bQ p o w w1 := ⟨h.os, h.tape, h.output, h.size, fun k hk _ h2 => h.block k hk (fun e => h2 e.symm)⟩
theorem bQ.trans (h : bQ p o w w1) (h' : bQ p o1 w1 w2) (hn : bE w o o1) : bQ p o w w2 :=
 ⟨h'.os.trans h.os, h'.tape.trans h.tape, h'.output.trans h.output, Nat.le_trans h.size h'.size, fun k hk h1 h2 => by
  rw [h'.block k (Nat.lt_of_lt_of_le hk h.size) h1 (by
   rcases hn with rfl | ⟨q, rfl, hq⟩
   ·exact h2
   ·intro e; injection e with e; omega), h.block k hk h1 h2]⟩
theorem bQ.setCell {j : Nat} {v : Value} (h : bQ p o w w1) : bQ p o w (w1.setCell ⟨p, j, none⟩ v) :=
 ⟨h.os, h.tape, h.output, by simpa using h.size, fun k hk h1 h2 => by rw [Below.heap_setCell w1 ⟨p, j, none⟩ v k (fun e => h1 e)]; exact h.block k hk h1 h2⟩
theorem bQ.yF {b j : Nat} {v : Value} (h : bQ p o w w1) (hb : w.heap.size ≤ b) : bQ p o w (w1.setCell ⟨b, j, none⟩ v) :=
 ⟨h.os, h.tape, h.output, by simpa using h.size, fun k hk h1 h2 => by rw [Below.heap_setCell w1 ⟨b, j, none⟩ v k (fun e => by simp only at e; omega)]; exact h.block k hk h1 h2⟩
theorem bE.refl (w : World) (o : Option Nat) : bE w o o := .inl rfl
theorem bE.trans (h : bE w o o1) (h' : bE w1 o1 o2) (hs : w.heap.size ≤ w1.heap.size) : bE w o o2 := by
 rcases h' with rfl | ⟨q, rfl, hq⟩
 ·exact h
 ·exact .inr ⟨q, rfl, by omega⟩
theorem bQ.row {v : Value} {l : List Ev} (h : bQ p o w w1) (hr : ai av 24 w v l) (hs : 0 < l.length → ∀ b off m c, v = .slice (some ⟨b, off, none⟩) m c → b ≠ p ∧ o ≠ some b) : ai av 24 w1 v l := by
 obtain ⟨ao, cap, h1, h2, h3, h4⟩ := hr
 refine ⟨ao, cap, h1, h2, h3, fun hn => ?_⟩
 obtain ⟨b, off, e, hlt, hc⟩ := h4 hn
 subst e
 obtain ⟨a1, a2⟩ := hs hn b off _ _ h1
 refine ⟨b, off, rfl, Nat.lt_of_lt_of_le hlt h.size, fun i s j u hi hj => ?_⟩
 have := hc i s j u hi hj
 simp only [World.cell?] at this ⊢
 rw [h.block b hlt a1 a2]
 exact this
end
def stamp (st : Int) (x : Ev) : Ev := { x with st := st }
structure LG (B : Nat) (w : World) (s : Nat) (st : Int) (v : Value) (L : List Ev) : Prop where
 obj : w.heap[s]? = some (.cells #[.int .i64 st, v] 91 (0, 0))
 own : w.ownsRow B 50 24 v L.length (L.flatMap av)
 bs : B ≤ s
section
variable {B s : Nat} {w w' : World} {st : Int} {v va : Value} {L l : List Ev}
theorem LG.c0 (h : LG B w s st v L) : w.cell? ⟨s, 0, none⟩ = some (.int .i64 st) := by simp [World.cell?, h.obj]
theorem LG.c1 (h : LG B w s st v L) : w.cell? ⟨s, 1, none⟩ = some v := by simp [World.cell?, h.obj]
theorem LG.fz (h : LG B w s st v L) (i : Nat) : w.frozen? ⟨s, i, none⟩ = false := by simp [World.frozen?, h.obj]
theorem LG.lt (h : LG B w s st v L) : s < w.heap.size := ae h.obj
theorem LG.below (h : LG B w s st v L) (hb : Below w.heap.size w w') : LG B w' s st v L := ⟨(hb.block _ h.lt).trans h.obj, Put.aF h.own hb, h.bs⟩
theorem qc {n : Nat} {xs : List Value} {cs : Array Value} {T : TypeId} (h : w.ownsRow B 50 24 v n xs) (hs : w.heap[s]? = some (.cells cs T (0, 0))) (hT : T ≠ 50) : v.ownBlock ≠ some s := by
 exact mY
theorem LG.apart (h : LG B w s st v L) : v.ownBlock ≠ some s := qc h.own h.obj (by decide)
theorem wX (h : LG B w s st v L) (h0 : 0 ≤ st) (h1 : st ≤ 1000) : Calls Tryz.prog 81 #[.pointer (some ⟨s, 0, none⟩)] w fun e w' => e = .returned (.tuple #[]) ∧ LG B w' s (st + 1) v L ∧ bQ s none w w' := by
 have c0 := h.c0
 have f0 := h.fz 0
 have hw : IntKind.i64.wrap (st + 1) = st + 1 := IntWalk.i64_in _ (by omega)
 have hfin : Hid (LG B (w.setCell ⟨s, 0, none⟩ (.int .i64 (st + 1))) s (st + 1) v L ∧ bQ s none w (w.setCell ⟨s, 0, none⟩ (.int .i64 (st + 1)))) := by
  refine ⟨⟨?_, ?_, h.bs⟩, (bQ.refl _ _ _).setCell⟩
  ·have := heap_put (i := 0) h.obj (.int .i64 (st + 1))
   simpa using this
  ·exact ax h.own fun k hk => Below.heap_setCell w ⟨s, 0, none⟩ _ k (fun e => h.apart (by rw [hk]; simp only at e; rw [e]))
 clear h
 go_enter Tryz.func81, Tryz.ntmps81
 go_wp2_with fail
 go_end0
 exact ⟨rfl, hfin.out⟩
def NoteS (B : Nat) (w1 : World) (hq : Value) (L : List Ev) (x : Ev) (vs : List Value) (W : World) : Prop :=
 match vs with
 | [] => W.ownsRow B 50 24 hq L.length (L.flatMap av)
 | v' :: _ => W.ownsRow B 50 24 v' (L.length + 1) (L.flatMap av ++ av x) ∧ bE w1 hq.ownBlock v'.ownBlock
theorem qZ {w1 a b : World} {hq : Value} {x : Ev} {vs : List Value} (h : Below a.heap.size a b) (hs : NoteS B w1 hq L x vs a) : NoteS B w1 hq L x vs b := by
 unfold NoteS at *
 split at hs
 ·exact Put.aF hs h
 ·exact ⟨Put.aF hs.1 h, hs.2⟩
theorem wY : (Tryz.prog.info? 50).map (fun i => (i.zero, i.size, i.bytes)) = some (some (.agg #[.int .i64 0, .int .i64 0, .int .i64 0, .int .i64 0, .int .i64 0, .int .i64 0, .int .i64 0, .int .i64 0, .int .i64 0, .bool false, .int .i64 0, .int .i64 0, .int .i64 0, .int .i64 0, .int .i64 0, .int .i64 0, .int .i64 0, .int .i64 0, .int .i64 0, .int .i64 0, .int .i64 0, .int .i64 0, .int .i64 0, .bool false]), 24, 192) := by kernel_rfl
def ni (B : Nat) (w : World) (s : Nat) (st : Int) (v : Value) (L l : List Ev) (e : Ending) (w' : World) : Prop :=
 e = .returned (.tuple #[]) ∧ ∃ v', LG B w' s st v' (L ++ l.map (stamp st)) ∧ bQ s v.ownBlock w w' ∧ bE w v.ownBlock v'.ownBlock
theorem iZ (h : LG B w s st v L) (hr : ai av 24 w va l) (hsep : 0 < l.length → ∀ b off m c, va = .slice (some ⟨b, off, none⟩) m c → b ≠ s ∧ v.ownBlock ≠ some b) (hlen : L.length + l.length ≤ 900) :
 Calls Tryz.prog 39 #[.pointer (some ⟨s, 0, none⟩), va] w (ni B w s st v L l) := by
 have zE := qY
 obtain ⟨i0, hi0, hz0, hz1, hz2⟩ := info_parts wY
 obtain ⟨k, hk⟩ : ∃ k, k = 24 := ⟨_, rfl⟩
 rw [← hk] at zE
 replace hk := Lib.hid hk
 have Ay := Lib.hid hr
 obtain ⟨ao, cap, rfl, q1, q2, q3⟩ := hr
 obtain ⟨n, hn⟩ : ∃ n, l.length = n := ⟨_, rfl⟩
 rw [hn] at q1 q3 hlen Ay hsep ⊢
 have HA : Hid (0 < n → ∃ b off, ao = some ⟨b, off, none⟩) := fun hp => by
  obtain ⟨b, off, e1, _⟩ := q3 hp
  exact ⟨b, off, e1⟩
 have zG := Lib.hid hsep
 have j6 : cap ≤ 9223372036854775807 := by unfold maxLen at q2; omega
 have CF : n ≤ 900 := by omega
 replace hn := Lib.hid hn
 replace hlen := Lib.hid hlen
 clear q2 q3 hsep
 replace h := Lib.hid h
 go_enter Tryz.func39, Tryz.ntmps39
 go_wp2_with fail
 go_loopw [10] (fun ii wr => ∃ (i : Nat) (hq : Value), i ≤ n ∧ ii = .int .i64 i ∧ Hid (LG B wr s st hq (L ++ (l.take i).map (stamp st))) ∧ Hid (bQ s v.ownBlock w wr) ∧ Hid (bE w v.ownBlock hq.ownBlock)) (fun ii _ => n - (intOf ii).toNat)
 case atStart => exact ⟨0, v, Nat.zero_le _, rfl, Lib.hid (by simpa using h.out), bQ.refl _ _ _, bE.refl _ _⟩
 case round =>
  clear h
  obtain ⟨i, hq, hin, rfl, hQ, ui, wZ⟩ := hrel
  by_cases hlt : i < n
  ·have b2 : (i : Int) < (n : Int) := by omega
   have wi : IntKind.i64.wrap ((i : Int) + 1) = (i : Int) + 1 := by rw [IntKind.wrap_i64]; omega
   obtain ⟨b, off, rfl⟩ := HA.out (by omega)
   have jW : i < l.length := by have := hn.out; omega
   have Az := ui.out.row Ay.out (fun _ b' off' m' c' e => zG.out (by omega) b' off' m' c' e)
   obtain ⟨Lq, xc⟩ : ∃ Lq, Lq = L ++ (l.take i).map (stamp st) := ⟨_, rfl⟩
   have AA : Lq.length = L.length + i := by rw [xc, List.length_append, List.length_map, List.length_take]; omega
   have CG : Lq.length + 1 ≤ 901 := by have := hlen.out; omega
   replace AA := Lib.hid AA
   have LI := iY Az hk.out jW
   have hstp : Hid (Lq ++ [stamp st l[i]!] = L ++ (l.take (i + 1)).map (stamp st)) := by
    show _ = _
    rw [xc, List.take_succ_eq_append_getElem jW, List.map_append, List.append_assoc, getElem!_pos l i jW]; rfl
   generalize l[i]! = y at *
   have lI := dY y
   have st1 : Sem.run Tryz.prog (storeCells ⟨wr.heap.size, 0, none⟩ (av y) 0) (wr.alloc (.cells #[.int .i64 0, .int .i64 0, .int .i64 0, .int .i64 0, .int .i64 0, .int .i64 0, .int .i64 0, .int .i64 0, .int .i64 0, .bool false, .int .i64 0, .int .i64 0, .int .i64 0, .int .i64 0, .int .i64 0, .int .i64 0, .int .i64 0, .int .i64 0, .int .i64 0, .int .i64 0, .int .i64 0, .int .i64 0, .int .i64 0, .bool false] 50)) = .ok () (wr.alloc (.cells (av y).toArray 50)) := iC wr wr.heap.size (av y) (av default) 50 rfl (by rw [dY, dY]) (jK _)
   rw [← hk.out] at lI
   have xe := hQ.out
   rw [← xc] at xe
   have hb1 : Below wr.heap.size wr (wr.alloc (.cells (av y).toArray 50)) := (Below.refl _ _).alloc (Nat.le_refl _) _
   have hnew := heap_alloc_new wr (.cells (av y).toArray 50)
   have q9 := xe.below hb1
   have yG : bQ s v.ownBlock w (wr.alloc (.cells (av y).toArray 50)) := ui.out.trans (bQ.of_below hb1) wZ.out
   have rZ : ∀ q, hq.ownBlock = some q → q < wr.heap.size := fun q hq' => (xe.own.lt q hq').2
   have zb := xe.lt
   have hsw := ui.out.size
   have hnw : w.heap.size ≤ wr.heap.size := by omega
   obtain ⟨cI, hcI⟩ : ∃ cI, cI = av y := ⟨_, rfl⟩
   have hput : (cI.toArray.setIfInBounds 0 (.int .i64 st)) = (av (stamp st y)).toArray := by rw [hcI]; rfl
   have f1 : (wr.alloc (.cells (av y).toArray 50)).frozen? ⟨wr.heap.size, 0, none⟩ = false := by simp only [World.frozen?, hnew]; rfl
   have d1 : (wr.alloc (.cells (av y).toArray 50)).cell? ⟨wr.heap.size, 0, none⟩ = some (.int .i64 y.st) := ib hnew 0 _ rfl
   rw [← hcI] at hnew st1 f1 d1 hb1 q9 yG LI lI
   obtain ⟨w1, hw1⟩ : ∃ w1, w1 = wr.alloc (.cells cI.toArray 50) := ⟨_, rfl⟩
   rw [← hw1] at hnew st1 q9 yG f1 d1 hb1
   have c0 := q9.c0
   have hsz1 : w1.heap.size = wr.heap.size + 1 := by rw [hw1]; simp
   obtain ⟨w2, hw2⟩ : ∃ w2, w2 = w1.setCell ⟨wr.heap.size, 0, none⟩ (.int .i64 st) := ⟨_, rfl⟩
   have hn2 : w2.heap[wr.heap.size]? = some (.cells (av (stamp st y)).toArray 50 (0, 0)) := by rw [hw2, ← hput]; exact heap_put hnew _
   have jY : LG B w2 s st hq Lq := by
    rw [hw2]
    refine ⟨(Below.heap_setCell w1 ⟨wr.heap.size, 0, none⟩ _ s (by simp only; omega)).trans q9.obj, ?_, q9.bs⟩
    exact ax q9.own fun q hq' => Below.heap_setCell w1 ⟨wr.heap.size, 0, none⟩ _ q (by have := rZ q hq'; simp only; omega)
   have hO2 : bQ s v.ownBlock w w2 := by rw [hw2]; exact yG.yF hnw
   have hsz2 : w2.heap.size = wr.heap.size + 1 := by rw [hw2]; simpa using hsz1
   have c2 := jY.c1
   have hp2 := jY.obj
   have ho2 := jY.own
   have hap := jY.apart
   have hle2 := vg jY.own
   have hbs := jY.bs
   have si : ∀ W, w2.grownBy W hq.ownBlock → W.heap[s]? = some (.cells #[.int .i64 st, hq] 91 (0, 0)) := fun W hW => (hW.block s (by omega) (fun e => hap e.symm)).trans hp2
   have sj : ∀ W, w2.grownBy W hq.ownBlock → W.heap[wr.heap.size]? = some (.cells (av (stamp st y)).toArray 50 (0, 0)) := fun W hW => (hW.block wr.heap.size (by omega) (fun e => by have := rZ wr.heap.size e.symm; omega)).trans hn2
   replace si := Lib.hid si
   replace sj := Lib.hid sj
   have BM : Hid (∀ q, hq.ownBlock = some q → q < w2.heap.size) := fun q e => by have := rZ q e; omega
   replace hap := Lib.hid hap
   replace hO2 := Lib.hid hO2
   have Cr := Lib.hid xc
   clear hQ ui xe q9 yG Az hb1 hnew hn2 jY hput xc rZ hsz1
   replace hw1 := Lib.hid hw1
   replace hw2 := Lib.hid hw2
   replace hcI := Lib.hid hcI
   go_wp2_with fail
   rw [← hw2.out]
   clear LI st1 d1 f1 c0 lI
   have hI0 : w2.grownBy w2.drew hq.ownBlock := ⟨rfl, rfl, rfl, Nat.le_refl _, fun _ _ _ => rfl⟩
   have hS0 : w2.drew.ownsRow B 50 24 hq Lq.length (Lq.flatMap av) := ax ho2 fun _ _ => rfl
   obtain ⟨z, hz⟩ : ∃ z, z = stamp st y := ⟨_, rfl⟩
   rw [← hz] at sj hstp
   have zH : Hid ((av z).length = 24) := dY z
   have zI : Hid (∀ u ∈ av z, u.oneCell' = true) := jK z
   have AB : Hid (Lq.flatMap av ++ av z = (Lq ++ [z]).flatMap av) := by show _ = _; simp
   replace hz := Lib.hid hz
   obtain ⟨x0, x1, x2, x3, x4, x5, x6, x7, x8, x9, lC, lD, lF, lG, lH, lJ, lK, lL, lM, lN, x20, lQ, lS, lT⟩ := z
   have hB2 : B ≤ w2.heap.size := by omega
   refine Reg2.pg 8 30 [[],[bI],[bI,bV],[bI,bV,bV],[bI,bV,bV,bV],[bI,bI,bI,bI,bI],[bI,bI,bI,bI,bI,bV],[bI,bV,bV,bV,bV,bV,bV]] [0, 0, 0, 0, 1, 1, 1, 3]
    [.pure, .pure, .pure, .pure, .mU (hq), .mU (.agg #[.int .i64 x0, .int .i64 x1, .int .i64 x2, .int .i64 x3, .int .i64 x4, .int .i64 x5, .int .i64 x6, .int .i64 x7, .int .i64 x8, .bool x9, .int .i64 lC, .int .i64 lD, .int .i64 lF, .int .i64 lG, .int .i64 lH, .int .i64 lJ, .int .i64 lK, .int .i64 lL, .int .i64 lM, .int .i64 lN, .int .i64 x20, .int .i64 lQ, .int .i64 lS, .bool lT]), .minor Nat 0 (fun x => .slice (some ⟨x, 0, none⟩) 1 1) (fun x W => W.heap[x]? = some (.cells (av ⟨x0, x1, x2, x3, x4, x5, x6, x7, x8, x9, lC, lD, lF, lG, lH, lJ, lK, lL, lM, lN, x20, lQ, lS, lT⟩).toArray 50 (0, 0)) ∧ w2.heap.size ≤ x), .major Value undef id]
    (fun W => w2.grownBy W hq.ownBlock) (NoteS B w2 hq Lq ⟨x0, x1, x2, x3, x4, x5, x6, x7, x8, x9, lC, lD, lF, lG, lH, lJ, lK, lL, lM, lN, x20, lQ, lS, lT⟩) (fun a b => a.grownBy b hq.ownBlock) (by kernel_rfl) (by kernel_rfl) rfl rfl (fun vs a b h hs => qZ h hs) ?_ ?_ ?_ ?_ ?_ ?_
   ·exact ng
   ·exact mZ
   ·refine ⟨trivial, trivial, trivial, trivial, ⟨fun _ _ _ _ _ => trivial, fun _ _ _ _ _ => trivial⟩, ⟨fun _ _ _ _ _ => trivial, fun _ _ _ _ _ => trivial⟩, ⟨fun x a b he h => ⟨(he.block x (Put.lt_of_heap h.1)).trans h.1, h.2⟩, fun x a b he h => ⟨(he.block x (Put.lt_of_heap h.1) (fun e => by have := BM.out x e.symm; have := h.2; omega)).trans h.1, h.2⟩⟩, trivial, trivial⟩
   ·exact hI0
   ·exact hS0
   dsimp only [Reg2.mk, List.zip, List.zipWith, List.take]
   repeat (refine' Reg2.aO _ (by rfl) (fun wz => ?_) ?_; rotate_left; (go_simp; first | rfl | rw [if_neg (by omega)]); simp only [Act.put, xA, xB, xC]; (try simp only [xD]); (try simp only [xE]))
   refine Reg2.pm (fun wz hI hF => ?_) fun r4 => ?_
   ·have d0 : wz.cell? ⟨s, 1, none⟩ = some hq := by simp [World.cell?, si.out wz hI]
    go_wp2_with fail
    exact ⟨_, rfl, ⟨(), rfl, trivial⟩, Reg2.Ext.refl _⟩
   simp only [Act.put, xA, xB, xC, xD, xE, id]
   refine Reg2.pm (fun wz hI hF => ?_) fun r5 => ?_
   ·have LB := wU (sj.out wz hI) hk.out
    simp only [av] at LB
    go_wp2_with fail
    exact ⟨_, rfl, ⟨(), rfl, trivial⟩, Reg2.Ext.refl _⟩
   simp only [Act.put, xA, xB, xC, xD, xE, id]
   refine Reg2.pm (fun wz hI hF => ?_) fun r6 => ?_
   ·obtain rfl := hk.out
    go_wp2_with fail
    exact ⟨_, rfl, ⟨wz.heap.size, rfl, heap_alloc_new wz (.cells (av ⟨x0, x1, x2, x3, x4, x5, x6, x7, x8, x9, lC, lD, lF, lG, lH, lJ, lK, lL, lM, lN, x20, lQ, lS, lT⟩).toArray 50), by have := hI.size; omega⟩, (Below.refl wz.heap.size wz).alloc (Nat.le_refl _) _⟩
   simp only [Act.put, xA, xB, xC, xD, xE, id]
   refine Reg2.pj (fun wz hI hS hF => ?_) fun vv => ?_
   ·have hS1 : wz.ownsRow B 50 24 hq Lq.length (Lq.flatMap av) := hS
    have hone := hF.2.2.2.2.2.1
    have hsrc : Src Tryz.prog 24 33 (.slice (some ⟨r6, 0, none⟩) 1 1) 1 (av ⟨x0, x1, x2, x3, x4, x5, x6, x7, x8, x9, lC, lD, lF, lG, lH, lJ, lK, lL, lM, lN, x20, lQ, lS, lT⟩) wz := Src.ofSlice wz Tryz.underlying33 ⟨r6, 0, none⟩ 1 1 (av ⟨x0, x1, x2, x3, x4, x5, x6, x7, x8, x9, lC, lD, lF, lG, lH, lJ, lK, lL, lM, lN, x20, lQ, lS, lT⟩) zH.out (fun j u hj => by rw [Go.WideShapes.add_plain]; simpa using ib hone.1 j u hj) zI.out
    have hszI := hI.size
    go_wp2_with (at_builtin; go_must (refine dG _ rfl (.tmp 23) (.tmp 25) 33 33 rfl B 50 i0 (.agg #[.int .i64 0, .int .i64 0, .int .i64 0, .int .i64 0, .int .i64 0, .int .i64 0, .int .i64 0, .int .i64 0, .int .i64 0, .bool false, .int .i64 0, .int .i64 0, .int .i64 0, .int .i64 0, .int .i64 0, .int .i64 0, .int .i64 0, .int .i64 0, .int .i64 0, .int .i64 0, .int .i64 0, .int .i64 0, .int .i64 0, .bool false]) 24 192 Tryz.underlying33 hi0 hz0 hz1 hz2 rfl hq Lq.length (Lq.flatMap av) rfl hS1 (.slice (some ⟨r6, 0, none⟩) 1 1) 1 (av ⟨x0, x1, x2, x3, x4, x5, x6, x7, x8, x9, lC, lD, lF, lG, lH, lJ, lK, lL, lM, lN, x20, lQ, lS, lT⟩) rfl hsrc ?c0 ?c1 (by omega) ?c2))
    case c0 => unfold maxLen; omega
    case c1 => omega
    case c2 =>
     intro v' w9 zJ yH hnb
     have hnn : bE w2 hq.ownBlock v'.ownBlock := by
      rcases hnb with e | e
      ·exact .inl e
      ·exact .inr ⟨_, e, hszI⟩
     go_wp2_with fail
     exact ⟨v', rfl, ⟨zJ, hnn⟩, yH⟩
   simp only [Act.put, xA, xB, xC, xD, xE, id]
   refine Reg2.aY ?_
   intro w3 HI3 BN BO
   clear BO hI0 hS0 r4 r5
   obtain ⟨ho3, AJ⟩ : w3.ownsRow B 50 24 vv (Lq.length + 1) (Lq.flatMap av ++ av ⟨x0, x1, x2, x3, x4, x5, x6, x7, x8, x9, lC, lD, lF, lG, lH, lJ, lK, lL, lM, lN, x20, lQ, lS, lT⟩) ∧ bE w2 hq.ownBlock vv.ownBlock := BN
   rw [AB.out] at ho3
   have hlx : (Lq ++ [(⟨x0, x1, x2, x3, x4, x5, x6, x7, x8, x9, lC, lD, lF, lG, lH, lJ, lK, lL, lM, lN, x20, lQ, lS, lT⟩ : Ev)]).length = Lq.length + 1 := by simp
   have hp3 := si.out w3 HI3
   have c3 : w3.cell? ⟨s, 1, none⟩ = some hq := by simp [World.cell?, hp3]
   have f3 : w3.frozen? ⟨s, 1, none⟩ = false := by simp only [World.frozen?, hp3]; rfl
   have hps : vv.ownBlock ≠ some s := qc ho3 hp3 (by decide)
   have cu : Hid (LG B (w3.setCell ⟨s, 1, none⟩ vv) s st vv (L ++ (l.take (i + 1)).map (stamp st))) := by
    show LG _ _ _ _ _ _
    rw [← hstp.out]
    refine ⟨?_, ?_, hbs⟩
    ·have := heap_put (i := 1) hp3 vv
     simpa using this
    ·rw [hlx]; exact ax ho3 fun q hq' => Below.heap_setCell w3 ⟨s, 1, none⟩ _ q (fun e => hps (by rw [hq']; simp only at e; rw [e]))
   have hO4 : Hid (bQ s v.ownBlock w (w3.setCell ⟨s, 1, none⟩ vv)) := (hO2.out.trans (bQ.uh HI3) wZ.out).setCell
   have qd : Hid (bE w v.ownBlock vv.ownBlock) := wZ.out.trans AJ hO2.out.size
   obtain ⟨Af, c', rfl, _⟩ := cz ho3
   dsimp only [List.drop]
   clear ho3 AJ HI3 hlx hps
   go_wp2_with fail
   go_roundw
   case rel => exact ⟨i + 1, _, by omega, by go_num, cu, hO4, qd⟩
   case measure => simp [intOf]; omega
  ·obtain rfl : i = n := by omega
   have b2 : ¬ (i : Int) < (i : Int) := by omega
   have e1 : l.take i = l := List.take_of_length_le (by rw [hn.out]; exact Nat.le_refl _)
   rw [e1] at hQ
   have hfin : Hid (ni B w s st v L l (.returned (.tuple #[])) wr) := ⟨rfl, hq, hQ.out, ui.out, wZ.out⟩
   clear hQ ui wZ e1
   go_wp2_with fail
   go_end0
   exact hfin.out
end
end Go.Proofs.YtbdfpbknckghgaaGreat

namespace Go.Proofs.YtbdfpbknckghgaaGreat
def gm (s i c : Nat) : Nat := ((31 * s + c) % 256) ^^^ (i % 256)
def lU (l : List UInt8) : Nat → Nat
 | 0 => l.length % 256
 | k + 1 => gm (lU l k) k (l.getD k 0).toNat
def lV (l : List UInt8) : Nat := lU l l.length
theorem rf (s i c : Nat) : gm s i c < 256 := by
 unfold gm
 exact Nat.xor_lt_two_pow (n := 8) (by omega) (by omega)
theorem oD (l : List UInt8) (k : Nat) : lU l k < 256 := by
 cases k with
 | zero => exact Nat.mod_lt _ (by decide)
 | succ k => exact rf _ _ _
def af (r : Rq) : List UInt8 :=
 if r.kind = 1 then au [r.user, r.width, r.limit, r.prio] ++ [if r.held then 1 else 0]
 else if r.kind = 2 ∨ r.kind = 3 ∨ r.kind = 4 ∨ r.kind = 5 ∨ r.kind = 6 then enc (zg r.id)
 else if r.kind = 7 ∨ r.kind = 8 then enc (zg r.node)
 else if r.kind = 9 then enc (zg r.till)
 else []
def bK (r : Rq) : List UInt8 := bW 183 :: bW r.kind.toNat :: af r
def fq (r : Rq) : List UInt8 := bK r ++ [bW (lV (bK r))]
def bu (r : Rq) : Bool := decide (1 ≤ r.kind) && decide (r.kind ≤ 13) && decide (aj r = r)
theorem gu (r : Rq) : (af r).length ≤ 41 := by
 unfold af
 split
 ·have := eZ [r.user, r.width, r.limit, r.prio]
  simp only [List.length_append, List.length_cons, List.length_nil] at *
  omega
 split
 ·have := (fE (zg r.id)).2; omega
 split
 ·have := (fE (zg r.node)).2; omega
 split
 ·have := (fE (zg r.till)).2; omega
 ·simp
theorem oF (r : Rq) : 3 ≤ (fq r).length ∧ (fq r).length ≤ 44 := by
 have := gu r
 unfold fq bK
 simp only [List.length_append, List.length_cons, List.length_nil]
 omega
theorem cZ {x y : Int} {s t : List UInt8} (hx : -9223372036854775808 ≤ x ∧ x ≤ 9223372036854775807) (hy : -9223372036854775808 ≤ y ∧ y ≤ 9223372036854775807) (h : enc (zg x) ++ s = enc (zg y) ++ t) : x = y ∧ s = t := by
 obtain ⟨h1, h2⟩ := pR (kH hx) (kH hy) h
 exact ⟨yB h1, h2⟩
theorem xg {a b : Nat} (ha : a < 256) (hb : b < 256) (h : bW a = bW b) : a = b := by
 have := congrArg UInt8.toNat h
 rwa [aX ha, aX hb] at this
theorem oG {a b : Rq} (ha : bF a) (hb : bF b) (ka : aj a = a) (kb : aj b = b) (hk : a.kind = b.kind) (h : af a = af b) : a = b := by
 obtain ⟨a1, a2, a3, a4, a5, a6, a7, a8, a9⟩ := a
 obtain ⟨b1, b2, b3, b4, b5, b6, b7, b8, b9⟩ := b
 have hk : a1 = b1 := hk
 subst hk
 by_cases h1 : a1 = 1
 ·subst h1
  simp [aj] at ka kb
  simp only [af, if_true] at h
  simp only [au, List.flatMap_cons, List.flatMap_nil, List.append_nil, List.append_assoc] at h
  obtain ⟨e1, h⟩ := cZ ha.user hb.user h
  obtain ⟨e2, h⟩ := cZ ha.width hb.width h
  obtain ⟨e3, h⟩ := cZ ha.limit hb.limit h
  obtain ⟨e4, h⟩ := cZ ha.prio hb.prio h
  have e1 : a3 = b3 := e1
  have e2 : a4 = b4 := e2
  have e3 : a5 = b5 := e3
  have e4 : a6 = b6 := e4
  have e5 : a7 = b7 := by cases a7 <;> cases b7 <;> first | rfl | (simp at h)
  simp [← ka, ← kb, e1, e2, e3, e4, e5]
 by_cases h2 : a1 = 2 ∨ a1 = 3 ∨ a1 = 4 ∨ a1 = 5 ∨ a1 = 6
 ·simp [aj, h1, h2] at ka kb
  simp only [af, h1, h2, if_true, if_false] at h
  obtain ⟨e1, _⟩ := cZ (s := []) (t := []) ha.id hb.id (by simpa using h)
  have e1 : a2 = b2 := e1
  simp [← ka, ← kb, e1]
  simp [ka, kb]
 by_cases h3 : a1 = 7 ∨ a1 = 8
 ·simp [aj, h1, h2, h3] at ka kb
  simp only [af, h1, h2, h3, if_true, if_false] at h
  obtain ⟨e1, _⟩ := cZ (s := []) (t := []) ha.node hb.node (by simpa using h)
  have e1 : a8 = b8 := e1
  simp [← ka, ← kb, e1]
  simp [ka, kb]
 by_cases h4 : a1 = 9
 ·subst h4
  simp [aj] at ka kb
  have h : enc (zg a9) = enc (zg b9) := h
  obtain ⟨e1, _⟩ := cZ (s := []) (t := []) ha.till hb.till (by simpa using h)
  have e1 : a9 = b9 := e1
  simp [← ka, ← kb, e1]
  simp [ka, kb]
 ·simp [aj, h1, h2, h3, h4] at ka kb
  simp [← ka, ← kb]
  simp [ka, kb]
theorem nk {a b : Rq} (ha : bF a) (hb : bF b) (ka : bu a = true) (kb : bu b = true) (h : fq a = fq b) : a = b := by
 unfold bu at ka kb
 simp only [Bool.and_eq_true, decide_eq_true_eq] at ka kb
 obtain ⟨⟨a1, a2⟩, a3⟩ := ka
 obtain ⟨⟨b1, b2⟩, b3⟩ := kb
 have hlen : (bK a).length = (bK b).length := by
  have := congrArg List.length h
  unfold fq at this
  simpa using this
 have h' : bK a ++ [bW (lV (bK a))] = bK b ++ [bW (lV (bK b))] := h
 have hb' : bK a = bK b := (List.append_inj h' hlen).1
 unfold bK at hb'
 rw [List.cons.injEq, List.cons.injEq] at hb'
 obtain ⟨_, hk, hf⟩ := hb'
 have hk := xg (by omega) (by omega) hk
 exact oG ha hb a3 b3 (by omega) hf
end Go.Proofs.YtbdfpbknckghgaaGreat

namespace Go.Proofs.YtbdfpbknckghgaaGreat
theorem nu {p : Prop} (f : p := by
 refine Reg2.aY ?_
 intro w5 fF _ zK
 clear zK
 have hb5 := hb1.out.trans (fF.mono hb1.out.size)
 dsimp only [List.drop]
 go_wp2_with fail
 go_ret
 exact ⟨rfl, hb5⟩) : p := f
end Go.Proofs.YtbdfpbknckghgaaGreat
namespace Go.Proofs.YtbdfpbknckghgaaGreat
open Go.RowKit Go.Lib
theorem ja (r : Rq) (w : World) : Calls Tryz.prog 72 #[.agg (encR r).toArray] w fun e w' => e = .returned (.bool (bu r)) ∧ Below w.heap.size w w' := by
 have zR := bL
 have lR := aG r
 obtain ⟨k9, aK⟩ : ∃ k, k = 9 := ⟨_, rfl⟩
 rw [← aK] at zR lR
 replace aK := Lib.hid aK
 obtain ⟨wA, ah⟩ : ∃ wA, wA = w.alloc (.cells (encR r).toArray 28) := ⟨_, rfl⟩
 have hb1 : Hid (Below w.heap.size w wA) := by show Below _ _ _; rw [ah]; exact (Below.refl _ _).alloc (Nat.le_refl _) _
 have aT : Hid (wA.heap[w.heap.size]? = some (.cells (encR r).toArray 28 (0, 0))) := by show _ = _; rw [ah]; exact heap_alloc_new w _
 have h1 := fun W => gZ r W
 have hi := fun W => zm r.kind W
 have hq := fun W => vK r (aj r) W
 have hg := qF
 have e0 : bu r = ((decide (1 ≤ r.kind) && decide (r.kind ≤ 13)) && decide (r = aj r)) := by
  have : decide (aj r = r) = decide (r = aj r) := decide_eq_decide.2 eq_comm
  unfold bu; rw [this]
 rw [e0]
 clear e0
 generalize decide (r = aj r) = q at *
 generalize encR (aj r) = cA at *
 generalize (decide (1 ≤ r.kind) && decide (r.kind ≤ 13)) = p at *
 cases p
 ·rw [Bool.false_and]
  go_enter Tryz.func72, Tryz.ntmps72
  go_wp2_with fail
  rw [← ah]
  refine Reg2.ro wA 7 12 [.p 0, .m 1, .m 3, .p 7, .m 15, .m 15, .m 47] [.int .i64 r.kind, .bool false, .agg (encR r).toArray, .agg (encR r).toArray, .agg cA.toArray] (by kernel_rfl) (by kernel_rfl) rfl rfl ⟨rfl, rfl, rfl, Nat.le_refl _, fun _ _ => rfl⟩ ?_
  dsimp only [Reg2.gJ]
  repeat ((first
   | (refine' Reg2.aO _ (by rfl) (fun wz => ?_) ?_; rotate_left; (go_simp; first | rfl | rw [if_neg (by omega)]))
   | (refine Reg2.aD (by rfl) (fun wz hI hF => ?_) (fun _ => ?_)
      ·unfold Reg2.One
       have d0 := (hI.block _ (ae aT.out)).trans aT.out
       have d1 := ay d0 0 _ rfl
       clear d0
       go_wp2_with fail
       first | exact ⟨_, rfl, rfl, Reg2.Ext.refl _⟩ | exact ⟨_, rfl, ⟨(), rfl, trivial⟩, Reg2.Ext.refl _⟩)); simp only [Act.put, xA, xB, xC, xD, xE, id])
  refine Reg2.pm (fun wz hI hF => ?_) fun r2 => ?_
  ·go_wp2_with (go_at_call 63; go_must (refine (hi _).mono ?_); rintro e w' ⟨rfl, rfl⟩)
   first | exact ⟨_, rfl, rfl, Reg2.Ext.refl _⟩ | exact ⟨_, rfl, ⟨(), rfl, trivial⟩, Reg2.Ext.refl _⟩
  simp only [Act.put, xA, xB, xC, xD, xE, id]
  repeat ((first
   | (refine' Reg2.aO _ (by rfl) (fun wz => ?_) ?_; rotate_left; (go_simp; first | rfl | rw [if_neg (by omega)]))
   | refine Reg2.kD (by rfl) ?_); simp only [Act.put, xA, xB, xC, xD, xE, id])
  exact nu
 ·rw [Bool.true_and]
  go_enter Tryz.func72, Tryz.ntmps72
  go_wp2_with fail
  rw [← ah]
  refine Reg2.ro wA 7 12 [.p 0, .m 1, .m 3, .p 7, .m 15, .m 15, .m 47] [.int .i64 r.kind, .bool true, .agg (encR r).toArray, .agg (encR r).toArray, .agg cA.toArray] (by kernel_rfl) (by kernel_rfl) rfl rfl ⟨rfl, rfl, rfl, Nat.le_refl _, fun _ _ => rfl⟩ ?_
  dsimp only [Reg2.gJ]
  repeat ((first
   | (refine' Reg2.aO _ (by rfl) (fun wz => ?_) ?_; rotate_left; (go_simp; first | rfl | rw [if_neg (by omega)]))
   | (refine Reg2.aD (by rfl) (fun wz hI hF => ?_) (fun _ => ?_)
      ·unfold Reg2.One
       have d0 := (hI.block _ (ae aT.out)).trans aT.out
       have d1 := ay d0 0 _ rfl
       clear d0
       go_wp2_with fail
       first | exact ⟨_, rfl, rfl, Reg2.Ext.refl _⟩ | exact ⟨_, rfl, ⟨(), rfl, trivial⟩, Reg2.Ext.refl _⟩)); simp only [Act.put, xA, xB, xC, xD, xE, id])
  refine Reg2.pm (fun wz hI hF => ?_) fun r2 => ?_
  ·go_wp2_with (go_at_call 63; go_must (refine (hi _).mono ?_); rintro e w' ⟨rfl, rfl⟩)
   first | exact ⟨_, rfl, rfl, Reg2.Ext.refl _⟩ | exact ⟨_, rfl, ⟨(), rfl, trivial⟩, Reg2.Ext.refl _⟩
  simp only [Act.put, xA, xB, xC, xD, xE, id]
  repeat ((first
   | (refine' Reg2.aO _ (by rfl) (fun wz => ?_) ?_; rotate_left; (go_simp; first | rfl | rw [if_neg (by omega)]))
   | (refine Reg2.aD (by rfl) (fun wz hI hF => ?_) (fun _ => ?_)
      ·unfold Reg2.One
       have d0 := aS (k := k9) ((hI.block _ (ae aT.out)).trans aT.out) lR
       go_wp2_with fail
       first | exact ⟨_, rfl, rfl, Reg2.Ext.refl _⟩ | exact ⟨_, rfl, ⟨(), rfl, trivial⟩, Reg2.Ext.refl _⟩)); simp only [Act.put, xA, xB, xC, xD, xE, id])
  refine Reg2.pm (fun wz hI hF => ?_) fun r6 => ?_
  ·go_wp2_with (go_at_call 79; go_must (refine (h1 _).mono ?_); rintro e w' ⟨rfl, hb5⟩)
   first | exact ⟨_, rfl, ⟨(), rfl, trivial⟩, hb5⟩ | exact ⟨_, rfl, rfl, hb5⟩
  simp only [Act.put, xA, xB, xC, xD, xE, id]
  exact nu
end Go.Proofs.YtbdfpbknckghgaaGreat

namespace Go.Proofs.YtbdfpbknckghgaaGreat
open Go.RowKit
theorem xh {s k y : Nat} : Go.bits .xor .u8 ((31 * (s : Int) + (y : Int)) % 256) ((k : Int) % 256) = ((gm s k y : Nat) : Int) := by
 rw [u8_xor _ _ (by omega) (by omega) (by omega) (by omega)]
 have e1 : ((31 * (s : Int) + (y : Int)) % 256).toNat = (31 * s + y) % 256 := by omega
 have e2 : ((k : Int) % 256).toNat = k % 256 := by omega
 rw [e1, e2]
 rfl
theorem yI {w : World} {v : Value} {l : List UInt8} (h : bJ w v l) (hl : l.length ≤ 10000) : Calls Tryz.prog 74 #[v] w fun e w' => e = .returned (.int .u8 (lV l)) ∧ w = w' := by
 obtain ⟨n, hn⟩ : ∃ n, l.length = n := ⟨_, rfl⟩
 have hs : ∃ ao cap, v = .slice ao n cap ∧ ∀ i, i < n → ∃ b off, ao = some ⟨b, off, none⟩ ∧ w.cell? ⟨b, off + i, none⟩ = some (.int .u8 ((l.getD i 0).toNat : Int)) := by
  rcases h with ⟨rfl, rfl⟩ | ⟨b, off, cap, rfl, hc⟩
  ·exact ⟨none, 0, by rw [← hn]; rfl, fun i hi => by simp at hn; omega⟩
  ·refine ⟨_, cap, by rw [hn], fun i hi => ⟨b, off, rfl, ?_⟩⟩
   have := hc i (by omega)
   rw [this]
   have hi' : i < l.length := by omega
   simp [List.getD, hi']
 obtain ⟨ao, cap, rfl, hc⟩ := hs
 replace hc := Lib.hid hc
 clear h
 have e0 : lV l = lU l n := by rw [← hn]; rfl
 have e1 : lU l 0 = n % 256 := by rw [← hn]; rfl
 obtain ⟨r, hr⟩ : ∃ r, r = lV l := ⟨_, rfl⟩
 rw [← hr]
 have hr' : Hid (lU l n = r) := by show _ = _; rw [hr, e0]
 have BP : r < 256 := by rw [← hr'.out]; exact oD _ _
 clear hr e0
 rw [hn] at hl
 have e2 : Hid (∀ k, lU l (k + 1) = gm (lU l k) k (l.getD k 0).toNat) := fun k => rfl
 have e3 : Hid (∀ k, lU l k < 256) := oD l
 generalize hK : lU l = K at *
 replace hK := Lib.hid hK
 replace e1 := Lib.hid e1
 clear hn
 go_enter Tryz.func74, Tryz.ntmps74
 go_wp2_with fail
 go_loopw [3, 11] (fun ss ii wr => ∃ k s : Nat, k ≤ n ∧ ss = .int .u8 s ∧ ii = .int .i64 k ∧ Hid (s = K k) ∧ w = wr) (fun _ ii _ => n - (intOf ii).toNat)
 case atStart => exact ⟨0, n % 256, Nat.zero_le _, by go_num, rfl, e1.out.symm, rfl⟩
 case round =>
  obtain ⟨k, s, hk, rfl, rfl, hs, rfl⟩ := hrel
  by_cases hlt : k < n
  ·have b2 : (k : Int) < (n : Int) := by omega
   have wi : IntKind.i64.wrap ((k : Int) + 1) = (k : Int) + 1 := by rw [IntKind.wrap_i64]; omega
   obtain ⟨b, off, rfl, c⟩ := hc.out k hlt
   have zL : s < 256 := by rw [hs.out]; exact e3.out k
   have hst : Hid (K (k + 1) = gm s k (l.getD k 0).toNat) := by show _ = _; rw [e2.out k, hs.out]
   have hc256 : (l.getD k 0).toNat < 256 := UInt8.toNat_lt _
   generalize (l.getD k 0).toNat = y at *
   go_wp2_with fail
   go_roundw
   case rel => exact ⟨k + 1, gm s k y, by omega, by rw [xh], by go_num, hst.out.symm, trivial⟩
   case measure => simp [intOf]; omega
  ·obtain rfl : k = n := by omega
   have b2 : ¬ (k : Int) < (k : Int) := by omega
   have sO : Hid (s = r) := by show _ = _; rw [hs.out, hr'.out]
   have zL : s < 256 := by rw [hs.out]; exact e3.out k
   go_wp2_with fail
   go_ret
   exact ⟨by rw [← sO.out]; rfl, rfl⟩
theorem uj {w : World} {u v : Value} {k l : List UInt8} (hu : ai cO 1 w u k) (hv : ai cO 1 w v l) : Calls Tryz.prog 37 #[u, v] w fun e w' => e = .returned (.bool (decide (k = l))) ∧ w = w' := by
 have h1 := mM hu
 have h2 := mM hv
 have h3 : ((str k).toList == (str l).toList) = decide (k = l) := by
  rw [jR, jR]
  by_cases h : k = l
  ·subst h; simp
  ·rw [decide_eq_false h]; exact beq_eq_false_iff_ne.2 h
 generalize decide (k = l) = q at *
 clear hu hv
 go_enter Tryz.func37, Tryz.ntmps37
 go_wp2_with fail
 go_ret
 exact ⟨rfl, rfl⟩
end Go.Proofs.YtbdfpbknckghgaaGreat

namespace Go.Proofs.YtbdfpbknckghgaaGreat
open Go.RowKit
theorem xk {W : World} {g base : Nat} {l : List UInt8} {cs : Array Value} (h : W.heap[g]? = some (.cells cs 5 (0, 0))) (hc : cs = (bv l).toArray) : aJ W base (.slice (some ⟨g, 0, none⟩) l.length l.length) l := by
 refine Or.inr ⟨⟨g, 0, none⟩, rfl, by rw [qI, Nat.mul_one], fun j u hj => ?_⟩
 subst hc
 rw [Addr.add_lit]
 simp [World.cell?, h, hj]
theorem kQ {n : Nat} (h : n < 256) : (((bW n).toNat : Nat) : Int) = (n : Int) := by rw [aX h]
end Go.Proofs.YtbdfpbknckghgaaGreat

namespace Go.Proofs.YtbdfpbknckghgaaGreat
theorem dK {p : Prop} (f : p := by
 go_enter Tryz.func73, Tryz.ntmps73
 go_wp2_with fail
 go_at_call 112
 refine hall.mono ?_
 clear hall
 rintro e wD ⟨vD, rfl, hbD, _, hD⟩
 rw [← aU, ← aV] at hD
 replace aU := Lib.hid aU
 replace aV := Lib.hid aV
 replace hbD := Lib.hid hbD
 have hE : Hid (Below w.heap.size w wD) := hbC.trans (hD.mono (by omega))
 clear hD hbC
 go_wp2_with fail
 go_ret
 exact ⟨vD, rfl, hbD.out.mono (by omega), hE.out⟩) : p := f
end Go.Proofs.YtbdfpbknckghgaaGreat
namespace Go.Proofs.YtbdfpbknckghgaaGreat
open Go.RowKit
theorem aJ.mono {w : World} {B B' : Nat} {v : Value} {l : List UInt8} (h : aJ w B v l) (hb : B' ≤ B) : aJ w B' v l := by
 rcases h with h | h
 ·exact .inl (iw h hb)
 ·exact .inr h
theorem uk (x2 x3 x4 x5 x6 : Int) (x7 : Bool) (x8 x9 : Int) (hf : bF ⟨2, x2, x3, x4, x5, x6, x7, x8, x9⟩) {v : Value} {l : List UInt8} {w : World} (hb : ∀ B, aJ w B v l) (hl : l.length ≤ 100) : Calls Tryz.prog 73 #[v, .agg #[.int .i64 2, .int .i64 x2, .int .i64 x3, .int .i64 x4, .int .i64 x5, .int .i64 x6, .bool x7, .int .i64 x8, .int .i64 x9]] w fun e w' => ∃ v', e = .returned v' ∧ aJ w' w.heap.size v' (l ++ af ⟨2, x2, x3, x4, x5, x6, x7, x8, x9⟩) ∧ Below w.heap.size w w' := by
 obtain ⟨wB, aU⟩ : ∃ wB, wB = w.alloc (.cells #[.int .i64 2, .int .i64 x2, .int .i64 x3, .int .i64 x4, .int .i64 x5, .int .i64 x6, .bool x7, .int .i64 x8, .int .i64 x9] 28) := ⟨_, rfl⟩
 have hsB : wB.heap.size = w.heap.size + 1 := by rw [aU]; simp
 obtain ⟨wC, aV⟩ : ∃ wC, wC = wB.alloc (.cells #[.int .i64 x2] 2) := ⟨_, rfl⟩
 have gz : wC.heap.size = w.heap.size + 2 := by rw [aV]; simp [hsB]
 have hbC : Below w.heap.size w wC := by rw [aV, aU]; exact ((Below.refl _ _).alloc (Nat.le_refl _) _).alloc (by simp) _
 have ek : wC.heap[w.heap.size + 1]? = some (.cells #[.int .i64 x2] 2 (0, 0)) := by rw [aV, ← hsB]; exact heap_alloc_new wB _
 have hbuf : aJ wC (w.heap.size + 2) v l := by rw [aV, aU]; exact ((hb _).alloc _).alloc _
 have hall := dP [x2] (by intro z hz; simp at hz; subst hz; exact hf.id) (by simp) (w.heap.size + 1) 0 1 l v (w.heap.size + 2) wC hbuf (by omega) (by omega) (by omega) (fun j hj => by
  have qf : j < 1 := by simpa using hj
  obtain rfl : j = 0 := by omega
  simp [World.cell?, ek])
 rw [aV, aU] at hall
 have dQ : af ⟨2, x2, x3, x4, x5, x6, x7, x8, x9⟩ = au [x2] := by simp [af, au]
 rw [dQ]
 clear hb hf dQ hbuf ek gz hsB
 generalize au [x2] = L at *
 exact dK
theorem um (x2 x3 x4 x5 x6 : Int) (x7 : Bool) (x8 x9 : Int) (hf : bF ⟨3, x2, x3, x4, x5, x6, x7, x8, x9⟩) {v : Value} {l : List UInt8} {w : World} (hb : ∀ B, aJ w B v l) (hl : l.length ≤ 100) : Calls Tryz.prog 73 #[v, .agg #[.int .i64 3, .int .i64 x2, .int .i64 x3, .int .i64 x4, .int .i64 x5, .int .i64 x6, .bool x7, .int .i64 x8, .int .i64 x9]] w fun e w' => ∃ v', e = .returned v' ∧ aJ w' w.heap.size v' (l ++ af ⟨3, x2, x3, x4, x5, x6, x7, x8, x9⟩) ∧ Below w.heap.size w w' := by
 obtain ⟨wB, aU⟩ : ∃ wB, wB = w.alloc (.cells #[.int .i64 3, .int .i64 x2, .int .i64 x3, .int .i64 x4, .int .i64 x5, .int .i64 x6, .bool x7, .int .i64 x8, .int .i64 x9] 28) := ⟨_, rfl⟩
 have hsB : wB.heap.size = w.heap.size + 1 := by rw [aU]; simp
 obtain ⟨wC, aV⟩ : ∃ wC, wC = wB.alloc (.cells #[.int .i64 x2] 2) := ⟨_, rfl⟩
 have gz : wC.heap.size = w.heap.size + 2 := by rw [aV]; simp [hsB]
 have hbC : Below w.heap.size w wC := by rw [aV, aU]; exact ((Below.refl _ _).alloc (Nat.le_refl _) _).alloc (by simp) _
 have ek : wC.heap[w.heap.size + 1]? = some (.cells #[.int .i64 x2] 2 (0, 0)) := by rw [aV, ← hsB]; exact heap_alloc_new wB _
 have hbuf : aJ wC (w.heap.size + 2) v l := by rw [aV, aU]; exact ((hb _).alloc _).alloc _
 have hall := dP [x2] (by intro z hz; simp at hz; subst hz; exact hf.id) (by simp) (w.heap.size + 1) 0 1 l v (w.heap.size + 2) wC hbuf (by omega) (by omega) (by omega) (fun j hj => by
  have qf : j < 1 := by simpa using hj
  obtain rfl : j = 0 := by omega
  simp [World.cell?, ek])
 rw [aV, aU] at hall
 have dQ : af ⟨3, x2, x3, x4, x5, x6, x7, x8, x9⟩ = au [x2] := by simp [af, au]
 rw [dQ]
 clear hb hf dQ hbuf ek gz hsB
 generalize au [x2] = L at *
 exact dK
theorem uo (x2 x3 x4 x5 x6 : Int) (x7 : Bool) (x8 x9 : Int) (hf : bF ⟨4, x2, x3, x4, x5, x6, x7, x8, x9⟩) {v : Value} {l : List UInt8} {w : World} (hb : ∀ B, aJ w B v l) (hl : l.length ≤ 100) : Calls Tryz.prog 73 #[v, .agg #[.int .i64 4, .int .i64 x2, .int .i64 x3, .int .i64 x4, .int .i64 x5, .int .i64 x6, .bool x7, .int .i64 x8, .int .i64 x9]] w fun e w' => ∃ v', e = .returned v' ∧ aJ w' w.heap.size v' (l ++ af ⟨4, x2, x3, x4, x5, x6, x7, x8, x9⟩) ∧ Below w.heap.size w w' := by
 obtain ⟨wB, aU⟩ : ∃ wB, wB = w.alloc (.cells #[.int .i64 4, .int .i64 x2, .int .i64 x3, .int .i64 x4, .int .i64 x5, .int .i64 x6, .bool x7, .int .i64 x8, .int .i64 x9] 28) := ⟨_, rfl⟩
 have hsB : wB.heap.size = w.heap.size + 1 := by rw [aU]; simp
 obtain ⟨wC, aV⟩ : ∃ wC, wC = wB.alloc (.cells #[.int .i64 x2] 2) := ⟨_, rfl⟩
 have gz : wC.heap.size = w.heap.size + 2 := by rw [aV]; simp [hsB]
 have hbC : Below w.heap.size w wC := by rw [aV, aU]; exact ((Below.refl _ _).alloc (Nat.le_refl _) _).alloc (by simp) _
 have ek : wC.heap[w.heap.size + 1]? = some (.cells #[.int .i64 x2] 2 (0, 0)) := by rw [aV, ← hsB]; exact heap_alloc_new wB _
 have hbuf : aJ wC (w.heap.size + 2) v l := by rw [aV, aU]; exact ((hb _).alloc _).alloc _
 have hall := dP [x2] (by intro z hz; simp at hz; subst hz; exact hf.id) (by simp) (w.heap.size + 1) 0 1 l v (w.heap.size + 2) wC hbuf (by omega) (by omega) (by omega) (fun j hj => by
  have qf : j < 1 := by simpa using hj
  obtain rfl : j = 0 := by omega
  simp [World.cell?, ek])
 rw [aV, aU] at hall
 have dQ : af ⟨4, x2, x3, x4, x5, x6, x7, x8, x9⟩ = au [x2] := by simp [af, au]
 rw [dQ]
 clear hb hf dQ hbuf ek gz hsB
 generalize au [x2] = L at *
 exact dK
theorem uq (x2 x3 x4 x5 x6 : Int) (x7 : Bool) (x8 x9 : Int) (hf : bF ⟨5, x2, x3, x4, x5, x6, x7, x8, x9⟩) {v : Value} {l : List UInt8} {w : World} (hb : ∀ B, aJ w B v l) (hl : l.length ≤ 100) : Calls Tryz.prog 73 #[v, .agg #[.int .i64 5, .int .i64 x2, .int .i64 x3, .int .i64 x4, .int .i64 x5, .int .i64 x6, .bool x7, .int .i64 x8, .int .i64 x9]] w fun e w' => ∃ v', e = .returned v' ∧ aJ w' w.heap.size v' (l ++ af ⟨5, x2, x3, x4, x5, x6, x7, x8, x9⟩) ∧ Below w.heap.size w w' := by
 obtain ⟨wB, aU⟩ : ∃ wB, wB = w.alloc (.cells #[.int .i64 5, .int .i64 x2, .int .i64 x3, .int .i64 x4, .int .i64 x5, .int .i64 x6, .bool x7, .int .i64 x8, .int .i64 x9] 28) := ⟨_, rfl⟩
 have hsB : wB.heap.size = w.heap.size + 1 := by rw [aU]; simp
 obtain ⟨wC, aV⟩ : ∃ wC, wC = wB.alloc (.cells #[.int .i64 x2] 2) := ⟨_, rfl⟩
 have gz : wC.heap.size = w.heap.size + 2 := by rw [aV]; simp [hsB]
 have hbC : Below w.heap.size w wC := by rw [aV, aU]; exact ((Below.refl _ _).alloc (Nat.le_refl _) _).alloc (by simp) _
 have ek : wC.heap[w.heap.size + 1]? = some (.cells #[.int .i64 x2] 2 (0, 0)) := by rw [aV, ← hsB]; exact heap_alloc_new wB _
 have hbuf : aJ wC (w.heap.size + 2) v l := by rw [aV, aU]; exact ((hb _).alloc _).alloc _
 have hall := dP [x2] (by intro z hz; simp at hz; subst hz; exact hf.id) (by simp) (w.heap.size + 1) 0 1 l v (w.heap.size + 2) wC hbuf (by omega) (by omega) (by omega) (fun j hj => by
  have qf : j < 1 := by simpa using hj
  obtain rfl : j = 0 := by omega
  simp [World.cell?, ek])
 rw [aV, aU] at hall
 have dQ : af ⟨5, x2, x3, x4, x5, x6, x7, x8, x9⟩ = au [x2] := by simp [af, au]
 rw [dQ]
 clear hb hf dQ hbuf ek gz hsB
 generalize au [x2] = L at *
 exact dK
theorem uu (x2 x3 x4 x5 x6 : Int) (x7 : Bool) (x8 x9 : Int) (hf : bF ⟨6, x2, x3, x4, x5, x6, x7, x8, x9⟩) {v : Value} {l : List UInt8} {w : World} (hb : ∀ B, aJ w B v l) (hl : l.length ≤ 100) : Calls Tryz.prog 73 #[v, .agg #[.int .i64 6, .int .i64 x2, .int .i64 x3, .int .i64 x4, .int .i64 x5, .int .i64 x6, .bool x7, .int .i64 x8, .int .i64 x9]] w fun e w' => ∃ v', e = .returned v' ∧ aJ w' w.heap.size v' (l ++ af ⟨6, x2, x3, x4, x5, x6, x7, x8, x9⟩) ∧ Below w.heap.size w w' := by
 obtain ⟨wB, aU⟩ : ∃ wB, wB = w.alloc (.cells #[.int .i64 6, .int .i64 x2, .int .i64 x3, .int .i64 x4, .int .i64 x5, .int .i64 x6, .bool x7, .int .i64 x8, .int .i64 x9] 28) := ⟨_, rfl⟩
 have hsB : wB.heap.size = w.heap.size + 1 := by rw [aU]; simp
 obtain ⟨wC, aV⟩ : ∃ wC, wC = wB.alloc (.cells #[.int .i64 x2] 2) := ⟨_, rfl⟩
 have gz : wC.heap.size = w.heap.size + 2 := by rw [aV]; simp [hsB]
 have hbC : Below w.heap.size w wC := by rw [aV, aU]; exact ((Below.refl _ _).alloc (Nat.le_refl _) _).alloc (by simp) _
 have ek : wC.heap[w.heap.size + 1]? = some (.cells #[.int .i64 x2] 2 (0, 0)) := by rw [aV, ← hsB]; exact heap_alloc_new wB _
 have hbuf : aJ wC (w.heap.size + 2) v l := by rw [aV, aU]; exact ((hb _).alloc _).alloc _
 have hall := dP [x2] (by intro z hz; simp at hz; subst hz; exact hf.id) (by simp) (w.heap.size + 1) 0 1 l v (w.heap.size + 2) wC hbuf (by omega) (by omega) (by omega) (fun j hj => by
  have qf : j < 1 := by simpa using hj
  obtain rfl : j = 0 := by omega
  simp [World.cell?, ek])
 rw [aV, aU] at hall
 have dQ : af ⟨6, x2, x3, x4, x5, x6, x7, x8, x9⟩ = au [x2] := by simp [af, au]
 rw [dQ]
 clear hb hf dQ hbuf ek gz hsB
 generalize au [x2] = L at *
 exact dK
theorem uw (x2 x3 x4 x5 x6 : Int) (x7 : Bool) (x8 x9 : Int) (hf : bF ⟨7, x2, x3, x4, x5, x6, x7, x8, x9⟩) {v : Value} {l : List UInt8} {w : World} (hb : ∀ B, aJ w B v l) (hl : l.length ≤ 100) : Calls Tryz.prog 73 #[v, .agg #[.int .i64 7, .int .i64 x2, .int .i64 x3, .int .i64 x4, .int .i64 x5, .int .i64 x6, .bool x7, .int .i64 x8, .int .i64 x9]] w fun e w' => ∃ v', e = .returned v' ∧ aJ w' w.heap.size v' (l ++ af ⟨7, x2, x3, x4, x5, x6, x7, x8, x9⟩) ∧ Below w.heap.size w w' := by
 obtain ⟨wB, aU⟩ : ∃ wB, wB = w.alloc (.cells #[.int .i64 7, .int .i64 x2, .int .i64 x3, .int .i64 x4, .int .i64 x5, .int .i64 x6, .bool x7, .int .i64 x8, .int .i64 x9] 28) := ⟨_, rfl⟩
 have hsB : wB.heap.size = w.heap.size + 1 := by rw [aU]; simp
 obtain ⟨wC, aV⟩ : ∃ wC, wC = wB.alloc (.cells #[.int .i64 x8] 2) := ⟨_, rfl⟩
 have gz : wC.heap.size = w.heap.size + 2 := by rw [aV]; simp [hsB]
 have hbC : Below w.heap.size w wC := by rw [aV, aU]; exact ((Below.refl _ _).alloc (Nat.le_refl _) _).alloc (by simp) _
 have ek : wC.heap[w.heap.size + 1]? = some (.cells #[.int .i64 x8] 2 (0, 0)) := by rw [aV, ← hsB]; exact heap_alloc_new wB _
 have hbuf : aJ wC (w.heap.size + 2) v l := by rw [aV, aU]; exact ((hb _).alloc _).alloc _
 have hall := dP [x8] (by intro z hz; simp at hz; subst hz; exact hf.node) (by simp) (w.heap.size + 1) 0 1 l v (w.heap.size + 2) wC hbuf (by omega) (by omega) (by omega) (fun j hj => by
  have qf : j < 1 := by simpa using hj
  obtain rfl : j = 0 := by omega
  simp [World.cell?, ek])
 rw [aV, aU] at hall
 have dQ : af ⟨7, x2, x3, x4, x5, x6, x7, x8, x9⟩ = au [x8] := by simp [af, au]
 rw [dQ]
 clear hb hf dQ hbuf ek gz hsB
 generalize au [x8] = L at *
 exact dK
theorem uy (x2 x3 x4 x5 x6 : Int) (x7 : Bool) (x8 x9 : Int) (hf : bF ⟨8, x2, x3, x4, x5, x6, x7, x8, x9⟩) {v : Value} {l : List UInt8} {w : World} (hb : ∀ B, aJ w B v l) (hl : l.length ≤ 100) : Calls Tryz.prog 73 #[v, .agg #[.int .i64 8, .int .i64 x2, .int .i64 x3, .int .i64 x4, .int .i64 x5, .int .i64 x6, .bool x7, .int .i64 x8, .int .i64 x9]] w fun e w' => ∃ v', e = .returned v' ∧ aJ w' w.heap.size v' (l ++ af ⟨8, x2, x3, x4, x5, x6, x7, x8, x9⟩) ∧ Below w.heap.size w w' := by
 obtain ⟨wB, aU⟩ : ∃ wB, wB = w.alloc (.cells #[.int .i64 8, .int .i64 x2, .int .i64 x3, .int .i64 x4, .int .i64 x5, .int .i64 x6, .bool x7, .int .i64 x8, .int .i64 x9] 28) := ⟨_, rfl⟩
 have hsB : wB.heap.size = w.heap.size + 1 := by rw [aU]; simp
 obtain ⟨wC, aV⟩ : ∃ wC, wC = wB.alloc (.cells #[.int .i64 x8] 2) := ⟨_, rfl⟩
 have gz : wC.heap.size = w.heap.size + 2 := by rw [aV]; simp [hsB]
 have hbC : Below w.heap.size w wC := by rw [aV, aU]; exact ((Below.refl _ _).alloc (Nat.le_refl _) _).alloc (by simp) _
 have ek : wC.heap[w.heap.size + 1]? = some (.cells #[.int .i64 x8] 2 (0, 0)) := by rw [aV, ← hsB]; exact heap_alloc_new wB _
 have hbuf : aJ wC (w.heap.size + 2) v l := by rw [aV, aU]; exact ((hb _).alloc _).alloc _
 have hall := dP [x8] (by intro z hz; simp at hz; subst hz; exact hf.node) (by simp) (w.heap.size + 1) 0 1 l v (w.heap.size + 2) wC hbuf (by omega) (by omega) (by omega) (fun j hj => by
  have qf : j < 1 := by simpa using hj
  obtain rfl : j = 0 := by omega
  simp [World.cell?, ek])
 rw [aV, aU] at hall
 have dQ : af ⟨8, x2, x3, x4, x5, x6, x7, x8, x9⟩ = au [x8] := by simp [af, au]
 rw [dQ]
 clear hb hf dQ hbuf ek gz hsB
 generalize au [x8] = L at *
 exact dK
theorem uz (x2 x3 x4 x5 x6 : Int) (x7 : Bool) (x8 x9 : Int) (hf : bF ⟨9, x2, x3, x4, x5, x6, x7, x8, x9⟩) {v : Value} {l : List UInt8} {w : World} (hb : ∀ B, aJ w B v l) (hl : l.length ≤ 100) : Calls Tryz.prog 73 #[v, .agg #[.int .i64 9, .int .i64 x2, .int .i64 x3, .int .i64 x4, .int .i64 x5, .int .i64 x6, .bool x7, .int .i64 x8, .int .i64 x9]] w fun e w' => ∃ v', e = .returned v' ∧ aJ w' w.heap.size v' (l ++ af ⟨9, x2, x3, x4, x5, x6, x7, x8, x9⟩) ∧ Below w.heap.size w w' := by
 obtain ⟨wB, aU⟩ : ∃ wB, wB = w.alloc (.cells #[.int .i64 9, .int .i64 x2, .int .i64 x3, .int .i64 x4, .int .i64 x5, .int .i64 x6, .bool x7, .int .i64 x8, .int .i64 x9] 28) := ⟨_, rfl⟩
 have hsB : wB.heap.size = w.heap.size + 1 := by rw [aU]; simp
 obtain ⟨wC, aV⟩ : ∃ wC, wC = wB.alloc (.cells #[.int .i64 x9] 2) := ⟨_, rfl⟩
 have gz : wC.heap.size = w.heap.size + 2 := by rw [aV]; simp [hsB]
 have hbC : Below w.heap.size w wC := by rw [aV, aU]; exact ((Below.refl _ _).alloc (Nat.le_refl _) _).alloc (by simp) _
 have ek : wC.heap[w.heap.size + 1]? = some (.cells #[.int .i64 x9] 2 (0, 0)) := by rw [aV, ← hsB]; exact heap_alloc_new wB _
 have hbuf : aJ wC (w.heap.size + 2) v l := by rw [aV, aU]; exact ((hb _).alloc _).alloc _
 have hall := dP [x9] (by intro z hz; simp at hz; subst hz; exact hf.till) (by simp) (w.heap.size + 1) 0 1 l v (w.heap.size + 2) wC hbuf (by omega) (by omega) (by omega) (fun j hj => by
  have qf : j < 1 := by simpa using hj
  obtain rfl : j = 0 := by omega
  simp [World.cell?, ek])
 rw [aV, aU] at hall
 have dQ : af ⟨9, x2, x3, x4, x5, x6, x7, x8, x9⟩ = au [x9] := by simp [af, au]
 rw [dQ]
 clear hb hf dQ hbuf ek gz hsB
 generalize au [x9] = L at *
 exact dK
theorem uA (x2 x3 x4 x5 x6 : Int) (x7 : Bool) (x8 x9 : Int) (hf : bF ⟨1, x2, x3, x4, x5, x6, x7, x8, x9⟩) {v : Value} {l : List UInt8} {w : World} (hb : ∀ B, aJ w B v l) (hl : l.length ≤ 100) : Calls Tryz.prog 73 #[v, .agg #[.int .i64 1, .int .i64 x2, .int .i64 x3, .int .i64 x4, .int .i64 x5, .int .i64 x6, .bool x7, .int .i64 x8, .int .i64 x9]] w fun e w' => ∃ v', e = .returned v' ∧ aJ w' w.heap.size v' (l ++ af ⟨1, x2, x3, x4, x5, x6, x7, x8, x9⟩) ∧ Below w.heap.size w w' := by
 obtain ⟨wB, aU⟩ : ∃ wB, wB = w.alloc (.cells #[.int .i64 1, .int .i64 x2, .int .i64 x3, .int .i64 x4, .int .i64 x5, .int .i64 x6, .bool x7, .int .i64 x8, .int .i64 x9] 28) := ⟨_, rfl⟩
 have hsB : wB.heap.size = w.heap.size + 1 := by rw [aU]; simp
 have hB : wB.heap[w.heap.size]? = some (.cells #[.int .i64 1, .int .i64 x2, .int .i64 x3, .int .i64 x4, .int .i64 x5, .int .i64 x6, .bool x7, .int .i64 x8, .int .i64 x9] 28 (0, 0)) := by rw [aU]; exact heap_alloc_new w _
 obtain ⟨wC, aV⟩ : ∃ wC, wC = wB.alloc (.cells #[.int .i64 x3, .int .i64 x4, .int .i64 x5, .int .i64 x6] 2) := ⟨_, rfl⟩
 have gz : wC.heap.size = w.heap.size + 2 := by rw [aV]; simp [hsB]
 have hbC : Below w.heap.size w wC := by rw [aV, aU]; exact ((Below.refl _ _).alloc (Nat.le_refl _) _).alloc (by simp) _
 have ek : wC.heap[w.heap.size + 1]? = some (.cells #[.int .i64 x3, .int .i64 x4, .int .i64 x5, .int .i64 x6] 2 (0, 0)) := by rw [aV, ← hsB]; exact heap_alloc_new wB _
 have AL : wC.heap[w.heap.size]? = some (.cells #[.int .i64 1, .int .i64 x2, .int .i64 x3, .int .i64 x4, .int .i64 x5, .int .i64 x6, .bool x7, .int .i64 x8, .int .i64 x9] 28 (0, 0)) := by rw [aV]; exact dF hB
 have hbuf : aJ wC (w.heap.size + 2) v l := by rw [aV, aU]; exact ((hb _).alloc _).alloc _
 have hall := dP [x3, x4, x5, x6] (by intro z hz; simp at hz; rcases hz with rfl | rfl | rfl | rfl <;> first | exact hf.user | exact hf.width | exact hf.limit | exact hf.prio) (by simp) (w.heap.size + 1) 0 4 l v (w.heap.size + 2) wC hbuf (by omega) (by omega) (by omega) (fun j hj => by
  have qf : j < 4 := by simpa using hj
  rcases (show j = 0 ∨ j = 1 ∨ j = 2 ∨ j = 3 by omega) with rfl | rfl | rfl | rfl <;> simp [World.cell?, ek])
 rw [aV, aU] at hall
 have yJ : ∀ W, Below (w.heap.size + 2) wC W → W.cell? ⟨w.heap.size, 6, none⟩ = some (.bool x7) := fun W hW => by simp [World.cell?, (hW.block w.heap.size (by omega)).trans AL]
 have dQ : l ++ af ⟨1, x2, x3, x4, x5, x6, x7, x8, x9⟩ = (l ++ au [x3, x4, x5, x6]) ++ [if x7 then 1 else 0] := by simp [af]
 have hL0 : (l ++ au [x3, x4, x5, x6]).length ≤ 1000 := by
  have := eZ [x3, x4, x5, x6]
  simp only [List.length_append, List.length_cons, List.length_nil] at *
  omega
 rw [dQ]
 clear hb hf dQ hbuf ek hB AL hsB
 generalize l ++ au [x3, x4, x5, x6] = L at *
 obtain ⟨M, hM⟩ : ∃ M, M = L ++ [if x7 then (1 : UInt8) else 0] := ⟨_, rfl⟩
 rw [← hM]
 replace hM := Lib.hid hM
 replace yJ := Lib.hid yJ
 go_enter Tryz.func73, Tryz.ntmps73
 go_wp2_with fail
 go_at_call 112
 refine hall.mono ?_
 clear hall
 rintro e wD ⟨vD, rfl, hbD, _, hD⟩
 rw [← aU, ← aV] at hD
 have hx7 := yJ.out wD hD
 have hbd := hbC.trans (hD.mono (by omega))
 have zM := hD.size
 rw [gz] at zM
 have ru := tJ x7 L vD (w.heap.size + 2) wD hbD (by omega) zM
 rw [← hM.out] at ru
 replace aU := Lib.hid aU
 replace aV := Lib.hid aV
 clear yJ hD hbD hbC gz
 go_wp2_with fail
 go_at_call 113
 refine ru.mono ?_
 clear ru
 rintro e w1 ⟨v1, rfl, hown, hE⟩
 have hb1 : Hid (Below w.heap.size w w1) := hbd.trans (hE.mono (by omega))
 replace hown := Lib.hid hown
 clear hE hbd hx7 zM
 go_wp2_with fail
 go_ret
 exact ⟨v1, rfl, aJ.mono (B := w.heap.size + 2) hown.out.buf (by omega), hb1.out⟩
theorem rz (x1 : Int) (x2 x3 x4 x5 x6 : Int) (x7 : Bool) (x8 x9 : Int) (hf : bF ⟨x1, x2, x3, x4, x5, x6, x7, x8, x9⟩) (h1 : x1 ≠ 1) (h2 : x1 ≠ 2) (h3 : x1 ≠ 3) (h4 : x1 ≠ 4) (h5 : x1 ≠ 5) (h6 : x1 ≠ 6) (h7 : x1 ≠ 7) (h8 : x1 ≠ 8) (h9 : x1 ≠ 9) {v : Value} {l : List UInt8} {w : World} (hb : ∀ B, aJ w B v l) (hl : l.length ≤ 100) : Calls Tryz.prog 73 #[v, .agg #[.int .i64 x1, .int .i64 x2, .int .i64 x3, .int .i64 x4, .int .i64 x5, .int .i64 x6, .bool x7, .int .i64 x8, .int .i64 x9]] w fun e w' => ∃ v', e = .returned v' ∧ aJ w' w.heap.size v' (l ++ af ⟨x1, x2, x3, x4, x5, x6, x7, x8, x9⟩) ∧ Below w.heap.size w w' := by
 have t1 : (x1 == 1) = false := beq_eq_false_iff_ne.2 h1
 have t2 : (x1 == 2) = false := beq_eq_false_iff_ne.2 h2
 have t3 : (x1 == 3) = false := beq_eq_false_iff_ne.2 h3
 have t4 : (x1 == 4) = false := beq_eq_false_iff_ne.2 h4
 have t5 : (x1 == 5) = false := beq_eq_false_iff_ne.2 h5
 have t6 : (x1 == 6) = false := beq_eq_false_iff_ne.2 h6
 have t7 : (x1 == 7) = false := beq_eq_false_iff_ne.2 h7
 have t8 : (x1 == 8) = false := beq_eq_false_iff_ne.2 h8
 have t9 : (x1 == 9) = false := beq_eq_false_iff_ne.2 h9
 have dQ : l ++ af ⟨x1, x2, x3, x4, x5, x6, x7, x8, x9⟩ = l := by simp [af, h1, h2, h3, h4, h5, h6, h7, h8, h9]
 rw [dQ]
 clear dQ hf h1 h2 h3 h4 h5 h6 h7 h8 h9
 replace hb := Lib.hid hb
 go_enter Tryz.func73, Tryz.ntmps73
 go_wp2_with fail
 go_ret
 exact ⟨v, rfl, (hb.out _).alloc _, (Below.refl _ _).alloc (Nat.le_refl _) _⟩
theorem rA {r : Rq} (hf : bF r) {v : Value} {l : List UInt8} {w : World} (hb : ∀ B, aJ w B v l) (hl : l.length ≤ 100) : Calls Tryz.prog 73 #[v, .agg (encR r).toArray] w fun e w' => ∃ v', e = .returned v' ∧ aJ w' w.heap.size v' (l ++ af r) ∧ Below w.heap.size w w' := by
 obtain ⟨x1, x2, x3, x4, x5, x6, x7, x8, x9⟩ := r
 by_cases h1 : x1 = 1
 ·subst h1
  exact uA x2 x3 x4 x5 x6 x7 x8 x9 hf hb hl
 by_cases h2 : x1 = 2
 ·subst h2
  exact uk x2 x3 x4 x5 x6 x7 x8 x9 hf hb hl
 by_cases h3 : x1 = 3
 ·subst h3
  exact um x2 x3 x4 x5 x6 x7 x8 x9 hf hb hl
 by_cases h4 : x1 = 4
 ·subst h4
  exact uo x2 x3 x4 x5 x6 x7 x8 x9 hf hb hl
 by_cases h5 : x1 = 5
 ·subst h5
  exact uq x2 x3 x4 x5 x6 x7 x8 x9 hf hb hl
 by_cases h6 : x1 = 6
 ·subst h6
  exact uu x2 x3 x4 x5 x6 x7 x8 x9 hf hb hl
 by_cases h7 : x1 = 7
 ·subst h7
  exact uw x2 x3 x4 x5 x6 x7 x8 x9 hf hb hl
 by_cases h8 : x1 = 8
 ·subst h8
  exact uy x2 x3 x4 x5 x6 x7 x8 x9 hf hb hl
 by_cases h9 : x1 = 9
 ·subst h9
  exact uz x2 x3 x4 x5 x6 x7 x8 x9 hf hb hl
 exact rz x1 x2 x3 x4 x5 x6 x7 x8 x9 hf h1 h2 h3 h4 h5 h6 h7 h8 h9 hb hl
end Go.Proofs.YtbdfpbknckghgaaGreat

namespace Go.Proofs.YtbdfpbknckghgaaGreat
open Go.RowKit
def ag : Rq := ⟨0, 0, 0, 0, 0, 0, false, 0, 0⟩
def gM (l : List UInt8) (x : Rq) (q : Int) : Prop :=
 (64 < l.length ∧ x = ag ∧ q = 3) ∨ (l.length < 3 ∧ x = ag ∧ q = 2) ∨
 (3 ≤ l.length ∧ l.length ≤ 64 ∧ ((bF x ∧ bu x = true ∧ fq x = l ∧ q = 0) ∨ ((∀ r, bF r → bu r = true → fq r ≠ l) ∧ x = ag ∧ q = 4)))
end Go.Proofs.YtbdfpbknckghgaaGreat

namespace Go.Proofs.YtbdfpbknckghgaaGreat
open Go.RowKit
theorem aJ.read {w : World} {B : Nat} {v : Value} {l : List UInt8} (h : aJ w B v l) (hp : 0 < l.length) : bJ w v l := by
 rcases h with h | ⟨⟨b, off, sp⟩, rfl, h1, h2⟩
 ·exact dV.read h
 ·have h0 := h2 0 (.int .u8 ((l[0]'hp).toNat : Int)) (by simp [bv, hp])
  have hsp : sp = Option.none := by simpa [Addr.add] using World.cell?_spot h0
  subst hsp
  refine .inr ⟨b, off, _, rfl, fun i hi => ?_⟩
  have h3 := h2 i (.int .u8 ((l[i]'hi).toNat : Int)) (by simp [bv, hi])
  rw [Go.WideShapes.add_plain] at h3
  rw [h3]
  simp [List.getD, hi]
theorem yK (r : Rq) (w : World) (hr : bu r = false) : Calls Tryz.prog 36 #[.agg (encR r).toArray] w fun e w' => e = .returned (.tuple #[.slice none 0 0, .int .i64 1]) ∧ Below w.heap.size w w' := by
 have zR := bL
 have lR := aG r
 obtain ⟨k9, aK⟩ : ∃ k, k = 9 := ⟨_, rfl⟩
 rw [← aK] at zR lR
 replace aK := Lib.hid aK
 obtain ⟨wA, ah⟩ : ∃ wA, wA = w.alloc (.cells (encR r).toArray 28) := ⟨_, rfl⟩
 have hb1 : Hid (Below w.heap.size w wA) := by show Below _ _ _; rw [ah]; exact (Below.refl _ _).alloc (Nat.le_refl _) _
 have aT : wA.heap[w.heap.size]? = some (.cells (encR r).toArray 28 (0, 0)) := by rw [ah]; exact heap_alloc_new w _
 have hld := aS (k := k9) aT lR
 rw [ah] at hld
 have hrt := ja r wA
 rw [hr, ah] at hrt
 clear aT
 go_enter Tryz.func36, Tryz.ntmps36
 go_wp2_with fail
 go_at_call 72
 refine hrt.mono ?_
 clear hrt
 rintro e w1 ⟨rfl, hb2⟩
 rw [← ah] at hb2
 replace ah := Lib.hid ah
 have hb3 : Hid (Below w.heap.size w w1) := hb1.out.trans (hb2.mono hb1.out.size)
 clear hb2
 go_wp2_with fail
 go_ret2
 exact ⟨rfl, hb3.out⟩
theorem su (r : Rq) (w : World) (hf : bF r) (hr : bu r = true) : Calls Tryz.prog 36 #[.agg (encR r).toArray] w fun e w' => ∃ v, e = .returned (.tuple #[v, .int .i64 0]) ∧ ai cO 1 w' v (fq r) ∧ Below w.heap.size w w' := by
 obtain ⟨i0, hi, hz0, hz1, hz2⟩ := info_parts qJ
 obtain ⟨n, hn⟩ : ∃ n : Nat, r.kind = (n : Int) ∧ n ≤ 13 := ⟨r.kind.toNat, by have := hr; unfold bu at this; simp at this; omega⟩
 have zR := bL
 have lR := aG r
 obtain ⟨k9, aK⟩ : ∃ k, k = 9 := ⟨_, rfl⟩
 rw [← aK] at zR lR
 replace aK := Lib.hid aK
 obtain ⟨wA, ah⟩ : ∃ wA, wA = w.alloc (.cells (encR r).toArray 28) := ⟨_, rfl⟩
 have hsA : wA.heap.size = w.heap.size + 1 := by rw [ah]; simp
 have hb1 : Hid (Below w.heap.size w wA) := by show Below _ _ _; rw [ah]; exact (Below.refl _ _).alloc (Nat.le_refl _) _
 have aT : wA.heap[w.heap.size]? = some (.cells (encR r).toArray 28 (0, 0)) := by rw [ah]; exact heap_alloc_new w _
 have hld := aS (k := k9) aT lR
 rw [ah] at hld
 have hrt := ja r wA
 rw [hr, ah] at hrt
 have hbq : bK r = [bW 183, bW n] ++ af r := by unfold bK; rw [hn.1]; rfl
 have hel : fq r = bK r ++ [bW (lV (bK r))] := rfl
 rw [hel]
 clear hel
 have hlb : (bK r).length ≤ 100 := by
  have := gu r
  rw [hbq, List.length_append]
  simp only [List.length_cons, List.length_nil]
  omega
 have hlp : 0 < (bK r).length := by rw [hbq, List.length_append]; simp only [List.length_cons, List.length_nil]; omega
 have hck : lV (bK r) < 256 := oD _ _
 have hby := kQ hck
 have hsm := fun (W : World) (B : Nat) (v : Value) (h : aJ W B v (bK r)) => yI (h.read hlp) (by omega)
 generalize lV (bK r) = s at *
 generalize bK r = L at *
 have hwr : IntKind.u8.wrap (n : Int) = (n : Int) := by rw [IntKind.wrap_u8']; omega
 have hcs : #[Value.int .u8 183, .int .u8 (n : Int)] = (bv [bW 183, bW n]).toArray := by simp [bv, kQ, kQ (show n < 256 by omega)]
 have hkd : (encR r)[0]? = some (.int .i64 (n : Int)) := by rw [← hn.1]; rfl
 clear hn
 replace aT := Lib.hid aT
 replace hr := Lib.hid hr
 replace hf := Lib.hid hf
 replace hcs := Lib.hid hcs
 replace hlb := Lib.hid hlb
 replace hlp := Lib.hid hlp
 replace hbq := Lib.hid hbq
 replace hby := Lib.hid hby
 go_enter Tryz.func36, Tryz.ntmps36
 go_wp2_with fail
 go_at_call 72
 refine hrt.mono ?_
 clear hrt hld
 rintro e w1 ⟨rfl, hb2⟩
 rw [← ah] at hb2
 replace ah := Lib.hid ah
 have hR2 : w1.heap[w.heap.size]? = some (.cells (encR r).toArray 28 (0, 0)) := (hb2.block _ (by omega)).trans aT.out
 have hb3 : Hid (Below w.heap.size w w1) := hb1.out.trans (hb2.mono hb1.out.size)
 have hs1 : w.heap.size < w1.heap.size := by have := hb2.size; omega
 clear hb2 hb1
 have hc0 := ay hR2 0 _ hkd
 obtain ⟨wB, aU⟩ : ∃ wB, wB = w1.alloc (.cells #[.int .u8 183, .int .u8 (n : Int)] 5) := ⟨_, rfl⟩
 have aM : wB.heap[w.heap.size]? = some (.cells (encR r).toArray 28 (0, 0)) := by rw [aU]; exact dF hR2
 have hld := aS (k := k9) aM lR
 have zN : Hid (Below w.heap.size w wB) := by show Below _ _ _; rw [aU]; exact hb3.out.alloc (by omega) _
 have AO : wB.heap[w1.heap.size]? = some (.cells #[.int .u8 183, .int .u8 (n : Int)] 5 (0, 0)) := by rw [aU]; exact heap_alloc_new w1 _
 have hfl := rA hf.out (v := .slice (some ⟨w1.heap.size, 0, none⟩) 2 2) (l := [bW 183, bW n]) (w := wB) (fun B => xk AO hcs.out) (by simp)
 rw [← hbq.out] at hfl
 rw [aU] at hfl hld
 clear AO aM hR2
 go_wp2_with fail
 go_at_call 73
 refine hfl.mono ?_
 clear hfl hld hc0
 rintro e w2 ⟨v2, rfl, hB2, hE2⟩
 rw [← aU] at hB2 hE2
 replace aU := Lib.hid aU
 have hs2 := hE2.size
 have BQ : Hid (Below w.heap.size w w2) := zN.out.trans (hE2.mono zN.out.size)
 have hsum := hsm w2 wB.heap.size v2 hB2
 have hw2 : w.heap.size < w2.heap.size := by
  have h4 : wB.heap.size = w1.heap.size + 1 := by rw [aU.out]; simp
  omega
 have Cs : wB.heap.size ≤ w2.heap.size := hs2
 clear hE2 hs2 hsm hs1 hb3
 obtain ⟨w3, hw3⟩ : ∃ w3, w3 = w2.alloc (.cells #[.int .u8 (s : Int)] 5) := ⟨_, rfl⟩
 have AP : Hid (Below w.heap.size w w3) := by show Below _ _ _; rw [hw3]; exact BQ.out.alloc (by omega) _
 have hs3 : w3.heap.size = w2.heap.size + 1 := by rw [hw3]; simp
 have xm : aJ w3 wB.heap.size v2 L := by rw [hw3]; exact hB2.alloc _
 have hc3 : ∀ j u, [Value.int .u8 (((bW s).toNat : Nat) : Int)][j]? = some u → w3.cell? ((⟨w2.heap.size, 0, none⟩ : Addr).add j) = some u := by rw [hw3, hby.out]; exact cell_one_new _ _ _
 have ze : wB.heap.size ≤ w3.heap.size := by omega
 have hll := hlb.out
 rw [hw3] at xm hc3 ze
 clear hs3 hB2
 go_wp2_with (first | (go_at_call 74; go_must (refine hsum.mono ?_); rintro e w' ⟨rfl, rfl⟩) | (at_builtin; go_must (refine bH _ rfl (.tmp 14) (.tmp 17) 22 rfl wB.heap.size 5 i0 (.int .u8 0) 1 1 Tryz.underlying22 hi hz0 hz1 hz2 rfl (by decide) v2 L.length (bv L) rfl xm ⟨w2.heap.size, 0, none⟩ 1 1 [.int .u8 (((bW s).toNat : Nat) : Int)] rfl rfl hc3 ?d1 (by omega) ?d2 ?d3 ?d4 ?d5)))
 case d5 =>
  intro v' w4 hown1 hb4
  rw [← hw3] at hb4
  have AQ : Hid (dV w4 wB.heap.size v' (L ++ [bW s])) := by
   show w4.ownsRow _ _ _ _ _ _
   exact jD
  have hfin : Hid (Below w.heap.size w w4) := AP.out.trans (hb4.mono (by have := zN.out.size; omega))
  clear hown1 hb4
  go_wp2
  go_ret2
  exact ⟨v', rfl, AQ.out.row, hfin.out⟩
 case d1 => simp [Value.oneCell']
 case d2 => unfold maxLen; omega
 case d3 => omega
 case d4 => exact ze
end Go.Proofs.YtbdfpbknckghgaaGreat

namespace Go.Proofs.YtbdfpbknckghgaaGreat
open Go.RowKit Go.Lib Go.Sort
section
variable {w : World}
theorem ny (n : Nat) (w : World) (h1 : 1 ≤ n) (h2 : n ≤ 64) : Calls Tryz.prog 8 #[.int .i64 n] w fun e w' => ∃ (q k t d p : Nat) (v : Value) (g lg s mp : Nat), e = .returned (.tuple #[.pointer (some ⟨q, 0, none⟩), .int .i64 0]) ∧
 aB w' q ⟨k, lg, s, 0, .slice none 0 0, .map (some mp)⟩ ∧ wR w w' k t d p v g 1 0 (oo (dJ n)) ∧ (∀ b, jC k t d p v g b → b < lg) ∧ LG lg w' lg 0 (.slice none 0 0) [] ∧ aC 94 w' s ⟨0, 0, 0, 0⟩ ∧ w'.heap[mp]? = some (.map #[] 0) ∧ lg < s ∧ s < mp ∧ mp < q ∧ w.heap.size ≤ lg ∧ Below w.heap.size w w' := by
 have hc := wS n w h1 h2
 go_enter Tryz.func8, Tryz.ntmps8
 go_wp2_with fail
 go_at_call 34
 refine hc.mono ?_
 clear hc
 rintro e w1 ⟨k, t, d, p, v, g, rfl, bY, hb1⟩
 obtain ⟨w2, hw2⟩ : ∃ w2, w2 = w1.alloc (.cells #[.int .i64 0, .slice none 0 0] 91) := ⟨_, rfl⟩
 obtain ⟨w3, hw3⟩ : ∃ w3, w3 = w2.alloc (.cells #[.int .i64 0, .int .i64 0, .int .i64 0, .int .i64 0] 94) := ⟨_, rfl⟩
 obtain ⟨w4, hw4⟩ : ∃ w4, w4 = w3.alloc (.map #[] 0) := ⟨_, rfl⟩
 obtain ⟨w5, bn⟩ : ∃ w5, w5 = w4.alloc (.cells #[.pointer (some ⟨k, 0, none⟩), .pointer (some ⟨w1.heap.size, 0, none⟩), .pointer (some ⟨w2.heap.size, 0, none⟩), .int .i64 0, .slice none 0 0, .map (some w3.heap.size)] 41) := ⟨_, rfl⟩
 have b2 : Below w1.heap.size w1 w2 := by rw [hw2]; exact (Below.refl _ _).alloc (Nat.le_refl _) _
 have b3 : Below w2.heap.size w2 w3 := by rw [hw3]; exact (Below.refl _ _).alloc (Nat.le_refl _) _
 have b4 : Below w3.heap.size w3 w4 := by rw [hw4]; exact (Below.refl _ _).alloc (Nat.le_refl _) _
 have b5 : Below w4.heap.size w4 w5 := by rw [bn]; exact (Below.refl _ _).alloc (Nat.le_refl _) _
 have s2 : w2.heap.size = w1.heap.size + 1 := by rw [hw2]; simp
 have s3 : w3.heap.size = w2.heap.size + 1 := by rw [hw3]; simp
 have s4 : w4.heap.size = w3.heap.size + 1 := by rw [hw4]; simp
 have o2 : w2.heap[w1.heap.size]? = some (.cells #[.int .i64 0, .slice none 0 0] 91 (0, 0)) := by rw [hw2]; exact heap_alloc_new w1 _
 have o3 : w3.heap[w2.heap.size]? = some (.cells #[.int .i64 0, .int .i64 0, .int .i64 0, .int .i64 0] 94 (0, 0)) := by rw [hw3]; exact heap_alloc_new w2 _
 have o4 : w4.heap[w3.heap.size]? = some (.map #[] 0) := by rw [hw4]; exact heap_alloc_new w3 _
 have o5 : w5.heap[w4.heap.size]? = some (.cells #[.pointer (some ⟨k, 0, none⟩), .pointer (some ⟨w1.heap.size, 0, none⟩), .pointer (some ⟨w2.heap.size, 0, none⟩), .int .i64 0, .slice none 0 0, .map (some w3.heap.size)] 41 (0, 0)) := by rw [bn]; exact heap_alloc_new w4 _
 have zO : Below w2.heap.size w2 w5 := b3.trans ((b4.trans (b5.mono b4.size)).mono b3.size)
 have AR : Below w3.heap.size w3 w5 := b4.trans (b5.mono b4.size)
 have b15 : Below w1.heap.size w1 w5 := b2.trans (zO.mono b2.size)
 have fin : Hid (aB w5 w4.heap.size ⟨k, w1.heap.size, w2.heap.size, 0, .slice none 0 0, .map (some w3.heap.size)⟩ ∧ wR w w5 k t d p v g 1 0 (oo (dJ n)) ∧ (∀ b, jC k t d p v g b → b < w1.heap.size) ∧ LG w1.heap.size w5 w1.heap.size 0 (.slice none 0 0) [] ∧ aC 94 w5 w2.heap.size ⟨0, 0, 0, 0⟩ ∧ w5.heap[w3.heap.size]? = some (.map #[] 0) ∧ w1.heap.size < w2.heap.size ∧ w2.heap.size < w3.heap.size ∧ w3.heap.size < w4.heap.size ∧ w.heap.size ≤ w1.heap.size ∧ Below w.heap.size w w5) :=
  ⟨o5, ⟨bY.cw.kept b15, bY.lo⟩, fun b hb => bY.cw.lt hb, ⟨(zO.block _ (by omega)).trans o2, ⟨rfl, .inl ⟨rfl, rfl⟩⟩, Nat.le_refl _⟩, (AR.block _ (by omega)).trans o3, (b5.block _ (by omega)).trans o4, by omega, by omega, by omega, hb1.size, hb1.trans (b15.mono hb1.size)⟩
 clear b2 b3 b4 b5 o2 o3 o4 o5 zO AR b15 bY hb1
 rw [s3, s2] at bn
 rw [s4, s3, s2] at fin
 rw [bn, hw4, hw3, hw2] at fin
 clear s2 s3 s4 bn hw4 hw3 hw2
 have hmk : ∀ (T : TypeId) (W : World), Sem.run Tryz.prog (Instr.makeMap T none) W = .ok (.map (some W.heap.size)) (W.alloc (.map #[] 0)) := fun T W => run_makeMap T W
 go_wp2_with fail
 go_ret2
 exact ⟨_, k, t, d, p, v, g, _, _, _, rfl, fin.out⟩
theorem jS (r : Rq) (w : World) (hf : bF r) (hr : bu (aj r) = true) (hfc : bF (aj r)) : Calls Tryz.prog 44 #[.agg (encR r).toArray] w fun e w' => ∃ v, e = .returned v ∧ ai cO 1 w' v (fq (aj r)) ∧ Below w.heap.size w w' := by
 have zR := bL
 have lR := aG r
 obtain ⟨k9, aK⟩ : ∃ k, k = 9 := ⟨_, rfl⟩
 rw [← aK] at zR lR
 have hk0 : ¬ k9 = 0 := by omega
 replace aK := Lib.hid aK
 obtain ⟨wA, ah⟩ : ∃ wA, wA = w.alloc (.cells (encR r).toArray 28) := ⟨_, rfl⟩
 have bN : Hid (Below w.heap.size w wA) := by show Below _ _ _; rw [ah]; exact (Below.refl _ _).alloc (Nat.le_refl _) _
 have qa : wA.heap[w.heap.size]? = some (.cells (encR r).toArray 28 (0, 0)) := by rw [ah]; exact heap_alloc_new w _
 have ld := jG qa lR
 have hcl := gZ r wA
 have hp := fun W => su (aj r) W hfc hr
 generalize encR (aj r) = cC at *
 generalize encR r = cR at *
 rw [ah] at ld hcl
 replace hp := Lib.hid hp
 clear qa
 go_enter Tryz.func44, Tryz.ntmps44
 go_wp2_with fail
 rw [← ah] at hcl ⊢
 replace ah := Lib.hid ah
 go_at_call 79
 refine hcl.mono ?_
 clear hcl ld
 rintro e w1 ⟨rfl, hb1⟩
 have hq := hp.out w1
 have jT : Hid (Below w.heap.size w w1) := bN.out.trans (hb1.mono bN.out.size)
 clear hb1
 go_wp2_with fail
 go_at_call 36
 refine hq.mono ?_
 clear hq
 rintro e w2 ⟨v, rfl, hv, hb2⟩
 have fu : Hid (Below w.heap.size w w2) := jT.out.trans (hb2.mono jT.out.size)
 replace hv := Lib.hid hv
 clear hb2
 go_wp2_with fail
 go_ret
 exact ⟨_, rfl, hv.out, fu.out⟩
end
end Go.Proofs.YtbdfpbknckghgaaGreat

namespace Go.Proofs.YtbdfpbknckghgaaGreat
theorem nz {p : Prop} (f : p := by
 have k1 : ∀ (x : Nat) (a b : World), Below a.heap.size a b → (w2.heap.size ≤ x ∧ a.heap[x]? = some (.cells (av ⟨0, 1, C.tasks + 1, y1, y2, y3, y4, y5, y6, y7, y8, y9, 0, 0, 0, 0, 0, 0, 0, 0, 0, 0, 0, false⟩).toArray 50 (0, 0))) → w2.heap.size ≤ x ∧ b.heap[x]? = some (.cells (av ⟨0, 1, C.tasks + 1, y1, y2, y3, y4, y5, y6, y7, y8, y9, 0, 0, 0, 0, 0, 0, 0, 0, 0, 0, 0, false⟩).toArray 50 (0, 0)) := fun x a b he h => ⟨h.1, (he.block x (ae h.2)).trans h.2⟩
 have k0 : ∀ (v : Value), Reg2.eX (fun a b => Below a.heap.size a b) (.minor Unit () (fun _ => v) (fun _ _ => True)) := fun _ => ⟨fun _ _ _ _ _ => trivial, fun _ _ _ _ _ => trivial⟩
 exact ⟨trivial, trivial, trivial, k0 _, trivial, k0 _, trivial, ⟨k1, k1⟩, trivial⟩) : p := f
theorem nA {p : Prop} (f : p := by
 go_wp2_with fail
 exact ⟨_, rfl, ⟨wz.heap.size, rfl, hI.size, heap_alloc_new wz (.cells (av ⟨0, 1, C.tasks + 1, y1, y2, y3, y4, y5, y6, y7, y8, y9, 0, 0, 0, 0, 0, 0, 0, 0, 0, 0, 0, false⟩).toArray 50)⟩, (Below.refl wz.heap.size wz).alloc (Nat.le_refl _) _⟩) : p := f
theorem ic {p : Prop} (f : p := by
 obtain ⟨ao, cap, e1, _⟩ := cz hl
 exact wT q e1 hn) : p := f
theorem nC {p : Prop} (f : p := by
 obtain ⟨cur, hc⟩ := df hl3.out hk
 exact (keep _ _ _ _ hc (by decide) (by decide)).trans hc.symm) : p := f
theorem nD {p : Prop} (f : p := by
 have := (hW.block G (ae hR2.out)).trans hR2.out
 exact ay this j z hz) : p := f
end Go.Proofs.YtbdfpbknckghgaaGreat
namespace Go.Proofs.YtbdfpbknckghgaaGreat
open Go.RowKit Go.Lib Go.Sort
def aQ (x : Nat × Int) : List Value := [.iface 105 (.agg #[.pointer (some ⟨x.1, 0, none⟩)]), .int .i64 x.2]
theorem iK (x : Nat × Int) : (aQ x).length = 2 := rfl
theorem oH : (Tryz.prog.info? 109).map (fun i => (i.zero, i.size, i.bytes)) = some (some (.agg #[.nilIface, .int .i64 0]), 2, 24) := by kernel_rfl
def gp (id : Int) (r : Rq) : Ev := ⟨0, 1, id, r.kind, r.id, r.user, r.width, r.limit, r.prio, r.held, r.node, r.till, 0, 0, 0, 0, 0, 0, 0, 0, 0, 0, 0, false⟩
def zP (c lg : Nat) (v u : Value) (k : Nat) : Prop := k = c ∨ k = lg ∨ v.ownBlock = some k ∨ u.ownBlock = some k
theorem bz {w : World} {B k : Nat} {v : Value} {T U : TypeId} {sz n : Nat} {xs : List Value} {cs : Array Value} {f : Nat × Nat} (h : w.ownsRow B T sz v n xs) (hs : w.heap[k]? = some (.cells cs U f)) (hT : U ≠ T) : v.ownBlock ≠ some k := by
 exact mY
theorem kR {W : World} {g : Nat} {cs : List Value} {T : TypeId} {f : Nat × Nat} (h : W.heap[g]? = some (.cells cs.toArray T f)) (j : Nat) (u : Value) (hj : cs[j]? = some u) : W.cell? ⟨g, j, none⟩ = some u := by simp [World.cell?, h, hj]
theorem df {w : World} {base : Nat} {e : TypeId} {sz n k : Nat} {v : Value} {xs : List Value} (h : w.ownsRow base e sz v n xs) (hk : v.ownBlock = some k) : ∃ cur, w.heap[k]? = some (.cells cur e (0, 0)) := by
 rcases h.2 with ⟨e0, _⟩ | ⟨g', cap', cur, e0, _, hg, _⟩
 ·rw [e0] at hk; simp [Value.ownBlock] at hk
 ·rw [e0] at hk
  simp [Value.ownBlock] at hk
  subst hk
  exact ⟨cur, hg⟩
theorem jb {W : World} {g : Nat} {x : Ev} (h : W.heap[g]? = some (.cells (av x).toArray 50 (0, 0))) : ai av 24 W (.slice (some ⟨g, 0, none⟩) 1 1) [x] := by
 refine ⟨some ⟨g, 0, none⟩, 1, rfl, by simp, by unfold maxLen; omega, fun _ => ⟨g, 0, rfl, ae h, fun i s j u hi hj => ?_⟩⟩
 have hi0 : i = 0 := by
  have := (List.getElem?_eq_some_iff.1 hi).1
  simp at this
  exact this
 subst hi0
 have hs : x = s := by simpa using hi
 subst hs
 simpa using ib h j u hj
def OF (lo : Nat) (id : Int) (r : Rq) (o : Nat) (W : World) : Prop := ∃ h b, bZ W o h (aj r) ∧ aA W h (fZ b id r) ∧ fo W b (eF r) ∧ lo ≤ o ∧ lo ≤ h ∧ lo ≤ b
theorem OF.ext {lo : Nat} {id : Int} {r : Rq} {o : Nat} {a b : World} (h : OF lo id r o a) (hk : ∀ k, lo ≤ k → k < a.heap.size → b.heap[k]? = a.heap[k]?) : OF lo id r o b := by
 obtain ⟨h1, b1, x1, x2, x3, x4, x5, x6⟩ := h
 exact ⟨h1, b1, (hk _ x4 x1.lt).trans x1, (hk _ x5 x2.lt).trans x2, (hk _ x6 x3.lt).trans x3, x4, x5, x6⟩
def TaskS (B : Nat) (w : World) (hq : Value) (n : Nat) (xs : List Value) (id : Int) (r : Rq) (vs : List Value) (W : World) : Prop :=
 match vs with
 | [] => W.ownsRow B 109 2 hq n xs
 | v' :: _ => ∃ o, W.ownsRow B 109 2 v' (n + 1) (xs ++ aQ (o, id)) ∧ bE w hq.ownBlock v'.ownBlock ∧ OF w.heap.size id r o W
theorem rC {B n : Nat} {w a b : World} {hq : Value} {xs : List Value} {id : Int} {r : Rq} {vs : List Value} (h : Below a.heap.size a b) (hs : TaskS B w hq n xs id r vs a) : TaskS B w hq n xs id r vs b := by
 unfold TaskS at *
 split at hs
 ·exact Put.aF hs h
 ·obtain ⟨o, h1, h2, h3⟩ := hs
  exact ⟨o, Put.aF h1 h, h2, h3.ext fun k _ hk => h.block k hk⟩
theorem aB.qg {w : World} {c : Nat} {C : Ct} (q : aB w c C) (u : Value) : aB (w.setCell ⟨c, 4, none⟩ u) c { C with live := u } := by
 have := heap_put (i := 4) q u
 exact this
theorem aB.jL {w : World} {c : Nat} {C : Ct} (q : aB w c C) (n : Int) : aB (w.setCell ⟨c, 3, none⟩ (.int .i64 n)) c { C with tasks := n } := by
 have := heap_put (i := 3) q (.int .i64 n)
 exact this
section
variable {w : World} {B c : Nat} {C : Ct} {L : List (Nat × Int)} {E : List Ev} {vl : Value} {st : Int}
def jU (B : Nat) (w : World) (c : Nat) (C : Ct) (L : List (Nat × Int)) (E : List Ev) (vl : Value) (st : Int) (r : Rq) (e : Ending) (w' : World) : Prop :=
 ∃ (o h b : Nat) (v' dU : Value), e = .returned (.tuple #[.int .i64 (C.tasks + 1), .int .i64 0]) ∧ aB w' c { C with tasks := C.tasks + 1, live := v' } ∧ w'.ownsRow B 109 2 v' (L.length + 1) (L.flatMap aQ ++ aQ (o, C.tasks + 1)) ∧ LG B w' C.log st dU (E ++ [stamp st (gp (C.tasks + 1) r)]) ∧
  bZ w' o h (aj r) ∧ aA w' h (fZ b (C.tasks + 1) r) ∧ fo w' b (eF r) ∧ w.heap.size ≤ o ∧ w.heap.size ≤ h ∧ w.heap.size ≤ b ∧ aP (zP c C.log vl C.live) w w' ∧ bE w vl.ownBlock dU.ownBlock ∧ bE w C.live.ownBlock v'.ownBlock
theorem jc (q : aB w c C) (hl : w.ownsRow B 109 2 C.live L.length (L.flatMap aQ)) (hg : LG B w C.log st vl E) (hn : L.length < 64) (hE : E.length ≤ 800) (ht : 0 ≤ C.tasks ∧ C.tasks ≤ 1000) (r : Rq) (ub : Value)
 (hread : ∀ W, Below w.heap.size w W → Calls Tryz.prog 9 #[ub] W fun e w' => e = .returned (.tuple #[.agg (encR r).toArray, .int .i64 0]) ∧ Below W.heap.size W w') :
 Calls Tryz.prog 10 #[.pointer (some ⟨c, 0, none⟩), ub] w (jU B w c C L E vl st r) := by
 have hrm : Calls Tryz.prog 38 #[.pointer (some ⟨c, 0, none⟩)] w fun e w' => e = .returned (.int .i64 0) ∧ w = w' := by
  exact ic
 have hrd := hread w (Below.refl _ _)
 have rD := Lib.hid (uf r (C.tasks + 1))
 obtain ⟨y1, y2, y3, y4, y5, y6, y7, y8, y9⟩ := r
 rw [show (encR ⟨y1, y2, y3, y4, y5, y6, y7, y8, y9⟩).toArray = #[.int .i64 y1, .int .i64 y2, .int .i64 y3, .int .i64 y4, .int .i64 y5, .int .i64 y6, .bool y7, .int .i64 y8, .int .i64 y9] from rfl] at hrd rD
 have c3 := q.c3
 have wt : IntKind.i64.wrap (C.tasks + 1) = C.tasks + 1 := IntWalk.i64_in _ (by omega)
 obtain ⟨i0, hi0, hz0, hz1, hz2⟩ := info_parts oH
 have q0 := Lib.hid q
 have hl0 := Lib.hid hl
 have hg0 := Lib.hid hg
 clear q hl hg hread
 go_enter Tryz.func10, Tryz.ntmps10
 go_wp2_with (go_at_call 38; go_must (refine hrm.mono ?_); rintro e w' ⟨rfl, rfl⟩)
 go_at_call 9
 refine hrd.mono ?_
 clear hrd hrm c3
 rintro e w1 ⟨rfl, hb1⟩
 obtain ⟨w2, hw2⟩ : ∃ w2, w2 = w1.alloc (.cells #[.int .i64 y1, .int .i64 y2, .int .i64 y3, .int .i64 y4, .int .i64 y5, .int .i64 y6, .bool y7, .int .i64 y8, .int .i64 y9] 28) := ⟨_, rfl⟩
 have hb2 : Hid (Below w.heap.size w w2) := by show Below _ _ _; rw [hw2]; exact hb1.alloc hb1.size _
 have hR2 : w2.heap[w1.heap.size]? = some (.cells #[.int .i64 y1, .int .i64 y2, .int .i64 y3, .int .i64 y4, .int .i64 y5, .int .i64 y6, .bool y7, .int .i64 y8, .int .i64 y9] 28 (0, 0)) := by rw [hw2]; exact heap_alloc_new w1 _
 obtain ⟨G, hG⟩ : ∃ G, G = w1.heap.size := ⟨_, rfl⟩
 rw [← hG] at hR2
 have BS : Hid (w.heap.size ≤ G) := by show _ ≤ _; rw [hG]; exact hb1.size
 replace hR2 := Lib.hid hR2
 go_wp2_with fail
 rw [← hw2, ← hG]
 replace hw2 := Lib.hid hw2
 replace hG := Lib.hid hG
 have hrc : Hid (∀ W, Below w2.heap.size w2 W → ∀ j z, (encR ⟨y1, y2, y3, y4, y5, y6, y7, y8, y9⟩)[j]? = some z → W.cell? ⟨G, j, none⟩ = some z) := fun W hW j z hz => by
  exact nD
 refine Reg2.pg 8 61 (Reg2.rows 0 [.p 0, .p 1, .p 3, .m 7, .p 0, .m 0, .m 48, .m 112]) [0, 0, 0, 1, 0, 1, 0, 1]
  [.pure, .pure, .pure, .mU (.pointer (some ⟨C.log, 0, none⟩)), .pure, .mU (.agg #[.int .i64 y1, .int .i64 y2, .int .i64 y3, .int .i64 y4, .int .i64 y5, .int .i64 y6, .bool y7, .int .i64 y8, .int .i64 y9]), .pure, .minor Nat 0 (fun x => .slice (some ⟨x, 0, none⟩) 1 1) (fun x W => w2.heap.size ≤ x ∧ W.heap[x]? = some (.cells (av ⟨0, 1, C.tasks + 1, y1, y2, y3, y4, y5, y6, y7, y8, y9, 0, 0, 0, 0, 0, 0, 0, 0, 0, 0, 0, false⟩).toArray 50 (0, 0)))]
  (fun W => Below w2.heap.size w2 W) (fun _ _ => True) (fun a b => Below a.heap.size a b) (by kernel_rfl) (by kernel_rfl) rfl rfl (fun vs a b h hs => trivial) ?_ ?_ ?_ ?_ ?_ ?_
 ·intro a b he hb; exact hb.trans (Below.mono he hb.size)
 ·intro a b he hb; exact hb.trans (Below.mono he hb.size)
 ·exact nz
 ·exact fK
 ·trivial
 dsimp only [Reg2.mk, Reg2.rows, List.zip, List.zipWith, List.take]
 repeat ((first
  | (refine' Reg2.aO _ (by rfl) (fun wz => ?_) ?_; rotate_left; (go_simp; first | rfl | rw [if_neg (by omega)]))
  | (refine Reg2.aD (by rfl) (fun wz hI hF => ?_) (fun _ => ?_)
     ·unfold Reg2.One
      have d0 := (q0.out.below (hb2.out.trans (hI.mono hb2.out.size)) q0.out.lt).c1
      have r0 := hrc.out wz hI 0 _ rfl
      have r1 := hrc.out wz hI 1 _ rfl
      have r2 := hrc.out wz hI 2 _ rfl
      have r3 := hrc.out wz hI 3 _ rfl
      have r4 := hrc.out wz hI 4 _ rfl
      have r5 := hrc.out wz hI 5 _ rfl
      have r6 := hrc.out wz hI 6 _ rfl
      have r7 := hrc.out wz hI 7 _ rfl
      have r8 := hrc.out wz hI 8 _ rfl
      go_wp2_with fail
      first | exact ⟨_, rfl, rfl, Reg2.Ext.refl _⟩ | exact ⟨_, rfl, ⟨(), rfl, trivial⟩, Reg2.Ext.refl _⟩)); simp only [Act.put, xA, xB, xC, xD, xE, id])
 refine Reg2.pm (fun wz hI hF => ?_) fun ve => ?_
 ·exact nA
 simp only [Act.put, xA, xB, xC, xD, xE, id]
 refine Reg2.aY ?_
 intro w3 HI3 _ HF
 obtain ⟨yL, kS⟩ := HF.2.2.2.2.2.2.2.1
 clear HF
 dsimp only [List.drop]
 have q3 := q0.out.below (hb2.out.trans (HI3.mono hb2.out.size)) q0.out.lt
 have hb3 : Below w.heap.size w w3 := hb2.out.trans (HI3.mono hb2.out.size)
 have g3 := hg0.out.below hb3
 have hsz2 := hb2.out.size
 have hN := iZ g3 (jb kS) (fun _ b off m cc e => by
  injection e with e _ _
  injection e with e
  injection e with e _ _
  subst e
  refine ⟨by have := hg0.out.lt; omega, fun e => ?_⟩
  have := (hg0.out.own.lt _ e).2
  omega) (by show E.length + 1 ≤ 900; omega)
 have aM := (HI3.block G (ae hR2.out)).trans hR2.out
 have hl3 := Put.aF hl0.out hb3
 have q3' := Lib.hid q3
 have g3' := Lib.hid g3
 replace hb3 := Lib.hid hb3
 replace aM := Lib.hid aM
 replace hl3 := Lib.hid hl3
 clear q3 g3 hrc hR2 kS
 go_wp2_with fail
 go_at_call 39
 refine hN.mono ?_
 clear hN
 rintro e w4 ⟨rfl, dU, g4, bO, kT⟩
 replace g4 : LG B w4 C.log st dU (E ++ [stamp st (gp (C.tasks + 1) ⟨y1, y2, y3, y4, y5, y6, y7, y8, y9⟩)]) := g4
 have keep : ∀ (k : Nat) (cs : Array Value) (T : TypeId) (f : Nat × Nat), w3.heap[k]? = some (.cells cs T f) → T ≠ 91 → T ≠ 50 → w4.heap[k]? = some (.cells cs T f) := fun k cs T f hk h1 h2 =>
  (bO.block k (Put.lt_of_heap hk) (fun e => by
   subst e
   have := g3'.out.obj
   rw [hk] at this
   exact h1 (Obj.cells.inj (Option.some.inj this)).2.1) (bz g3'.out.own hk h2)).trans hk
 have q4 : aB w4 c C := keep _ _ _ _ q3'.out (by decide) (by decide)
 have dR := keep _ _ _ _ aM.out (by decide) (by decide)
 have hl4 : w4.ownsRow B 109 2 C.live L.length (L.flatMap aQ) := ax hl3.out fun k hk => by
  exact nC
 have xn := bO.size
 have hO4 : aP (zP c C.log vl C.live) w w4 := by
  refine ⟨bO.os.trans hb3.out.os, bO.tape.trans hb3.out.tape, bO.output.trans hb3.out.output, Nat.le_trans hb3.out.size xn, fun k hk hf => ?_⟩
  have h3 := hb3.out.size
  exact (bO.block k (by omega) (fun e => hf (.inr (.inl e))) (fun e => hf (.inr (.inr (.inl e))))).trans (hb3.out.block k hk)
 have yM : bE w vl.ownBlock dU.ownBlock := (bE.refl w vl.ownBlock).trans kT hb3.out.size
 have eB : ∀ k, C.live.ownBlock = some k → k < w4.heap.size := fun k hk => (hl4.lt k hk).2
 have hlv : Hid (∀ (k : Nat) (cs : Array Value) (T : TypeId) (f : Nat × Nat), w4.heap[k]? = some (.cells cs T f) → T ≠ 109 → C.live.ownBlock ≠ some k) := fun k cs T f hk hT => bz hl4 hk hT
 have hnc : C.live.ownBlock ≠ some c := bz hl4 q4 (by decide)
 have AU : C.live.ownBlock ≠ some G := bz hl4 dR (by decide)
 have hI0 : w4.grownBy w4.drew C.live.ownBlock := ⟨rfl, rfl, rfl, Nat.le_refl _, fun _ _ _ => rfl⟩
 have hS0 : TaskS B w4 C.live L.length (L.flatMap aQ) (C.tasks + 1) ⟨y1, y2, y3, y4, y5, y6, y7, y8, y9⟩ [] w4.drew := ax hl4 fun _ _ => rfl
 have CJ : B ≤ w4.heap.size := by have := g4.bs; have := g4.lt; omega
 have Cu : w.heap.size ≤ w4.heap.size := Nat.le_trans hb3.out.size xn
 replace q4 := Lib.hid q4
 replace dR := Lib.hid dR
 replace g4 := Lib.hid g4
 replace hO4 := Lib.hid hO4
 replace yM := Lib.hid yM
 replace eB := Lib.hid eB
 have hrc : Hid (∀ W, w4.grownBy W C.live.ownBlock → ∀ j z, (encR ⟨y1, y2, y3, y4, y5, y6, y7, y8, y9⟩)[j]? = some z → W.cell? ⟨G, j, none⟩ = some z) := fun W hW j z hz => by
  have := (hW.block G (ae dR.out) AU.symm).trans dR.out
  exact ay this j z hz
 have hqc : Hid (∀ W, w4.grownBy W C.live.ownBlock → aB W c C) := fun W hW => (hW.block c q4.out.lt hnc.symm).trans q4.out
 clear keep hl3 hl4 aM hb3 q3' g3' bO kT hnc AU dR xn HI3 yL
 go_wp2_with fail
 refine Reg2.pg 14 61 (Reg2.rows 0 [.p 0, .p 0, .p 2, .p 6, .m 14, .m 0, .p 0, .m 96, .m 224, .m 480, .p 0, .m 2016, .m 4064, .m 8190]) [0, 0, 0, 0, 1, 1, 0, 1, 0, 0, 0, 0, 1, 3]
  [.pure, .pure, .pure, .pure, .mU (C.live), .mU (.agg #[.int .i64 y1, .int .i64 y2, .int .i64 y3, .int .i64 y4, .int .i64 y5, .int .i64 y6, .bool y7, .int .i64 y8, .int .i64 y9]), .pure, .minor Nat 0 (fun x => .pointer (some ⟨x, 0, none⟩)) (OF w4.heap.size (C.tasks + 1) ⟨y1, y2, y3, y4, y5, y6, y7, y8, y9⟩), .pure, .pure, .pure, .pure, .minor Nat 0 (fun x => .slice (some ⟨x, 0, none⟩) 1 1) (fun x W => w4.heap.size ≤ x ∧ ∃ o, W.heap[x]? = some (.cells (aQ (o, C.tasks + 1)).toArray 109 (0, 0)) ∧ OF w4.heap.size (C.tasks + 1) ⟨y1, y2, y3, y4, y5, y6, y7, y8, y9⟩ o W), .major Value undef id]
  (fun W => w4.grownBy W C.live.ownBlock) (TaskS B w4 C.live L.length (L.flatMap aQ) (C.tasks + 1) ⟨y1, y2, y3, y4, y5, y6, y7, y8, y9⟩) (fun a b => a.grownBy b C.live.ownBlock) (by kernel_rfl) (by kernel_rfl) rfl rfl (fun vs a b h hs => rC h hs) ?_ ?_ ?_ ?_ ?_ ?_
 ·exact ng
 ·exact mZ
 ·have x1 : ∀ (x : Nat) (a b : World), Below a.heap.size a b → OF w4.heap.size (C.tasks + 1) ⟨y1, y2, y3, y4, y5, y6, y7, y8, y9⟩ x a → OF w4.heap.size (C.tasks + 1) ⟨y1, y2, y3, y4, y5, y6, y7, y8, y9⟩ x b := fun x a b he h => h.ext fun k _ hk => he.block k hk
  have x2 : ∀ (x : Nat) (a b : World), a.grownBy b C.live.ownBlock → OF w4.heap.size (C.tasks + 1) ⟨y1, y2, y3, y4, y5, y6, y7, y8, y9⟩ x a → OF w4.heap.size (C.tasks + 1) ⟨y1, y2, y3, y4, y5, y6, y7, y8, y9⟩ x b := fun x a b he h => h.ext fun k h1 hk => he.block k hk fun e => by have := eB.out k e.symm; omega
  refine ⟨trivial, trivial, trivial, trivial, ⟨fun _ _ _ _ _ => trivial, fun _ _ _ _ _ => trivial⟩, ⟨fun _ _ _ _ _ => trivial, fun _ _ _ _ _ => trivial⟩, trivial, ⟨x1, x2⟩, trivial, trivial, trivial, trivial, ⟨fun x a b he h => ?_, fun x a b he h => ?_⟩, trivial, trivial⟩
  ·obtain ⟨h1, o, h2, h3⟩ := h
   exact ⟨h1, o, (he.block x (ae h2)).trans h2, x1 o a b he h3⟩
  ·obtain ⟨h1, o, h2, h3⟩ := h
   exact ⟨h1, o, (he.block x (ae h2) (fun e => by have := eB.out x e.symm; omega)).trans h2, x2 o a b he h3⟩
 ·exact hI0
 ·exact hS0
 dsimp only [Reg2.mk, Reg2.rows, List.zip, List.zipWith, List.take]
 repeat ((first
  | (refine' Reg2.aO _ (by rfl) (fun wz => ?_) ?_; rotate_left; (go_simp; first | rfl | rw [if_neg (by omega)]))
  | (refine Reg2.aD (by rfl) (fun wz hI hF => ?_) (fun _ => ?_)
     ·unfold Reg2.One
      have d0 := (hqc.out wz hI).c4
      have r0 := hrc.out wz hI 0 _ rfl
      have r1 := hrc.out wz hI 1 _ rfl
      have r2 := hrc.out wz hI 2 _ rfl
      have r3 := hrc.out wz hI 3 _ rfl
      have r4 := hrc.out wz hI 4 _ rfl
      have r5 := hrc.out wz hI 5 _ rfl
      have r6 := hrc.out wz hI 6 _ rfl
      have r7 := hrc.out wz hI 7 _ rfl
      have r8 := hrc.out wz hI 8 _ rfl
      go_wp2_with fail
      first | exact ⟨_, rfl, rfl, Reg2.Ext.refl _⟩ | exact ⟨_, rfl, ⟨(), rfl, trivial⟩, Reg2.Ext.refl _⟩)); simp only [Act.put, xA, xB, xC, xD, xE, id])
 refine Reg2.pm (fun wz hI hF => ?_) fun ro => ?_
 ·have hc := rD.out wz
  have hz := hI.size
  go_wp2_with fail
  go_at_call 41
  refine hc.mono ?_
  clear hc
  rintro e w5 ⟨o, h, b, rfl, hO, hH, hW, lo, lh, lb, hb5⟩
  replace hO := Lib.hid hO
  replace hH := Lib.hid hH
  replace hW := Lib.hid hW
  go_wp2_with fail
  exact ⟨_, rfl, ⟨o, rfl, h, b, hO.out, hH.out, hW.out, by omega, by omega, by omega⟩, hb5⟩
 simp only [Act.put, xA, xB, xC, xD, xE, id]
 repeat (refine' Reg2.aO _ (by rfl) (fun wz => ?_) ?_; rotate_left; (go_simp; first | rfl | rw [if_neg (by omega)]); simp only [Act.put, xA, xB, xC, xD, xE, id])
 refine Reg2.pm (fun wz hI hF => ?_) fun rs => ?_
 ·have AV := hF.2.2.1
  have hz := hI.size
  have hfin : Hid (OF w4.heap.size (C.tasks + 1) ⟨y1, y2, y3, y4, y5, y6, y7, y8, y9⟩ ro (wz.alloc (.cells (aQ (ro, C.tasks + 1)).toArray 109))) := AV.ext fun k _ hk => (((Below.refl wz.heap.size wz).alloc (Nat.le_refl _) _).block k hk)
  clear hF AV
  go_wp2_with fail
  exact ⟨_, rfl, ⟨wz.heap.size, rfl, hz, ro, heap_alloc_new wz (.cells (aQ (ro, C.tasks + 1)).toArray 109), hfin.out⟩, (Below.refl wz.heap.size wz).alloc (Nat.le_refl _) _⟩
 simp only [Act.put, xA, xB, xC, xD, xE, id]
 refine Reg2.pj (fun wz hI hS hF => ?_) fun vv => ?_
 ·obtain ⟨hrs, o, AX, hof⟩ := hF.2.2.2.2.2.2.2.2.2.2.2.1
  have hS1 : wz.ownsRow B 109 2 C.live L.length (L.flatMap aQ) := hS
  have hszI := hI.size
  clear hF
  have hsrc : Src Tryz.prog 2 38 (.slice (some ⟨rs, 0, none⟩) 1 1) 1 (aQ (o, C.tasks + 1)) wz := Src.ofSlice wz Tryz.underlying38 ⟨rs, 0, none⟩ 1 1 (aQ (o, C.tasks + 1)) rfl (fun j u hj => by rw [Go.WideShapes.add_plain]; simpa using kR AX j u hj) (by simp [Value.oneCell', aQ])
  go_wp2_with (at_builtin; go_must (refine dG _ rfl (.tmp 44) (.tmp 52) 38 38 rfl B 109 i0 (.agg #[.nilIface, .int .i64 0]) 2 24 Tryz.underlying38 hi0 hz0 hz1 hz2 rfl C.live L.length (L.flatMap aQ) rfl hS1 (.slice (some ⟨rs, 0, none⟩) 1 1) 1 (aQ (o, C.tasks + 1)) rfl hsrc ?c0 ?c1 (by omega) ?c5))
  case c0 => unfold maxLen; omega
  case c1 => omega
  case c5 =>
   intro v' w9 zJ yH hnb
   have hnn : bE w4 C.live.ownBlock v'.ownBlock := by
    rcases hnb with e | e
    ·exact .inl e
    ·exact .inr ⟨_, e, hszI⟩
   have AY : OF w4.heap.size (C.tasks + 1) ⟨y1, y2, y3, y4, y5, y6, y7, y8, y9⟩ o w9 := hof.ext fun k h1 hk => yH.block k hk fun e => by have := eB.out k e.symm; omega
   go_wp2_with fail
   exact ⟨v', rfl, ⟨o, zJ, hnn, AY⟩, yH⟩
 simp only [Act.put, xA, xB, xC, xD, xE, id]
 refine Reg2.aY ?_
 intro w5 fF BU zK
 clear zK hI0 hS0
 obtain ⟨o, gq, AZ, zf⟩ : ∃ o, w5.ownsRow B 109 2 vv (L.length + 1) (L.flatMap aQ ++ aQ (o, C.tasks + 1)) ∧ bE w4 C.live.ownBlock vv.ownBlock ∧ OF w4.heap.size (C.tasks + 1) ⟨y1, y2, y3, y4, y5, y6, y7, y8, y9⟩ o w5 := BU
 dsimp only [List.drop]
 have q5 := hqc.out w5 fF
 have rE := (fF.block C.log g4.out.lt (hlv.out _ _ _ _ g4.out.obj (by decide)).symm).trans g4.out.obj
 have c4 := q5.c4
 have f4 := q5.free 4
 have q6 := q5.qg vv
 have c3 := q6.c3
 have f3 := q6.free 3
 have q7 := q6.jL (C.tasks + 1)
 have hfin : Hid (jU B w c C L E vl st ⟨y1, y2, y3, y4, y5, y6, y7, y8, y9⟩ (.returned (.tuple #[.int .i64 (C.tasks + 1), .int .i64 0])) ((w5.setCell ⟨c, 4, none⟩ vv).setCell ⟨c, 3, none⟩ (.int .i64 (C.tasks + 1)))) := by
  have sc : ∀ k, k ≠ c → ((w5.setCell ⟨c, 4, none⟩ vv).setCell ⟨c, 3, none⟩ (.int .i64 (C.tasks + 1))).heap[k]? = w5.heap[k]? := fun k hk => (Below.heap_setCell _ ⟨c, 3, none⟩ _ k hk).trans (Below.heap_setCell w5 ⟨c, 4, none⟩ _ k hk)
  have hcl := q4.out.lt
  obtain ⟨h, b, x1, x2, x3, x4, x5, x6⟩ := zf.ext (b := (w5.setCell ⟨c, 4, none⟩ vv).setCell ⟨c, 3, none⟩ (.int .i64 (C.tasks + 1))) fun k h1 _ => sc k (by omega)
  refine ⟨o, h, b, vv, dU, rfl, q7, ?_, ⟨?_, ?_, g4.out.bs⟩, x1, x2, x3, by omega, by omega, by omega, ?_, yM.out, ?_⟩
  ·exact ax gq fun k hk => sc k (fun e => bz gq q5 (by decide) (by rw [hk, e]))
  ·exact (sc C.log (Put.aH rE q5 (by decide))).trans rE
  ·refine ax g4.out.own fun k hk => ?_
   obtain ⟨cur, hc⟩ := df g4.out.own hk
   exact (sc k (Put.aH hc q4.out (by decide))).trans (fF.block k (ae hc) (hlv.out _ _ _ _ hc (by decide)).symm)
  ·have hO := hO4.out
   refine ⟨fF.os.trans hO.os, fF.tape.trans hO.tape, fF.output.trans hO.output, by simpa using Nat.le_trans hO.size fF.size, fun k hk hf => ?_⟩
   exact (sc k (fun e => hf (.inl e))).trans ((fF.block k (Nat.lt_of_lt_of_le hk hO.size) (fun e => hf (.inr (.inr (.inr e.symm))))).trans (hO.block k hk hf))
  ·rcases AZ with e | ⟨k, e, hk⟩
   ·exact .inl e
   ·exact .inr ⟨k, e, by omega⟩
 obtain ⟨A7, cap5, rfl, _⟩ := cz gq
 clear gq AZ zf rE q5 q6 q7 fF yM hO4 g4 q4
 go_wp2_with fail
 go_ret2
 exact hfin.out
end
end Go.Proofs.YtbdfpbknckghgaaGreat

namespace Go.Proofs.YtbdfpbknckghgaaGreat
open Go.RowKit
theorem uB {o h : Nat} {W : World} (c0 : W.cell? ⟨o, 0, none⟩ = some (.pointer (some ⟨h, 0, none⟩))) : Sem.run Tryz.prog (loadVar 153 ⟨o, 0, none⟩) W = .ok (.pointer (some ⟨h, 0, none⟩)) W := by
 go_simp
theorem oI (k o : Nat) (W : World) : Sem.run Tryz.prog (method (k + 1) 105 (.agg #[.pointer (some ⟨o, 0, none⟩)]) "Waits") W = Sem.run Tryz.prog (do pure (262, ← loadVar 153 ⟨o, 0, none⟩)) W := by kernel_rfl
theorem jV {o h : Nat} {W : World} (c0 : W.cell? ⟨o, 0, none⟩ = some (.pointer (some ⟨h, 0, none⟩))) (k : Nat) : Sem.run Tryz.prog (method (k + 1) 105 (.agg #[.pointer (some ⟨o, 0, none⟩)]) "Waits") W = .ok (262, .pointer (some ⟨h, 0, none⟩)) W := by
 rw [oI]
 simp only [Sem.run_bind, uB c0, Result.andThen_ok]
 rfl
theorem lW (k o : Nat) (W : World) : Sem.run Tryz.prog (method (k + 1) 105 (.agg #[.pointer (some ⟨o, 0, none⟩)]) "berthage/ctrl.perform") W = .ok (266, .agg #[.pointer (some ⟨o, 0, none⟩)]) W := by kernel_rfl
end Go.Proofs.YtbdfpbknckghgaaGreat
