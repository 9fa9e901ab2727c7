/-
 Own words and walks, merged: part 2 of 3.
-/
import Derived.Test.YtbdfpbknckghgaaGreatRows
import Derived.Deep.DeepMust
import Derived.Lib.Hide
import Derived.ProofKit
import Derived.OpenShut
import Derived.BigRegion
import Derived.Test.YtbdfpbknckghgaaGreatChecked
import Derived.WalkKit
import Derived.WalkSpells
import Derived.WalkLawsBesides
import Derived.LaidEql
import Derived.Laws.StructEq
import Derived.Shelf.SlicesQ.Load
import Derived.BigQuiet
import Derived.Shelf.GgSortFunc.RowK
import Derived.Carry
import Derived.Test.YtbdfpbknckghgaaGreatZn1
set_option maxRecDepth 1000000
set_option maxHeartbeats 8000000
set_option linter.all false
namespace Go.Proofs.YtbdfpbknckghgaaGreat
theorem kF {p : Prop} (f : p := by
 apply Nat.eq_of_testBit_eq
 intro j
 rw [Nat.testBit_xor, Nat.testBit_two_pow_sub_one, show 2 ^ 64 - 1 - q = 2 ^ 64 - (q + 1) by omega, Nat.testBit_two_pow_sub_succ hlt]
 by_cases hj : j < 64
 ·simp [hj]
 ·simp [hj]
  exact Nat.testBit_lt_two_pow (Nat.lt_of_lt_of_le hlt (Nat.pow_le_pow_right (by decide) (by omega)))) : p := f
theorem kG {p : Prop} (f : p := by
 have hfin : Below base w w1 := ((Below.refl _ _).alloc hbase _).trans hb1
 clear hown1 hb1
 go_wp2
 go_ret
 exact ⟨v', rfl, hby, hfin⟩) : p := f
theorem iI {p : Prop} (f : p := by
 rw [gD, List.length_append]
 exact hown1) : p := f
end Go.Proofs.YtbdfpbknckghgaaGreat
namespace Go.Proofs.YtbdfpbknckghgaaGreat
open Go.RowKit
theorem ou : (Tryz.prog.info? 5).map (fun i => (i.zero, i.size, i.bytes)) = some (some (.int .u8 0), 1, 1) := by kernel_rfl
def aC (w : World) (base : Nat) (v : Value) (l : List UInt8) : Prop := Buf w base 5 1 v l.length (bv l)
def dC (w : World) (base : Nat) (v : Value) (l : List UInt8) : Prop := w.ownsRow base 5 1 v l.length (bv l)
theorem qm {u : Nat} : bits .or .u8 (IntKind.u8.wrap (u : Int)) 128 = ((bM (u % 128 + 128)).toNat : Int) := by
 rw [IntKind.wrap_u8', u8_or _ _ (by omega) (by omega) (by omega) (by omega), aN (by omega)]
 have e1 : ((u : Int) % 256).toNat = u % 256 := by omega
 have e2 : (128 : Int).toNat = 128 := rfl
 rw [e1, e2, show u % 256 = u % 256 / 128 * 128 + u % 128 by omega]
 have h2 : u % 256 / 128 = 0 ∨ u % 256 / 128 = 1 := by omega
 rcases h2 with h2 | h2
 ·rw [h2, Nat.or_comm, nat_join 7 128 _ rfl (by omega)]; omega
 ·rw [h2]
  have e3 : 1 * 128 + u % 128 = 128 ||| (u % 128) := (nat_join 7 128 _ rfl (by omega)).symm
  rw [e3, Nat.or_comm, ← Nat.or_assoc, Nat.or_self, nat_join 7 128 _ rfl (by omega)]; omega
theorem tF (u : Nat) (hu : u < 18446744073709551616) (l : List UInt8) (v : Value) (base : Nat) (w : World) (hb : aC w base v l) (hl : l.length ≤ 1000000) (hbase : base ≤ w.heap.size) :
 Calls Tryz.prog 146 #[v, .int .u64 u] w fun e w' => ∃ v', e = .returned v' ∧ dC w' base v' (l ++ enc u) ∧ Below base w w' := by
 obtain ⟨i0, hi, hz0, hz1, hz2⟩ := info_parts ou
 go_enter Tryz.func146, Tryz.ntmps146
 go_wp2
 go_loopw [0, 1] (fun b q wr => ∃ (f : Nat) (c : List UInt8) (x : Nat), q = .int .u64 x ∧ Hid (x < 128 ^ (f + 1)) ∧ Hid (x < 18446744073709551616) ∧ c.length + (encF f x).length ≤ l.length + 10 ∧ aC wr base b c ∧ Hid (c ++ encF f x = l ++ enc u) ∧ base ≤ wr.heap.size ∧ Below base w wr) (fun _ q _ => (intOf q).toNat)
 case atStart =>
  refine ⟨9, l, u, rfl, (by omega : u < 128 ^ (9 + 1)), hu, ?_, hb, rfl, hbase, Below.refl _ _⟩
  have := dN 9 u; omega
 case round =>
  obtain ⟨f, c, x, rfl, hx, hxu, hc, hbuf, henc, hwb, hbel⟩ := hrel
  have hln := dN f x
  clear hu
  by_cases hlt : 128 ≤ x
  ·have hf := jE hx.out hlt
   obtain ⟨f, rfl⟩ : ∃ g, f = g + 1 := ⟨f - 1, by omega⟩
   have hlow : Hid _ := qm (u := x)
   have hst : Hid _ := gF (f := f) hlt
   go_wp2_with (at_builtin; go_must (refine bn _ rfl (.tmp 9) (.tmp 13) 22 rfl base 5 i0 (.int .u8 0) 1 1 Tryz.underlying22 hi hz0 hz1 hz2 rfl (by decide) u0 c.length (bv c) rfl (Buf.alloc hbuf _) ⟨wr.heap.size, 0, none⟩ 1 1 [.int .u8 (bits .or .u8 (IntKind.u8.wrap (x : Int)) 128)] rfl rfl (cell_one_new _ _ _) ?c1 (by omega) ?c2 ?c3 ?c4 ?c5))
   case c5 =>
    intro v' w1 hown1 hb1
    have hby : Hid (dC w1 base v' (c ++ [bM (x % 128 + 128)])) := by
     show w1.ownsRow _ _ _ _ _ _
     rw [gD, List.length_append]
     rw [hlow.out] at hown1
     exact hown1
    have hs1 := hb1.size
    simp only [World.size_alloc] at hs1
    go_wp2
    go_roundw
    case rel =>
     have h1 := hx.out
     have h2 := hxu.out
     have h3 := hst.out
     have h4 : (encF (f + 1) x).length = (encF f (x / 128)).length + 1 := by rw [h3]; rfl
     have hp : 128 ^ (f + 1 + 1) = 128 ^ (f + 1) * 128 := Nat.pow_succ ..
     have hq : 0 < 128 ^ (f + 1) := Nat.pow_pos (by decide)
     refine ⟨f, c ++ [bM (x % 128 + 128)], x / 128, by go_num, (by omega : x / 128 < 128 ^ (f + 1)), (by omega : x / 128 < 18446744073709551616), ?_, Or.inl hby.out, ?_, by omega, ?_⟩
     ·simp only [List.length_append, List.length_cons, List.length_nil]; omega
     ·show c ++ [bM (x % 128 + 128)] ++ encF f (x / 128) = l ++ enc u
      rw [← henc.out, h3, List.append_assoc]; rfl
     ·exact (hbel.alloc hwb _).trans hb1
    case measure => simp [intOf]; omega
   case c1 => simp [Value.oneCell']
   case c2 => unfold maxLen; omega
   case c3 => omega
   case c4 => simp; omega
  ·have hst : Hid (encF f x = [bM x]) := gG (by omega)
   have hlow : Hid ((x : Int) = ((bM x).toNat : Int)) := by
    show _ = _
    rw [aN (by omega)]
   go_wp2_with (at_builtin; go_must (refine bn _ rfl (.tmp 15) (.tmp 18) 22 rfl base 5 i0 (.int .u8 0) 1 1 Tryz.underlying22 hi hz0 hz1 hz2 rfl (by decide) u0 c.length (bv c) rfl (Buf.alloc hbuf _) ⟨wr.heap.size, 0, none⟩ 1 1 [.int .u8 (x : Int)] rfl rfl ?d0 ?d1 (by omega) ?d2 ?d3 ?d4 ?d5))
   case d5 =>
    intro v' w1 hown1 hb1
    have hby : dC w1 base v' (l ++ enc u) := by
     rw [← henc.out, hst.out]
     show w1.ownsRow _ _ _ _ _ _
     rw [gD, List.length_append]
     rw [hlow.out] at hown1
     exact hown1
    have hfin : Below base w w1 := (hbel.alloc hwb _).trans hb1
    clear hown1 hb1
    go_wp2
    go_ret
    exact ⟨v', rfl, hby, hfin⟩
   case d0 => exact cell_one_new _ _ _
   case d1 => simp [Value.oneCell']
   case d2 => unfold maxLen; omega
   case d3 => omega
   case d4 => simp; omega
theorem dC.buf {w : World} {base : Nat} {v : Value} {l : List UInt8} (h : dC w base v l) : aC w base v l := Or.inl h
theorem qo (v : Int) (w : World) (hv : -9223372036854775808 ≤ v ∧ v ≤ 9223372036854775807) :
 Calls Tryz.prog 147 #[.int .i64 v] w fun e w' => e = .returned (.int .u64 (zg v)) ∧ w = w' := by
 by_cases h : v < 0
 ·have hx : bits .xor .u64 IntKind.u64.max (IntKind.u64.wrap (IntKind.u64.wrap v * 2)) = (zg v : Int) := by
   simp only [IntKind.wrap_u64, zg, h, if_true]
   have hm : IntKind.u64.max = 18446744073709551615 := by rfl
   rw [hm, u64_xor _ _ (by omega) (by omega) (by omega) (by omega)]
   have e1 : (18446744073709551615 : Int).toNat = 2 ^ 64 - 1 := rfl
   rw [e1, Nat.xor_comm]
   have hlt : (v % 18446744073709551616 * 2 % 18446744073709551616).toNat < 2 ^ 64 := by omega
   generalize hq : (v % 18446744073709551616 * 2 % 18446744073709551616).toNat = q at hlt ⊢
   have : q ^^^ (2 ^ 64 - 1) = 2 ^ 64 - 1 - q := by
    exact kF
   rw [this]
   omega
  have hX := Lib.hid hx
  clear hx
  go_enter Tryz.func147, Tryz.ntmps147
  go_wp2
  go_ret
  exact ⟨congrArg (fun n => Ending.returned (.int .u64 n)) hX.out, rfl⟩
 ·go_enter Tryz.func147, Tryz.ntmps147
  go_wp2
  go_ret
  exact ⟨congrArg (fun n => Ending.returned (.int .u64 n)) (by unfold zg; rw [if_neg (by omega)]; omega), rfl⟩
theorem qp (x : Int) (hx : -9223372036854775808 ≤ x ∧ x ≤ 9223372036854775807) (l : List UInt8) (v : Value) (base : Nat) (w : World) (hb : aC w base v l) (hl : l.length ≤ 1000000) (hbase : base ≤ w.heap.size) :
 Calls Tryz.prog 135 #[v, .int .i64 x] w fun e w' => ∃ v', e = .returned v' ∧ dC w' base v' (l ++ enc (zg x)) ∧ Below base w w' := by
 go_enter Tryz.func135, Tryz.ntmps135
 go_wp2_with (first | (go_at_call 147; go_must (refine (qo x w hx).mono ?_); rintro e w' ⟨rfl, rfl⟩) | (go_at_call 146; go_must (refine (tF (zg x) (jD hx) l v base w hb hl hbase).mono ?_); rintro e w' ⟨v', rfl, hown, hbl⟩))
 go_ret
 exact ⟨v', rfl, hown, hbl⟩
theorem qw (x : Bool) (l : List UInt8) (v : Value) (base : Nat) (w : World) (hb : aC w base v l) (hl : l.length ≤ 1000000) (hbase : base ≤ w.heap.size) :
 Calls Tryz.prog 113 #[v, .bool x] w fun e w' => ∃ v', e = .returned v' ∧ dC w' base v' (l ++ [if x then 1 else 0]) ∧ Below base w w' := by
 obtain ⟨i0, hi, hz0, hz1, hz2⟩ := info_parts ou
 cases x
 ·go_enter Tryz.func113, Tryz.ntmps113
  go_wp2_with (at_builtin; go_must (refine bn _ rfl (.tmp 9) (.tmp 10) 22 rfl base 5 i0 (.int .u8 0) 1 1 Tryz.underlying22 hi hz0 hz1 hz2 rfl (by decide) v l.length (bv l) rfl (Buf.alloc hb _) ⟨w.heap.size, 0, none⟩ 1 1 [.int .u8 ((0 : UInt8).toNat : Int)] rfl rfl (cell_one_new _ _ _) ?d1 (by omega) ?d2 ?d3 ?d4 ?d5))
  case d5 =>
   intro v' w1 hown1 hb1
   have hby : dC w1 base v' (l ++ [if false then 1 else 0]) := by
    show w1.ownsRow _ _ _ _ _ _
    exact iI
   exact kG
  case d1 => simp [Value.oneCell']
  case d2 => unfold maxLen; omega
  case d3 => omega
  case d4 => simp; omega
 ·go_enter Tryz.func113, Tryz.ntmps113
  go_wp2_with (at_builtin; go_must (refine bn _ rfl (.tmp 6) (.tmp 7) 22 rfl base 5 i0 (.int .u8 0) 1 1 Tryz.underlying22 hi hz0 hz1 hz2 rfl (by decide) v l.length (bv l) rfl (Buf.alloc hb _) ⟨w.heap.size, 0, none⟩ 1 1 [.int .u8 ((1 : UInt8).toNat : Int)] rfl rfl (cell_one_new _ _ _) ?e1 (by omega) ?e2 ?e3 ?e4 ?e5))
  case e5 =>
   intro v' w1 hown1 hb1
   have hby : dC w1 base v' (l ++ [if true then 1 else 0]) := by
    show w1.ownsRow _ _ _ _ _ _
    exact iI
   exact kG
  case e1 => simp [Value.oneCell']
  case e2 => unfold maxLen; omega
  case e3 => omega
  case e4 => simp; omega
end Go.Proofs.YtbdfpbknckghgaaGreat

namespace Go.Proofs.YtbdfpbknckghgaaGreat
open Go.RowKit
theorem kH (l : List UInt8) : (str l).size = l.length := by simp [str, ByteArray.size]
theorem iV (l : List UInt8) : (str l).toList = l := ByteArray.toList_mk l
def aj (zs : List Int) : List UInt8 := zs.flatMap fun z => enc (zg z)
theorem lT (zs : List Int) (z : Int) : aj (zs ++ [z]) = aj zs ++ enc (zg z) := by simp [aj]
theorem dW (zs : List Int) : (aj zs).length ≤ 10 * zs.length := by
 induction zs with
 | nil => simp [aj]
 | cons z zs ih => have := eD (zg z); simp only [aj, List.flatMap_cons, List.length_append, List.length_cons] at *; omega
theorem dx (zs : List Int) (hz : ∀ z ∈ zs, -9223372036854775808 ≤ z ∧ z ≤ 9223372036854775807) (hn : zs.length ≤ 1000) (g off cap : Nat) (l : List UInt8) (v : Value) (base : Nat) (w : World) (hb : aC w base v l) (hl : l.length ≤ 10000) (hbase : base ≤ w.heap.size)
 (hg : g < base) (hc : ∀ j, j < zs.length → w.cell? ⟨g, off + j, none⟩ = some (.int .i64 (zs.getD j 0))) :
 Calls Tryz.prog 112 #[v, .slice (some ⟨g, off, none⟩) zs.length cap] w fun e w' => ∃ v', e = .returned v' ∧ aC w' base v' (l ++ aj zs) ∧ (zs = [] ∨ dC w' base v' (l ++ aj zs)) ∧ Below base w w' := by
 go_enter Tryz.func112, Tryz.ntmps112
 go_wp2
 go_loopw [0, 9] (fun b i wr => ∃ (k : Nat), k ≤ zs.length ∧ i = .int .i64 k ∧ aC wr base b (l ++ aj (zs.take k)) ∧ (k = 0 ∨ dC wr base b (l ++ aj (zs.take k))) ∧ Below base w wr) (fun _ i _ => zs.length - (intOf i).toNat)
 case atStart => exact ⟨0, Nat.zero_le _, rfl, by simpa [aj] using hb, Or.inl rfl, Below.refl _ _⟩
 case round =>
  obtain ⟨k, hk, rfl, hbuf, hor, hbel⟩ := hrel
  clear hb
  have hsz := hbel.size
  by_cases hlt : k < zs.length
  ·have hcell : wr.cell? ⟨g, off + k, none⟩ = some (.int .i64 (zs.getD k 0)) := by rw [hbel.cell hg]; exact hc k hlt
   have zG := hz (zs.getD k 0) (by rw [getD_lt hlt]; exact List.getElem_mem _)
   have htk : Hid (zs.take (k + 1) = zs.take k ++ [zs.getD k 0]) := by
    show _ = _
    rw [List.take_succ_eq_append_getElem hlt, getD_lt hlt]
   have hle := dW (zs.take k)
   have htl : (zs.take k).length ≤ k := List.length_take_le _ _
   have hll : (l ++ aj (zs.take k)).length ≤ 1000000 := by rw [List.length_append]; omega
   generalize hzz : zs.getD k 0 = z at *
   have HZ := Lib.hid hzz
   clear hc hzz hor
   go_wp2_with (go_at_call 135; go_must (refine (qp z zG _ _ base _ hbuf hll (by omega)).mono ?_); rintro e w1 ⟨v1, rfl, hown1, yo⟩)
   go_roundw
   case rel =>
    have hfin : dC w1 base v1 (l ++ aj (zs.take (k + 1))) := by rw [htk.out, lT, ← List.append_assoc]; exact hown1
    exact ⟨k + 1, by omega, by go_num, hfin.buf, Or.inr hfin, hbel.trans yo⟩
   case measure => simp [intOf]; omega
  ·obtain rfl : k = zs.length := by omega
   rw [List.take_length] at hbuf hor
   clear hc
   go_wp2
   go_ret
   refine ⟨_, rfl, hbuf, ?_, hbel⟩
   rcases hor with h0 | h
   ·exact Or.inl (List.eq_nil_of_length_eq_zero h0)
   ·exact Or.inr h
end Go.Proofs.YtbdfpbknckghgaaGreat

namespace Go.Proofs.YtbdfpbknckghgaaGreat
open Go.RowKit
def dD (w w' : World) : Prop := ∀ a v, w.cell? a = some v → w'.cell? a = some v
theorem dD.dG {w w' : World} (h : Reg2.Ext w w') : dD w w' := fun a v hv => by
 rw [Below.cell h (World.block_lt_of_cell? w a hv)]; exact hv
def bz (w : World) (v : Value) (l : List UInt8) : Prop :=
 (v = .slice none 0 0 ∧ l = []) ∨ ∃ b off cap, v = .slice (some ⟨b, off, none⟩) l.length cap ∧ ∀ i, i < l.length → w.cell? ⟨b, off + i, none⟩ = some (.int .u8 ((l.map fun c : UInt8 => (c.toNat : Int)).getD i 0))
theorem bz.keeps {w w' : World} {v : Value} {l : List UInt8} (h : bz w v l) (hk : dD w w') : bz w' v l := by
 rcases h with h | ⟨b, off, cap, hv, hc⟩
 ·exact Or.inl h
 ·exact Or.inr ⟨b, off, cap, hv, fun i hi => hk _ _ (hc i hi)⟩
theorem dC.read {w : World} {base : Nat} {v : Value} {l : List UInt8} (h : dC w base v l) : bz w v l := by
 obtain ⟨h1, h2⟩ := h
 rcases h2 with ⟨rfl, h0⟩ | ⟨g, cap, cur, rfl, hg, hh, hn, hm, hs, ht⟩
 ·exact Or.inl ⟨rfl, List.eq_nil_of_length_eq_zero h0⟩
 ·refine Or.inr ⟨g, 0, cap, rfl, fun i hi => ?_⟩
  have hx := World.ownsRow.cells (v := .slice (some ⟨g, 0, none⟩) l.length cap) (n := l.length) (xs := bv l) ⟨h1, .inr ⟨g, cap, cur, rfl, hg, hh, hn, hm, hs, ht⟩⟩ rfl i (.int .u8 (l[i].toNat : Int)) (by simp [bv, hi])
  rw [Addr.add_lit] at hx
  rw [hx]
  simp [List.getD, hi]
theorem jF {w : World} {v : Value} {l : List UInt8} (h : bz w v l) : (convert 22 9 v).run Tryz.prog w = .ok (.string (str l)) w := by
 rcases h with ⟨rfl, rfl⟩ | ⟨b, off, cap, rfl, hc⟩
 ·exact run_convert_bytes_nil w 22 5 Tryz.underlying22 Tryz.underlying5 0 0 9 Tryz.underlying9
 ·have := run_convert_bytes_arg (P := Tryz.prog) w 22 5 Tryz.underlying22 Tryz.underlying5 b off l.length cap (l.map fun c : UInt8 => (c.toNat : Int)) (by simp) hc 9 Tryz.underlying9
  rw [this]
  congr 2
  unfold strOfNums str
  congr 2
  rw [List.map_map]
  conv => rhs; rw [← List.map_id l]
  apply List.map_congr_left
  intro c _
  simp
end Go.Proofs.YtbdfpbknckghgaaGreat

namespace Go.Proofs.YtbdfpbknckghgaaGreat
open Go.ChangeShapes Go.WideShapes Go.ChangeAt Go.RowKit
def dz (c : UInt8) : List Value := [.int .u8 (c.toNat : Int)]
theorem tH (l : List UInt8) : bv l = l.flatMap dz := by
 induction l with
 | nil => rfl
 | cons a l ih => rw [List.flatMap_cons, ← ih]; rfl
theorem dC.row {w : World} {base : Nat} {v : Value} {l : List UInt8} (h : dC w base v l) : au dz 1 w v l := au.gK h (fun _ => rfl) (tH l) rfl
theorem jG {w : World} {v : Value} {l : List UInt8} (h : au dz 1 w v l) (hp : 0 < l.length) : bz w v l := by
 obtain ⟨ao, cap, rfl, h1, h2, h3⟩ := h
 obtain ⟨b, off, rfl, hb, hc⟩ := h3 hp
 refine .inr ⟨b, off, cap, rfl, fun i hi => ?_⟩
 have := hc i l[i] 0 _ (List.getElem?_eq_getElem hi) rfl
 simp only [Nat.mul_one, Nat.add_zero] at this
 rw [this]
 simp [List.getD, hi]
theorem ow (w : World) (ao : Option Addr) (cap : Nat) : (convert 22 9 (.slice ao 0 cap)).run Tryz.prog w = .ok (.string (str [])) w := by
 cases ao with
 | none => exact run_convert_bytes_nil w 22 5 Tryz.underlying22 Tryz.underlying5 0 cap 9 Tryz.underlying9
 | some a =>
   have hl : (loadCells a 0).run Tryz.prog w = .ok #[] w := by
    have := run_loadCells_list (P := Tryz.prog) w a [] (fun j v hj => by simp at hj)
    simpa using this
   rw [run_convert_bytes_string w 22 9 5 (some a) 0 cap Tryz.underlying22 Tryz.underlying5 Tryz.underlying9]
   simp [Conv.bytesToString, hl, Sem.run_bind, Result.andThen, str]
   rfl
theorem kI {w : World} {v : Value} {l : List UInt8} (h : au dz 1 w v l) : (convert 22 9 v).run Tryz.prog w = .ok (.string (str l)) w := by
 rcases Nat.eq_zero_or_pos l.length with h0 | hp
 ·have hl := List.eq_nil_of_length_eq_zero h0
  subst hl
  obtain ⟨ao, cap, rfl, _⟩ := h
  exact ow w ao cap
 ·exact jF (jG h hp)
theorem qx {H : Type} {enc : TypeId × Value → H} {P : Program} {w : World} {base : Nat} {t e : TypeId} {v : Value} {d : DataW H} {ps : List MemPlace} (ht : P.underlying t = some (.slice e)) (he : P.underlying e = some (.int .u8)) (hc : P.cellsOf e = 1)
 (hval : Value.okWide P w .any base t v) (hd : DataW.Trod enc P w 0 (fun _ => true) true t v d ps) : ∃ l : List UInt8, au dz 1 w v l := by
 obtain ⟨a0, len, cap, rfl⟩ := okWide_slice ht hval
 obtain ⟨fuel, hf⟩ := hd
 rcases open_ints ht he hc hf with ⟨hcs, _⟩ | ⟨a, len', cap', zs, hcs, _, hl, hm, hz, _, hcell, hw⟩
 ·simp [Value.cells] at hcs
  obtain ⟨rfl, rfl, rfl⟩ := hcs
  exact ⟨[], au.nil w⟩
 ·simp [Value.cells] at hcs
  obtain ⟨rfl, rfl, rfl⟩ := hcs
  simp only [if_true] at hz
  have hlen : ((zs.take len).map fun z => UInt8.ofNat z.toNat).length = len := by rw [List.length_map, List.length_take]; omega
  refine ⟨(zs.take len).map fun z => UInt8.ofNat z.toNat, some a, cap, by rw [hlen], by rw [hlen]; exact hl, hm, fun hp => ?_⟩
  rw [hlen] at hp
  obtain ⟨b, off, sp⟩ := a
  have h0 := hcell 0 (by omega)
  have hsp : sp = none := by simpa [Addr.add] using World.cell?_spot h0
  subst hsp
  refine ⟨b, off, rfl, ?_, fun i s j u hi hj => ?_⟩
  ·rw [Go.WideShapes.add_plain] at h0
   exact World.block_lt_of_cell? w ⟨b, _, none⟩ h0
  ·have hil : i < len := by
    have := (List.getElem?_eq_some_iff.1 hi).1
    omega
   have hi' : i < zs.length := by omega
   rw [List.getElem?_map, List.getElem?_take, if_pos hil, List.getElem?_eq_getElem hi'] at hi
   have hs : UInt8.ofNat (zs[i].toNat) = s := by simpa using hi
   have hj0 : j = 0 := by
    have := (List.getElem?_eq_some_iff.1 hj).1
    simp [dz] at this
    exact this
   subst hj0
   have hu : u = .int .u8 (s.toNat : Int) := by simpa [dz] using hj.symm
   have h1 := hcell i hi'
   rw [show zs.getD i 0 = zs[i] by simp [List.getD, hi']] at h1
   rw [Go.WideShapes.add_plain] at h1
   have hb := bounds_u8 (hw zs[i] (List.getElem_mem _))
   rw [hu, ← hs]
   simp only [Nat.mul_one, Nat.add_zero]
   rw [h1]
   congr 2
   have : (UInt8.ofNat zs[i].toNat).toNat = zs[i].toNat := by simp; omega
   rw [this]
   omega
end Go.Proofs.YtbdfpbknckghgaaGreat

namespace Go.Proofs.YtbdfpbknckghgaaGreat
open Go.RowKit
theorem qy {q : Nat} (hlt : q < 2 ^ 64) : q ^^^ (2 ^ 64 - 1) = 2 ^ 64 - 1 - q := by
 exact kF
structure Only (b : Nat) (w w' : World) : Prop where
 os : w'.os = w.os
 tape : w'.tape = w.tape
 output : w'.output = w.output
 size : w'.heap.size = w.heap.size
 block : ∀ k : Nat, k ≠ b → w'.heap[k]? = w.heap[k]?
theorem Only.refl (b : Nat) (w : World) : Only b w w := ⟨rfl, rfl, rfl, rfl, fun _ _ => rfl⟩
theorem Only.trans {b : Nat} {w w' w'' : World} (h : Only b w w') (k : Only b w' w'') : Only b w w'' :=
 ⟨k.os.trans h.os, k.tape.trans h.tape, k.output.trans h.output, k.size.trans h.size, fun i hi => (k.block i hi).trans (h.block i hi)⟩
theorem Only.setCell (b off : Nat) (w : World) (v : Value) : Only b w (w.setCell ⟨b, off, none⟩ v) :=
 ⟨rfl, rfl, rfl, by simp [World.setCell], fun k hk => Below.heap_setCell _ _ _ _ hk⟩
theorem Only.below {b B : Nat} {w w' : World} (h : Only b w w') (hB : B ≤ b) : Below B w w' :=
 ⟨h.os, h.tape, h.output, Nat.le_of_eq h.size.symm, fun k hk => h.block k (by omega)⟩
theorem qz (c : UInt8) (l : List UInt8) : (str (c :: l)).extract 1 (str (c :: l)).size = str l := by
 apply ByteArray.ext
 simp [str, ByteArray.size]
theorem fF (x : Int) (hx : -9223372036854775808 ≤ x ∧ x ≤ 9223372036854775807) (w : World) :
 Calls Tryz.prog 110 #[.int .u64 (zg x)] w fun e w' => e = .returned (.int .i64 x) ∧ w = w' := by
 have hz := jD hx
 by_cases h : x < 0
 ·have h1 : bits .and .u64 ((zg x : Nat) : Int) 1 = 1 := by
   rw [u64_and _ _ (by omega) (by omega) (by omega) (by omega)]
   have e : ((zg x : Nat) : Int).toNat &&& (1 : Int).toNat = 1 := by
    show (zg x : Nat) &&& 1 = 1
    rw [nat_mask1]; unfold zg; rw [if_pos h]; omega
   rw [e]; rfl
  have h2 : wrap64 (bits .xor .u64 IntKind.u64.max (((zg x : Nat) : Int) / 2)) = x := by
   have hm : IntKind.u64.max = 18446744073709551615 := by rfl
   rw [hm, u64_xor _ _ (by omega) (by omega) (by omega) (by omega)]
   have e1 : (18446744073709551615 : Int).toNat = 2 ^ 64 - 1 := rfl
   have hlt : (((zg x : Nat) : Int) / 2).toNat < 2 ^ 64 := by omega
   have hq : (((zg x : Nat) : Int) / 2).toNat = zg x / 2 := by omega
   rw [e1, Nat.xor_comm, qy hlt, hq]
   have hz2 : zg x / 2 = (-x - 1).toNat := by unfold zg; rw [if_pos h]; omega
   rw [hz2]
   unfold wrap64
   omega
  clear hz
  generalize zg x = z at *
  go_enter Tryz.func110, Tryz.ntmps110
  go_wp2
  go_ret
  exact ⟨rfl, rfl⟩
 ·obtain ⟨n, rfl⟩ := Int.eq_ofNat_of_zero_le (show 0 ≤ x by omega)
  have hzn : zg (n : Int) = 2 * n := by unfold zg; rw [if_neg (by omega)]; omega
  have h1 : bits .and .u64 ((2 * n : Nat) : Int) 1 = 0 := by
   rw [u64_and _ _ (by omega) (by omega) (by omega) (by omega)]
   have e : ((2 * n : Nat) : Int).toNat &&& (1 : Int).toNat = 0 := by
    show (2 * n) &&& 1 = 0
    rw [nat_mask1]; omega
   rw [e]; rfl
  rw [hzn]
  have h3 : ((2 * n : Nat) : Int) / 2 = n := by omega
  clear hz hzn h
  generalize hm : 2 * n = m at *
  have HM := Lib.hid hm
  clear hm
  go_enter Tryz.func110, Tryz.ntmps110
  go_wp2
  go_ret
  exact ⟨rfl, rfl⟩
theorem jH (u k : Nat) : u % 128 * 128 ^ k + u / 128 * 128 ^ (k + 1) = u * 128 ^ k := by
 rw [Nat.pow_succ, Nat.mul_comm (128 ^ k) 128, ← Nat.mul_assoc, ← Nat.add_mul]
 congr 1
 omega
theorem fG (k : Nat) : 128 ^ k = 2 ^ (7 * k) := by rw [Nat.pow_mul]
theorem tJ {bits k u acc x : Nat} (hx : x < 2 ^ bits) (hs : acc + u * 128 ^ k = x) (h0 : u ≠ 0) : u < 2 ^ (bits - 7 * k) ∧ 7 * k ≤ bits := by
 have h1 : u * 128 ^ k < 2 ^ bits := by omega
 rw [fG] at h1
 have h2 : 7 * k ≤ bits := by
  rcases Nat.lt_or_ge bits (7 * k) with h | h
  ·have h3 : 2 ^ bits ≤ 2 ^ (7 * k) := Nat.pow_le_pow_right (by decide) (by omega)
   have h4 : 1 * 2 ^ (7 * k) ≤ u * 2 ^ (7 * k) := Nat.mul_le_mul_right _ (by omega)
   omega
  ·exact h
 refine ⟨?_, h2⟩
 have h3 : 2 ^ bits = 2 ^ (bits - 7 * k) * 2 ^ (7 * k) := by rw [← Nat.pow_add]; congr 1; omega
 rw [h3] at h1
 exact Nat.lt_of_mul_lt_mul_right h1
theorem oz (c : Nat) (y : Int) (hy : 0 ≤ y) (hc : c < 2 ^ y.toNat) (hc8 : c < 256) : Op.shift .shr .u8 (c : Int) .i64 y = pure (.int .u8 0) := by
 unfold Op.shift
 rw [if_neg (by omega)]
 have hm : c < 2 ^ (min y.toNat IntKind.u8.bits) := by
  rcases Nat.le_total y.toNat 8 with h | h
  ·rw [Nat.min_eq_left (by simpa [IntKind.bits] using h)]; exact hc
  ·rw [Nat.min_eq_right (by simpa [IntKind.bits] using h)]; simpa [IntKind.bits] using hc8
 have : (c : Int).fdiv (2 ^ (min y.toNat IntKind.u8.bits)) = 0 := by
  have e : ((2 : Int) ^ (min y.toNat IntKind.u8.bits)) = ((2 ^ (min y.toNat IntKind.u8.bits) : Nat) : Int) := by simp
  rw [e, Int.fdiv_eq_ediv_of_nonneg _ (by omega)]
  exact Int.ediv_eq_zero_of_lt (by omega) (by omega)
 simp only [this]
theorem kJ (m k y : Nat) (hy : y = m * 128 ^ k) (hlt : y < 18446744073709551616) : IntKind.u64.wrap ((m : Int) * 2 ^ (7 * k)) = (y : Int) := by
 have e2 : (m : Int) * 2 ^ (7 * k) = (y : Int) := by rw [hy, fG]; simp
 rw [e2, IntKind.wrap_u64, Int.emod_eq_of_lt (by omega) (by omega)]
theorem nD (acc y z k m : Nat) (ha : acc < 128 ^ k) (hy : y = m * 128 ^ k) (hz : z = acc + y) (hlt : z < 18446744073709551616) : Go.bits .or .u64 (acc : Int) (y : Int) = (z : Int) := by
 rw [u64_or_nat _ _ (by omega) (by omega)]
 have h0 : y % 2 ^ (7 * k) = 0 := by rw [hy, fG]; exact Nat.mul_mod_left ..
 rw [Nat.or_comm, nat_join (7 * k) y acc h0 (by rw [← fG]; exact ha)]
 omega
theorem nE (c m : Nat) (hc : c = m + 128 ∨ c = m) (hm : m < 128) : Go.bits .andNot .u8 (c : Int) 128 = (m : Int) := by
 rw [show (128 : Int) = ((128 : Nat) : Int) from rfl, u8_andNot_nat _ _ (by omega) (by decide)]
 show ((c &&& 127 : Nat) : Int) = _
 rw [nat_mask7]
 omega
end Go.Proofs.YtbdfpbknckghgaaGreat

namespace Go.Proofs.YtbdfpbknckghgaaGreat
theorem kK {p : Prop} (f : p := by
 clear hq
 go_enter Tryz.func109, Tryz.ntmps109
 go_wp2_with fail
 refine bodyPost_ret (results_none rfl _ _ _) rfl ?_
 exact ⟨rfl, rfl⟩) : p := f
end Go.Proofs.YtbdfpbknckghgaaGreat
namespace Go.Proofs.YtbdfpbknckghgaaGreat
open Go.RowKit
def RS (w : World) (b : Nat) (l : List UInt8) (e : Int) : Prop := w.heap[b]? = some (.cells #[.string (str l), .int .i64 e] 197 (0, 0))
section
variable {w w' : World} {b : Nat} {l : List UInt8} {e : Int}
theorem RS.c0 (h : RS w b l e) : w.cell? ⟨b, 0, none⟩ = some (.string (str l)) := by simp [World.cell?, show w.heap[b]? = _ from h]
theorem RS.c1 (h : RS w b l e) : w.cell? ⟨b, 1, none⟩ = some (.int .i64 e) := by simp [World.cell?, show w.heap[b]? = _ from h]
theorem RS.f0 (h : RS w b l e) : w.frozen? ⟨b, 0, none⟩ = false := by simp [World.frozen?, show w.heap[b]? = _ from h]
theorem RS.f1 (h : RS w b l e) : w.frozen? ⟨b, 1, none⟩ = false := by simp [World.frozen?, show w.heap[b]? = _ from h]
theorem RS.lt (h : RS w b l e) : b < w.heap.size := ak h
theorem RS.below {B : Nat} (h : RS w b l e) (hb : Below B w w') (hB : b < B) : RS w' b l e := (hb.block b hB).trans h
theorem RS.set (h : RS w b l e) (l' : List UInt8) : RS (w.setCell ⟨b, 0, none⟩ (.string (str l'))) b l' e := by
 have := heap_put (i := 0) h (.string (str l'))
 show _ = _
 simpa using this
theorem RS.bad (h : RS w b l e) (q : Int) : RS ((w.setCell ⟨b, 0, none⟩ (.string (str []))).setCell ⟨b, 1, none⟩ (.int .i64 q)) b [] q := by
 have := heap_put (i := 1) (heap_put (i := 0) h (.string (str []))) (.int .i64 q)
 show _ = _
 simpa using this
theorem jI (h : RS w b l e) : Calls Tryz.prog 108 #[.pointer (some ⟨b, 0, none⟩)] w fun e w' => e = .returned (.int .i64 l.length) ∧ w = w' := by
 have c0 := h.c0
 have hsz := kH l
 clear h
 go_enter Tryz.func108, Tryz.ntmps108
 go_wp2
 go_ret
 exact ⟨rfl, rfl⟩
theorem gY (h : RS w b l e) : Calls Tryz.prog 134 #[.pointer (some ⟨b, 0, none⟩)] w fun en w' => en = .returned (.int .i64 e) ∧ w = w' := by
 have c1 := h.c1
 clear h
 go_enter Tryz.func134, Tryz.ntmps134
 go_wp2
 go_ret
 exact ⟨rfl, rfl⟩
theorem jJ (q : Int) (hq : q ≠ 0) (h : RS w b l 0) : Calls Tryz.prog 109 #[.pointer (some ⟨b, 0, none⟩), .int .i64 q] w fun en w' => en = .returned (.tuple #[]) ∧ RS w' b [] q ∧ Only b w w' := by
 have c1 := h.c1
 have c0 := h.c0
 have f0 := h.f0
 have f1 := h.f1
 have hb := Lib.hid (h.bad q)
 have tq : (q == 0) = false := beq_eq_false_iff_ne.2 hq
 clear h
 go_enter Tryz.func109, Tryz.ntmps109
 go_wp2_with fail
 go_end0
 exact ⟨rfl, hb.out, (Only.setCell b 0 w _).trans (Only.setCell b 1 _ _)⟩
theorem oC (q : Int) (he : e ≠ 0) (h : RS w b l e) : Calls Tryz.prog 109 #[.pointer (some ⟨b, 0, none⟩), .int .i64 q] w fun en w' => en = .returned (.tuple #[]) ∧ w = w' := by
 have c1 := h.c1
 have te : (e == 0) = false := beq_eq_false_iff_ne.2 he
 clear h he
 by_cases hq : q = 0
 ·have tq : (q == 0) = true := beq_iff_eq.2 hq
  exact kK
 ·have tq : (q == 0) = false := beq_eq_false_iff_ne.2 hq
  exact kK
theorem dX (c : UInt8) (h : RS w b (c :: l) 0) (hl : l.length ≤ 100000) :
 Calls Tryz.prog 69 #[.pointer (some ⟨b, 0, none⟩)] w fun e w' => e = .returned (.int .u8 c.toNat) ∧ RS w' b l 0 ∧ Only b w w' := by
 have hL := Lib.hid h
 have c0 := h.c0
 have c1 := h.c1
 have f0 := h.f0
 have hsz := kH (c :: l)
 have htl := qz c l
 rw [hsz] at htl
 have hne : (((c :: l).length : Int) == 0) = false := by simp; omega
 clear h
 go_enter Tryz.func69, Tryz.ntmps69
 go_wp2_with (go_at_call 108; go_must (refine (jI hL.out).mono ?_); rintro e w1 ⟨rfl, rfl⟩)
 go_ret
 refine ⟨congrArg (fun n => Ending.returned (.int .u8 n)) ?_, ?_, Only.setCell b 0 w _⟩
 ·rfl
 ·have := hL.out.set l
  rw [← htl] at this
  exact this
theorem iJ (h : RS w b [] 0) : Calls Tryz.prog 69 #[.pointer (some ⟨b, 0, none⟩)] w fun e w' => e = .returned (.int .u8 0) ∧ RS w' b [] 2 ∧ Only b w w' := by
 have hL := Lib.hid h
 clear h
 go_enter Tryz.func69, Tryz.ntmps69
 go_wp2_with (first | (go_at_call 108; go_must (refine (jI hL.out).mono ?_); rintro e w1 ⟨rfl, rfl⟩) | (go_at_call 109; go_must (refine (jJ 2 (by decide) hL.out).mono ?_); rintro e w1 ⟨rfl, h2, o2⟩))
 go_ret
 exact ⟨rfl, h2, o2⟩
theorem iK (he : e ≠ 0) (h : RS w b [] e) : Calls Tryz.prog 69 #[.pointer (some ⟨b, 0, none⟩)] w fun en w' => en = .returned (.int .u8 0) ∧ w = w' := by
 have hL := Lib.hid h
 replace he := Lib.hid he
 clear h
 go_enter Tryz.func69, Tryz.ntmps69
 go_wp2_with (first | (go_at_call 108; go_must (refine (jI hL.out).mono ?_); rintro e w1 ⟨rfl, rfl⟩) | (go_at_call 109; go_must (refine (oC 2 he.out hL.out).mono ?_); rintro e w1 ⟨rfl, rfl⟩))
 go_ret
 exact ⟨rfl, rfl⟩
end
end Go.Proofs.YtbdfpbknckghgaaGreat

namespace Go.Proofs.YtbdfpbknckghgaaGreat
def gZ (bits : Nat) (l : List UInt8) (k f acc : Nat) (l' : List UInt8) : Prop :=
 ∀ x rest, (x < 2 ^ bits ∧ l = enc x ++ rest) ↔ ∃ u, (k = 0 ∨ u ≠ 0) ∧ u < 128 ^ (f + 1) ∧ acc + u * 128 ^ k = x ∧ x < 2 ^ bits ∧ l' = encF f u ++ rest
def lU (bits : Nat) (l : List UInt8) : Prop := ∀ x rest, x < 2 ^ bits → l ≠ enc x ++ rest
theorem nG {bits : Nat} (hb : bits ≤ 64) (l : List UInt8) : gZ bits l 0 9 0 l := by
 intro x rest
 constructor
 ·rintro ⟨hx, rfl⟩
  have h2 : 2 ^ bits ≤ 2 ^ 64 := Nat.pow_le_pow_right (by decide) hb
  exact ⟨x, .inl rfl, by omega, by simp, hx, rfl⟩
 ·rintro ⟨u, _, _, hs, hx, h⟩
  have : u = x := by simpa using hs
  subst this
  exact ⟨hx, h⟩
theorem qA {f u : Nat} {l : List UInt8} : encF f u ++ l ≠ [] := by
 have := (dN f u).1
 intro h
 have := congrArg List.length h
 rw [List.length_append] at this
 simp only [List.length_nil] at this
 omega
theorem qB {bits k f acc : Nat} {l : List UInt8} (h : gZ bits l k f acc []) : lU bits l := by
 intro x rest hx he
 obtain ⟨u, _, _, _, _, h2⟩ := (h x rest).1 ⟨hx, he⟩
 exact qA h2.symm
theorem gH {f u : Nat} {c : UInt8} {l rest : List UInt8} (h : c :: l = encF f u ++ rest) (hf : u < 128 ^ (f + 1)) : (u < 128 ∧ c.toNat = u ∧ l = rest) ∨ (128 ≤ u ∧ c.toNat = u % 128 + 128 ∧ ∃ g, f = g + 1 ∧ l = encF g (u / 128) ++ rest) := by
 by_cases h1 : u < 128
 ·rw [gG h1] at h
  simp only [xE, xD, List.cons.injEq] at h
  obtain ⟨rfl, rfl⟩ := h
  exact .inl ⟨h1, aN (by omega), rfl⟩
 ·have hf1 := jE hf (by omega)
  obtain ⟨g, rfl⟩ : ∃ g, f = g + 1 := ⟨f - 1, by omega⟩
  rw [gF (by omega)] at h
  simp only [xE, List.cons.injEq] at h
  obtain ⟨rfl, rfl⟩ := h
  exact .inr ⟨by omega, aN (by omega), g, rfl, rfl⟩
theorem qC {bits k f acc : Nat} {l l' : List UInt8} {c : UInt8} (h : gZ bits l k f acc (c :: l')) (hc : 2 ^ (bits - 7 * k) ≤ c.toNat) : lU bits l := by
 intro x rest hx he
 obtain ⟨u, h0, hu, hs, _, h2⟩ := (h x rest).1 ⟨hx, he⟩
 have hr : u ≠ 0 → u < 2 ^ (bits - 7 * k) ∧ 7 * k ≤ bits := fun h => tJ hx hs h
 have hc256 : c.toNat < 256 := c.toNat_lt
 have hp : 0 < 2 ^ (bits - 7 * k) := Nat.pow_pos (by decide)
 rcases gH h2 hu with ⟨h3, h4, _⟩ | ⟨h3, h4, _⟩
 ·by_cases hz : u = 0
  ·omega
  ·have := (hr hz).1; omega
 ·have h5 := (hr (by omega)).1
  have h6 : bits - 7 * k < 8 := by
   rcases Nat.lt_or_ge (bits - 7 * k) 8 with h | h
   ·exact h
   ·have : 2 ^ 8 ≤ 2 ^ (bits - 7 * k) := Nat.pow_le_pow_right (by decide) h
    omega
  have h7 : 2 ^ (bits - 7 * k) ≤ 2 ^ 7 := Nat.pow_le_pow_right (by decide) (by omega)
  omega
theorem oD {bits k f acc : Nat} {l l' : List UInt8} {c : UInt8} (h : gZ bits l k f acc (c :: l')) (hc : c.toNat = 0) (hk : 0 < k) : lU bits l := by
 intro x rest hx he
 obtain ⟨u, h0, hu, hs, _, h2⟩ := (h x rest).1 ⟨hx, he⟩
 rcases gH h2 hu with ⟨h3, h4, _⟩ | ⟨h3, h4, _⟩ <;> omega
theorem oF {bits k f acc : Nat} {l l' : List UInt8} {c : UInt8} (h : gZ bits l k f acc (c :: l')) (hacc : acc < 128 ^ k) (h7 : 7 * k ≤ bits) (hc : c.toNat < 128) (hr : c.toNat < 2 ^ (bits - 7 * k)) (h0 : c.toNat ≠ 0 ∨ k = 0) :
 acc + c.toNat * 128 ^ k < 2 ^ bits ∧ l = enc (acc + c.toNat * 128 ^ k) ++ l' := by
 have hx : acc + c.toNat * 128 ^ k < 2 ^ bits := by
  have h1 : 2 ^ bits = 2 ^ (bits - 7 * k) * 2 ^ (7 * k) := by rw [← Nat.pow_add]; congr 1; omega
  rw [h1, ← fG]
  have h2 : (c.toNat + 1) * 128 ^ k ≤ 2 ^ (bits - 7 * k) * 128 ^ k := Nat.mul_le_mul_right _ (by omega)
  rw [Nat.add_mul, Nat.one_mul] at h2
  omega
 refine (h _ _).2 ⟨c.toNat, by omega, ?_, rfl, hx, ?_⟩
 ·have : 128 ^ 1 ≤ 128 ^ (f + 1) := Nat.pow_le_pow_right (by decide) (by omega)
  omega
 ·rw [gG hc]
  have : bM c.toNat = c := by unfold bM; simp
  rw [this]; rfl
theorem oG {bits k f acc : Nat} {l l' : List UInt8} {c : UInt8} (h : gZ bits l k (f + 1) acc (c :: l')) (hacc : acc < 128 ^ k) (hc : 128 ≤ c.toNat) :
 gZ bits l (k + 1) f (acc + (c.toNat - 128) * 128 ^ k) l' ∧ acc + (c.toNat - 128) * 128 ^ k < 128 ^ (k + 1) := by
 have hc256 : c.toNat < 256 := c.toNat_lt
 constructor
 ·intro x rest
  rw [h x rest]
  constructor
  ·rintro ⟨u, h0, hu, hs, hx, h2⟩
   rcases gH h2 hu with ⟨h3, h4, _⟩ | ⟨h3, h4, g, h5, h6⟩
   ·omega
   ·obtain rfl : g = f := by omega
    refine ⟨u / 128, .inr (by omega), ?_, ?_, hx, h6⟩
    ·have hp : 128 ^ (g + 1 + 1) = 128 ^ (g + 1) * 128 := Nat.pow_succ ..
     omega
    ·have hps := jH u k
     have : c.toNat - 128 = u % 128 := by omega
     rw [this]; omega
  ·rintro ⟨v, h0, hv, hs, hx, h2⟩
   have hv0 : v ≠ 0 := by omega
   have hm : (v * 128 + (c.toNat - 128)) % 128 = c.toNat - 128 := by omega
   have hd : (v * 128 + (c.toNat - 128)) / 128 = v := by omega
   refine ⟨v * 128 + (c.toNat - 128), .inr (by omega), ?_, ?_, hx, ?_⟩
   ·have hp : 128 ^ (f + 1 + 1) = 128 ^ (f + 1) * 128 := Nat.pow_succ ..
    omega
   ·have hps := jH (v * 128 + (c.toNat - 128)) k
    rw [hm, hd] at hps
    omega
   ·rw [gF (by omega), hm, hd, h2]
    have : bM (c.toNat - 128 + 128) = c := by unfold bM; rw [Nat.sub_add_cancel hc]; simp
    rw [this]; rfl
 ·have hp : 128 ^ (k + 1) = 128 ^ k * 128 := Nat.pow_succ ..
  have h7 : (c.toNat - 128) * 128 ^ k ≤ 127 * 128 ^ k := Nat.mul_le_mul_right _ (by omega)
  omega
theorem oH {bits k f : Nat} (hb : bits ≤ 64) (hk : k + f = 9) {c : Nat} (hc : 128 ≤ c) (hr : c < 2 ^ (bits - 7 * k)) : 1 ≤ f := by
 rcases Nat.lt_or_ge (bits - 7 * k) 8 with h | h
 ·have : 2 ^ (bits - 7 * k) ≤ 2 ^ 7 := Nat.pow_le_pow_right (by decide) (by omega)
  omega
 ·omega
theorem oI (c : Nat) (y : Int) (hy : 0 ≤ y) (hc : 2 ^ y.toNat ≤ c) (hc8 : c < 256) : ∃ d : Int, Op.shift .shr .u8 (c : Int) .i64 y = pure (.int .u8 d) ∧ (d == 0) = false := by
 unfold Op.shift
 rw [if_neg (by omega)]
 have h8 : y.toNat < 8 := by
  rcases Nat.lt_or_ge y.toNat 8 with h | h
  ·exact h
  ·have : 2 ^ 8 ≤ 2 ^ y.toNat := Nat.pow_le_pow_right (by decide) h
   omega
 have hm : min y.toNat IntKind.u8.bits = y.toNat := Nat.min_eq_left (by simp [IntKind.bits]; omega)
 refine ⟨(c : Int).fdiv (2 ^ (min y.toNat IntKind.u8.bits)), rfl, ?_⟩
 rw [hm]
 have e : ((2 : Int) ^ y.toNat) = ((2 ^ y.toNat : Nat) : Int) := by simp
 rw [e, Int.fdiv_eq_ediv_of_nonneg _ (Int.natCast_nonneg _)]
 have hd : 0 < c / 2 ^ y.toNat := Nat.div_pos hc (Nat.pow_pos (by decide))
 have : (c : Int) / ((2 ^ y.toNat : Nat) : Int) = ((c / 2 ^ y.toNat : Nat) : Int) := by simp
 rw [this]
 exact beq_eq_false_iff_ne.2 (by omega)
end Go.Proofs.YtbdfpbknckghgaaGreat

namespace Go.Proofs.YtbdfpbknckghgaaGreat
theorem kL {p : Prop} (f : p := by
 have hnn : (c.toNat : Int) = (n : Int) := by rw [hn]
 have HN := Lib.hid hnn
 clear hnn hn hinv hbig hyn hacc hsm hz hz' hy hzz hzx hxb hxe nH hc h0 hc256
 go_wp2_with (first | (go_at_call 69; go_must (refine (dX c hrs tK).mono ?_); rintro e w1 ⟨rfl, h2, o2⟩; rw [HN.out]) | (go_at_call 134; go_must (refine (gY h2).mono ?_); rintro e w2 ⟨rfl, rfl⟩))
 go_ret
 exact ⟨.inl ⟨z, l', HX.out, HE.out, rfl, h2⟩, hon.trans o2⟩) : p := f
theorem kM {p : Prop} (f : p := by
 go_wp2_with (first | (go_at_call 69; go_must (refine (dX c hrs tK).mono ?_); rintro e w1 ⟨rfl, h2, o2⟩) | (go_at_call 134; go_must (refine (gY h2).mono ?_); rintro e w2 ⟨rfl, rfl⟩) | (go_at_call 109; go_must (refine (jJ 4 (by decide) h2).mono ?_); rintro e w3 ⟨rfl, h3, o3⟩))
 go_ret
 exact ⟨.inr ⟨hnone.out, rfl, 4, pJ, h3⟩, (hon.trans o2).trans o3⟩) : p := f
end Go.Proofs.YtbdfpbknckghgaaGreat
namespace Go.Proofs.YtbdfpbknckghgaaGreat
open Go.RowKit
def eU (q : Int) : Prop := q = 2 ∨ q = 3 ∨ q = 4
theorem eU.ne {q : Int} (h : eU q) : q ≠ 0 := by unfold eU at h; omega
theorem lV : eU 2 := .inl rfl
theorem pJ : eU 4 := .inr (.inr rfl)
section
variable {w : World} {b : Nat} {l : List UInt8}
theorem oJ (bits : Nat) (tL : bits = 63 ∨ bits = 64) (hl : l.length ≤ 10000) (h : RS w b l 0) :
 Calls Tryz.prog 111 #[.pointer (some ⟨b, 0, none⟩), .int .i64 bits] w fun e w' => ((∃ x rest, x < 2 ^ bits ∧ l = enc x ++ rest ∧ e = .returned (.int .u64 x) ∧ RS w' b rest 0) ∨ (lU bits l ∧ e = .returned (.int .u64 0) ∧ ∃ q, eU q ∧ RS w' b [] q)) ∧ Only b w w' := by
 have tN : bits ≤ 64 := by omega
 have Aj : 63 ≤ bits := by omega
 have h0 : Hid (gZ bits l 0 9 0 l) := nG tN l
 have HB := Lib.hid tL
 clear tL
 go_enter Tryz.func111, Tryz.ntmps111
 go_wp2_with fail
 go_loopw [5, 6] (fun v sh wr => ∃ (k f acc : Nat) (l' : List UInt8), v = .int .u64 acc ∧ sh = .int .i64 ((7 * k : Nat) : Int) ∧ k + f = 9 ∧ Hid (acc < 128 ^ k) ∧ Hid (gZ bits l k f acc l') ∧ Hid (l'.length ≤ 10000) ∧ RS wr b l' 0 ∧ Only b w wr) (fun _ sh _ => 100 - (intOf sh).toNat)
 case atStart => exact ⟨0, 9, 0, l, rfl, rfl, rfl, (by decide : 0 < 128 ^ 0), h0, hl, h, Only.refl _ _⟩
 case round =>
  obtain ⟨k, f, acc, l', rfl, rfl, zH, hacc, hinv, hll, hrs, hon⟩ := hrel
  clear h h0 hl
  match l', hinv, hll, hrs with
  | [], hinv, hll, hrs =>
    have hnone := Lib.hid (qB hinv.out)
    clear hinv hll
    go_wp2_with (first | (go_at_call 69; go_must (refine (iJ hrs).mono ?_); rintro e w1 ⟨rfl, h2, o2⟩) | (go_at_call 134; go_must (refine (gY h2).mono ?_); rintro e w2 ⟨rfl, rfl⟩))
    go_ret
    exact ⟨.inr ⟨hnone.out, rfl, 2, lV, h2⟩, hon.trans o2⟩
  | c :: l', hinv, hll, hrs =>
    have wQ : l'.length ≤ 10000 := by have := hll.out; simp at this; omega
    have HL := Lib.hid wQ
    have tK : l'.length ≤ 100000 := by omega
    clear hll wQ
    have hc256 : c.toNat < 256 := c.toNat_lt
    obtain ⟨n, hn⟩ : ∃ n, n = c.toNat := ⟨_, rfl⟩
    have hy0 : (0 : Int) ≤ (bits : Int) - 7 * (k : Int) := by omega
    have hyn : ((bits : Int) - 7 * (k : Int)).toNat = bits - 7 * k := by omega
    have Ap : 7 * (k : Int) ≤ 63 := by omega
    by_cases hbig : 2 ^ (bits - 7 * k) ≤ c.toNat
    ·have hnone := Lib.hid (qC hinv.out hbig)
     obtain ⟨d, tO, hd⟩ := oI n ((bits : Int) - 7 * (k : Int)) hy0 (by rw [hyn, hn]; exact hbig) (by omega)
     have hd2 : (d != 0) = true := by simp [bne, hd]
     rw [hn] at tO
     clear hinv hbig hyn hacc hn HL
     exact kM
    ·have hsm : n < 2 ^ (bits - 7 * k) := by omega
     have tO : Op.shift .shr .u8 (n : Int) .i64 ((bits : Int) - 7 * (k : Int)) = pure (.int .u8 0) := oz n _ hy0 (by rw [hyn]; exact hsm) (by omega)
     by_cases hz : c.toNat = 0 ∧ 0 < k
     ·have hnone := Lib.hid (oD hinv.out hz.1 hz.2)
      have hcz : ((n : Int) == 0) = true := by rw [hn, hz.1]; rfl
      have hk0 : 0 < 7 * (k : Int) := by omega
      rw [hn] at tO hcz
      clear hinv hbig hyn hacc hsm hz hn HL
      exact kM
     ·have hz' : c.toNat ≠ 0 ∨ k = 0 := by omega
      have hkb : 7 * k ≤ bits := by omega
      by_cases hc : c.toNat < 128
      ·obtain ⟨hxb, hxe⟩ := oF hinv.out hacc.out hkb hc (by omega) hz'
       obtain ⟨y, hy⟩ : ∃ y, y = n * 128 ^ k := ⟨_, rfl⟩
       obtain ⟨z, hzz⟩ : ∃ z, z = acc + y := ⟨_, rfl⟩
       have hzx : z = acc + c.toNat * 128 ^ k := by rw [hzz, hy, hn]
       rw [← hzx] at hxb hxe
       have nH : z < 18446744073709551616 := by
        have h2 : 2 ^ bits ≤ 2 ^ 64 := Nat.pow_le_pow_right (by decide) tN
        omega
       have hand : Go.bits BinOp.andNot IntKind.u8 (n : Int) 128 = (n : Int) := nE n n (Or.inr rfl) (by omega)
       have yt : IntKind.u64.wrap ((n : Int) * 2 ^ (7 * k)) = (y : Int) := kJ n k y hy (by omega)
       have hor : Go.bits BinOp.or IntKind.u64 (acc : Int) (y : Int) = (z : Int) := nD acc y z k n hacc.out hy hzz nH
       have hlt : ((n : Int) < 128) := by omega
       have HX := Lib.hid hxb
       have HE := Lib.hid hxe
       by_cases h0 : c.toNat = 0
       ·have hcz : ((n : Int) == 0) = true := by rw [hn, h0]; rfl
        have hk0 : ¬ (0 < 7 * (k : Int)) := by omega
        exact kL
       ·have hcz : ((n : Int) == 0) = false := beq_eq_false_iff_ne.2 (by omega)
        exact kL
      ·have hf1 := oH tN zH (show 128 ≤ n by omega) hsm
       obtain ⟨f, rfl⟩ : ∃ g, f = g + 1 := ⟨f - 1, by omega⟩
       obtain ⟨hst, hlt2⟩ := oG hinv.out hacc.out (show 128 ≤ c.toNat by omega)
       obtain ⟨m, hm⟩ : ∃ m, m = c.toNat - 128 := ⟨_, rfl⟩
       have hnm : n = m + 128 := by omega
       obtain ⟨y, hy⟩ : ∃ y, y = m * 128 ^ k := ⟨_, rfl⟩
       obtain ⟨z, hzz⟩ : ∃ z, z = acc + y := ⟨_, rfl⟩
       have hzx : z = acc + (c.toNat - 128) * 128 ^ k := by rw [hzz, hy, hm]
       rw [← hzx] at hst hlt2
       have nH : z < 18446744073709551616 := by
        have h2 : 128 ^ (k + 1) ≤ 128 ^ 9 := Nat.pow_le_pow_right (by decide) (by omega)
        have h3 : (128 : Nat) ^ 9 = 9223372036854775808 := by decide
        omega
       have hand : Go.bits BinOp.andNot IntKind.u8 (n : Int) 128 = (m : Int) := nE n m (Or.inl hnm) (by omega)
       have yt : IntKind.u64.wrap ((m : Int) * 2 ^ (7 * k)) = (y : Int) := kJ m k y hy (by omega)
       have hor : Go.bits BinOp.or IntKind.u64 (acc : Int) (y : Int) = (z : Int) := nD acc y z k m hacc.out hy hzz nH
       have hlt : ¬ ((n : Int) < 128) := by omega
       have hcz : ((n : Int) == 0) = false := beq_eq_false_iff_ne.2 (by omega)
       have HS := Lib.hid hst
       have HT := Lib.hid hlt2
       have hnn : (c.toNat : Int) = (n : Int) := by rw [hn]
       have HN := Lib.hid hnn
       have Aq : 7 * (k : Int) ≤ 56 := by omega
       have zI : (m : Int) < 128 := by omega
       clear hnn hn hinv hbig hyn hacc hsm hz hz' hy hzz hzx hst hlt2 nH hc hc256 hm hnm
       go_wp2_with (first | (go_at_call 69; go_must (refine (dX c hrs tK).mono ?_); rintro e w1 ⟨rfl, h2, o2⟩; rw [HN.out]) | (go_at_call 134; go_must (refine (gY h2).mono ?_); rintro e w2 ⟨rfl, rfl⟩))
       go_roundw
       case rel => exact ⟨k + 1, f, z, l', rfl, by go_num, by omega, HT.out, HS.out, HL.out, h2, hon.trans o2⟩
       case measure => simp [intOf]; omega
theorem nI (bits : Int) {q : Int} (hq : q ≠ 0) (h : RS w b [] q) :
 Calls Tryz.prog 111 #[.pointer (some ⟨b, 0, none⟩), .int .i64 bits] w fun e w' => e = .returned (.int .u64 0) ∧ w = w' := by
 have HQ := Lib.hid hq
 have tq : (q != 0) = true := by simp [hq]
 clear hq
 go_enter Tryz.func111, Tryz.ntmps111
 go_wp2_with fail
 go_loopw [5, 6] (fun v sh wr => v = .int .u64 0 ∧ sh = .int .i64 0 ∧ w = wr) (fun _ sh _ => 100 - (intOf sh).toNat)
 case atStart => exact ⟨rfl, rfl, rfl⟩
 case round =>
  obtain ⟨rfl, rfl, rfl⟩ := hrel
  go_wp2_with (first | (go_at_call 69; go_must (refine (iK HQ.out h).mono ?_); rintro e w1 ⟨rfl, rfl⟩) | (go_at_call 134; go_must (refine (gY h).mono ?_); rintro e w2 ⟨rfl, rfl⟩))
  go_ret
  exact ⟨rfl, rfl⟩
def tQ (l : List UInt8) (w' : World) (b : Nat) (e : Ending) : Prop :=
 (∃ x rest, (-9223372036854775808 ≤ x ∧ x ≤ 9223372036854775807) ∧ l = enc (zg x) ++ rest ∧ e = .returned (.int .i64 x) ∧ RS w' b rest 0) ∨
 ((∀ x rest, (-9223372036854775808 ≤ x ∧ x ≤ 9223372036854775807) → l ≠ enc (zg x) ++ rest) ∧ e = .returned (.int .i64 0) ∧ ∃ q, eU q ∧ RS w' b [] q)
theorem vR (u : Nat) (hu : u < 18446744073709551616) : ∃ x : Int, (-9223372036854775808 ≤ x ∧ x ≤ 9223372036854775807) ∧ zg x = u := by
 by_cases h : u % 2 = 0
 ·exact ⟨(u / 2 : Nat), by omega, by unfold zg; rw [if_neg (by omega)]; omega⟩
 ·exact ⟨-((u / 2 : Nat) : Int) - 1, by omega, by unfold zg; rw [if_pos (by omega)]; omega⟩
theorem tT (hl : l.length ≤ 10000) (h : RS w b l 0) : Calls Tryz.prog 70 #[.pointer (some ⟨b, 0, none⟩)] w fun e w' => tQ l w' b e ∧ Only b w w' := by
 have hn := oJ 64 (.inr rfl) hl h
 have h0 := fun W => fF 0 (by omega) W
 rw [show zg 0 = 0 from rfl] at h0
 go_enter Tryz.func70, Tryz.ntmps70
 go_wp2_with fail
 go_at_call 111
 refine hn.mono ?_
 clear hn
 rintro e w1 ⟨⟨x, rest, hx, hxe, rfl, hr⟩ | ⟨hno, rfl, q, hq, hr⟩, ho⟩
 ·have wR : x < 18446744073709551616 := by omega
  obtain ⟨v, hv, hz⟩ := vR x wR
  have hu := fun W => fF v hv W
  rw [hz] at hu
  have HX := Lib.hid hxe
  have HZ := Lib.hid hz
  have HV := Lib.hid hv
  clear hx wR hxe hz hv h0
  go_wp2_with (go_at_call 110; go_must (refine (hu _).mono ?_); rintro e w2 ⟨rfl, rfl⟩)
  go_ret
  exact ⟨.inl ⟨v, rest, HV.out, by rw [HZ.out]; exact HX.out, rfl, hr⟩, ho⟩
 ·have HN := Lib.hid hno
  have HQ := Lib.hid hq
  clear hno hq
  go_wp2_with (go_at_call 110; go_must (refine (h0 _).mono ?_); rintro e w2 ⟨rfl, rfl⟩)
  go_ret
  exact ⟨.inr ⟨fun x rest hx => HN.out _ _ (jD hx), rfl, q, HQ.out, hr⟩, ho⟩
theorem qD {q : Int} (hq : q ≠ 0) (h : RS w b [] q) : Calls Tryz.prog 70 #[.pointer (some ⟨b, 0, none⟩)] w fun e w' => e = .returned (.int .i64 0) ∧ w = w' := by
 have hn := nI 64 hq h
 have h0 := fun W => fF 0 (by omega) W
 rw [show zg 0 = 0 from rfl] at h0
 clear hq
 go_enter Tryz.func70, Tryz.ntmps70
 go_wp2_with (first | (go_at_call 111; go_must (refine hn.mono ?_); rintro e w1 ⟨rfl, rfl⟩) | (go_at_call 110; go_must (refine (h0 _).mono ?_); rintro e w2 ⟨rfl, rfl⟩))
 go_ret
 exact ⟨rfl, rfl⟩
theorem tX (v : Value) (h : bz w v l) : Calls Tryz.prog 68 #[v] w fun e w' => e = .returned (.pointer (some ⟨w.heap.size, 0, none⟩)) ∧ RS w' w.heap.size l 0 ∧ Reg2.Ext w w' := by
 have hcv := jF h
 go_enter Tryz.func68, Tryz.ntmps68
 go_wp2
 go_ret
 exact ⟨rfl, heap_alloc_new w _, (Below.refl _ _).alloc (Nat.le_refl _) _⟩
end
end Go.Proofs.YtbdfpbknckghgaaGreat

namespace Go.Proofs.YtbdfpbknckghgaaGreat
theorem kN {p : Prop} (f : p := by
 rintro e w' ⟨rfl, rfl⟩
 exact ⟨0, none, rfl, ⟨rfl, rfl⟩, ⟨q, hq, h⟩, Only.refl _ _⟩) : p := f
end Go.Proofs.YtbdfpbknckghgaaGreat
namespace Go.Proofs.YtbdfpbknckghgaaGreat
open Go.RowKit
def RU (w : World) (b : Nat) : Option (List UInt8) → Prop
 | some l => RS w b l 0 ∧ l.length ≤ 10000
 | none => ∃ q, eU q ∧ RS w b [] q
theorem RU.lt {w : World} {b : Nat} {o : Option (List UInt8)} (h : RU w b o) : b < w.heap.size := by
 cases o with
 | some l => exact h.1.lt
 | none => obtain ⟨q, _, h⟩ := h; exact h.lt
theorem RU.below {w w' : World} {b B : Nat} {o : Option (List UInt8)} (h : RU w b o) (hb : Below B w w') (hB : b < B) : RU w' b o := by
 cases o with
 | some l => exact ⟨h.1.below hb hB, h.2⟩
 | none => obtain ⟨q, hq, h⟩ := h; exact ⟨q, hq, h.below hb hB⟩
theorem RU.ext {w w' : World} {b : Nat} {o : Option (List UInt8)} (h : RU w b o) (he : Reg2.Ext w w') : RU w' b o := h.below he h.lt
def Fit (x : Int) : Prop := -9223372036854775808 ≤ x ∧ x ≤ 9223372036854775807
def SR : Option (List UInt8) → Int → Option (List UInt8) → Prop
 | none, x, o' => x = 0 ∧ o' = none
 | some l, x, o' => (Fit x ∧ ∃ rest, l = enc (zg x) ++ rest ∧ o' = some rest) ∨ (x = 0 ∧ o' = none ∧ ∀ y rest, Fit y → l ≠ enc (zg y) ++ rest)
def BR : Option (List UInt8) → Bool → Option (List UInt8) → Prop
 | none, x, o' => x = false ∧ o' = none
 | some l, x, o' => (∃ rest, l = (if x then 1 else 0) :: rest ∧ o' = some rest) ∨ (x = false ∧ o' = none ∧ ∀ (y : Bool) (rest : List UInt8), l ≠ (if y then 1 else 0) :: rest)
def YR : Option (List UInt8) → UInt8 → Option (List UInt8) → Prop
 | none, c, o' => c = 0 ∧ o' = none
 | some [], c, o' => c = 0 ∧ o' = none
 | some (a :: l), c, o' => c = a ∧ o' = some l
section
variable {w : World} {b : Nat} {o : Option (List UInt8)}
theorem bN (h : RU w b o) : Calls Tryz.prog 70 #[.pointer (some ⟨b, 0, none⟩)] w fun e w' => ∃ x o', e = .returned (.int .i64 x) ∧ SR o x o' ∧ RU w' b o' ∧ Only b w w' := by
 cases o with
 | some l =>
   refine (tT h.2 h.1).mono ?_
   rintro e w' ⟨⟨x, rest, hx, hl, rfl, hr⟩ | ⟨no, rfl, q, hq, hr⟩, ho⟩
   ·refine ⟨x, some rest, rfl, .inl ⟨hx, rest, hl, rfl⟩, ⟨hr, ?_⟩, ho⟩
    have := h.2
    rw [hl, List.length_append] at this
    omega
   ·exact ⟨0, none, rfl, .inr ⟨rfl, rfl, fun y rest hy => no y rest hy⟩, ⟨q, hq, hr⟩, ho⟩
 | none =>
   obtain ⟨q, hq, h⟩ := h
   refine (qD hq.ne h).mono ?_
   exact kN
theorem bY (h : RU w b o) : Calls Tryz.prog 69 #[.pointer (some ⟨b, 0, none⟩)] w fun e w' => ∃ c o', e = .returned (.int .u8 (UInt8.toNat c)) ∧ YR o c o' ∧ RU w' b o' ∧ Only b w w' := by
 match o, h with
 | some (a :: l), h =>
   have hl : l.length ≤ 10000 := by have := h.2; rw [List.length_cons] at this; omega
   refine (dX a h.1 (by omega)).mono ?_
   rintro e w' ⟨rfl, hr, ho⟩
   exact ⟨a, some l, rfl, ⟨rfl, rfl⟩, ⟨hr, hl⟩, ho⟩
 | some [], h =>
   refine (iJ h.1).mono ?_
   rintro e w' ⟨rfl, hr, ho⟩
   exact ⟨0, none, rfl, ⟨rfl, rfl⟩, ⟨2, lV, hr⟩, ho⟩
 | none, h =>
   obtain ⟨q, hq, h⟩ := h
   refine (iK hq.ne h).mono ?_
   exact kN
theorem bZ {l : List UInt8} (v : Value) (h : bz w v l) (hl : l.length ≤ 10000) : Calls Tryz.prog 68 #[v] w fun e w' => e = .returned (.pointer (some ⟨w.heap.size, 0, none⟩)) ∧ RU w' w.heap.size (some l) ∧ Reg2.Ext w w' := by
 refine (tX v h).mono ?_
 rintro e w' ⟨rfl, h1, h2⟩
 exact ⟨rfl, ⟨h1, hl⟩, h2⟩
end
end Go.Proofs.YtbdfpbknckghgaaGreat

namespace Go.Proofs.YtbdfpbknckghgaaGreat
open Go.RowKit Go.Lib Go.Sort
structure Wk where
 zJ : Rq
 zK : Int
 zL : Int
 left : Value
 zM : Jb
 idle : Int
 target : Int
 rep : Ry
 ok : Bool
def pK (R : Wk) : List Value := encR R.zJ ++ ([.int .i64 R.zK, .int .i64 R.zL, R.left] ++ (wK R.zM ++ ([.int .i64 R.idle, .int .i64 R.target] ++ (yn R.rep ++ [.bool R.ok]))))
def xw : Jb := (0, 0, 0, 0, 0, 0, 0, 0, 0, 0)
def vS : Ry := ⟨0, 0, 0, 0, 0, 0, 0, 0, 0⟩
def dY (w : World) (b : Nat) (R : Wk) : Prop := w.heap[b]? = some (.cells (pK R).toArray 209 (0, 0))
section
variable {w w' w1 w2 : World} {b c t d p g a g' g1 g2 a' : Nat} {v v' v1 v2 : Value} {m m' : Int} {P P' : Pg} {R R' : Wk}
theorem xY (R : Wk) : (pK R).length = 34 := rfl
theorem dY.lt (h : dY w b R) : b < w.heap.size := ak h
theorem tY {w : World} {g off k : Nat} {all cs : List Value} {t : TypeId} (h : w.heap[g]? = some (.cells all.toArray t (0, 0))) (hk : cs.length = k) (hc : ∀ j u, cs[j]? = some u → all[off + j]? = some u) :
 Sem.run Tryz.prog (loadCellsFrom ⟨g, off, none⟩ 0 k #[]) w = .ok cs.toArray w :=
 run_loadCellsFrom_list Tryz.prog w _ _ k hk fun j u hj => by
  rw [Go.WideShapes.add_plain]
  have := hc j u hj
  simp [World.cell?, h, this]
end
end Go.Proofs.YtbdfpbknckghgaaGreat

namespace Go.Proofs.YtbdfpbknckghgaaGreat
open Go.RowKit Go.Lib Go.Sort
def zN (k : Nat) : Value := .func (.func k) #[] #[]
section
end
end Go.Proofs.YtbdfpbknckghgaaGreat

namespace Go.Proofs.YtbdfpbknckghgaaGreat
open Go.RowKit Go.Lib Go.Sort
theorem iL {w : World} {b k : Nat} {cs : List Value} {t : TypeId} (h : w.heap[b]? = some (.cells cs.toArray t (0, 0))) (hk : cs.length = k) : Sem.run Tryz.prog (loadCellsFrom ⟨b, 0, none⟩ 0 k #[]) w = .ok cs.toArray w :=
 tY h hk fun j u hj => by rw [Nat.zero_add]; exact hj
section
end
end Go.Proofs.YtbdfpbknckghgaaGreat

namespace Go.Proofs.YtbdfpbknckghgaaGreat
theorem bV {p : Prop} (f : p := by
 go_enter Tryz.func79, Tryz.ntmps79
 go_wp2_with fail
 refine aZ rfl rfl rfl (cO (heap_alloc2_new w _ _)) Tryz.underlying28 rfl (by kernel_rfl) ⟨rfl, ?_⟩
 exact ((((Below.refl _ _).alloc (Nat.le_refl _) _).alloc (by simp) _).alloc (by simp; omega) _)) : p := f
end Go.Proofs.YtbdfpbknckghgaaGreat
namespace Go.Proofs.YtbdfpbknckghgaaGreat
open Go.RowKit Go.Lib
def ah (r : Rq) : Rq :=
 if r.kind = 1 then ⟨r.kind, 0, r.user, r.width, r.limit, r.prio, r.held, 0, 0⟩
 else if r.kind = 2 ∨ r.kind = 3 ∨ r.kind = 4 ∨ r.kind = 5 ∨ r.kind = 6 then ⟨r.kind, r.id, 0, 0, 0, 0, false, 0, 0⟩
 else if r.kind = 7 ∨ r.kind = 8 then ⟨r.kind, 0, 0, 0, 0, 0, false, r.node, 0⟩
 else if r.kind = 9 then ⟨r.kind, 0, 0, 0, 0, 0, false, 0, r.till⟩
 else ⟨r.kind, 0, 0, 0, 0, 0, false, 0, 0⟩
theorem tZ (x2 x3 x4 x5 x6 : Int) (x7 : Bool) (x8 x9 : Int) (w : World) : Calls Tryz.prog 79 #[.agg #[.int .i64 1, .int .i64 x2, .int .i64 x3, .int .i64 x4, .int .i64 x5, .int .i64 x6, .bool x7, .int .i64 x8, .int .i64 x9]] w fun e w' => e = .returned (.agg #[.int .i64 1, .int .i64 0, .int .i64 x3, .int .i64 x4, .int .i64 x5, .int .i64 x6, .bool x7, .int .i64 0, .int .i64 0]) ∧ Below w.heap.size w w' := by
 go_enter Tryz.func79, Tryz.ntmps79
 go_wp2_with fail
 go_region
 all_goals (try go_wp2_with fail)
 refine aZ rfl rfl rfl (show (World.drew _).heap[_]? = _ from cO (heap_alloc2_new w _ _)) Tryz.underlying28 rfl (by kernel_rfl) ⟨rfl, ?_⟩
 exact ((((Below.refl _ _).alloc (Nat.le_refl _) _).alloc (by simp) _).alloc (by simp; omega) _).drew
theorem uf (x2 x3 x4 x5 x6 : Int) (x7 : Bool) (x8 x9 : Int) (w : World) : Calls Tryz.prog 79 #[.agg #[.int .i64 2, .int .i64 x2, .int .i64 x3, .int .i64 x4, .int .i64 x5, .int .i64 x6, .bool x7, .int .i64 x8, .int .i64 x9]] w fun e w' => e = .returned (.agg #[.int .i64 2, .int .i64 x2, .int .i64 0, .int .i64 0, .int .i64 0, .int .i64 0, .bool false, .int .i64 0, .int .i64 0]) ∧ Below w.heap.size w w' := by
 exact bV
theorem ug (x2 x3 x4 x5 x6 : Int) (x7 : Bool) (x8 x9 : Int) (w : World) : Calls Tryz.prog 79 #[.agg #[.int .i64 3, .int .i64 x2, .int .i64 x3, .int .i64 x4, .int .i64 x5, .int .i64 x6, .bool x7, .int .i64 x8, .int .i64 x9]] w fun e w' => e = .returned (.agg #[.int .i64 3, .int .i64 x2, .int .i64 0, .int .i64 0, .int .i64 0, .int .i64 0, .bool false, .int .i64 0, .int .i64 0]) ∧ Below w.heap.size w w' := by
 exact bV
theorem uh (x2 x3 x4 x5 x6 : Int) (x7 : Bool) (x8 x9 : Int) (w : World) : Calls Tryz.prog 79 #[.agg #[.int .i64 4, .int .i64 x2, .int .i64 x3, .int .i64 x4, .int .i64 x5, .int .i64 x6, .bool x7, .int .i64 x8, .int .i64 x9]] w fun e w' => e = .returned (.agg #[.int .i64 4, .int .i64 x2, .int .i64 0, .int .i64 0, .int .i64 0, .int .i64 0, .bool false, .int .i64 0, .int .i64 0]) ∧ Below w.heap.size w w' := by
 exact bV
theorem ui (x2 x3 x4 x5 x6 : Int) (x7 : Bool) (x8 x9 : Int) (w : World) : Calls Tryz.prog 79 #[.agg #[.int .i64 5, .int .i64 x2, .int .i64 x3, .int .i64 x4, .int .i64 x5, .int .i64 x6, .bool x7, .int .i64 x8, .int .i64 x9]] w fun e w' => e = .returned (.agg #[.int .i64 5, .int .i64 x2, .int .i64 0, .int .i64 0, .int .i64 0, .int .i64 0, .bool false, .int .i64 0, .int .i64 0]) ∧ Below w.heap.size w w' := by
 exact bV
theorem uj (x2 x3 x4 x5 x6 : Int) (x7 : Bool) (x8 x9 : Int) (w : World) : Calls Tryz.prog 79 #[.agg #[.int .i64 6, .int .i64 x2, .int .i64 x3, .int .i64 x4, .int .i64 x5, .int .i64 x6, .bool x7, .int .i64 x8, .int .i64 x9]] w fun e w' => e = .returned (.agg #[.int .i64 6, .int .i64 x2, .int .i64 0, .int .i64 0, .int .i64 0, .int .i64 0, .bool false, .int .i64 0, .int .i64 0]) ∧ Below w.heap.size w w' := by
 exact bV
theorem uk (x2 x3 x4 x5 x6 : Int) (x7 : Bool) (x8 x9 : Int) (w : World) : Calls Tryz.prog 79 #[.agg #[.int .i64 7, .int .i64 x2, .int .i64 x3, .int .i64 x4, .int .i64 x5, .int .i64 x6, .bool x7, .int .i64 x8, .int .i64 x9]] w fun e w' => e = .returned (.agg #[.int .i64 7, .int .i64 0, .int .i64 0, .int .i64 0, .int .i64 0, .int .i64 0, .bool false, .int .i64 x8, .int .i64 0]) ∧ Below w.heap.size w w' := by
 exact bV
theorem um (x2 x3 x4 x5 x6 : Int) (x7 : Bool) (x8 x9 : Int) (w : World) : Calls Tryz.prog 79 #[.agg #[.int .i64 8, .int .i64 x2, .int .i64 x3, .int .i64 x4, .int .i64 x5, .int .i64 x6, .bool x7, .int .i64 x8, .int .i64 x9]] w fun e w' => e = .returned (.agg #[.int .i64 8, .int .i64 0, .int .i64 0, .int .i64 0, .int .i64 0, .int .i64 0, .bool false, .int .i64 x8, .int .i64 0]) ∧ Below w.heap.size w w' := by
 exact bV
theorem uo (x2 x3 x4 x5 x6 : Int) (x7 : Bool) (x8 x9 : Int) (w : World) : Calls Tryz.prog 79 #[.agg #[.int .i64 9, .int .i64 x2, .int .i64 x3, .int .i64 x4, .int .i64 x5, .int .i64 x6, .bool x7, .int .i64 x8, .int .i64 x9]] w fun e w' => e = .returned (.agg #[.int .i64 9, .int .i64 0, .int .i64 0, .int .i64 0, .int .i64 0, .int .i64 0, .bool false, .int .i64 0, .int .i64 x9]) ∧ Below w.heap.size w w' := by
 exact bV
theorem qE (x1 : Int) (x2 x3 x4 x5 x6 : Int) (x7 : Bool) (x8 x9 : Int) (w : World) (h1 : x1 ≠ 1) (h2 : x1 ≠ 2) (h3 : x1 ≠ 3) (h4 : x1 ≠ 4) (h5 : x1 ≠ 5) (h6 : x1 ≠ 6) (h7 : x1 ≠ 7) (h8 : x1 ≠ 8) (h9 : x1 ≠ 9) : Calls Tryz.prog 79 #[.agg #[.int .i64 x1, .int .i64 x2, .int .i64 x3, .int .i64 x4, .int .i64 x5, .int .i64 x6, .bool x7, .int .i64 x8, .int .i64 x9]] w fun e w' => e = .returned (.agg #[.int .i64 x1, .int .i64 0, .int .i64 0, .int .i64 0, .int .i64 0, .int .i64 0, .bool false, .int .i64 0, .int .i64 0]) ∧ Below w.heap.size w w' := by
 have t1 : (x1 == 1) = false := beq_eq_false_iff_ne.2 h1
 have t2 : (x1 == 2) = false := beq_eq_false_iff_ne.2 h2
 have t3 : (x1 == 3) = false := beq_eq_false_iff_ne.2 h3
 have t4 : (x1 == 4) = false := beq_eq_false_iff_ne.2 h4
 have t5 : (x1 == 5) = false := beq_eq_false_iff_ne.2 h5
 have t6 : (x1 == 6) = false := beq_eq_false_iff_ne.2 h6
 have t7 : (x1 == 7) = false := beq_eq_false_iff_ne.2 h7
 have t8 : (x1 == 8) = false := beq_eq_false_iff_ne.2 h8
 have t9 : (x1 == 9) = false := beq_eq_false_iff_ne.2 h9
 clear h1 h2 h3 h4 h5 h6 h7 h8 h9
 exact bV
theorem fO (r : Rq) (w : World) : Calls Tryz.prog 79 #[.agg (encR r).toArray] w fun e w' => e = .returned (.agg (encR (ah r)).toArray) ∧ Below w.heap.size w w' := by
 obtain ⟨x1, x2, x3, x4, x5, x6, x7, x8, x9⟩ := r
 by_cases h1 : x1 = 1
 ·subst h1
  exact tZ x2 x3 x4 x5 x6 x7 x8 x9 w
 by_cases h2 : x1 = 2
 ·subst h2
  exact uf x2 x3 x4 x5 x6 x7 x8 x9 w
 by_cases h3 : x1 = 3
 ·subst h3
  exact ug x2 x3 x4 x5 x6 x7 x8 x9 w
 by_cases h4 : x1 = 4
 ·subst h4
  exact uh x2 x3 x4 x5 x6 x7 x8 x9 w
 by_cases h5 : x1 = 5
 ·subst h5
  exact ui x2 x3 x4 x5 x6 x7 x8 x9 w
 by_cases h6 : x1 = 6
 ·subst h6
  exact uj x2 x3 x4 x5 x6 x7 x8 x9 w
 by_cases h7 : x1 = 7
 ·subst h7
  exact uk x2 x3 x4 x5 x6 x7 x8 x9 w
 by_cases h8 : x1 = 8
 ·subst h8
  exact um x2 x3 x4 x5 x6 x7 x8 x9 w
 by_cases h9 : x1 = 9
 ·subst h9
  exact uo x2 x3 x4 x5 x6 x7 x8 x9 w
 have e : ah ⟨x1, x2, x3, x4, x5, x6, x7, x8, x9⟩ = ⟨x1, 0, 0, 0, 0, 0, false, 0, 0⟩ := by simp [ah, h1, h2, h3, h4, h5, h6, h7, h8, h9]
 rw [e]
 exact qE x1 x2 x3 x4 x5 x6 x7 x8 x9 w h1 h2 h3 h4 h5 h6 h7 h8 h9
end Go.Proofs.YtbdfpbknckghgaaGreat

namespace Go.Proofs.YtbdfpbknckghgaaGreat
open Go.RowKit Go.Lib Go.Sort
theorem qF (n : Nat) : nz (dh n) = List.replicate n 1 := by
 refine tC (by rw [nA]; simp [dh]) fun i hi => ?_
 have hin : i < n := by rw [nA] at hi; simpa [dh] using hi
 rw [tu, og (by simpa [dh] using hin)]
 have h1 : ¬ 0 ≤ holderL (dh n).L i := by unfold dh holderL; simp
 rw [if_neg h1]
 simp [dh, List.getD_eq_getElem?_getD, hin]
theorem oK (n : Nat) (t : Int) : nT (dh n) t 0 = n := by
 unfold nT jm pF
 have h1 : (List.range (dh n).dr.length).countP (kZ (dh n) t) = n := by
  have e : (dh n).dr.length = n := by simp [dh]
  rw [e]
  have : (List.range n).countP (kZ (dh n) t) = (List.range n).length := by
   rw [List.countP_eq_length]
   intro k hk
   have hk := List.mem_range.1 hk
   unfold kZ dh holderL
   simp [List.getD_eq_getElem?_getD, hk]
  rw [this, List.length_range]
 rw [h1]
 simp [dh]
structure uq (w0 w : World) (c t d p : Nat) (v : Value) (g a : Nat) (m : Int) (P : Pg) : Prop where
 cw : CW w c t d p v g a m P
 lo : ∀ k, iH c t d p v g k → w0.heap.size ≤ k
section
variable {w : World}
theorem uu (n : Nat) (w : World) (h1 : 1 ≤ n) (h2 : n ≤ 64) : Calls Tryz.prog 34 #[.int .i64 n] w fun e w' => ∃ c t d p v g, e = .returned (.tuple #[.pointer (some ⟨c, 0, none⟩), .int .i64 0]) ∧ uq w w' c t d p v g 1 0 (lQ (dh n)) ∧ Below w.heap.size w w' := by
 have hn := nu n w h1 h2
 go_enter Tryz.func34, Tryz.ntmps34
 go_wp2_with fail
 go_at_call 65
 refine hn.mono ?_
 clear hn
 rintro e w1 ⟨rfl, hT1, hb1⟩
 have hs1 : w.heap.size < w1.heap.size := ak hT1
 have hp := ny (n : Int) w1 (by omega)
 go_wp2_with fail
 go_at_call 66
 refine hp.mono ?_
 clear hp
 rintro e w2 ⟨p, g, rfl, hP2, lp, lg, hb2⟩
 have yu : TW w2 w.heap.size (List.replicate n 1) := hT1.kept hb2
 have hj := om w2
 go_wp2_with fail
 go_at_call 67
 refine hj.mono ?_
 clear hj
 rintro e w3 ⟨rfl, hw3⟩
 have hb3 : Below w2.heap.size w2 w3 := by rw [← hw3]; exact (Below.refl _ _).alloc (Nat.le_refl _) _
 have hJ3 : TV w3 w2.heap.size (.slice none 0 0) [] := by rw [← hw3]; exact BV.yl w2
 have fC := yu.kept hb3
 have hP3 := hP2.kept hb3
 have hs2 := hb2.size
 replace hw3 := Lib.hid hw3
 obtain ⟨w4, hw4⟩ : ∃ w4, w4 = w3.alloc (.cells #[.pointer (some ⟨w2.heap.size, 0, none⟩), .pointer (some ⟨w.heap.size, 0, none⟩), .pointer (some ⟨p, 0, none⟩), .bool true, .bool false] 134) := ⟨_, rfl⟩
 have hb4 : Below w3.heap.size w3 w4 := by rw [hw4]; exact (Below.refl _ _).alloc (Nat.le_refl _) _
 have hc4 : w4.heap[w3.heap.size]? = some (.cells #[.pointer (some ⟨w2.heap.size, 0, none⟩), .pointer (some ⟨w.heap.size, 0, none⟩), .pointer (some ⟨p, 0, none⟩), .bool true, .bool false] 134 (0, 0)) := by rw [hw4]; exact heap_alloc_new w3 _
 have hs3 := hb3.size
 have hCW : Hid (CW w4 w3.heap.size w2.heap.size w.heap.size p (.slice none 0 0) g 1 0 (lQ (dh n))) := by
  refine ⟨hc4, hJ3.kept hb4, by show TW w4 w.heap.size (nz (dh n)); rw [qF]; exact fC.kept hb4, [(0, (n : Int))], 0, hP3.kept hb4, ?_, Nat.le_refl _, Int.le_refl _, Int.le_refl _⟩
  exact (sW n).congr fun t _ => (oK n t).symm
 have hlo : Hid (∀ k, iH w3.heap.size w2.heap.size w.heap.size p (.slice none 0 0) g k → w.heap.size ≤ k) := by
  rintro k (rfl | rfl | rfl | rfl | hv | rfl)
  ·omega
  ·omega
  ·exact Nat.le_refl _
  ·omega
  ·cases hv
  ·omega
 have hbw := hb1.trans ((hb2.trans ((hb3.trans (hb4.mono hb3.size)).mono hb2.size)).mono hb1.size)
 clear hc4 hJ3 fC hP3 hT1 yu hP2
 go_wp2_with fail
 rw [← hw4]
 go_ret2
 exact ⟨w3.heap.size, w2.heap.size, w.heap.size, p, .slice none 0 0, g, rfl, ⟨hCW.out, hlo.out⟩, hbw⟩
def dK (r : Rq) : Wk := ⟨ah r, 0, 0, zN 115, xw, 0, 0, vS, false⟩
theorem nJ (r : Rq) (w : World) : Calls Tryz.prog 77 #[.agg (encR r).toArray] w fun e w' => ∃ b, e = .returned (.pointer (some ⟨b, 0, none⟩)) ∧ dY w' b (dK r) ∧ w.heap.size ≤ b ∧ Below w.heap.size w w' := by
 have zR := bD
 obtain ⟨k9, aF⟩ : ∃ k, k = 9 := ⟨_, rfl⟩
 rw [← aF] at zR
 have hk0 : ¬ k9 = 0 := by omega
 have lR := aB r
 rw [← aF] at lR
 replace aF := Lib.hid aF
 obtain ⟨wA, ag⟩ : ∃ wA, wA = w.alloc (.cells (encR r).toArray 28) := ⟨_, rfl⟩
 have bF : Below w.heap.size w wA := by rw [ag]; exact (Below.refl _ _).alloc (Nat.le_refl _) _
 have nK : wA.heap[w.heap.size]? = some (.cells (encR r).toArray 28 (0, 0)) := by rw [ag]; exact heap_alloc_new w _
 have yw := iL nK lR
 have hcl := fO r wA
 rw [ag] at yw hcl
 generalize hcr : encR r = cR at *
 replace hcr := Lib.hid hcr
 go_enter Tryz.func77, Tryz.ntmps77
 go_wp2_with fail
 go_at_call 79
 refine hcl.mono ?_
 clear hcl yw
 rw [← ag]
 rintro e w1 ⟨rfl, hb1⟩
 replace ag := Lib.hid ag
 obtain ⟨y1, y2, y3, y4, y5, y6, y7, y8, y9, hy⟩ : ∃ y1 y2 y3 y4 y5 y6 y7 y8 y9, ah r = ⟨y1, y2, y3, y4, y5, y6, y7, y8, y9⟩ := ⟨_, _, _, _, _, _, _, _, _, rfl⟩
 obtain ⟨w2, hw2⟩ : ∃ w2, w2 = w1.alloc (.cells (pK (dK r)).toArray 209) := ⟨_, rfl⟩
 have hb2 : Below w1.heap.size w1 w2 := by rw [hw2]; exact (Below.refl _ _).alloc (Nat.le_refl _) _
 have hW2 : dY w2 w1.heap.size (dK r) := by show _ = _; rw [hw2]; exact heap_alloc_new w1 _
 have hl : (pK (dK r)).toArray = #[.int .i64 y1, .int .i64 y2, .int .i64 y3, .int .i64 y4, .int .i64 y5, .int .i64 y6, .bool y7, .int .i64 y8, .int .i64 y9, .int .i64 0, .int .i64 0, .func (.func 115) #[] #[], .int .i64 0, .int .i64 0, .int .i64 0, .int .i64 0, .int .i64 0, .int .i64 0, .int .i64 0, .int .i64 0, .int .i64 0, .int .u64 0, .int .i64 0, .int .i64 0, .int .i64 0, .int .i64 0, .int .i64 0, .int .i64 0, .int .i64 0, .int .i64 0, .int .i64 0, .int .i64 0, .int .i64 0, .bool false] := by unfold dK; rw [hy]; rfl
 have hbw := bF.trans ((hb1.trans (hb2.mono hb1.size)).mono bF.size)
 have hlo : w.heap.size ≤ w1.heap.size := Nat.le_trans bF.size hb1.size
 rw [hl] at hw2
 rw [hy, show (encR ⟨y1, y2, y3, y4, y5, y6, y7, y8, y9⟩).toArray = #[.int .i64 y1, .int .i64 y2, .int .i64 y3, .int .i64 y4, .int .i64 y5, .int .i64 y6, .bool y7, .int .i64 y8, .int .i64 y9] from rfl]
 replace hl := Lib.hid hl
 replace hy := Lib.hid hy
 obtain rfl := aF.out
 go_wp2_with fail
 rw [← hw2]
 go_ret
 exact ⟨w1.heap.size, rfl, hW2, hlo, hbw⟩
end
end Go.Proofs.YtbdfpbknckghgaaGreat

namespace Go.Proofs.YtbdfpbknckghgaaGreat
open Go.RowKit Go.Lib
def iM (k : Int) : Bool := decide (k = 1) || decide (k = 3) || decide (k = 4) || decide (k = 2) || decide (k = 5) || decide (k = 7) || decide (k = 8) || decide (k = 9) || decide (k = 6) || decide (k = 11)
def iN (k : Int) : Bool := decide (k = 2) || decide (k = 5) || decide (k = 7) || decide (k = 8) || decide (k = 9) || decide (k = 10)
def iO (k : Int) : Bool := decide (k = 1) || decide (k = 3) || decide (k = 4) || decide (k = 2) || decide (k = 5) || decide (k = 7) || decide (k = 8) || decide (k = 9) || decide (k = 12)
theorem oL (k : Int) (w : World) : Calls Tryz.prog 78 #[.int .i64 k] w fun e w' => e = .returned (av (iM k) (iN k) (iO k)) ∧ Below w.heap.size w w' := by
 by_cases h1 : k = 1; · subst h1; exact rP w
 by_cases h3 : k = 3; · subst h3; exact rQ w
 by_cases h4 : k = 4; · subst h4; exact rR w
 by_cases h2 : k = 2; · subst h2; exact rU w
 by_cases h5 : k = 5; · subst h5; exact rV w
 by_cases h7 : k = 7; · subst h7; exact rW w
 by_cases h8 : k = 8; · subst h8; exact rX w
 by_cases h9 : k = 9; · subst h9; exact rY w
 by_cases h6 : k = 6; · subst h6; exact rT w
 by_cases h11 : k = 11; · subst h11; exact pV w
 by_cases h10 : k = 10; · subst h10; exact pW w
 by_cases h12 : k = 12; · subst h12; exact pX w
 have h := pY k w h1 h3 h4 h2 h5 h7 h8 h9 h6 h11 h10 h12
 rw [show iM k = false by simp [iM, *], show iN k = false by simp [iN, *], show iO k = false by simp [iO, *]]
 exact h
def bO (w : World) (o h : Nat) (r : Rq) : Prop := w.heap[o]? = some (.cells (Value.pointer (some ⟨h, 0, none⟩) :: encR r).toArray 162 (0, 0))
section
variable {w w' : World} {o h : Nat} {r : Rq} {H : Hd}
theorem bO.lt (q : bO w o h r) : o < w.heap.size := ak q
theorem bO.c0 (q : bO w o h r) : w.cell? ⟨o, 0, none⟩ = some (.pointer (some ⟨h, 0, none⟩)) := by simp [World.cell?, show w.heap[o]? = _ from q]
theorem lW (q : bO w o h r) (qh : ax w h H) : Calls Tryz.prog 269 #[.pointer (some ⟨o, 0, none⟩)] w fun e w' => e = .returned (.bool (H.st == 5)) ∧ w = w' := by
 have c0 := q.c0
 have hs := iF qh
 clear q qh
 go_enter Tryz.func269, Tryz.ntmps269
 go_wp2_with (go_at_call 263; go_must (refine hs.mono ?_); rintro e w' ⟨rfl, rfl⟩)
 go_ret
 exact ⟨rfl, rfl⟩
def eX (b : Nat) (who : Int) (r : Rq) : Hd := wN b who (iM r.kind) (iN r.kind) (iO r.kind)
theorem qG (r : Rq) (who : Int) (w : World) : Calls Tryz.prog 41 #[.agg (encR r).toArray, .int .i64 who] w fun e w' => ∃ o h b, e = .returned (.pointer (some ⟨o, 0, none⟩)) ∧ bO w' o h (ah r) ∧ ax w' h (eX b who r) ∧ dY w' b (dK r) ∧ w.heap.size ≤ o ∧ w.heap.size ≤ h ∧ w.heap.size ≤ b ∧ Below w.heap.size w w' := by
 have zR := bD
 have lR := aB r
 obtain ⟨k9, aF⟩ : ∃ k, k = 9 := ⟨_, rfl⟩
 rw [← aF] at zR lR
 have hk0 : ¬ k9 = 0 := by omega
 replace aF := Lib.hid aF
 obtain ⟨wA, ag⟩ : ∃ wA, wA = w.alloc (.cells (encR r).toArray 28) := ⟨_, rfl⟩
 have bF : Hid (Below w.heap.size w wA) := by show Below _ _ _; rw [ag]; exact (Below.refl _ _).alloc (Nat.le_refl _) _
 have nK : wA.heap[w.heap.size]? = some (.cells (encR r).toArray 28 (0, 0)) := by rw [ag]; exact heap_alloc_new w _
 have hlA : Hid (w.heap.size < wA.heap.size) := ak nK
 have hz := Lib.hid nK
 have hld : Hid (∀ W, Below wA.heap.size wA W → Sem.run Tryz.prog (loadCellsFrom ⟨w.heap.size, 0, none⟩ 0 k9 #[]) W = .ok (encR r).toArray W) := fun W hW => iL ((hW.block _ hlA.out).trans hz.out) lR
 have hki : Hid (∀ W, Below wA.heap.size wA W → W.cell? ⟨w.heap.size, 0, none⟩ = some (.int .i64 r.kind)) := fun W hW => ay ((hW.block _ hlA.out).trans hz.out) 0 _ rfl
 clear nK lR
 obtain ⟨cR, hcR⟩ : ∃ cR, cR = encR r := ⟨_, rfl⟩
 have yx := Lib.hid (nJ r)
 have yz := Lib.hid (fO r)
 rw [← hcR] at hld yx yz ag ⊢
 replace hcR := Lib.hid hcR
 go_enter Tryz.func41, Tryz.ntmps41
 go_wp2_with fail
 rw [← ag]
 replace ag := Lib.hid ag
 refine Reg2.sJ 8 16 [[],[bL],[bu,bu],[bu,bu,bu],[bu,bu,bu,bL],[bL,bL,bu,bL,bL],[bL,bL,bL,bL,bL,bL],[bu,bu,bu,bu,bu,bu,bu]] [1, 1, 0, 0, 1, 1, 1, 1]
  [.mU (.agg cR.toArray), .minor Nat 0 (fun q => .pointer (some ⟨q, 0, none⟩)) (fun q W => wA.heap.size ≤ q ∧ dY W q (dK r)), .pure, .pure, .mU (.int .i64 r.kind), .mU (av (iM r.kind) (iN r.kind) (iO r.kind)), .minor Nat 0 (fun q => .pointer (some ⟨q, 0, none⟩)) (fun q W => wA.heap.size ≤ q ∧ ∃ b, wA.heap.size ≤ b ∧ dY W b (dK r) ∧ ax W q (eX b who r)), .mU (.agg cR.toArray)]
  (fun W => Below wA.heap.size wA W) (fun _ _ => True) (fun a b => Below a.heap.size a b) (by kernel_rfl) (by kernel_rfl) rfl rfl (fun vs a b h hs => trivial) ?_ ?_ ?_ ?_ ?_ ?_
 ·intro a b he hb; exact hb.trans (Below.mono he hb.size)
 ·intro a b he hb; exact hb.trans (Below.mono he hb.size)
 ·have k1 : ∀ (x : Nat) (a b : World), Below a.heap.size a b → (wA.heap.size ≤ x ∧ dY a x (dK r)) → wA.heap.size ≤ x ∧ dY b x (dK r) := fun x a b he h => ⟨h.1, (he.block _ h.2.lt).trans h.2⟩
  have k2 : ∀ (x : Nat) (a b : World), Below a.heap.size a b → (wA.heap.size ≤ x ∧ ∃ b, wA.heap.size ≤ b ∧ dY a b (dK r) ∧ ax a x (eX b who r)) → wA.heap.size ≤ x ∧ ∃ c, wA.heap.size ≤ c ∧ dY b c (dK r) ∧ ax b x (eX c who r) := fun x a b he h => by
   obtain ⟨h1, c, h2, h3, h4⟩ := h
   exact ⟨h1, c, h2, (he.block _ h3.lt).trans h3, (he.block _ h4.lt).trans h4⟩
  exact ⟨⟨fun _ _ _ _ _ => trivial, fun _ _ _ _ _ => trivial⟩, ⟨k1, k1⟩, trivial, trivial, ⟨fun _ _ _ _ _ => trivial, fun _ _ _ _ _ => trivial⟩, ⟨fun _ _ _ _ _ => trivial, fun _ _ _ _ _ => trivial⟩, ⟨k2, k2⟩, ⟨fun _ _ _ _ _ => trivial, fun _ _ _ _ _ => trivial⟩, trivial⟩
 ·exact ⟨rfl, rfl, rfl, Nat.le_refl _, fun _ _ => rfl⟩
 ·trivial
 dsimp only [Reg2.mk, List.zip, List.zipWith, List.take]
 refine Reg2.pm (fun wz hI hF => ?_) fun r0 => ?_
 ·have d0 := hld.out wz hI
  go_wp2_with fail
  first | exact ⟨_, rfl, rfl, Reg2.Ext.refl _⟩ | exact ⟨_, rfl, ⟨(), rfl, trivial⟩, Reg2.Ext.refl _⟩
 simp only [Act.put, xA, xB, xC, xD, xE, id]
 refine Reg2.pm (fun wz hI hF => ?_) fun r1 => ?_
 ·have hc := yx.out wz
  go_wp2_with fail
  go_at_call 77
  refine hc.mono ?_
  clear hc
  rintro e w2 ⟨b, rfl, hW, hlo, hb⟩
  have hlo2 := hI.size
  go_wp2_with fail
  exact ⟨_, rfl, ⟨b, rfl, by omega, hW⟩, hb⟩
 simp only [Act.put, xA, xB, xC, xD, xE, id]
 repeat ((first
  | (refine' Reg2.bq _ (by rfl) (fun wz => ?_) ?_; rotate_left; (go_simp; first | rfl | rw [if_neg (by omega)]))
  | (refine Reg2.aR (by rfl) (fun wz hI hF => ?_) (fun _ => ?_)
     ·unfold Reg2.One
      have d0 := hki.out wz hI
      go_wp2_with fail
      first | exact ⟨_, rfl, rfl, Reg2.Ext.refl _⟩ | exact ⟨_, rfl, ⟨(), rfl, trivial⟩, Reg2.Ext.refl _⟩)); simp only [Act.put, xA, xB, xC, xD, xE, id])
 refine Reg2.pm (fun wz hI hF => ?_) fun r5 => ?_
 ·have hc := oL r.kind wz
  go_wp2_with fail
  go_at_call 78
  refine hc.mono ?_
  clear hc
  rintro e w2 ⟨rfl, hb⟩
  go_wp2_with fail
  first | exact ⟨_, rfl, rfl, hb⟩ | exact ⟨_, rfl, ⟨(), rfl, trivial⟩, hb⟩
 simp only [Act.put, xA, xB, xC, xD, xE, id]
 refine Reg2.pm (fun wz hI hF => ?_) fun r6 => ?_
 ·have hW1 := hF.2.1.2
  have hl1 := hF.2.1.1
  have hc := mZ r1 who (iM r.kind) (iN r.kind) (iO r.kind) wz
  replace hW1 := Lib.hid hW1
  clear hF
  go_wp2_with fail
  go_at_call 76
  refine hc.mono ?_
  clear hc
  rintro e w2 ⟨b, rfl, hH, hlo, hb⟩
  have hlo2 := hI.size
  have hW2 : dY w2 r1 (dK r) := (hb.block _ hW1.out.lt).trans hW1.out
  go_wp2_with fail
  exact ⟨_, rfl, ⟨b, rfl, by omega, r1, hl1, hW2, hH⟩, hb⟩
 simp only [Act.put, xA, xB, xC, xD, xE, id]
 refine Reg2.pm (fun wz hI hF => ?_) fun r7 => ?_
 ·have d0 := hld.out wz hI
  go_wp2_with fail
  first | exact ⟨_, rfl, rfl, Reg2.Ext.refl _⟩ | exact ⟨_, rfl, ⟨(), rfl, trivial⟩, Reg2.Ext.refl _⟩
 simp only [Act.put, xA, xB, xC, xD, xE, id]
 refine Reg2.bU ?_
 intro w1 HI _ HF
 obtain ⟨Ar, b, hlb, vT, hH6⟩ := HF.2.2.2.2.2.2.1
 clear HF hki r0 r5 r7
 dsimp only [List.drop]
 have hc := yz.out w1
 replace vT := Lib.hid vT
 replace hH6 := Lib.hid hH6
 go_wp2_with fail
 go_at_call 79
 refine hc.mono ?_
 clear hc
 rintro e w2 ⟨rfl, hb2⟩
 obtain ⟨y1, y2, y3, y4, y5, y6, y7, y8, y9, hy⟩ : ∃ y1 y2 y3 y4 y5 y6 y7 y8 y9, ah r = ⟨y1, y2, y3, y4, y5, y6, y7, y8, y9⟩ := ⟨_, _, _, _, _, _, _, _, _, rfl⟩
 obtain ⟨w3, hw3⟩ : ∃ w3, w3 = w2.alloc (.cells (Value.pointer (some ⟨r6, 0, none⟩) :: encR (ah r)).toArray 162) := ⟨_, rfl⟩
 have hb3 : Below w2.heap.size w2 w3 := by rw [hw3]; exact (Below.refl _ _).alloc (Nat.le_refl _) _
 have hO3 : bO w3 w2.heap.size r6 (ah r) := by show _ = _; rw [hw3]; exact heap_alloc_new w2 _
 have hH3 : ax w3 r6 (eX b who r) := hH6.out.below ((hb2.trans (hb3.mono hb2.size))) hH6.out.lt
 have hW3 : dY w3 b (dK r) := ((hb2.trans (hb3.mono hb2.size)).block _ vT.out.lt).trans vT.out
 have hbw : Below w.heap.size w w3 := bF.out.trans ((HI.trans ((hb2.trans (hb3.mono hb2.size)).mono HI.size)).mono bF.out.size)
 have hlo : w.heap.size ≤ w2.heap.size := Nat.le_trans bF.out.size (Nat.le_trans HI.size hb2.size)
 have hs := bF.out.size
 rw [show (Value.pointer (some ⟨r6, 0, none⟩) :: encR (ah r)).toArray = #[.pointer (some ⟨r6, 0, none⟩), .int .i64 y1, .int .i64 y2, .int .i64 y3, .int .i64 y4, .int .i64 y5, .int .i64 y6, .bool y7, .int .i64 y8, .int .i64 y9] by rw [hy]; rfl] at hw3
 rw [hy, show (encR ⟨y1, y2, y3, y4, y5, y6, y7, y8, y9⟩).toArray = #[.int .i64 y1, .int .i64 y2, .int .i64 y3, .int .i64 y4, .int .i64 y5, .int .i64 y6, .bool y7, .int .i64 y8, .int .i64 y9] from rfl]
 rw [hy] at hO3
 replace hy := Lib.hid hy
 replace hO3 := Lib.hid hO3
 replace hH3 := Lib.hid hH3
 replace hW3 := Lib.hid hW3
 replace hbw := Lib.hid hbw
 clear hb2 hb3 HI hld
 obtain rfl := aF.out
 go_wp2_with fail
 rw [← hw3]
 go_ret
 exact ⟨w2.heap.size, r6, b, rfl, by rw [hy.out]; exact hO3.out, hH3.out, hW3.out, hlo, by omega, by omega, hbw.out⟩
end
end Go.Proofs.YtbdfpbknckghgaaGreat

namespace Go.Proofs.YtbdfpbknckghgaaGreat
theorem iP {p : Prop} (f : p := by
 go_enter Tryz.func17, Tryz.ntmps17
 go_wp2_with fail
 go_ret
 exact ⟨rfl, rfl⟩) : p := f
theorem iQ {p : Prop} (f : p := by
 go_enter Tryz.func42, Tryz.ntmps42
 go_wp2_with fail
 go_ret
 exact ⟨rfl, rfl⟩) : p := f
theorem kP {p : Prop} (f : p := by
 go_wp2_with (go_at_call 38; go_must (refine h.mono ?_); rintro e w' ⟨rfl, rfl⟩)
 go_ret2
 exact ⟨rfl, rfl⟩) : p := f
end Go.Proofs.YtbdfpbknckghgaaGreat
namespace Go.Proofs.YtbdfpbknckghgaaGreat
open Go.RowKit Go.Lib
structure Ct where
 core : Nat
 log : Nat
 aQ : Nat
 tasks : Int
 live : Value
 told : Value
def aI (w : World) (c : Nat) (C : Ct) : Prop := w.heap[c]? = some (.cells #[.pointer (some ⟨C.core, 0, none⟩), .pointer (some ⟨C.log, 0, none⟩), .pointer (some ⟨C.aQ, 0, none⟩), .int .i64 C.tasks, C.live, C.told] 41 (0, 0))
def dH (w : World) (c : Nat) : Prop := w.heap[c]? = some (.cells #[.pointer none, .pointer none, .pointer none, .int .i64 0, .slice none 0 0, .map none] 41 (0, 0))
section
variable {w w' : World} {c : Nat} {C : Ct}
theorem aI.lt (q : aI w c C) : c < w.heap.size := ak q
theorem aI.below {B : Nat} (q : aI w c C) (hb : Below B w w') (hs : c < B) : aI w' c C := by
 unfold aI at *; rw [hb.block c hs]; exact q
theorem aI.c0 (q : aI w c C) : w.cell? ⟨c, 0, none⟩ = some (.pointer (some ⟨C.core, 0, none⟩)) := by simp [World.cell?, show w.heap[c]? = _ from q]
theorem aI.c1 (q : aI w c C) : w.cell? ⟨c, 1, none⟩ = some (.pointer (some ⟨C.log, 0, none⟩)) := by simp [World.cell?, show w.heap[c]? = _ from q]
theorem aI.c2 (q : aI w c C) : w.cell? ⟨c, 2, none⟩ = some (.pointer (some ⟨C.aQ, 0, none⟩)) := by simp [World.cell?, show w.heap[c]? = _ from q]
theorem aI.c3 (q : aI w c C) : w.cell? ⟨c, 3, none⟩ = some (.int .i64 C.tasks) := by simp [World.cell?, show w.heap[c]? = _ from q]
theorem aI.c4 (q : aI w c C) : w.cell? ⟨c, 4, none⟩ = some C.live := by simp [World.cell?, show w.heap[c]? = _ from q]
theorem aI.free (q : aI w c C) (j : Nat) : w.frozen? ⟨c, j, none⟩ = false := by simp [World.frozen?, show w.heap[c]? = _ from q]
theorem dH.c2 (q : dH w c) : w.cell? ⟨c, 2, none⟩ = some (.pointer none) := by simp [World.cell?, show w.heap[c]? = _ from q]
theorem dH.c4 (q : dH w c) : w.cell? ⟨c, 4, none⟩ = some (.slice none 0 0) := by simp [World.cell?, show w.heap[c]? = _ from q]
theorem qH (q : aI w c C) : Calls Tryz.prog 17 #[.pointer (some ⟨c, 0, none⟩)] w fun e w' => e = .returned (.pointer (some ⟨C.aQ, 0, none⟩)) ∧ w = w' := by
 have c2 := q.c2
 clear q
 exact iP
theorem iW (q : dH w c) : Calls Tryz.prog 17 #[.pointer (some ⟨c, 0, none⟩)] w fun e w' => e = .returned (.pointer none) ∧ w = w' := by
 have c2 := q.c2
 clear q
 exact iP
theorem jK (w : World) : Calls Tryz.prog 17 #[.pointer none] w fun e w' => e = .returned (.pointer none) ∧ w = w' := by
 exact iP
theorem oM (w : World) : Calls Tryz.prog 12 #[.pointer none] w fun e w' => e = .returned (.int .i64 0) ∧ w = w' := by
 go_enter Tryz.func12, Tryz.ntmps12
 go_wp2_with fail
 go_ret
 exact ⟨rfl, rfl⟩
theorem eY (q : aI w c C) : Calls Tryz.prog 42 #[.pointer (some ⟨c, 0, none⟩)] w fun e w' => e = .returned C.live ∧ w = w' := by
 have c4 := q.c4
 clear q
 exact iQ
theorem eZ (q : dH w c) : Calls Tryz.prog 42 #[.pointer (some ⟨c, 0, none⟩)] w fun e w' => e = .returned (.slice none 0 0) ∧ w = w' := by
 have c4 := q.c4
 clear q
 exact iQ
theorem iX (w : World) : Calls Tryz.prog 42 #[.pointer none] w fun e w' => e = .returned (.slice none 0 0) ∧ w = w' := by
 exact iQ
theorem ib {p : Value} {ao : Option Addr} {n cap : Nat} (h : Calls Tryz.prog 42 #[p] w fun e w' => e = .returned (.slice ao n cap) ∧ w = w') : Calls Tryz.prog 14 #[p] w fun e w' => e = .returned (.int .i64 n) ∧ w = w' := by
 go_enter Tryz.func14, Tryz.ntmps14
 go_wp2_with (go_at_call 42; go_must (refine h.mono ?_); rintro e w' ⟨rfl, rfl⟩)
 go_ret
 exact ⟨rfl, rfl⟩
theorem jL {p : Value} (h : Calls Tryz.prog 17 #[p] w fun e w' => e = .returned (.pointer none) ∧ w = w') : Calls Tryz.prog 38 #[p] w fun e w' => e = .returned (.int .i64 8) ∧ w = w' := by
 go_enter Tryz.func38, Tryz.ntmps38
 go_wp2_with (go_at_call 17; go_must (refine h.mono ?_); rintro e w' ⟨rfl, rfl⟩)
 go_ret
 exact ⟨rfl, rfl⟩
theorem uw {ao : Option Addr} {n cap : Nat} (q : aI w c C) (hl : C.live = .slice ao n cap) (hn : n < 64) : Calls Tryz.prog 38 #[.pointer (some ⟨c, 0, none⟩)] w fun e w' => e = .returned (.int .i64 0) ∧ w = w' := by
 have h1 := qH q
 have ha := eY q
 rw [hl] at ha
 have h2 := ib ha
 have d1 : decide ((64 : Int) ≤ (n : Int)) = false := decide_eq_false (by omega)
 clear q ha
 go_enter Tryz.func38, Tryz.ntmps38
 go_wp2_with (first | (go_at_call 17; go_must (refine h1.mono ?_); rintro e w' ⟨rfl, rfl⟩) | (go_at_call 14; go_must (refine h2.mono ?_); rintro e w' ⟨rfl, rfl⟩))
 go_ret
 exact ⟨rfl, rfl⟩
theorem oN {p v : Value} (h : Calls Tryz.prog 38 #[p] w fun e w' => e = .returned (.int .i64 8) ∧ w = w') : Calls Tryz.prog 10 #[p, v] w fun e w' => e = .returned (.tuple #[.int .i64 0, .int .i64 8]) ∧ w = w' := by
 go_enter Tryz.func10, Tryz.ntmps10
 exact kP
theorem oO {p v u : Value} (h : Calls Tryz.prog 38 #[p] w fun e w' => e = .returned (.int .i64 8) ∧ w = w') : Calls Tryz.prog 15 #[p, v, u] w fun e w' => e = .returned (.tuple #[.int .i64 0, .int .i64 8]) ∧ w = w' := by
 go_enter Tryz.func15, Tryz.ntmps15
 exact kP
end
end Go.Proofs.YtbdfpbknckghgaaGreat

namespace Go.Proofs.YtbdfpbknckghgaaGreat
open Go.RowKit Go.Lib
open Go.ChangeShapes Go.WideShapes Go.ChangeAt Go.Deep
structure Ev where
 st : Int
 kd : Int
 tk : Int
 q1 : Int
 q2 : Int
 q3 : Int
 q4 : Int
 q5 : Int
 q6 : Int
 qh : Bool
 q7 : Int
 q8 : Int
 r1 : Int
 r2 : Int
 r3 : Int
 r4 : Int
 r5 : Int
 r6 : Int
 r7 : Int
 r8 : Int
 r9 : Int
 c1 : Int
 c2 : Int
 ok : Bool
deriving Inhabited
def aA (e : Ev) : List Value := [.int .i64 e.st, .int .i64 e.kd, .int .i64 e.tk, .int .i64 e.q1, .int .i64 e.q2, .int .i64 e.q3, .int .i64 e.q4, .int .i64 e.q5, .int .i64 e.q6, .bool e.qh, .int .i64 e.q7, .int .i64 e.q8, .int .i64 e.r1, .int .i64 e.r2, .int .i64 e.r3, .int .i64 e.r4, .int .i64 e.r5, .int .i64 e.r6, .int .i64 e.r7, .int .i64 e.r8, .int .i64 e.r9, .int .i64 e.c1, .int .i64 e.c2, .bool e.ok]
theorem xx : ∀ w, Sem.run Tryz.prog (Go.sizeOf 50) w = .ok 24 w := Tryz.sizeOf50
theorem dP (x : Ev) : (aA x).length = 24 := rfl
theorem kQ (x : Ev) : ∀ v ∈ aA x, v.oneCell' = true := by
 intro v hv
 simp only [aA, List.mem_cons, List.not_mem_nil, or_false] at hv
 rcases hv with rfl | rfl | rfl | rfl | rfl | rfl | rfl | rfl | rfl | rfl | rfl | rfl | rfl | rfl | rfl | rfl | rfl | rfl | rfl | rfl | rfl | rfl | rfl | rfl <;> rfl
theorem fP {W : World} {p : Nat} {x : Ev} (h : W.heap[p]? = some (.cells (aA x).toArray 50 (0, 0))) : ∀ j u, (aA x)[j]? = some u → W.cell? ⟨p, j, none⟩ = some u := by
 intro j u hj
 simp only [World.cell?, h]
 simpa using hj
theorem uy {W : World} {p k : Nat} {x : Ev} (h : W.heap[p]? = some (.cells (aA x).toArray 50 (0, 0))) (hk : k = 24) : Sem.run Tryz.prog (loadCellsFrom ⟨p, 0, none⟩ 0 k #[]) W = .ok (aA x).toArray W := by
 subst hk
 refine run_loadCellsFrom_list Tryz.prog W _ _ 24 (dP x) fun j u hj => ?_
 rw [Go.WideShapes.add_plain, Nat.zero_add]
 exact fP h j u hj
theorem vU {W : World} {b off k n c i : Nat} {l : List Ev} (h : au aA 24 W (.slice (some ⟨b, off, none⟩) n c) l) (hk : k = 24) (hi : i < l.length) : Sem.run Tryz.prog (loadCellsFrom ⟨b, off + i * k, none⟩ 0 k #[]) W = .ok (aA l[i]!).toArray W := by
 subst hk
 obtain ⟨ao, cap, h1, _, _, h4⟩ := h
 obtain ⟨b', off', e, _, hc⟩ := h4 (by omega)
 cases h1
 cases e
 refine run_loadCellsFrom_list Tryz.prog W _ _ 24 (dP _) fun j u hj => ?_
 rw [Go.WideShapes.add_plain, Nat.add_assoc]
 exact hc i _ j u (by rw [List.getElem?_eq_getElem hi, getElem!_pos l i hi]) hj
section
end
end Go.Proofs.YtbdfpbknckghgaaGreat

namespace Go.Proofs.YtbdfpbknckghgaaGreat
theorem kR {p : Prop} (f : p := by
 intro e
 rcases h.2 with ⟨e0, _⟩ | ⟨g', cap', cur, e0, _, hg, _⟩
 ·rw [e0] at e; simp [Value.ownBlock] at e
 ·rw [e0] at e
  simp [Value.ownBlock] at e
  subst e
  rw [hs] at hg
  injection hg with hg
  injection hg with _ h2
  exact hT h2) : p := f
theorem kS {p : Prop} (f : p := by
 intro a b he hb
 exact ⟨he.os.trans hb.os, he.tape.trans hb.tape, he.output.trans hb.output, Nat.le_trans hb.size he.size, fun q hq' h2 => (he.block q (Nat.lt_of_lt_of_le hq' hb.size) h2).trans (hb.block q hq' h2)⟩) : p := f
theorem kT {p : Prop} (f : p := by
 intro a b he hb
 exact ⟨he.os.trans hb.os, he.tape.trans hb.tape, he.output.trans hb.output, Nat.le_trans hb.size he.size, fun q hq' h2 => (he.block q (Nat.lt_of_lt_of_le hq' hb.size)).trans (hb.block q hq' h2)⟩) : p := f
end Go.Proofs.YtbdfpbknckghgaaGreat
namespace Go.Proofs.YtbdfpbknckghgaaGreat
open Go.RowKit Go.Lib Put
structure bH (p : Nat) (o : Option Nat) (w w' : World) : Prop where
 os : w'.os = w.os
 tape : w'.tape = w.tape
 output : w'.output = w.output
 size : w.heap.size ≤ w'.heap.size
 block : ∀ k, k < w.heap.size → k ≠ p → o ≠ some k → w'.heap[k]? = w.heap[k]?
def cu (w : World) (o o' : Option Nat) : Prop := o' = o ∨ ∃ k, o' = some k ∧ w.heap.size ≤ k
section
variable {p : Nat} {o o1 o2 : Option Nat} {w w1 w2 : World}
theorem bH.refl (p : Nat) (o : Option Nat) (w : World) : bH p o w w := ⟨rfl, rfl, rfl, Nat.le_refl _, fun _ _ _ _ => rfl⟩
theorem bH.of_below (h : Below w.heap.size w w1) : bH p o w w1 := ⟨h.os, h.tape, h.output, h.size, fun k hk _ _ => h.block k hk⟩
theorem bH.qI (h : w.grownBy w1 o) : bH p o w w1 := ⟨h.os, h.tape, h.output, h.size, fun k hk _ h2 => h.block k hk (fun e => h2 e.symm)⟩
theorem bH.trans (h : bH p o w w1) (h' : bH p o1 w1 w2) (hn : cu w o o1) : bH p o w w2 :=
 ⟨h'.os.trans h.os, h'.tape.trans h.tape, h'.output.trans h.output, Nat.le_trans h.size h'.size, fun k hk h1 h2 => by
  rw [h'.block k (Nat.lt_of_lt_of_le hk h.size) h1 (by
   rcases hn with rfl | ⟨q, rfl, hq⟩
   ·exact h2
   ·intro e; injection e with e; omega), h.block k hk h1 h2]⟩
theorem bH.setCell {j : Nat} {v : Value} (h : bH p o w w1) : bH p o w (w1.setCell ⟨p, j, none⟩ v) :=
 ⟨h.os, h.tape, h.output, by simpa using h.size, fun k hk h1 h2 => by rw [Below.heap_setCell w1 ⟨p, j, none⟩ v k (fun e => h1 e)]; exact h.block k hk h1 h2⟩
theorem bH.vV {b j : Nat} {v : Value} (h : bH p o w w1) (hb : w.heap.size ≤ b) : bH p o w (w1.setCell ⟨b, j, none⟩ v) :=
 ⟨h.os, h.tape, h.output, by simpa using h.size, fun k hk h1 h2 => by rw [Below.heap_setCell w1 ⟨b, j, none⟩ v k (fun e => by simp only at e; omega)]; exact h.block k hk h1 h2⟩
theorem cu.refl (w : World) (o : Option Nat) : cu w o o := .inl rfl
theorem cu.trans (h : cu w o o1) (h' : cu w1 o1 o2) (hs : w.heap.size ≤ w1.heap.size) : cu w o o2 := by
 rcases h' with rfl | ⟨q, rfl, hq⟩
 ·exact h
 ·exact .inr ⟨q, rfl, by omega⟩
theorem bH.row {v : Value} {l : List Ev} (h : bH p o w w1) (hr : au aA 24 w v l) (hs : 0 < l.length → ∀ b off m c, v = .slice (some ⟨b, off, none⟩) m c → b ≠ p ∧ o ≠ some b) : au aA 24 w1 v l := by
 obtain ⟨ao, cap, h1, h2, h3, h4⟩ := hr
 refine ⟨ao, cap, h1, h2, h3, fun hn => ?_⟩
 obtain ⟨b, off, e, hlt, hc⟩ := h4 hn
 subst e
 obtain ⟨a1, a2⟩ := hs hn b off _ _ h1
 refine ⟨b, off, rfl, Nat.lt_of_lt_of_le hlt h.size, fun i s j u hi hj => ?_⟩
 have := hc i s j u hi hj
 simp only [World.cell?] at this ⊢
 rw [h.block b hlt a1 a2]
 exact this
end
def stamp (st : Int) (x : Ev) : Ev := { x with st := st }
structure LG (B : Nat) (w : World) (s : Nat) (st : Int) (v : Value) (L : List Ev) : Prop where
 obj : w.heap[s]? = some (.cells #[.int .i64 st, v] 91 (0, 0))
 own : w.ownsRow B 50 24 v L.length (L.flatMap aA)
 bs : B ≤ s
section
variable {B s : Nat} {w w' : World} {st : Int} {v va : Value} {L l : List Ev}
theorem LG.c0 (h : LG B w s st v L) : w.cell? ⟨s, 0, none⟩ = some (.int .i64 st) := by simp [World.cell?, h.obj]
theorem LG.c1 (h : LG B w s st v L) : w.cell? ⟨s, 1, none⟩ = some v := by simp [World.cell?, h.obj]
theorem LG.fz (h : LG B w s st v L) (i : Nat) : w.frozen? ⟨s, i, none⟩ = false := by simp [World.frozen?, h.obj]
theorem LG.lt (h : LG B w s st v L) : s < w.heap.size := ak h.obj
theorem LG.below (h : LG B w s st v L) (hb : Below w.heap.size w w') : LG B w' s st v L := ⟨(hb.block _ h.lt).trans h.obj, Put.bG h.own hb, h.bs⟩
theorem nL {n : Nat} {xs : List Value} {cs : Array Value} {T : TypeId} (h : w.ownsRow B 50 24 v n xs) (hs : w.heap[s]? = some (.cells cs T (0, 0))) (hT : T ≠ 50) : v.ownBlock ≠ some s := by
 exact kR
theorem LG.apart (h : LG B w s st v L) : v.ownBlock ≠ some s := nL h.own h.obj (by decide)
theorem uz (h : LG B w s st v L) (h0 : 0 ≤ st) (h1 : st ≤ 1000) : Calls Tryz.prog 81 #[.pointer (some ⟨s, 0, none⟩)] w fun e w' => e = .returned (.tuple #[]) ∧ LG B w' s (st + 1) v L ∧ bH s none w w' := by
 have c0 := h.c0
 have f0 := h.fz 0
 have hw : IntKind.i64.wrap (st + 1) = st + 1 := IntWalk.i64_in _ (by omega)
 have hfin : Hid (LG B (w.setCell ⟨s, 0, none⟩ (.int .i64 (st + 1))) s (st + 1) v L ∧ bH s none w (w.setCell ⟨s, 0, none⟩ (.int .i64 (st + 1)))) := by
  refine ⟨⟨?_, ?_, h.bs⟩, (bH.refl _ _ _).setCell⟩
  ·have := heap_put (i := 0) h.obj (.int .i64 (st + 1))
   simpa using this
  ·exact aD h.own fun k hk => Below.heap_setCell w ⟨s, 0, none⟩ _ k (fun e => h.apart (by rw [hk]; simp only at e; rw [e]))
 clear h
 go_enter Tryz.func81, Tryz.ntmps81
 go_wp2_with fail
 go_end0
 exact ⟨rfl, hfin.out⟩
def NoteS (B : Nat) (w1 : World) (hq : Value) (L : List Ev) (x : Ev) (vs : List Value) (W : World) : Prop :=
 match vs with
 | [] => W.ownsRow B 50 24 hq L.length (L.flatMap aA)
 | v' :: _ => W.ownsRow B 50 24 v' (L.length + 1) (L.flatMap aA ++ aA x) ∧ cu w1 hq.ownBlock v'.ownBlock
theorem oP {w1 a b : World} {hq : Value} {x : Ev} {vs : List Value} (h : Below a.heap.size a b) (hs : NoteS B w1 hq L x vs a) : NoteS B w1 hq L x vs b := by
 unfold NoteS at *
 split at hs
 ·exact Put.bG hs h
 ·exact ⟨Put.bG hs.1 h, hs.2⟩
theorem xy : (Tryz.prog.info? 50).map (fun i => (i.zero, i.size, i.bytes)) = some (some (.agg #[.int .i64 0, .int .i64 0, .int .i64 0, .int .i64 0, .int .i64 0, .int .i64 0, .int .i64 0, .int .i64 0, .int .i64 0, .bool false, .int .i64 0, .int .i64 0, .int .i64 0, .int .i64 0, .int .i64 0, .int .i64 0, .int .i64 0, .int .i64 0, .int .i64 0, .int .i64 0, .int .i64 0, .int .i64 0, .int .i64 0, .bool false]), 24, 192) := by kernel_rfl
def kU (B : Nat) (w : World) (s : Nat) (st : Int) (v : Value) (L l : List Ev) (e : Ending) (w' : World) : Prop :=
 e = .returned (.tuple #[]) ∧ ∃ v', LG B w' s st v' (L ++ l.map (stamp st)) ∧ bH s v.ownBlock w w' ∧ cu w v.ownBlock v'.ownBlock
theorem uA (h : LG B w s st v L) (hr : au aA 24 w va l) (hsep : 0 < l.length → ∀ b off m c, va = .slice (some ⟨b, off, none⟩) m c → b ≠ s ∧ v.ownBlock ≠ some b) (hlen : L.length + l.length ≤ 900) :
 Calls Tryz.prog 39 #[.pointer (some ⟨s, 0, none⟩), va] w (kU B w s st v L l) := by
 have zE := xx
 obtain ⟨i0, hi0, hz0, hz1, hz2⟩ := info_parts xy
 obtain ⟨k, hk⟩ : ∃ k, k = 24 := ⟨_, rfl⟩
 rw [← hk] at zE
 replace hk := Lib.hid hk
 have yA := Lib.hid hr
 obtain ⟨ao, cap, rfl, q1, q2, q3⟩ := hr
 obtain ⟨n, hn⟩ : ∃ n, l.length = n := ⟨_, rfl⟩
 rw [hn] at q1 q3 hlen yA hsep ⊢
 have HA : Hid (0 < n → ∃ b off, ao = some ⟨b, off, none⟩) := fun hp => by
  obtain ⟨b, off, e1, _⟩ := q3 hp
  exact ⟨b, off, e1⟩
 have xz := Lib.hid hsep
 have jk : cap ≤ 9223372036854775807 := by unfold maxLen at q2; omega
 have Au : n ≤ 900 := by omega
 replace hn := Lib.hid hn
 replace hlen := Lib.hid hlen
 clear q2 q3 hsep
 replace h := Lib.hid h
 go_enter Tryz.func39, Tryz.ntmps39
 go_wp2_with fail
 go_loopw [10] (fun ii wr => ∃ (i : Nat) (hq : Value), i ≤ n ∧ ii = .int .i64 i ∧ Hid (LG B wr s st hq (L ++ (l.take i).map (stamp st))) ∧ Hid (bH s v.ownBlock w wr) ∧ Hid (cu w v.ownBlock hq.ownBlock)) (fun ii _ => n - (intOf ii).toNat)
 case atStart => exact ⟨0, v, Nat.zero_le _, rfl, Lib.hid (by simpa using h.out), bH.refl _ _ _, cu.refl _ _⟩
 case round =>
  clear h
  obtain ⟨i, hq, hin, rfl, hQ, qJ, uB⟩ := hrel
  by_cases hlt : i < n
  ·have b2 : (i : Int) < (n : Int) := by omega
   have wi : IntKind.i64.wrap ((i : Int) + 1) = (i : Int) + 1 := by rw [IntKind.wrap_i64]; omega
   obtain ⟨b, off, rfl⟩ := HA.out (by omega)
   have jc : i < l.length := by have := hn.out; omega
   have yB := qJ.out.row yA.out (fun _ b' off' m' c' e => xz.out (by omega) b' off' m' c' e)
   obtain ⟨Lq, uC⟩ : ∃ Lq, Lq = L ++ (l.take i).map (stamp st) := ⟨_, rfl⟩
   have yC : Lq.length = L.length + i := by rw [uC, List.length_append, List.length_map, List.length_take]; omega
   have Av : Lq.length + 1 ≤ 901 := by have := hlen.out; omega
   replace yC := Lib.hid yC
   have LI := vU yB hk.out jc
   have hstp : Hid (Lq ++ [stamp st l[i]!] = L ++ (l.take (i + 1)).map (stamp st)) := by
    show _ = _
    rw [uC, List.take_succ_eq_append_getElem jc, List.map_append, List.append_assoc, getElem!_pos l i jc]; rfl
   generalize l[i]! = y at *
   have lI := dP y
   have st1 : Sem.run Tryz.prog (storeCells ⟨wr.heap.size, 0, none⟩ (aA y) 0) (wr.alloc (.cells #[.int .i64 0, .int .i64 0, .int .i64 0, .int .i64 0, .int .i64 0, .int .i64 0, .int .i64 0, .int .i64 0, .int .i64 0, .bool false, .int .i64 0, .int .i64 0, .int .i64 0, .int .i64 0, .int .i64 0, .int .i64 0, .int .i64 0, .int .i64 0, .int .i64 0, .int .i64 0, .int .i64 0, .int .i64 0, .int .i64 0, .bool false] 50)) = .ok () (wr.alloc (.cells (aA y).toArray 50)) := ji wr wr.heap.size (aA y) (aA default) 50 rfl (by rw [dP, dP]) (kQ _)
   rw [← hk.out] at lI
   have uD := hQ.out
   rw [← uC] at uD
   have hb1 : Below wr.heap.size wr (wr.alloc (.cells (aA y).toArray 50)) := (Below.refl _ _).alloc (Nat.le_refl _) _
   have hnew := heap_alloc_new wr (.cells (aA y).toArray 50)
   have oQ := uD.below hb1
   have vW : bH s v.ownBlock w (wr.alloc (.cells (aA y).toArray 50)) := qJ.out.trans (bH.of_below hb1) uB.out
   have pM : ∀ q, hq.ownBlock = some q → q < wr.heap.size := fun q hq' => (uD.own.lt q hq').2
   have Ak := uD.lt
   have hsw := qJ.out.size
   have hnw : w.heap.size ≤ wr.heap.size := by omega
   obtain ⟨cI, hcI⟩ : ∃ cI, cI = aA y := ⟨_, rfl⟩
   have hput : (cI.toArray.setIfInBounds 0 (.int .i64 st)) = (aA (stamp st y)).toArray := by rw [hcI]; rfl
   have f1 : (wr.alloc (.cells (aA y).toArray 50)).frozen? ⟨wr.heap.size, 0, none⟩ = false := by simp only [World.frozen?, hnew]; rfl
   have d1 : (wr.alloc (.cells (aA y).toArray 50)).cell? ⟨wr.heap.size, 0, none⟩ = some (.int .i64 y.st) := fP hnew 0 _ rfl
   rw [← hcI] at hnew st1 f1 d1 hb1 oQ vW LI lI
   obtain ⟨w1, hw1⟩ : ∃ w1, w1 = wr.alloc (.cells cI.toArray 50) := ⟨_, rfl⟩
   rw [← hw1] at hnew st1 oQ vW f1 d1 hb1
   have c0 := oQ.c0
   have hsz1 : w1.heap.size = wr.heap.size + 1 := by rw [hw1]; simp
   obtain ⟨w2, hw2⟩ : ∃ w2, w2 = w1.setCell ⟨wr.heap.size, 0, none⟩ (.int .i64 st) := ⟨_, rfl⟩
   have hn2 : w2.heap[wr.heap.size]? = some (.cells (aA (stamp st y)).toArray 50 (0, 0)) := by rw [hw2, ← hput]; exact heap_put hnew _
   have je : LG B w2 s st hq Lq := by
    rw [hw2]
    refine ⟨(Below.heap_setCell w1 ⟨wr.heap.size, 0, none⟩ _ s (by simp only; omega)).trans oQ.obj, ?_, oQ.bs⟩
    exact aD oQ.own fun q hq' => Below.heap_setCell w1 ⟨wr.heap.size, 0, none⟩ _ q (by have := pM q hq'; simp only; omega)
   have hO2 : bH s v.ownBlock w w2 := by rw [hw2]; exact vW.vV hnw
   have hsz2 : w2.heap.size = wr.heap.size + 1 := by rw [hw2]; simpa using hsz1
   have c2 := je.c1
   have hp2 := je.obj
   have ho2 := je.own
   have hap := je.apart
   have hle2 := si je.own
   have hbs := je.bs
   have pO : ∀ W, w2.grownBy W hq.ownBlock → W.heap[s]? = some (.cells #[.int .i64 st, hq] 91 (0, 0)) := fun W hW => (hW.block s (by omega) (fun e => hap e.symm)).trans hp2
   have pQ : ∀ W, w2.grownBy W hq.ownBlock → W.heap[wr.heap.size]? = some (.cells (aA (stamp st y)).toArray 50 (0, 0)) := fun W hW => (hW.block wr.heap.size (by omega) (fun e => by have := pM wr.heap.size e.symm; omega)).trans hn2
   replace pO := Lib.hid pO
   replace pQ := Lib.hid pQ
   have zO : Hid (∀ q, hq.ownBlock = some q → q < w2.heap.size) := fun q e => by have := pM q e; omega
   replace hap := Lib.hid hap
   replace hO2 := Lib.hid hO2
   have Al := Lib.hid uC
   clear hQ qJ uD oQ vW yB hb1 hnew hn2 je hput uC pM hsz1
   replace hw1 := Lib.hid hw1
   replace hw2 := Lib.hid hw2
   replace hcI := Lib.hid hcI
   go_wp2_with fail
   rw [← hw2.out]
   clear LI st1 d1 f1 c0 lI
   have hI0 : w2.grownBy w2.drew hq.ownBlock := ⟨rfl, rfl, rfl, Nat.le_refl _, fun _ _ _ => rfl⟩
   have hS0 : w2.drew.ownsRow B 50 24 hq Lq.length (Lq.flatMap aA) := aD ho2 fun _ _ => rfl
   obtain ⟨z, hz⟩ : ∃ z, z = stamp st y := ⟨_, rfl⟩
   rw [← hz] at pQ hstp
   have xG : Hid ((aA z).length = 24) := dP z
   have xH : Hid (∀ u ∈ aA z, u.oneCell' = true) := kQ z
   have yD : Hid (Lq.flatMap aA ++ aA z = (Lq ++ [z]).flatMap aA) := by show _ = _; simp
   replace hz := Lib.hid hz
   obtain ⟨x0, x1, x2, x3, x4, x5, x6, x7, x8, x9, lX, lY, lZ, l5, l6, l7, l8, l9, ma, mf, x20, mg, mh, mi⟩ := z
   have hB2 : B ≤ w2.heap.size := by omega
   refine Reg2.sJ 8 30 [[],[bu],[bu,bL],[bu,bL,bL],[bu,bL,bL,bL],[bu,bu,bu,bu,bu],[bu,bu,bu,bu,bu,bL],[bu,bL,bL,bL,bL,bL,bL]] [0, 0, 0, 0, 1, 1, 1, 3]
    [.pure, .pure, .pure, .pure, .mU (hq), .mU (.agg #[.int .i64 x0, .int .i64 x1, .int .i64 x2, .int .i64 x3, .int .i64 x4, .int .i64 x5, .int .i64 x6, .int .i64 x7, .int .i64 x8, .bool x9, .int .i64 lX, .int .i64 lY, .int .i64 lZ, .int .i64 l5, .int .i64 l6, .int .i64 l7, .int .i64 l8, .int .i64 l9, .int .i64 ma, .int .i64 mf, .int .i64 x20, .int .i64 mg, .int .i64 mh, .bool mi]), .minor Nat 0 (fun x => .slice (some ⟨x, 0, none⟩) 1 1) (fun x W => W.heap[x]? = some (.cells (aA ⟨x0, x1, x2, x3, x4, x5, x6, x7, x8, x9, lX, lY, lZ, l5, l6, l7, l8, l9, ma, mf, x20, mg, mh, mi⟩).toArray 50 (0, 0)) ∧ w2.heap.size ≤ x), .major Value undef id]
    (fun W => w2.grownBy W hq.ownBlock) (NoteS B w2 hq Lq ⟨x0, x1, x2, x3, x4, x5, x6, x7, x8, x9, lX, lY, lZ, l5, l6, l7, l8, l9, ma, mf, x20, mg, mh, mi⟩) (fun a b => a.grownBy b hq.ownBlock) (by kernel_rfl) (by kernel_rfl) rfl rfl (fun vs a b h hs => oP h hs) ?_ ?_ ?_ ?_ ?_ ?_
   ·exact kT
   ·exact kS
   ·refine ⟨trivial, trivial, trivial, trivial, ⟨fun _ _ _ _ _ => trivial, fun _ _ _ _ _ => trivial⟩, ⟨fun _ _ _ _ _ => trivial, fun _ _ _ _ _ => trivial⟩, ⟨fun x a b he h => ⟨(he.block x (Put.lt_of_heap h.1)).trans h.1, h.2⟩, fun x a b he h => ⟨(he.block x (Put.lt_of_heap h.1) (fun e => by have := zO.out x e.symm; have := h.2; omega)).trans h.1, h.2⟩⟩, trivial, trivial⟩
   ·exact hI0
   ·exact hS0
   dsimp only [Reg2.mk, List.zip, List.zipWith, List.take]
   repeat (refine' Reg2.bq _ (by rfl) (fun wz => ?_) ?_; rotate_left; (go_simp; first | rfl | rw [if_neg (by omega)]); simp only [Act.put, xA, xB, xC]; (try simp only [xD]); (try simp only [xE]))
   refine Reg2.pm (fun wz hI hF => ?_) fun r4 => ?_
   ·have d0 : wz.cell? ⟨s, 1, none⟩ = some hq := by simp [World.cell?, pO.out wz hI]
    go_wp2_with fail
    exact ⟨_, rfl, ⟨(), rfl, trivial⟩, Reg2.Ext.refl _⟩
   simp only [Act.put, xA, xB, xC, xD, xE, id]
   refine Reg2.pm (fun wz hI hF => ?_) fun r5 => ?_
   ·have LB := uy (pQ.out wz hI) hk.out
    simp only [aA] at LB
    go_wp2_with fail
    exact ⟨_, rfl, ⟨(), rfl, trivial⟩, Reg2.Ext.refl _⟩
   simp only [Act.put, xA, xB, xC, xD, xE, id]
   refine Reg2.pm (fun wz hI hF => ?_) fun r6 => ?_
   ·obtain rfl := hk.out
    go_wp2_with fail
    exact ⟨_, rfl, ⟨wz.heap.size, rfl, heap_alloc_new wz (.cells (aA ⟨x0, x1, x2, x3, x4, x5, x6, x7, x8, x9, lX, lY, lZ, l5, l6, l7, l8, l9, ma, mf, x20, mg, mh, mi⟩).toArray 50), by have := hI.size; omega⟩, (Below.refl wz.heap.size wz).alloc (Nat.le_refl _) _⟩
   simp only [Act.put, xA, xB, xC, xD, xE, id]
   refine Reg2.pj (fun wz hI hS hF => ?_) fun vv => ?_
   ·have hS1 : wz.ownsRow B 50 24 hq Lq.length (Lq.flatMap aA) := hS
    have hone := hF.2.2.2.2.2.1
    have hsrc : Src Tryz.prog 24 33 (.slice (some ⟨r6, 0, none⟩) 1 1) 1 (aA ⟨x0, x1, x2, x3, x4, x5, x6, x7, x8, x9, lX, lY, lZ, l5, l6, l7, l8, l9, ma, mf, x20, mg, mh, mi⟩) wz := Src.ofSlice wz Tryz.underlying33 ⟨r6, 0, none⟩ 1 1 (aA ⟨x0, x1, x2, x3, x4, x5, x6, x7, x8, x9, lX, lY, lZ, l5, l6, l7, l8, l9, ma, mf, x20, mg, mh, mi⟩) xG.out (fun j u hj => by rw [Go.WideShapes.add_plain]; simpa using fP hone.1 j u hj) xH.out
    have hszI := hI.size
    go_wp2_with (at_builtin; go_must (refine dV _ rfl (.tmp 23) (.tmp 25) 33 33 rfl B 50 i0 (.agg #[.int .i64 0, .int .i64 0, .int .i64 0, .int .i64 0, .int .i64 0, .int .i64 0, .int .i64 0, .int .i64 0, .int .i64 0, .bool false, .int .i64 0, .int .i64 0, .int .i64 0, .int .i64 0, .int .i64 0, .int .i64 0, .int .i64 0, .int .i64 0, .int .i64 0, .int .i64 0, .int .i64 0, .int .i64 0, .int .i64 0, .bool false]) 24 192 Tryz.underlying33 hi0 hz0 hz1 hz2 rfl hq Lq.length (Lq.flatMap aA) rfl hS1 (.slice (some ⟨r6, 0, none⟩) 1 1) 1 (aA ⟨x0, x1, x2, x3, x4, x5, x6, x7, x8, x9, lX, lY, lZ, l5, l6, l7, l8, l9, ma, mf, x20, mg, mh, mi⟩) rfl hsrc ?c0 ?c1 (by omega) ?c2))
    case c0 => unfold maxLen; omega
    case c1 => omega
    case c2 =>
     intro v' w9 xI vX hnb
     have hnn : cu w2 hq.ownBlock v'.ownBlock := by
      rcases hnb with e | e
      ·exact .inl e
      ·exact .inr ⟨_, e, hszI⟩
     go_wp2_with fail
     exact ⟨v', rfl, ⟨xI, hnn⟩, vX⟩
   simp only [Act.put, xA, xB, xC, xD, xE, id]
   refine Reg2.bU ?_
   intro w3 HI3 zP zQ
   clear zQ hI0 hS0 r4 r5
   obtain ⟨ho3, yE⟩ : w3.ownsRow B 50 24 vv (Lq.length + 1) (Lq.flatMap aA ++ aA ⟨x0, x1, x2, x3, x4, x5, x6, x7, x8, x9, lX, lY, lZ, l5, l6, l7, l8, l9, ma, mf, x20, mg, mh, mi⟩) ∧ cu w2 hq.ownBlock vv.ownBlock := zP
   rw [yD.out] at ho3
   have hlx : (Lq ++ [(⟨x0, x1, x2, x3, x4, x5, x6, x7, x8, x9, lX, lY, lZ, l5, l6, l7, l8, l9, ma, mf, x20, mg, mh, mi⟩ : Ev)]).length = Lq.length + 1 := by simp
   have hp3 := pO.out w3 HI3
   have c3 : w3.cell? ⟨s, 1, none⟩ = some hq := by simp [World.cell?, hp3]
   have f3 : w3.frozen? ⟨s, 1, none⟩ = false := by simp only [World.frozen?, hp3]; rfl
   have hps : vv.ownBlock ≠ some s := nL ho3 hp3 (by decide)
   have bP : Hid (LG B (w3.setCell ⟨s, 1, none⟩ vv) s st vv (L ++ (l.take (i + 1)).map (stamp st))) := by
    show LG _ _ _ _ _ _
    rw [← hstp.out]
    refine ⟨?_, ?_, hbs⟩
    ·have := heap_put (i := 1) hp3 vv
     simpa using this
    ·rw [hlx]; exact aD ho3 fun q hq' => Below.heap_setCell w3 ⟨s, 1, none⟩ _ q (fun e => hps (by rw [hq']; simp only at e; rw [e]))
   have hO4 : Hid (bH s v.ownBlock w (w3.setCell ⟨s, 1, none⟩ vv)) := (hO2.out.trans (bH.qI HI3) uB.out).setCell
   have zS : Hid (cu w v.ownBlock vv.ownBlock) := uB.out.trans yE hO2.out.size
   obtain ⟨zT, c', rfl, _⟩ := dR ho3
   dsimp only [List.drop]
   clear ho3 yE HI3 hlx hps
   go_wp2_with fail
   go_roundw
   case rel => exact ⟨i + 1, _, by omega, by go_num, bP, hO4, zS⟩
   case measure => simp [intOf]; omega
  ·obtain rfl : i = n := by omega
   have b2 : ¬ (i : Int) < (i : Int) := by omega
   have e1 : l.take i = l := List.take_of_length_le (by rw [hn.out]; exact Nat.le_refl _)
   rw [e1] at hQ
   have hfin : Hid (kU B w s st v L l (.returned (.tuple #[])) wr) := ⟨rfl, hq, hQ.out, qJ.out, uB.out⟩
   clear hQ qJ uB e1
   go_wp2_with fail
   go_end0
   exact hfin.out
end
end Go.Proofs.YtbdfpbknckghgaaGreat

namespace Go.Proofs.YtbdfpbknckghgaaGreat
def fe (s i c : Nat) : Nat := ((31 * s + c) % 256) ^^^ (i % 256)
def jS (l : List UInt8) : Nat → Nat
 | 0 => l.length % 256
 | k + 1 => fe (jS l k) k (l.getD k 0).toNat
def jT (l : List UInt8) : Nat := jS l l.length
theorem oU (s i c : Nat) : fe s i c < 256 := by
 unfold fe
 exact Nat.xor_lt_two_pow (n := 8) (by omega) (by omega)
theorem mo (l : List UInt8) (k : Nat) : jS l k < 256 := by
 cases k with
 | zero => exact Nat.mod_lt _ (by decide)
 | succ k => exact oU _ _ _
def ae (r : Rq) : List UInt8 :=
 if r.kind = 1 then aj [r.user, r.width, r.limit, r.prio] ++ [if r.held then 1 else 0]
 else if r.kind = 2 ∨ r.kind = 3 ∨ r.kind = 4 ∨ r.kind = 5 ∨ r.kind = 6 then enc (zg r.id)
 else if r.kind = 7 ∨ r.kind = 8 then enc (zg r.node)
 else if r.kind = 9 then enc (zg r.till)
 else []
def bC (r : Rq) : List UInt8 := bM 183 :: bM r.kind.toNat :: ae r
def dZ (r : Rq) : List UInt8 := bC r ++ [bM (jT (bC r))]
def aW (r : Rq) : Bool := decide (1 ≤ r.kind) && decide (r.kind ≤ 13) && decide (ah r = r)
theorem fq (r : Rq) : (ae r).length ≤ 41 := by
 unfold ae
 split
 ·have := dW [r.user, r.width, r.limit, r.prio]
  simp only [List.length_append, List.length_cons, List.length_nil] at *
  omega
 split
 ·have := (eD (zg r.id)).2; omega
 split
 ·have := (eD (zg r.node)).2; omega
 split
 ·have := (eD (zg r.till)).2; omega
 ·simp
theorem mq (r : Rq) : 3 ≤ (dZ r).length ∧ (dZ r).length ≤ 44 := by
 have := fq r
 unfold dZ bC
 simp only [List.length_append, List.length_cons, List.length_nil]
 omega
theorem bS {x y : Int} {s t : List UInt8} (hx : -9223372036854775808 ≤ x ∧ x ≤ 9223372036854775807) (hy : -9223372036854775808 ≤ y ∧ y ≤ 9223372036854775807) (h : enc (zg x) ++ s = enc (zg y) ++ t) : x = y ∧ s = t := by
 obtain ⟨h1, h2⟩ := nC (jD hx) (jD hy) h
 exact ⟨vQ h1, h2⟩
theorem uE {a b : Nat} (ha : a < 256) (hb : b < 256) (h : bM a = bM b) : a = b := by
 have := congrArg UInt8.toNat h
 rwa [aN ha, aN hb] at this
theorem mr {a b : Rq} (ha : bf a) (hb : bf b) (ka : ah a = a) (kb : ah b = b) (hk : a.kind = b.kind) (h : ae a = ae b) : a = b := by
 obtain ⟨a1, a2, a3, a4, a5, a6, a7, a8, a9⟩ := a
 obtain ⟨b1, b2, b3, b4, b5, b6, b7, b8, b9⟩ := b
 have hk : a1 = b1 := hk
 subst hk
 by_cases h1 : a1 = 1
 ·subst h1
  simp [ah] at ka kb
  simp only [ae, if_true] at h
  simp only [aj, List.flatMap_cons, List.flatMap_nil, List.append_nil, List.append_assoc] at h
  obtain ⟨e1, h⟩ := bS ha.user hb.user h
  obtain ⟨e2, h⟩ := bS ha.width hb.width h
  obtain ⟨e3, h⟩ := bS ha.limit hb.limit h
  obtain ⟨e4, h⟩ := bS ha.prio hb.prio h
  have e1 : a3 = b3 := e1
  have e2 : a4 = b4 := e2
  have e3 : a5 = b5 := e3
  have e4 : a6 = b6 := e4
  have e5 : a7 = b7 := by cases a7 <;> cases b7 <;> first | rfl | (simp at h)
  simp [← ka, ← kb, e1, e2, e3, e4, e5]
 by_cases h2 : a1 = 2 ∨ a1 = 3 ∨ a1 = 4 ∨ a1 = 5 ∨ a1 = 6
 ·simp [ah, h1, h2] at ka kb
  simp only [ae, h1, h2, if_true, if_false] at h
  obtain ⟨e1, _⟩ := bS (s := []) (t := []) ha.id hb.id (by simpa using h)
  have e1 : a2 = b2 := e1
  simp [← ka, ← kb, e1]
  simp [ka, kb]
 by_cases h3 : a1 = 7 ∨ a1 = 8
 ·simp [ah, h1, h2, h3] at ka kb
  simp only [ae, h1, h2, h3, if_true, if_false] at h
  obtain ⟨e1, _⟩ := bS (s := []) (t := []) ha.node hb.node (by simpa using h)
  have e1 : a8 = b8 := e1
  simp [← ka, ← kb, e1]
  simp [ka, kb]
 by_cases h4 : a1 = 9
 ·subst h4
  simp [ah] at ka kb
  have h : enc (zg a9) = enc (zg b9) := h
  obtain ⟨e1, _⟩ := bS (s := []) (t := []) ha.till hb.till (by simpa using h)
  have e1 : a9 = b9 := e1
  simp [← ka, ← kb, e1]
  simp [ka, kb]
 ·simp [ah, h1, h2, h3, h4] at ka kb
  simp [← ka, ← kb]
  simp [ka, kb]
theorem qK {a b : Rq} (ha : bf a) (hb : bf b) (ka : aW a = true) (kb : aW b = true) (h : dZ a = dZ b) : a = b := by
 unfold aW at ka kb
 simp only [Bool.and_eq_true, decide_eq_true_eq] at ka kb
 obtain ⟨⟨a1, a2⟩, a3⟩ := ka
 obtain ⟨⟨b1, b2⟩, b3⟩ := kb
 have hlen : (bC a).length = (bC b).length := by
  have := congrArg List.length h
  unfold dZ at this
  simpa using this
 have h' : bC a ++ [bM (jT (bC a))] = bC b ++ [bM (jT (bC b))] := h
 have hb' : bC a = bC b := (List.append_inj h' hlen).1
 unfold bC at hb'
 rw [List.cons.injEq, List.cons.injEq] at hb'
 obtain ⟨_, hk, hf⟩ := hb'
 have hk := uE (by omega) (by omega) hk
 exact mr ha hb a3 b3 (by omega) hf
end Go.Proofs.YtbdfpbknckghgaaGreat

namespace Go.Proofs.YtbdfpbknckghgaaGreat
theorem kV {p : Prop} (f : p := by
 refine Reg2.bU ?_
 intro w5 jM _ xJ
 clear xJ
 have hb5 := hb1.out.trans (jM.mono hb1.out.size)
 dsimp only [List.drop]
 go_wp2_with fail
 go_ret
 exact ⟨rfl, hb5⟩) : p := f
end Go.Proofs.YtbdfpbknckghgaaGreat
namespace Go.Proofs.YtbdfpbknckghgaaGreat
open Go.RowKit Go.Lib
theorem ic (r : Rq) (w : World) : Calls Tryz.prog 72 #[.agg (encR r).toArray] w fun e w' => e = .returned (.bool (aW r)) ∧ Below w.heap.size w w' := by
 have zR := bD
 have lR := aB r
 obtain ⟨k9, aF⟩ : ∃ k, k = 9 := ⟨_, rfl⟩
 rw [← aF] at zR lR
 replace aF := Lib.hid aF
 obtain ⟨wA, ag⟩ : ∃ wA, wA = w.alloc (.cells (encR r).toArray 28) := ⟨_, rfl⟩
 have hb1 : Hid (Below w.heap.size w wA) := by show Below _ _ _; rw [ag]; exact (Below.refl _ _).alloc (Nat.le_refl _) _
 have aU : Hid (wA.heap[w.heap.size]? = some (.cells (encR r).toArray 28 (0, 0))) := by show _ = _; rw [ag]; exact heap_alloc_new w _
 have h1 := fun W => fO r W
 have hi := fun W => wW r.kind W
 have hq := fun W => sN r (ah r) W
 have hg := oh
 have e0 : aW r = ((decide (1 ≤ r.kind) && decide (r.kind ≤ 13)) && decide (r = ah r)) := by
  have : decide (ah r = r) = decide (r = ah r) := decide_eq_decide.2 eq_comm
  unfold aW; rw [this]
 rw [e0]
 clear e0
 generalize decide (r = ah r) = q at *
 generalize encR (ah r) = cA at *
 generalize (decide (1 ≤ r.kind) && decide (r.kind ≤ 13)) = p at *
 cases p
 ·rw [Bool.false_and]
  go_enter Tryz.func72, Tryz.ntmps72
  go_wp2_with fail
  rw [← ag]
  refine Reg2.ro wA 7 12 [.p 0, .m 1, .m 3, .p 7, .m 15, .m 15, .m 47] [.int .i64 r.kind, .bool false, .agg (encR r).toArray, .agg (encR r).toArray, .agg cA.toArray] (by kernel_rfl) (by kernel_rfl) rfl rfl ⟨rfl, rfl, rfl, Nat.le_refl _, fun _ _ => rfl⟩ ?_
  dsimp only [Reg2.gW]
  repeat ((first
   | (refine' Reg2.bq _ (by rfl) (fun wz => ?_) ?_; rotate_left; (go_simp; first | rfl | rw [if_neg (by omega)]))
   | (refine Reg2.aR (by rfl) (fun wz hI hF => ?_) (fun _ => ?_)
      ·unfold Reg2.One
       have d0 := (hI.block _ (ak aU.out)).trans aU.out
       have d1 := ay d0 0 _ rfl
       clear d0
       go_wp2_with fail
       first | exact ⟨_, rfl, rfl, Reg2.Ext.refl _⟩ | exact ⟨_, rfl, ⟨(), rfl, trivial⟩, Reg2.Ext.refl _⟩)); simp only [Act.put, xA, xB, xC, xD, xE, id])
  refine Reg2.pm (fun wz hI hF => ?_) fun r2 => ?_
  ·go_wp2_with (go_at_call 63; go_must (refine (hi _).mono ?_); rintro e w' ⟨rfl, rfl⟩)
   first | exact ⟨_, rfl, rfl, Reg2.Ext.refl _⟩ | exact ⟨_, rfl, ⟨(), rfl, trivial⟩, Reg2.Ext.refl _⟩
  simp only [Act.put, xA, xB, xC, xD, xE, id]
  repeat ((first
   | (refine' Reg2.bq _ (by rfl) (fun wz => ?_) ?_; rotate_left; (go_simp; first | rfl | rw [if_neg (by omega)]))
   | refine Reg2.jy (by rfl) ?_); simp only [Act.put, xA, xB, xC, xD, xE, id])
  exact kV
 ·rw [Bool.true_and]
  go_enter Tryz.func72, Tryz.ntmps72
  go_wp2_with fail
  rw [← ag]
  refine Reg2.ro wA 7 12 [.p 0, .m 1, .m 3, .p 7, .m 15, .m 15, .m 47] [.int .i64 r.kind, .bool true, .agg (encR r).toArray, .agg (encR r).toArray, .agg cA.toArray] (by kernel_rfl) (by kernel_rfl) rfl rfl ⟨rfl, rfl, rfl, Nat.le_refl _, fun _ _ => rfl⟩ ?_
  dsimp only [Reg2.gW]
  repeat ((first
   | (refine' Reg2.bq _ (by rfl) (fun wz => ?_) ?_; rotate_left; (go_simp; first | rfl | rw [if_neg (by omega)]))
   | (refine Reg2.aR (by rfl) (fun wz hI hF => ?_) (fun _ => ?_)
      ·unfold Reg2.One
       have d0 := (hI.block _ (ak aU.out)).trans aU.out
       have d1 := ay d0 0 _ rfl
       clear d0
       go_wp2_with fail
       first | exact ⟨_, rfl, rfl, Reg2.Ext.refl _⟩ | exact ⟨_, rfl, ⟨(), rfl, trivial⟩, Reg2.Ext.refl _⟩)); simp only [Act.put, xA, xB, xC, xD, xE, id])
  refine Reg2.pm (fun wz hI hF => ?_) fun r2 => ?_
  ·go_wp2_with (go_at_call 63; go_must (refine (hi _).mono ?_); rintro e w' ⟨rfl, rfl⟩)
   first | exact ⟨_, rfl, rfl, Reg2.Ext.refl _⟩ | exact ⟨_, rfl, ⟨(), rfl, trivial⟩, Reg2.Ext.refl _⟩
  simp only [Act.put, xA, xB, xC, xD, xE, id]
  repeat ((first
   | (refine' Reg2.bq _ (by rfl) (fun wz => ?_) ?_; rotate_left; (go_simp; first | rfl | rw [if_neg (by omega)]))
   | (refine Reg2.aR (by rfl) (fun wz hI hF => ?_) (fun _ => ?_)
      ·unfold Reg2.One
       have d0 := aH (k := k9) ((hI.block _ (ak aU.out)).trans aU.out) lR
       go_wp2_with fail
       first | exact ⟨_, rfl, rfl, Reg2.Ext.refl _⟩ | exact ⟨_, rfl, ⟨(), rfl, trivial⟩, Reg2.Ext.refl _⟩)); simp only [Act.put, xA, xB, xC, xD, xE, id])
  refine Reg2.pm (fun wz hI hF => ?_) fun r6 => ?_
  ·go_wp2_with (go_at_call 79; go_must (refine (h1 _).mono ?_); rintro e w' ⟨rfl, hb5⟩)
   first | exact ⟨_, rfl, ⟨(), rfl, trivial⟩, hb5⟩ | exact ⟨_, rfl, rfl, hb5⟩
  simp only [Act.put, xA, xB, xC, xD, xE, id]
  exact kV
end Go.Proofs.YtbdfpbknckghgaaGreat

namespace Go.Proofs.YtbdfpbknckghgaaGreat
open Go.RowKit
theorem uF {s k y : Nat} : Go.bits .xor .u8 ((31 * (s : Int) + (y : Int)) % 256) ((k : Int) % 256) = ((fe s k y : Nat) : Int) := by
 rw [u8_xor _ _ (by omega) (by omega) (by omega) (by omega)]
 have e1 : ((31 * (s : Int) + (y : Int)) % 256).toNat = (31 * s + y) % 256 := by omega
 have e2 : ((k : Int) % 256).toNat = k % 256 := by omega
 rw [e1, e2]
 rfl
theorem vY {w : World} {v : Value} {l : List UInt8} (h : bz w v l) (hl : l.length ≤ 10000) : Calls Tryz.prog 74 #[v] w fun e w' => e = .returned (.int .u8 (jT l)) ∧ w = w' := by
 obtain ⟨n, hn⟩ : ∃ n, l.length = n := ⟨_, rfl⟩
 have hs : ∃ ao cap, v = .slice ao n cap ∧ ∀ i, i < n → ∃ b off, ao = some ⟨b, off, none⟩ ∧ w.cell? ⟨b, off + i, none⟩ = some (.int .u8 ((l.getD i 0).toNat : Int)) := by
  rcases h with ⟨rfl, rfl⟩ | ⟨b, off, cap, rfl, hc⟩
  ·exact ⟨none, 0, by rw [← hn]; rfl, fun i hi => by simp at hn; omega⟩
  ·refine ⟨_, cap, by rw [hn], fun i hi => ⟨b, off, rfl, ?_⟩⟩
   have := hc i (by omega)
   rw [this]
   have hi' : i < l.length := by omega
   simp [List.getD, hi']
 obtain ⟨ao, cap, rfl, hc⟩ := hs
 replace hc := Lib.hid hc
 clear h
 have e0 : jT l = jS l n := by rw [← hn]; rfl
 have e1 : jS l 0 = n % 256 := by rw [← hn]; rfl
 obtain ⟨r, hr⟩ : ∃ r, r = jT l := ⟨_, rfl⟩
 rw [← hr]
 have hr' : Hid (jS l n = r) := by show _ = _; rw [hr, e0]
 have zU : r < 256 := by rw [← hr'.out]; exact mo _ _
 clear hr e0
 rw [hn] at hl
 have e2 : Hid (∀ k, jS l (k + 1) = fe (jS l k) k (l.getD k 0).toNat) := fun k => rfl
 have e3 : Hid (∀ k, jS l k < 256) := mo l
 generalize hK : jS l = K at *
 replace hK := Lib.hid hK
 replace e1 := Lib.hid e1
 clear hn
 go_enter Tryz.func74, Tryz.ntmps74
 go_wp2_with fail
 go_loopw [3, 11] (fun ss ii wr => ∃ k s : Nat, k ≤ n ∧ ss = .int .u8 s ∧ ii = .int .i64 k ∧ Hid (s = K k) ∧ w = wr) (fun _ ii _ => n - (intOf ii).toNat)
 case atStart => exact ⟨0, n % 256, Nat.zero_le _, by go_num, rfl, e1.out.symm, rfl⟩
 case round =>
  obtain ⟨k, s, hk, rfl, rfl, hs, rfl⟩ := hrel
  by_cases hlt : k < n
  ·have b2 : (k : Int) < (n : Int) := by omega
   have wi : IntKind.i64.wrap ((k : Int) + 1) = (k : Int) + 1 := by rw [IntKind.wrap_i64]; omega
   obtain ⟨b, off, rfl, c⟩ := hc.out k hlt
   have xK : s < 256 := by rw [hs.out]; exact e3.out k
   have hst : Hid (K (k + 1) = fe s k (l.getD k 0).toNat) := by show _ = _; rw [e2.out k, hs.out]
   have hc256 : (l.getD k 0).toNat < 256 := UInt8.toNat_lt _
   generalize (l.getD k 0).toNat = y at *
   go_wp2_with fail
   go_roundw
   case rel => exact ⟨k + 1, fe s k y, by omega, by rw [uF], by go_num, hst.out.symm, trivial⟩
   case measure => simp [intOf]; omega
  ·obtain rfl : k = n := by omega
   have b2 : ¬ (k : Int) < (k : Int) := by omega
   have qa : Hid (s = r) := by show _ = _; rw [hs.out, hr'.out]
   have xK : s < 256 := by rw [hs.out]; exact e3.out k
   go_wp2_with fail
   go_ret
   exact ⟨by rw [← qa.out]; rfl, rfl⟩
theorem qL {w : World} {u v : Value} {k l : List UInt8} (hu : au dz 1 w u k) (hv : au dz 1 w v l) : Calls Tryz.prog 37 #[u, v] w fun e w' => e = .returned (.bool (decide (k = l))) ∧ w = w' := by
 have h1 := kI hu
 have h2 := kI hv
 have h3 : ((str k).toList == (str l).toList) = decide (k = l) := by
  rw [iV, iV]
  by_cases h : k = l
  ·subst h; simp
  ·rw [decide_eq_false h]; exact beq_eq_false_iff_ne.2 h
 generalize decide (k = l) = q at *
 clear hu hv
 go_enter Tryz.func37, Tryz.ntmps37
 go_wp2_with fail
 go_ret
 exact ⟨rfl, rfl⟩
end Go.Proofs.YtbdfpbknckghgaaGreat

namespace Go.Proofs.YtbdfpbknckghgaaGreat
open Go.RowKit
theorem uG {W : World} {g base : Nat} {l : List UInt8} {cs : Array Value} (h : W.heap[g]? = some (.cells cs 5 (0, 0))) (hc : cs = (bv l).toArray) : aC W base (.slice (some ⟨g, 0, none⟩) l.length l.length) l := by
 refine Or.inr ⟨⟨g, 0, none⟩, rfl, by rw [oq, Nat.mul_one], fun j u hj => ?_⟩
 subst hc
 rw [Addr.add_lit]
 simp [World.cell?, h, hj]
theorem jN {n : Nat} (h : n < 256) : (((bM n).toNat : Nat) : Int) = (n : Int) := by rw [aN h]
end Go.Proofs.YtbdfpbknckghgaaGreat

namespace Go.Proofs.YtbdfpbknckghgaaGreat
theorem di {p : Prop} (f : p := by
 go_enter Tryz.func73, Tryz.ntmps73
 go_wp2_with fail
 go_at_call 112
 refine hall.mono ?_
 clear hall
 rintro e wD ⟨vD, rfl, hbD, _, hD⟩
 rw [← aJ, ← aK] at hD
 replace aJ := Lib.hid aJ
 replace aK := Lib.hid aK
 replace hbD := Lib.hid hbD
 have hE : Hid (Below w.heap.size w wD) := hbC.trans (hD.mono (by omega))
 clear hD hbC
 go_wp2_with fail
 go_ret
 exact ⟨vD, rfl, hbD.out.mono (by omega), hE.out⟩) : p := f
end Go.Proofs.YtbdfpbknckghgaaGreat
namespace Go.Proofs.YtbdfpbknckghgaaGreat
open Go.RowKit
theorem aC.mono {w : World} {B B' : Nat} {v : Value} {l : List UInt8} (h : aC w B v l) (hb : B' ≤ B) : aC w B' v l := by
 rcases h with h | h
 ·exact .inl (fZ h hb)
 ·exact .inr h
theorem qM (x2 x3 x4 x5 x6 : Int) (x7 : Bool) (x8 x9 : Int) (hf : bf ⟨2, x2, x3, x4, x5, x6, x7, x8, x9⟩) {v : Value} {l : List UInt8} {w : World} (hb : ∀ B, aC w B v l) (hl : l.length ≤ 100) : Calls Tryz.prog 73 #[v, .agg #[.int .i64 2, .int .i64 x2, .int .i64 x3, .int .i64 x4, .int .i64 x5, .int .i64 x6, .bool x7, .int .i64 x8, .int .i64 x9]] w fun e w' => ∃ v', e = .returned v' ∧ aC w' w.heap.size v' (l ++ ae ⟨2, x2, x3, x4, x5, x6, x7, x8, x9⟩) ∧ Below w.heap.size w w' := by
 obtain ⟨wB, aJ⟩ : ∃ wB, wB = w.alloc (.cells #[.int .i64 2, .int .i64 x2, .int .i64 x3, .int .i64 x4, .int .i64 x5, .int .i64 x6, .bool x7, .int .i64 x8, .int .i64 x9] 28) := ⟨_, rfl⟩
 have hsB : wB.heap.size = w.heap.size + 1 := by rw [aJ]; simp
 obtain ⟨wC, aK⟩ : ∃ wC, wC = wB.alloc (.cells #[.int .i64 x2] 2) := ⟨_, rfl⟩
 have fu : wC.heap.size = w.heap.size + 2 := by rw [aK]; simp [hsB]
 have hbC : Below w.heap.size w wC := by rw [aK, aJ]; exact ((Below.refl _ _).alloc (Nat.le_refl _) _).alloc (by simp) _
 have dJ : wC.heap[w.heap.size + 1]? = some (.cells #[.int .i64 x2] 2 (0, 0)) := by rw [aK, ← hsB]; exact heap_alloc_new wB _
 have hbuf : aC wC (w.heap.size + 2) v l := by rw [aK, aJ]; exact ((hb _).alloc _).alloc _
 have hall := dx [x2] (by intro z hz; simp at hz; subst hz; exact hf.id) (by simp) (w.heap.size + 1) 0 1 l v (w.heap.size + 2) wC hbuf (by omega) (by omega) (by omega) (fun j hj => by
  have nM : j < 1 := by simpa using hj
  obtain rfl : j = 0 := by omega
  simp [World.cell?, dJ])
 rw [aK, aJ] at hall
 have dA : ae ⟨2, x2, x3, x4, x5, x6, x7, x8, x9⟩ = aj [x2] := by simp [ae, aj]
 rw [dA]
 clear hb hf dA hbuf dJ fu hsB
 generalize aj [x2] = L at *
 exact di
theorem qN (x2 x3 x4 x5 x6 : Int) (x7 : Bool) (x8 x9 : Int) (hf : bf ⟨3, x2, x3, x4, x5, x6, x7, x8, x9⟩) {v : Value} {l : List UInt8} {w : World} (hb : ∀ B, aC w B v l) (hl : l.length ≤ 100) : Calls Tryz.prog 73 #[v, .agg #[.int .i64 3, .int .i64 x2, .int .i64 x3, .int .i64 x4, .int .i64 x5, .int .i64 x6, .bool x7, .int .i64 x8, .int .i64 x9]] w fun e w' => ∃ v', e = .returned v' ∧ aC w' w.heap.size v' (l ++ ae ⟨3, x2, x3, x4, x5, x6, x7, x8, x9⟩) ∧ Below w.heap.size w w' := by
 obtain ⟨wB, aJ⟩ : ∃ wB, wB = w.alloc (.cells #[.int .i64 3, .int .i64 x2, .int .i64 x3, .int .i64 x4, .int .i64 x5, .int .i64 x6, .bool x7, .int .i64 x8, .int .i64 x9] 28) := ⟨_, rfl⟩
 have hsB : wB.heap.size = w.heap.size + 1 := by rw [aJ]; simp
 obtain ⟨wC, aK⟩ : ∃ wC, wC = wB.alloc (.cells #[.int .i64 x2] 2) := ⟨_, rfl⟩
 have fu : wC.heap.size = w.heap.size + 2 := by rw [aK]; simp [hsB]
 have hbC : Below w.heap.size w wC := by rw [aK, aJ]; exact ((Below.refl _ _).alloc (Nat.le_refl _) _).alloc (by simp) _
 have dJ : wC.heap[w.heap.size + 1]? = some (.cells #[.int .i64 x2] 2 (0, 0)) := by rw [aK, ← hsB]; exact heap_alloc_new wB _
 have hbuf : aC wC (w.heap.size + 2) v l := by rw [aK, aJ]; exact ((hb _).alloc _).alloc _
 have hall := dx [x2] (by intro z hz; simp at hz; subst hz; exact hf.id) (by simp) (w.heap.size + 1) 0 1 l v (w.heap.size + 2) wC hbuf (by omega) (by omega) (by omega) (fun j hj => by
  have nM : j < 1 := by simpa using hj
  obtain rfl : j = 0 := by omega
  simp [World.cell?, dJ])
 rw [aK, aJ] at hall
 have dA : ae ⟨3, x2, x3, x4, x5, x6, x7, x8, x9⟩ = aj [x2] := by simp [ae, aj]
 rw [dA]
 clear hb hf dA hbuf dJ fu hsB
 generalize aj [x2] = L at *
 exact di
theorem qO (x2 x3 x4 x5 x6 : Int) (x7 : Bool) (x8 x9 : Int) (hf : bf ⟨4, x2, x3, x4, x5, x6, x7, x8, x9⟩) {v : Value} {l : List UInt8} {w : World} (hb : ∀ B, aC w B v l) (hl : l.length ≤ 100) : Calls Tryz.prog 73 #[v, .agg #[.int .i64 4, .int .i64 x2, .int .i64 x3, .int .i64 x4, .int .i64 x5, .int .i64 x6, .bool x7, .int .i64 x8, .int .i64 x9]] w fun e w' => ∃ v', e = .returned v' ∧ aC w' w.heap.size v' (l ++ ae ⟨4, x2, x3, x4, x5, x6, x7, x8, x9⟩) ∧ Below w.heap.size w w' := by
 obtain ⟨wB, aJ⟩ : ∃ wB, wB = w.alloc (.cells #[.int .i64 4, .int .i64 x2, .int .i64 x3, .int .i64 x4, .int .i64 x5, .int .i64 x6, .bool x7, .int .i64 x8, .int .i64 x9] 28) := ⟨_, rfl⟩
 have hsB : wB.heap.size = w.heap.size + 1 := by rw [aJ]; simp
 obtain ⟨wC, aK⟩ : ∃ wC, wC = wB.alloc (.cells #[.int .i64 x2] 2) := ⟨_, rfl⟩
 have fu : wC.heap.size = w.heap.size + 2 := by rw [aK]; simp [hsB]
 have hbC : Below w.heap.size w wC := by rw [aK, aJ]; exact ((Below.refl _ _).alloc (Nat.le_refl _) _).alloc (by simp) _
 have dJ : wC.heap[w.heap.size + 1]? = some (.cells #[.int .i64 x2] 2 (0, 0)) := by rw [aK, ← hsB]; exact heap_alloc_new wB _
 have hbuf : aC wC (w.heap.size + 2) v l := by rw [aK, aJ]; exact ((hb _).alloc _).alloc _
 have hall := dx [x2] (by intro z hz; simp at hz; subst hz; exact hf.id) (by simp) (w.heap.size + 1) 0 1 l v (w.heap.size + 2) wC hbuf (by omega) (by omega) (by omega) (fun j hj => by
  have nM : j < 1 := by simpa using hj
  obtain rfl : j = 0 := by omega
  simp [World.cell?, dJ])
 rw [aK, aJ] at hall
 have dA : ae ⟨4, x2, x3, x4, x5, x6, x7, x8, x9⟩ = aj [x2] := by simp [ae, aj]
 rw [dA]
 clear hb hf dA hbuf dJ fu hsB
 generalize aj [x2] = L at *
 exact di
theorem qP (x2 x3 x4 x5 x6 : Int) (x7 : Bool) (x8 x9 : Int) (hf : bf ⟨5, x2, x3, x4, x5, x6, x7, x8, x9⟩) {v : Value} {l : List UInt8} {w : World} (hb : ∀ B, aC w B v l) (hl : l.length ≤ 100) : Calls Tryz.prog 73 #[v, .agg #[.int .i64 5, .int .i64 x2, .int .i64 x3, .int .i64 x4, .int .i64 x5, .int .i64 x6, .bool x7, .int .i64 x8, .int .i64 x9]] w fun e w' => ∃ v', e = .returned v' ∧ aC w' w.heap.size v' (l ++ ae ⟨5, x2, x3, x4, x5, x6, x7, x8, x9⟩) ∧ Below w.heap.size w w' := by
 obtain ⟨wB, aJ⟩ : ∃ wB, wB = w.alloc (.cells #[.int .i64 5, .int .i64 x2, .int .i64 x3, .int .i64 x4, .int .i64 x5, .int .i64 x6, .bool x7, .int .i64 x8, .int .i64 x9] 28) := ⟨_, rfl⟩
 have hsB : wB.heap.size = w.heap.size + 1 := by rw [aJ]; simp
 obtain ⟨wC, aK⟩ : ∃ wC, wC = wB.alloc (.cells #[.int .i64 x2] 2) := ⟨_, rfl⟩
 have fu : wC.heap.size = w.heap.size + 2 := by rw [aK]; simp [hsB]
 have hbC : Below w.heap.size w wC := by rw [aK, aJ]; exact ((Below.refl _ _).alloc (Nat.le_refl _) _).alloc (by simp) _
 have dJ : wC.heap[w.heap.size + 1]? = some (.cells #[.int .i64 x2] 2 (0, 0)) := by rw [aK, ← hsB]; exact heap_alloc_new wB _
 have hbuf : aC wC (w.heap.size + 2) v l := by rw [aK, aJ]; exact ((hb _).alloc _).alloc _
 have hall := dx [x2] (by intro z hz; simp at hz; subst hz; exact hf.id) (by simp) (w.heap.size + 1) 0 1 l v (w.heap.size + 2) wC hbuf (by omega) (by omega) (by omega) (fun j hj => by
  have nM : j < 1 := by simpa using hj
  obtain rfl : j = 0 := by omega
  simp [World.cell?, dJ])
 rw [aK, aJ] at hall
 have dA : ae ⟨5, x2, x3, x4, x5, x6, x7, x8, x9⟩ = aj [x2] := by simp [ae, aj]
 rw [dA]
 clear hb hf dA hbuf dJ fu hsB
 generalize aj [x2] = L at *
 exact di
theorem qQ (x2 x3 x4 x5 x6 : Int) (x7 : Bool) (x8 x9 : Int) (hf : bf ⟨6, x2, x3, x4, x5, x6, x7, x8, x9⟩) {v : Value} {l : List UInt8} {w : World} (hb : ∀ B, aC w B v l) (hl : l.length ≤ 100) : Calls Tryz.prog 73 #[v, .agg #[.int .i64 6, .int .i64 x2, .int .i64 x3, .int .i64 x4, .int .i64 x5, .int .i64 x6, .bool x7, .int .i64 x8, .int .i64 x9]] w fun e w' => ∃ v', e = .returned v' ∧ aC w' w.heap.size v' (l ++ ae ⟨6, x2, x3, x4, x5, x6, x7, x8, x9⟩) ∧ Below w.heap.size w w' := by
 obtain ⟨wB, aJ⟩ : ∃ wB, wB = w.alloc (.cells #[.int .i64 6, .int .i64 x2, .int .i64 x3, .int .i64 x4, .int .i64 x5, .int .i64 x6, .bool x7, .int .i64 x8, .int .i64 x9] 28) := ⟨_, rfl⟩
 have hsB : wB.heap.size = w.heap.size + 1 := by rw [aJ]; simp
 obtain ⟨wC, aK⟩ : ∃ wC, wC = wB.alloc (.cells #[.int .i64 x2] 2) := ⟨_, rfl⟩
 have fu : wC.heap.size = w.heap.size + 2 := by rw [aK]; simp [hsB]
 have hbC : Below w.heap.size w wC := by rw [aK, aJ]; exact ((Below.refl _ _).alloc (Nat.le_refl _) _).alloc (by simp) _
 have dJ : wC.heap[w.heap.size + 1]? = some (.cells #[.int .i64 x2] 2 (0, 0)) := by rw [aK, ← hsB]; exact heap_alloc_new wB _
 have hbuf : aC wC (w.heap.size + 2) v l := by rw [aK, aJ]; exact ((hb _).alloc _).alloc _
 have hall := dx [x2] (by intro z hz; simp at hz; subst hz; exact hf.id) (by simp) (w.heap.size + 1) 0 1 l v (w.heap.size + 2) wC hbuf (by omega) (by omega) (by omega) (fun j hj => by
  have nM : j < 1 := by simpa using hj
  obtain rfl : j = 0 := by omega
  simp [World.cell?, dJ])
 rw [aK, aJ] at hall
 have dA : ae ⟨6, x2, x3, x4, x5, x6, x7, x8, x9⟩ = aj [x2] := by simp [ae, aj]
 rw [dA]
 clear hb hf dA hbuf dJ fu hsB
 generalize aj [x2] = L at *
 exact di
theorem qR (x2 x3 x4 x5 x6 : Int) (x7 : Bool) (x8 x9 : Int) (hf : bf ⟨7, x2, x3, x4, x5, x6, x7, x8, x9⟩) {v : Value} {l : List UInt8} {w : World} (hb : ∀ B, aC w B v l) (hl : l.length ≤ 100) : Calls Tryz.prog 73 #[v, .agg #[.int .i64 7, .int .i64 x2, .int .i64 x3, .int .i64 x4, .int .i64 x5, .int .i64 x6, .bool x7, .int .i64 x8, .int .i64 x9]] w fun e w' => ∃ v', e = .returned v' ∧ aC w' w.heap.size v' (l ++ ae ⟨7, x2, x3, x4, x5, x6, x7, x8, x9⟩) ∧ Below w.heap.size w w' := by
 obtain ⟨wB, aJ⟩ : ∃ wB, wB = w.alloc (.cells #[.int .i64 7, .int .i64 x2, .int .i64 x3, .int .i64 x4, .int .i64 x5, .int .i64 x6, .bool x7, .int .i64 x8, .int .i64 x9] 28) := ⟨_, rfl⟩
 have hsB : wB.heap.size = w.heap.size + 1 := by rw [aJ]; simp
 obtain ⟨wC, aK⟩ : ∃ wC, wC = wB.alloc (.cells #[.int .i64 x8] 2) := ⟨_, rfl⟩
 have fu : wC.heap.size = w.heap.size + 2 := by rw [aK]; simp [hsB]
 have hbC : Below w.heap.size w wC := by rw [aK, aJ]; exact ((Below.refl _ _).alloc (Nat.le_refl _) _).alloc (by simp) _
 have dJ : wC.heap[w.heap.size + 1]? = some (.cells #[.int .i64 x8] 2 (0, 0)) := by rw [aK, ← hsB]; exact heap_alloc_new wB _
 have hbuf : aC wC (w.heap.size + 2) v l := by rw [aK, aJ]; exact ((hb _).alloc _).alloc _
 have hall := dx [x8] (by intro z hz; simp at hz; subst hz; exact hf.node) (by simp) (w.heap.size + 1) 0 1 l v (w.heap.size + 2) wC hbuf (by omega) (by omega) (by omega) (fun j hj => by
  have nM : j < 1 := by simpa using hj
  obtain rfl : j = 0 := by omega
  simp [World.cell?, dJ])
 rw [aK, aJ] at hall
 have dA : ae ⟨7, x2, x3, x4, x5, x6, x7, x8, x9⟩ = aj [x8] := by simp [ae, aj]
 rw [dA]
 clear hb hf dA hbuf dJ fu hsB
 generalize aj [x8] = L at *
 exact di
theorem qU (x2 x3 x4 x5 x6 : Int) (x7 : Bool) (x8 x9 : Int) (hf : bf ⟨8, x2, x3, x4, x5, x6, x7, x8, x9⟩) {v : Value} {l : List UInt8} {w : World} (hb : ∀ B, aC w B v l) (hl : l.length ≤ 100) : Calls Tryz.prog 73 #[v, .agg #[.int .i64 8, .int .i64 x2, .int .i64 x3, .int .i64 x4, .int .i64 x5, .int .i64 x6, .bool x7, .int .i64 x8, .int .i64 x9]] w fun e w' => ∃ v', e = .returned v' ∧ aC w' w.heap.size v' (l ++ ae ⟨8, x2, x3, x4, x5, x6, x7, x8, x9⟩) ∧ Below w.heap.size w w' := by
 obtain ⟨wB, aJ⟩ : ∃ wB, wB = w.alloc (.cells #[.int .i64 8, .int .i64 x2, .int .i64 x3, .int .i64 x4, .int .i64 x5, .int .i64 x6, .bool x7, .int .i64 x8, .int .i64 x9] 28) := ⟨_, rfl⟩
 have hsB : wB.heap.size = w.heap.size + 1 := by rw [aJ]; simp
 obtain ⟨wC, aK⟩ : ∃ wC, wC = wB.alloc (.cells #[.int .i64 x8] 2) := ⟨_, rfl⟩
 have fu : wC.heap.size = w.heap.size + 2 := by rw [aK]; simp [hsB]
 have hbC : Below w.heap.size w wC := by rw [aK, aJ]; exact ((Below.refl _ _).alloc (Nat.le_refl _) _).alloc (by simp) _
 have dJ : wC.heap[w.heap.size + 1]? = some (.cells #[.int .i64 x8] 2 (0, 0)) := by rw [aK, ← hsB]; exact heap_alloc_new wB _
 have hbuf : aC wC (w.heap.size + 2) v l := by rw [aK, aJ]; exact ((hb _).alloc _).alloc _
 have hall := dx [x8] (by intro z hz; simp at hz; subst hz; exact hf.node) (by simp) (w.heap.size + 1) 0 1 l v (w.heap.size + 2) wC hbuf (by omega) (by omega) (by omega) (fun j hj => by
  have nM : j < 1 := by simpa using hj
  obtain rfl : j = 0 := by omega
  simp [World.cell?, dJ])
 rw [aK, aJ] at hall
 have dA : ae ⟨8, x2, x3, x4, x5, x6, x7, x8, x9⟩ = aj [x8] := by simp [ae, aj]
 rw [dA]
 clear hb hf dA hbuf dJ fu hsB
 generalize aj [x8] = L at *
 exact di
theorem qV (x2 x3 x4 x5 x6 : Int) (x7 : Bool) (x8 x9 : Int) (hf : bf ⟨9, x2, x3, x4, x5, x6, x7, x8, x9⟩) {v : Value} {l : List UInt8} {w : World} (hb : ∀ B, aC w B v l) (hl : l.length ≤ 100) : Calls Tryz.prog 73 #[v, .agg #[.int .i64 9, .int .i64 x2, .int .i64 x3, .int .i64 x4, .int .i64 x5, .int .i64 x6, .bool x7, .int .i64 x8, .int .i64 x9]] w fun e w' => ∃ v', e = .returned v' ∧ aC w' w.heap.size v' (l ++ ae ⟨9, x2, x3, x4, x5, x6, x7, x8, x9⟩) ∧ Below w.heap.size w w' := by
 obtain ⟨wB, aJ⟩ : ∃ wB, wB = w.alloc (.cells #[.int .i64 9, .int .i64 x2, .int .i64 x3, .int .i64 x4, .int .i64 x5, .int .i64 x6, .bool x7, .int .i64 x8, .int .i64 x9] 28) := ⟨_, rfl⟩
 have hsB : wB.heap.size = w.heap.size + 1 := by rw [aJ]; simp
 obtain ⟨wC, aK⟩ : ∃ wC, wC = wB.alloc (.cells #[.int .i64 x9] 2) := ⟨_, rfl⟩
 have fu : wC.heap.size = w.heap.size + 2 := by rw [aK]; simp [hsB]
 have hbC : Below w.heap.size w wC := by rw [aK, aJ]; exact ((Below.refl _ _).alloc (Nat.le_refl _) _).alloc (by simp) _
 have dJ : wC.heap[w.heap.size + 1]? = some (.cells #[.int .i64 x9] 2 (0, 0)) := by rw [aK, ← hsB]; exact heap_alloc_new wB _
 have hbuf : aC wC (w.heap.size + 2) v l := by rw [aK, aJ]; exact ((hb _).alloc _).alloc _
 have hall := dx [x9] (by intro z hz; simp at hz; subst hz; exact hf.till) (by simp) (w.heap.size + 1) 0 1 l v (w.heap.size + 2) wC hbuf (by omega) (by omega) (by omega) (fun j hj => by
  have nM : j < 1 := by simpa using hj
  obtain rfl : j = 0 := by omega
  simp [World.cell?, dJ])
 rw [aK, aJ] at hall
 have dA : ae ⟨9, x2, x3, x4, x5, x6, x7, x8, x9⟩ = aj [x9] := by simp [ae, aj]
 rw [dA]
 clear hb hf dA hbuf dJ fu hsB
 generalize aj [x9] = L at *
 exact di
theorem qW (x2 x3 x4 x5 x6 : Int) (x7 : Bool) (x8 x9 : Int) (hf : bf ⟨1, x2, x3, x4, x5, x6, x7, x8, x9⟩) {v : Value} {l : List UInt8} {w : World} (hb : ∀ B, aC w B v l) (hl : l.length ≤ 100) : Calls Tryz.prog 73 #[v, .agg #[.int .i64 1, .int .i64 x2, .int .i64 x3, .int .i64 x4, .int .i64 x5, .int .i64 x6, .bool x7, .int .i64 x8, .int .i64 x9]] w fun e w' => ∃ v', e = .returned v' ∧ aC w' w.heap.size v' (l ++ ae ⟨1, x2, x3, x4, x5, x6, x7, x8, x9⟩) ∧ Below w.heap.size w w' := by
 obtain ⟨wB, aJ⟩ : ∃ wB, wB = w.alloc (.cells #[.int .i64 1, .int .i64 x2, .int .i64 x3, .int .i64 x4, .int .i64 x5, .int .i64 x6, .bool x7, .int .i64 x8, .int .i64 x9] 28) := ⟨_, rfl⟩
 have hsB : wB.heap.size = w.heap.size + 1 := by rw [aJ]; simp
 have hB : wB.heap[w.heap.size]? = some (.cells #[.int .i64 1, .int .i64 x2, .int .i64 x3, .int .i64 x4, .int .i64 x5, .int .i64 x6, .bool x7, .int .i64 x8, .int .i64 x9] 28 (0, 0)) := by rw [aJ]; exact heap_alloc_new w _
 obtain ⟨wC, aK⟩ : ∃ wC, wC = wB.alloc (.cells #[.int .i64 x3, .int .i64 x4, .int .i64 x5, .int .i64 x6] 2) := ⟨_, rfl⟩
 have fu : wC.heap.size = w.heap.size + 2 := by rw [aK]; simp [hsB]
 have hbC : Below w.heap.size w wC := by rw [aK, aJ]; exact ((Below.refl _ _).alloc (Nat.le_refl _) _).alloc (by simp) _
 have dJ : wC.heap[w.heap.size + 1]? = some (.cells #[.int .i64 x3, .int .i64 x4, .int .i64 x5, .int .i64 x6] 2 (0, 0)) := by rw [aK, ← hsB]; exact heap_alloc_new wB _
 have yF : wC.heap[w.heap.size]? = some (.cells #[.int .i64 1, .int .i64 x2, .int .i64 x3, .int .i64 x4, .int .i64 x5, .int .i64 x6, .bool x7, .int .i64 x8, .int .i64 x9] 28 (0, 0)) := by rw [aK]; exact cO hB
 have hbuf : aC wC (w.heap.size + 2) v l := by rw [aK, aJ]; exact ((hb _).alloc _).alloc _
 have hall := dx [x3, x4, x5, x6] (by intro z hz; simp at hz; rcases hz with rfl | rfl | rfl | rfl <;> first | exact hf.user | exact hf.width | exact hf.limit | exact hf.prio) (by simp) (w.heap.size + 1) 0 4 l v (w.heap.size + 2) wC hbuf (by omega) (by omega) (by omega) (fun j hj => by
  have nM : j < 4 := by simpa using hj
  rcases (show j = 0 ∨ j = 1 ∨ j = 2 ∨ j = 3 by omega) with rfl | rfl | rfl | rfl <;> simp [World.cell?, dJ])
 rw [aK, aJ] at hall
 have vZ : ∀ W, Below (w.heap.size + 2) wC W → W.cell? ⟨w.heap.size, 6, none⟩ = some (.bool x7) := fun W hW => by simp [World.cell?, (hW.block w.heap.size (by omega)).trans yF]
 have dA : l ++ ae ⟨1, x2, x3, x4, x5, x6, x7, x8, x9⟩ = (l ++ aj [x3, x4, x5, x6]) ++ [if x7 then 1 else 0] := by simp [ae]
 have hL0 : (l ++ aj [x3, x4, x5, x6]).length ≤ 1000 := by
  have := dW [x3, x4, x5, x6]
  simp only [List.length_append, List.length_cons, List.length_nil] at *
  omega
 rw [dA]
 clear hb hf dA hbuf dJ hB yF hsB
 generalize l ++ aj [x3, x4, x5, x6] = L at *
 obtain ⟨M, hM⟩ : ∃ M, M = L ++ [if x7 then (1 : UInt8) else 0] := ⟨_, rfl⟩
 rw [← hM]
 replace hM := Lib.hid hM
 replace vZ := Lib.hid vZ
 go_enter Tryz.func73, Tryz.ntmps73
 go_wp2_with fail
 go_at_call 112
 refine hall.mono ?_
 clear hall
 rintro e wD ⟨vD, rfl, hbD, _, hD⟩
 rw [← aJ, ← aK] at hD
 have hx7 := vZ.out wD hD
 have hbd := hbC.trans (hD.mono (by omega))
 have xL := hD.size
 rw [fu] at xL
 have oV := qw x7 L vD (w.heap.size + 2) wD hbD (by omega) xL
 rw [← hM.out] at oV
 replace aJ := Lib.hid aJ
 replace aK := Lib.hid aK
 clear vZ hD hbD hbC fu
 go_wp2_with fail
 go_at_call 113
 refine oV.mono ?_
 clear oV
 rintro e w1 ⟨v1, rfl, hown, hE⟩
 have hb1 : Hid (Below w.heap.size w w1) := hbd.trans (hE.mono (by omega))
 replace hown := Lib.hid hown
 clear hE hbd hx7 xL
 go_wp2_with fail
 go_ret
 exact ⟨v1, rfl, aC.mono (B := w.heap.size + 2) hown.out.buf (by omega), hb1.out⟩
theorem oW (x1 : Int) (x2 x3 x4 x5 x6 : Int) (x7 : Bool) (x8 x9 : Int) (hf : bf ⟨x1, x2, x3, x4, x5, x6, x7, x8, x9⟩) (h1 : x1 ≠ 1) (h2 : x1 ≠ 2) (h3 : x1 ≠ 3) (h4 : x1 ≠ 4) (h5 : x1 ≠ 5) (h6 : x1 ≠ 6) (h7 : x1 ≠ 7) (h8 : x1 ≠ 8) (h9 : x1 ≠ 9) {v : Value} {l : List UInt8} {w : World} (hb : ∀ B, aC w B v l) (hl : l.length ≤ 100) : Calls Tryz.prog 73 #[v, .agg #[.int .i64 x1, .int .i64 x2, .int .i64 x3, .int .i64 x4, .int .i64 x5, .int .i64 x6, .bool x7, .int .i64 x8, .int .i64 x9]] w fun e w' => ∃ v', e = .returned v' ∧ aC w' w.heap.size v' (l ++ ae ⟨x1, x2, x3, x4, x5, x6, x7, x8, x9⟩) ∧ Below w.heap.size w w' := by
 have t1 : (x1 == 1) = false := beq_eq_false_iff_ne.2 h1
 have t2 : (x1 == 2) = false := beq_eq_false_iff_ne.2 h2
 have t3 : (x1 == 3) = false := beq_eq_false_iff_ne.2 h3
 have t4 : (x1 == 4) = false := beq_eq_false_iff_ne.2 h4
 have t5 : (x1 == 5) = false := beq_eq_false_iff_ne.2 h5
 have t6 : (x1 == 6) = false := beq_eq_false_iff_ne.2 h6
 have t7 : (x1 == 7) = false := beq_eq_false_iff_ne.2 h7
 have t8 : (x1 == 8) = false := beq_eq_false_iff_ne.2 h8
 have t9 : (x1 == 9) = false := beq_eq_false_iff_ne.2 h9
 have dA : l ++ ae ⟨x1, x2, x3, x4, x5, x6, x7, x8, x9⟩ = l := by simp [ae, h1, h2, h3, h4, h5, h6, h7, h8, h9]
 rw [dA]
 clear dA hf h1 h2 h3 h4 h5 h6 h7 h8 h9
 replace hb := Lib.hid hb
 go_enter Tryz.func73, Tryz.ntmps73
 go_wp2_with fail
 go_ret
 exact ⟨v, rfl, (hb.out _).alloc _, (Below.refl _ _).alloc (Nat.le_refl _) _⟩
theorem oZ {r : Rq} (hf : bf r) {v : Value} {l : List UInt8} {w : World} (hb : ∀ B, aC w B v l) (hl : l.length ≤ 100) : Calls Tryz.prog 73 #[v, .agg (encR r).toArray] w fun e w' => ∃ v', e = .returned v' ∧ aC w' w.heap.size v' (l ++ ae r) ∧ Below w.heap.size w w' := by
 obtain ⟨x1, x2, x3, x4, x5, x6, x7, x8, x9⟩ := r
 by_cases h1 : x1 = 1
 ·subst h1
  exact qW x2 x3 x4 x5 x6 x7 x8 x9 hf hb hl
 by_cases h2 : x1 = 2
 ·subst h2
  exact qM x2 x3 x4 x5 x6 x7 x8 x9 hf hb hl
 by_cases h3 : x1 = 3
 ·subst h3
  exact qN x2 x3 x4 x5 x6 x7 x8 x9 hf hb hl
 by_cases h4 : x1 = 4
 ·subst h4
  exact qO x2 x3 x4 x5 x6 x7 x8 x9 hf hb hl
 by_cases h5 : x1 = 5
 ·subst h5
  exact qP x2 x3 x4 x5 x6 x7 x8 x9 hf hb hl
 by_cases h6 : x1 = 6
 ·subst h6
  exact qQ x2 x3 x4 x5 x6 x7 x8 x9 hf hb hl
 by_cases h7 : x1 = 7
 ·subst h7
  exact qR x2 x3 x4 x5 x6 x7 x8 x9 hf hb hl
 by_cases h8 : x1 = 8
 ·subst h8
  exact qU x2 x3 x4 x5 x6 x7 x8 x9 hf hb hl
 by_cases h9 : x1 = 9
 ·subst h9
  exact qV x2 x3 x4 x5 x6 x7 x8 x9 hf hb hl
 exact oW x1 x2 x3 x4 x5 x6 x7 x8 x9 hf h1 h2 h3 h4 h5 h6 h7 h8 h9 hb hl
end Go.Proofs.YtbdfpbknckghgaaGreat

namespace Go.Proofs.YtbdfpbknckghgaaGreat
open Go.RowKit
def af : Rq := ⟨0, 0, 0, 0, 0, 0, false, 0, 0⟩
def iR (l : List UInt8) (x : Rq) (q : Int) : Prop :=
 (64 < l.length ∧ x = af ∧ q = 3) ∨ (l.length < 3 ∧ x = af ∧ q = 2) ∨
 (3 ≤ l.length ∧ l.length ≤ 64 ∧ ((bf x ∧ aW x = true ∧ dZ x = l ∧ q = 0) ∨ ((∀ r, bf r → aW r = true → dZ r ≠ l) ∧ x = af ∧ q = 4)))
end Go.Proofs.YtbdfpbknckghgaaGreat

namespace Go.Proofs.YtbdfpbknckghgaaGreat
open Go.RowKit
theorem aC.read {w : World} {B : Nat} {v : Value} {l : List UInt8} (h : aC w B v l) (hp : 0 < l.length) : bz w v l := by
 rcases h with h | ⟨⟨b, off, sp⟩, rfl, h1, h2⟩
 ·exact dC.read h
 ·have h0 := h2 0 (.int .u8 ((l[0]'hp).toNat : Int)) (by simp [bv, hp])
  have hsp : sp = Option.none := by simpa [Addr.add] using World.cell?_spot h0
  subst hsp
  refine .inr ⟨b, off, _, rfl, fun i hi => ?_⟩
  have h3 := h2 i (.int .u8 ((l[i]'hi).toNat : Int)) (by simp [bv, hi])
  rw [Go.WideShapes.add_plain] at h3
  rw [h3]
  simp [List.getD, hi]
theorem wh (r : Rq) (w : World) (hr : aW r = false) : Calls Tryz.prog 36 #[.agg (encR r).toArray] w fun e w' => e = .returned (.tuple #[.slice none 0 0, .int .i64 1]) ∧ Below w.heap.size w w' := by
 have zR := bD
 have lR := aB r
 obtain ⟨k9, aF⟩ : ∃ k, k = 9 := ⟨_, rfl⟩
 rw [← aF] at zR lR
 replace aF := Lib.hid aF
 obtain ⟨wA, ag⟩ : ∃ wA, wA = w.alloc (.cells (encR r).toArray 28) := ⟨_, rfl⟩
 have hb1 : Hid (Below w.heap.size w wA) := by show Below _ _ _; rw [ag]; exact (Below.refl _ _).alloc (Nat.le_refl _) _
 have aU : wA.heap[w.heap.size]? = some (.cells (encR r).toArray 28 (0, 0)) := by rw [ag]; exact heap_alloc_new w _
 have hld := aH (k := k9) aU lR
 rw [ag] at hld
 have hrt := ic r wA
 rw [hr, ag] at hrt
 clear aU
 go_enter Tryz.func36, Tryz.ntmps36
 go_wp2_with fail
 go_at_call 72
 refine hrt.mono ?_
 clear hrt
 rintro e w1 ⟨rfl, hb2⟩
 rw [← ag] at hb2
 replace ag := Lib.hid ag
 have hb3 : Hid (Below w.heap.size w w1) := hb1.out.trans (hb2.mono hb1.out.size)
 clear hb2
 go_wp2_with fail
 go_ret2
 exact ⟨rfl, hb3.out⟩
theorem pR (r : Rq) (w : World) (hf : bf r) (hr : aW r = true) : Calls Tryz.prog 36 #[.agg (encR r).toArray] w fun e w' => ∃ v, e = .returned (.tuple #[v, .int .i64 0]) ∧ au dz 1 w' v (dZ r) ∧ Below w.heap.size w w' := by
 obtain ⟨i0, hi, hz0, hz1, hz2⟩ := info_parts ou
 obtain ⟨n, hn⟩ : ∃ n : Nat, r.kind = (n : Int) ∧ n ≤ 13 := ⟨r.kind.toNat, by have := hr; unfold aW at this; simp at this; omega⟩
 have zR := bD
 have lR := aB r
 obtain ⟨k9, aF⟩ : ∃ k, k = 9 := ⟨_, rfl⟩
 rw [← aF] at zR lR
 replace aF := Lib.hid aF
 obtain ⟨wA, ag⟩ : ∃ wA, wA = w.alloc (.cells (encR r).toArray 28) := ⟨_, rfl⟩
 have hsA : wA.heap.size = w.heap.size + 1 := by rw [ag]; simp
 have hb1 : Hid (Below w.heap.size w wA) := by show Below _ _ _; rw [ag]; exact (Below.refl _ _).alloc (Nat.le_refl _) _
 have aU : wA.heap[w.heap.size]? = some (.cells (encR r).toArray 28 (0, 0)) := by rw [ag]; exact heap_alloc_new w _
 have hld := aH (k := k9) aU lR
 rw [ag] at hld
 have hrt := ic r wA
 rw [hr, ag] at hrt
 have hbq : bC r = [bM 183, bM n] ++ ae r := by unfold bC; rw [hn.1]; rfl
 have hel : dZ r = bC r ++ [bM (jT (bC r))] := rfl
 rw [hel]
 clear hel
 have hlb : (bC r).length ≤ 100 := by
  have := fq r
  rw [hbq, List.length_append]
  simp only [List.length_cons, List.length_nil]
  omega
 have hlp : 0 < (bC r).length := by rw [hbq, List.length_append]; simp only [List.length_cons, List.length_nil]; omega
 have hck : jT (bC r) < 256 := mo _ _
 have hby := jN hck
 have hsm := fun (W : World) (B : Nat) (v : Value) (h : aC W B v (bC r)) => vY (h.read hlp) (by omega)
 generalize jT (bC r) = s at *
 generalize bC r = L at *
 have hwr : IntKind.u8.wrap (n : Int) = (n : Int) := by rw [IntKind.wrap_u8']; omega
 have hcs : #[Value.int .u8 183, .int .u8 (n : Int)] = (bv [bM 183, bM n]).toArray := by simp [bv, jN, jN (show n < 256 by omega)]
 have hkd : (encR r)[0]? = some (.int .i64 (n : Int)) := by rw [← hn.1]; rfl
 clear hn
 replace aU := Lib.hid aU
 replace hr := Lib.hid hr
 replace hf := Lib.hid hf
 replace hcs := Lib.hid hcs
 replace hlb := Lib.hid hlb
 replace hlp := Lib.hid hlp
 replace hbq := Lib.hid hbq
 replace hby := Lib.hid hby
 go_enter Tryz.func36, Tryz.ntmps36
 go_wp2_with fail
 go_at_call 72
 refine hrt.mono ?_
 clear hrt hld
 rintro e w1 ⟨rfl, hb2⟩
 rw [← ag] at hb2
 replace ag := Lib.hid ag
 have hR2 : w1.heap[w.heap.size]? = some (.cells (encR r).toArray 28 (0, 0)) := (hb2.block _ (by omega)).trans aU.out
 have hb3 : Hid (Below w.heap.size w w1) := hb1.out.trans (hb2.mono hb1.out.size)
 have hs1 : w.heap.size < w1.heap.size := by have := hb2.size; omega
 clear hb2 hb1
 have hc0 := ay hR2 0 _ hkd
 obtain ⟨wB, aJ⟩ : ∃ wB, wB = w1.alloc (.cells #[.int .u8 183, .int .u8 (n : Int)] 5) := ⟨_, rfl⟩
 have aO : wB.heap[w.heap.size]? = some (.cells (encR r).toArray 28 (0, 0)) := by rw [aJ]; exact cO hR2
 have hld := aH (k := k9) aO lR
 have xM : Hid (Below w.heap.size w wB) := by show Below _ _ _; rw [aJ]; exact hb3.out.alloc (by omega) _
 have yG : wB.heap[w1.heap.size]? = some (.cells #[.int .u8 183, .int .u8 (n : Int)] 5 (0, 0)) := by rw [aJ]; exact heap_alloc_new w1 _
 have hfl := oZ hf.out (v := .slice (some ⟨w1.heap.size, 0, none⟩) 2 2) (l := [bM 183, bM n]) (w := wB) (fun B => uG yG hcs.out) (by simp)
 rw [← hbq.out] at hfl
 rw [aJ] at hfl hld
 clear yG aO hR2
 go_wp2_with fail
 go_at_call 73
 refine hfl.mono ?_
 clear hfl hld hc0
 rintro e w2 ⟨v2, rfl, hB2, hE2⟩
 rw [← aJ] at hB2 hE2
 replace aJ := Lib.hid aJ
 have hs2 := hE2.size
 have zV : Hid (Below w.heap.size w w2) := xM.out.trans (hE2.mono xM.out.size)
 have hsum := hsm w2 wB.heap.size v2 hB2
 have hw2 : w.heap.size < w2.heap.size := by
  have h4 : wB.heap.size = w1.heap.size + 1 := by rw [aJ.out]; simp
  omega
 have Am : wB.heap.size ≤ w2.heap.size := hs2
 clear hE2 hs2 hsm hs1 hb3
 obtain ⟨w3, hw3⟩ : ∃ w3, w3 = w2.alloc (.cells #[.int .u8 (s : Int)] 5) := ⟨_, rfl⟩
 have yH : Hid (Below w.heap.size w w3) := by show Below _ _ _; rw [hw3]; exact zV.out.alloc (by omega) _
 have hs3 : w3.heap.size = w2.heap.size + 1 := by rw [hw3]; simp
 have uH : aC w3 wB.heap.size v2 L := by rw [hw3]; exact hB2.alloc _
 have hc3 : ∀ j u, [Value.int .u8 (((bM s).toNat : Nat) : Int)][j]? = some u → w3.cell? ((⟨w2.heap.size, 0, none⟩ : Addr).add j) = some u := by rw [hw3, hby.out]; exact cell_one_new _ _ _
 have wS : wB.heap.size ≤ w3.heap.size := by omega
 have hll := hlb.out
 rw [hw3] at uH hc3 wS
 clear hs3 hB2
 go_wp2_with (first | (go_at_call 74; go_must (refine hsum.mono ?_); rintro e w' ⟨rfl, rfl⟩) | (at_builtin; go_must (refine bn _ rfl (.tmp 14) (.tmp 17) 22 rfl wB.heap.size 5 i0 (.int .u8 0) 1 1 Tryz.underlying22 hi hz0 hz1 hz2 rfl (by decide) v2 L.length (bv L) rfl uH ⟨w2.heap.size, 0, none⟩ 1 1 [.int .u8 (((bM s).toNat : Nat) : Int)] rfl rfl hc3 ?d1 (by omega) ?d2 ?d3 ?d4 ?d5)))
 case d5 =>
  intro v' w4 hown1 hb4
  rw [← hw3] at hb4
  have yI : Hid (dC w4 wB.heap.size v' (L ++ [bM s])) := by
   show w4.ownsRow _ _ _ _ _ _
   exact iI
  have hfin : Hid (Below w.heap.size w w4) := yH.out.trans (hb4.mono (by have := xM.out.size; omega))
  clear hown1 hb4
  go_wp2
  go_ret2
  exact ⟨v', rfl, yI.out.row, hfin.out⟩
 case d1 => simp [Value.oneCell']
 case d2 => unfold maxLen; omega
 case d3 => omega
 case d4 => exact wS
end Go.Proofs.YtbdfpbknckghgaaGreat

namespace Go.Proofs.YtbdfpbknckghgaaGreat
open Go.RowKit Go.Lib Go.Sort
section
variable {w : World}
theorem qX (n : Nat) (w : World) (h1 : 1 ≤ n) (h2 : n ≤ 64) : Calls Tryz.prog 8 #[.int .i64 n] w fun e w' => ∃ (q k t d p : Nat) (v : Value) (g lg s mp : Nat), e = .returned (.tuple #[.pointer (some ⟨q, 0, none⟩), .int .i64 0]) ∧
 aI w' q ⟨k, lg, s, 0, .slice none 0 0, .map (some mp)⟩ ∧ uq w w' k t d p v g 1 0 (lQ (dh n)) ∧ (∀ b, iH k t d p v g b → b < lg) ∧ LG lg w' lg 0 (.slice none 0 0) [] ∧ az 94 w' s ⟨0, 0, 0, 0⟩ ∧ w'.heap[mp]? = some (.map #[] 0) ∧ lg < s ∧ s < mp ∧ mp < q ∧ w.heap.size ≤ lg ∧ Below w.heap.size w w' := by
 have hc := uu n w h1 h2
 go_enter Tryz.func8, Tryz.ntmps8
 go_wp2_with fail
 go_at_call 34
 refine hc.mono ?_
 clear hc
 rintro e w1 ⟨k, t, d, p, v, g, rfl, gI, hb1⟩
 obtain ⟨w2, hw2⟩ : ∃ w2, w2 = w1.alloc (.cells #[.int .i64 0, .slice none 0 0] 91) := ⟨_, rfl⟩
 obtain ⟨w3, hw3⟩ : ∃ w3, w3 = w2.alloc (.cells #[.int .i64 0, .int .i64 0, .int .i64 0, .int .i64 0] 94) := ⟨_, rfl⟩
 obtain ⟨w4, hw4⟩ : ∃ w4, w4 = w3.alloc (.map #[] 0) := ⟨_, rfl⟩
 obtain ⟨w5, aS⟩ : ∃ w5, w5 = w4.alloc (.cells #[.pointer (some ⟨k, 0, none⟩), .pointer (some ⟨w1.heap.size, 0, none⟩), .pointer (some ⟨w2.heap.size, 0, none⟩), .int .i64 0, .slice none 0 0, .map (some w3.heap.size)] 41) := ⟨_, rfl⟩
 have b2 : Below w1.heap.size w1 w2 := by rw [hw2]; exact (Below.refl _ _).alloc (Nat.le_refl _) _
 have b3 : Below w2.heap.size w2 w3 := by rw [hw3]; exact (Below.refl _ _).alloc (Nat.le_refl _) _
 have b4 : Below w3.heap.size w3 w4 := by rw [hw4]; exact (Below.refl _ _).alloc (Nat.le_refl _) _
 have b5 : Below w4.heap.size w4 w5 := by rw [aS]; exact (Below.refl _ _).alloc (Nat.le_refl _) _
 have s2 : w2.heap.size = w1.heap.size + 1 := by rw [hw2]; simp
 have s3 : w3.heap.size = w2.heap.size + 1 := by rw [hw3]; simp
 have s4 : w4.heap.size = w3.heap.size + 1 := by rw [hw4]; simp
 have o2 : w2.heap[w1.heap.size]? = some (.cells #[.int .i64 0, .slice none 0 0] 91 (0, 0)) := by rw [hw2]; exact heap_alloc_new w1 _
 have o3 : w3.heap[w2.heap.size]? = some (.cells #[.int .i64 0, .int .i64 0, .int .i64 0, .int .i64 0] 94 (0, 0)) := by rw [hw3]; exact heap_alloc_new w2 _
 have o4 : w4.heap[w3.heap.size]? = some (.map #[] 0) := by rw [hw4]; exact heap_alloc_new w3 _
 have o5 : w5.heap[w4.heap.size]? = some (.cells #[.pointer (some ⟨k, 0, none⟩), .pointer (some ⟨w1.heap.size, 0, none⟩), .pointer (some ⟨w2.heap.size, 0, none⟩), .int .i64 0, .slice none 0 0, .map (some w3.heap.size)] 41 (0, 0)) := by rw [aS]; exact heap_alloc_new w4 _
 have xN : Below w2.heap.size w2 w5 := b3.trans ((b4.trans (b5.mono b4.size)).mono b3.size)
 have yJ : Below w3.heap.size w3 w5 := b4.trans (b5.mono b4.size)
 have b15 : Below w1.heap.size w1 w5 := b2.trans (xN.mono b2.size)
 have fin : Hid (aI w5 w4.heap.size ⟨k, w1.heap.size, w2.heap.size, 0, .slice none 0 0, .map (some w3.heap.size)⟩ ∧ uq w w5 k t d p v g 1 0 (lQ (dh n)) ∧ (∀ b, iH k t d p v g b → b < w1.heap.size) ∧ LG w1.heap.size w5 w1.heap.size 0 (.slice none 0 0) [] ∧ az 94 w5 w2.heap.size ⟨0, 0, 0, 0⟩ ∧ w5.heap[w3.heap.size]? = some (.map #[] 0) ∧ w1.heap.size < w2.heap.size ∧ w2.heap.size < w3.heap.size ∧ w3.heap.size < w4.heap.size ∧ w.heap.size ≤ w1.heap.size ∧ Below w.heap.size w w5) :=
  ⟨o5, ⟨gI.cw.kept b15, gI.lo⟩, fun b hb => gI.cw.lt hb, ⟨(xN.block _ (by omega)).trans o2, ⟨rfl, .inl ⟨rfl, rfl⟩⟩, Nat.le_refl _⟩, (yJ.block _ (by omega)).trans o3, (b5.block _ (by omega)).trans o4, by omega, by omega, by omega, hb1.size, hb1.trans (b15.mono hb1.size)⟩
 clear b2 b3 b4 b5 o2 o3 o4 o5 xN yJ b15 gI hb1
 rw [s3, s2] at aS
 rw [s4, s3, s2] at fin
 rw [aS, hw4, hw3, hw2] at fin
 clear s2 s3 s4 aS hw4 hw3 hw2
 have hmk : ∀ (T : TypeId) (W : World), Sem.run Tryz.prog (Instr.makeMap T none) W = .ok (.map (some W.heap.size)) (W.alloc (.map #[] 0)) := fun T W => run_makeMap T W
 go_wp2_with fail
 go_ret2
 exact ⟨_, k, t, d, p, v, g, _, _, _, rfl, fin.out⟩
theorem iY (r : Rq) (w : World) (hf : bf r) (hr : aW (ah r) = true) (hfc : bf (ah r)) : Calls Tryz.prog 44 #[.agg (encR r).toArray] w fun e w' => ∃ v, e = .returned v ∧ au dz 1 w' v (dZ (ah r)) ∧ Below w.heap.size w w' := by
 have zR := bD
 have lR := aB r
 obtain ⟨k9, aF⟩ : ∃ k, k = 9 := ⟨_, rfl⟩
 rw [← aF] at zR lR
 have hk0 : ¬ k9 = 0 := by omega
 replace aF := Lib.hid aF
 obtain ⟨wA, ag⟩ : ∃ wA, wA = w.alloc (.cells (encR r).toArray 28) := ⟨_, rfl⟩
 have bF : Hid (Below w.heap.size w wA) := by show Below _ _ _; rw [ag]; exact (Below.refl _ _).alloc (Nat.le_refl _) _
 have nK : wA.heap[w.heap.size]? = some (.cells (encR r).toArray 28 (0, 0)) := by rw [ag]; exact heap_alloc_new w _
 have ld := iL nK lR
 have hcl := fO r wA
 have hp := fun W => pR (ah r) W hfc hr
 generalize encR (ah r) = cC at *
 generalize encR r = cR at *
 rw [ag] at ld hcl
 replace hp := Lib.hid hp
 clear nK
 go_enter Tryz.func44, Tryz.ntmps44
 go_wp2_with fail
 rw [← ag] at hcl ⊢
 replace ag := Lib.hid ag
 go_at_call 79
 refine hcl.mono ?_
 clear hcl ld
 rintro e w1 ⟨rfl, hb1⟩
 have hq := hp.out w1
 have iZ : Hid (Below w.heap.size w w1) := bF.out.trans (hb1.mono bF.out.size)
 clear hb1
 go_wp2_with fail
 go_at_call 36
 refine hq.mono ?_
 clear hq
 rintro e w2 ⟨v, rfl, hv, hb2⟩
 have fH : Hid (Below w.heap.size w w2) := iZ.out.trans (hb2.mono iZ.out.size)
 replace hv := Lib.hid hv
 clear hb2
 go_wp2_with fail
 go_ret
 exact ⟨_, rfl, hv.out, fH.out⟩
end
end Go.Proofs.YtbdfpbknckghgaaGreat

namespace Go.Proofs.YtbdfpbknckghgaaGreat
open Go.RowKit Go.Lib Go.Sort
def aP (x : Nat × Int) : List Value := [.iface 105 (.agg #[.pointer (some ⟨x.1, 0, none⟩)]), .int .i64 x.2]
theorem gJ (x : Nat × Int) : (aP x).length = 2 := rfl
theorem wm : (Tryz.prog.info? 109).map (fun i => (i.zero, i.size, i.bytes)) = some (some (.agg #[.nilIface, .int .i64 0]), 2, 24) := by kernel_rfl
def mD (id : Int) (r : Rq) : Ev := ⟨0, 1, id, r.kind, r.id, r.user, r.width, r.limit, r.prio, r.held, r.node, r.till, 0, 0, 0, 0, 0, 0, 0, 0, 0, 0, 0, false⟩
def yK (c lg : Nat) (v u : Value) (k : Nat) : Prop := k = c ∨ k = lg ∨ v.ownBlock = some k ∨ u.ownBlock = some k
theorem dE {w : World} {B k : Nat} {v : Value} {T U : TypeId} {sz n : Nat} {xs : List Value} {cs : Array Value} {f : Nat × Nat} (h : w.ownsRow B T sz v n xs) (hs : w.heap[k]? = some (.cells cs U f)) (hT : U ≠ T) : v.ownBlock ≠ some k := by
 exact kR
theorem o7 {W : World} {g : Nat} {cs : List Value} {T : TypeId} {f : Nat × Nat} (h : W.heap[g]? = some (.cells cs.toArray T f)) (j : Nat) (u : Value) (hj : cs[j]? = some u) : W.cell? ⟨g, j, none⟩ = some u := by simp [World.cell?, h, hj]
theorem ik {w : World} {base : Nat} {e : TypeId} {sz n k : Nat} {v : Value} {xs : List Value} (h : w.ownsRow base e sz v n xs) (hk : v.ownBlock = some k) : ∃ cur, w.heap[k]? = some (.cells cur e (0, 0)) := by
 rcases h.2 with ⟨e0, _⟩ | ⟨g', cap', cur, e0, _, hg, _⟩
 ·rw [e0] at hk; simp [Value.ownBlock] at hk
 ·rw [e0] at hk
  simp [Value.ownBlock] at hk
  subst hk
  exact ⟨cur, hg⟩
theorem uI {W : World} {g : Nat} {x : Ev} (h : W.heap[g]? = some (.cells (aA x).toArray 50 (0, 0))) : au aA 24 W (.slice (some ⟨g, 0, none⟩) 1 1) [x] := by
 refine ⟨some ⟨g, 0, none⟩, 1, rfl, by simp, by unfold maxLen; omega, fun _ => ⟨g, 0, rfl, ak h, fun i s j u hi hj => ?_⟩⟩
 have hi0 : i = 0 := by
  have := (List.getElem?_eq_some_iff.1 hi).1
  simp at this
  exact this
 subst hi0
 have hs : x = s := by simpa using hi
 subst hs
 simpa using fP h j u hj
def OF (lo : Nat) (id : Int) (r : Rq) (o : Nat) (W : World) : Prop := ∃ h b, bO W o h (ah r) ∧ ax W h (eX b id r) ∧ dY W b (dK r) ∧ lo ≤ o ∧ lo ≤ h ∧ lo ≤ b
theorem OF.ext {lo : Nat} {id : Int} {r : Rq} {o : Nat} {a b : World} (h : OF lo id r o a) (hk : ∀ k, lo ≤ k → k < a.heap.size → b.heap[k]? = a.heap[k]?) : OF lo id r o b := by
 obtain ⟨h1, b1, x1, x2, x3, x4, x5, x6⟩ := h
 exact ⟨h1, b1, (hk _ x4 x1.lt).trans x1, (hk _ x5 x2.lt).trans x2, (hk _ x6 x3.lt).trans x3, x4, x5, x6⟩
def TaskS (B : Nat) (w : World) (hq : Value) (n : Nat) (xs : List Value) (id : Int) (r : Rq) (vs : List Value) (W : World) : Prop :=
 match vs with
 | [] => W.ownsRow B 109 2 hq n xs
 | v' :: _ => ∃ o, W.ownsRow B 109 2 v' (n + 1) (xs ++ aP (o, id)) ∧ cu w hq.ownBlock v'.ownBlock ∧ OF w.heap.size id r o W
theorem o9 {B n : Nat} {w a b : World} {hq : Value} {xs : List Value} {id : Int} {r : Rq} {vs : List Value} (h : Below a.heap.size a b) (hs : TaskS B w hq n xs id r vs a) : TaskS B w hq n xs id r vs b := by
 unfold TaskS at *
 split at hs
 ·exact Put.bG hs h
 ·obtain ⟨o, h1, h2, h3⟩ := hs
  exact ⟨o, Put.bG h1 h, h2, h3.ext fun k _ hk => h.block k hk⟩
theorem aI.uJ {w : World} {c : Nat} {C : Ct} (q : aI w c C) (u : Value) : aI (w.setCell ⟨c, 4, none⟩ u) c { C with live := u } := by
 have := heap_put (i := 4) q u
 exact this
theorem aI.qY {w : World} {c : Nat} {C : Ct} (q : aI w c C) (n : Int) : aI (w.setCell ⟨c, 3, none⟩ (.int .i64 n)) c { C with tasks := n } := by
 have := heap_put (i := 3) q (.int .i64 n)
 exact this
section
variable {w : World} {B c : Nat} {C : Ct} {L : List (Nat × Int)} {E : List Ev} {vl : Value} {st : Int}
def ja (B : Nat) (w : World) (c : Nat) (C : Ct) (L : List (Nat × Int)) (E : List Ev) (vl : Value) (st : Int) (r : Rq) (e : Ending) (w' : World) : Prop :=
 ∃ (o h b : Nat) (v' qZ : Value), e = .returned (.tuple #[.int .i64 (C.tasks + 1), .int .i64 0]) ∧ aI w' c { C with tasks := C.tasks + 1, live := v' } ∧ w'.ownsRow B 109 2 v' (L.length + 1) (L.flatMap aP ++ aP (o, C.tasks + 1)) ∧ LG B w' C.log st qZ (E ++ [stamp st (mD (C.tasks + 1) r)]) ∧
  bO w' o h (ah r) ∧ ax w' h (eX b (C.tasks + 1) r) ∧ dY w' b (dK r) ∧ w.heap.size ≤ o ∧ w.heap.size ≤ h ∧ w.heap.size ≤ b ∧ aV (yK c C.log vl C.live) w w' ∧ cu w vl.ownBlock qZ.ownBlock ∧ cu w C.live.ownBlock v'.ownBlock
theorem nN (q : aI w c C) (hl : w.ownsRow B 109 2 C.live L.length (L.flatMap aP)) (hg : LG B w C.log st vl E) (hn : L.length < 64) (hE : E.length ≤ 800) (ht : 0 ≤ C.tasks ∧ C.tasks ≤ 1000) (r : Rq) (ub : Value)
 (hread : ∀ W, Below w.heap.size w W → Calls Tryz.prog 9 #[ub] W fun e w' => e = .returned (.tuple #[.agg (encR r).toArray, .int .i64 0]) ∧ Below W.heap.size W w') :
 Calls Tryz.prog 10 #[.pointer (some ⟨c, 0, none⟩), ub] w (ja B w c C L E vl st r) := by
 have hrm : Calls Tryz.prog 38 #[.pointer (some ⟨c, 0, none⟩)] w fun e w' => e = .returned (.int .i64 0) ∧ w = w' := by
  obtain ⟨ao, cap, e1, _⟩ := dR hl
  exact uw q e1 hn
 have hrd := hread w (Below.refl _ _)
 have yL := Lib.hid (qG r (C.tasks + 1))
 obtain ⟨y1, y2, y3, y4, y5, y6, y7, y8, y9⟩ := r
 rw [show (encR ⟨y1, y2, y3, y4, y5, y6, y7, y8, y9⟩).toArray = #[.int .i64 y1, .int .i64 y2, .int .i64 y3, .int .i64 y4, .int .i64 y5, .int .i64 y6, .bool y7, .int .i64 y8, .int .i64 y9] from rfl] at hrd yL
 have c3 := q.c3
 have wt : IntKind.i64.wrap (C.tasks + 1) = C.tasks + 1 := IntWalk.i64_in _ (by omega)
 obtain ⟨i0, hi0, hz0, hz1, hz2⟩ := info_parts wm
 have q0 := Lib.hid q
 have hl0 := Lib.hid hl
 have hg0 := Lib.hid hg
 clear q hl hg hread
 go_enter Tryz.func10, Tryz.ntmps10
 go_wp2_with (go_at_call 38; go_must (refine hrm.mono ?_); rintro e w' ⟨rfl, rfl⟩)
 go_at_call 9
 refine hrd.mono ?_
 clear hrd hrm c3
 rintro e w1 ⟨rfl, hb1⟩
 obtain ⟨w2, hw2⟩ : ∃ w2, w2 = w1.alloc (.cells #[.int .i64 y1, .int .i64 y2, .int .i64 y3, .int .i64 y4, .int .i64 y5, .int .i64 y6, .bool y7, .int .i64 y8, .int .i64 y9] 28) := ⟨_, rfl⟩
 have hb2 : Hid (Below w.heap.size w w2) := by show Below _ _ _; rw [hw2]; exact hb1.alloc hb1.size _
 have hR2 : w2.heap[w1.heap.size]? = some (.cells #[.int .i64 y1, .int .i64 y2, .int .i64 y3, .int .i64 y4, .int .i64 y5, .int .i64 y6, .bool y7, .int .i64 y8, .int .i64 y9] 28 (0, 0)) := by rw [hw2]; exact heap_alloc_new w1 _
 obtain ⟨G, hG⟩ : ∃ G, G = w1.heap.size := ⟨_, rfl⟩
 rw [← hG] at hR2
 have Aw : Hid (w.heap.size ≤ G) := by show _ ≤ _; rw [hG]; exact hb1.size
 replace hR2 := Lib.hid hR2
 go_wp2_with fail
 rw [← hw2, ← hG]
 replace hw2 := Lib.hid hw2
 replace hG := Lib.hid hG
 have hrc : Hid (∀ W, Below w2.heap.size w2 W → ∀ j z, (encR ⟨y1, y2, y3, y4, y5, y6, y7, y8, y9⟩)[j]? = some z → W.cell? ⟨G, j, none⟩ = some z) := fun W hW j z hz => by
  have := (hW.block G (ak hR2.out)).trans hR2.out
  exact ay this j z hz
 refine Reg2.sJ 8 61 (Reg2.rows 0 [.p 0, .p 1, .p 3, .m 7, .p 0, .m 0, .m 48, .m 112]) [0, 0, 0, 1, 0, 1, 0, 1]
  [.pure, .pure, .pure, .mU (.pointer (some ⟨C.log, 0, none⟩)), .pure, .mU (.agg #[.int .i64 y1, .int .i64 y2, .int .i64 y3, .int .i64 y4, .int .i64 y5, .int .i64 y6, .bool y7, .int .i64 y8, .int .i64 y9]), .pure, .minor Nat 0 (fun x => .slice (some ⟨x, 0, none⟩) 1 1) (fun x W => w2.heap.size ≤ x ∧ W.heap[x]? = some (.cells (aA ⟨0, 1, C.tasks + 1, y1, y2, y3, y4, y5, y6, y7, y8, y9, 0, 0, 0, 0, 0, 0, 0, 0, 0, 0, 0, false⟩).toArray 50 (0, 0)))]
  (fun W => Below w2.heap.size w2 W) (fun _ _ => True) (fun a b => Below a.heap.size a b) (by kernel_rfl) (by kernel_rfl) rfl rfl (fun vs a b h hs => trivial) ?_ ?_ ?_ ?_ ?_ ?_
 ·intro a b he hb; exact hb.trans (Below.mono he hb.size)
 ·intro a b he hb; exact hb.trans (Below.mono he hb.size)
 ·have k1 : ∀ (x : Nat) (a b : World), Below a.heap.size a b → (w2.heap.size ≤ x ∧ a.heap[x]? = some (.cells (aA ⟨0, 1, C.tasks + 1, y1, y2, y3, y4, y5, y6, y7, y8, y9, 0, 0, 0, 0, 0, 0, 0, 0, 0, 0, 0, false⟩).toArray 50 (0, 0))) → w2.heap.size ≤ x ∧ b.heap[x]? = some (.cells (aA ⟨0, 1, C.tasks + 1, y1, y2, y3, y4, y5, y6, y7, y8, y9, 0, 0, 0, 0, 0, 0, 0, 0, 0, 0, 0, false⟩).toArray 50 (0, 0)) := fun x a b he h => ⟨h.1, (he.block x (ak h.2)).trans h.2⟩
  have k0 : ∀ (v : Value), Reg2.gy (fun a b => Below a.heap.size a b) (.minor Unit () (fun _ => v) (fun _ _ => True)) := fun _ => ⟨fun _ _ _ _ _ => trivial, fun _ _ _ _ _ => trivial⟩
  exact ⟨trivial, trivial, trivial, k0 _, trivial, k0 _, trivial, ⟨k1, k1⟩, trivial⟩
 ·exact ⟨rfl, rfl, rfl, Nat.le_refl _, fun _ _ => rfl⟩
 ·trivial
 dsimp only [Reg2.mk, Reg2.rows, List.zip, List.zipWith, List.take]
 repeat ((first
  | (refine' Reg2.bq _ (by rfl) (fun wz => ?_) ?_; rotate_left; (go_simp; first | rfl | rw [if_neg (by omega)]))
  | (refine Reg2.aR (by rfl) (fun wz hI hF => ?_) (fun _ => ?_)
     ·unfold Reg2.One
      have d0 := (q0.out.below (hb2.out.trans (hI.mono hb2.out.size)) q0.out.lt).c1
      have r0 := hrc.out wz hI 0 _ rfl
      have r1 := hrc.out wz hI 1 _ rfl
      have r2 := hrc.out wz hI 2 _ rfl
      have r3 := hrc.out wz hI 3 _ rfl
      have r4 := hrc.out wz hI 4 _ rfl
      have r5 := hrc.out wz hI 5 _ rfl
      have r6 := hrc.out wz hI 6 _ rfl
      have r7 := hrc.out wz hI 7 _ rfl
      have r8 := hrc.out wz hI 8 _ rfl
      go_wp2_with fail
      first | exact ⟨_, rfl, rfl, Reg2.Ext.refl _⟩ | exact ⟨_, rfl, ⟨(), rfl, trivial⟩, Reg2.Ext.refl _⟩)); simp only [Act.put, xA, xB, xC, xD, xE, id])
 refine Reg2.pm (fun wz hI hF => ?_) fun ve => ?_
 ·go_wp2_with fail
  exact ⟨_, rfl, ⟨wz.heap.size, rfl, hI.size, heap_alloc_new wz (.cells (aA ⟨0, 1, C.tasks + 1, y1, y2, y3, y4, y5, y6, y7, y8, y9, 0, 0, 0, 0, 0, 0, 0, 0, 0, 0, 0, false⟩).toArray 50)⟩, (Below.refl wz.heap.size wz).alloc (Nat.le_refl _) _⟩
 simp only [Act.put, xA, xB, xC, xD, xE, id]
 refine Reg2.bU ?_
 intro w3 HI3 _ HF
 obtain ⟨zW, yM⟩ := HF.2.2.2.2.2.2.2.1
 clear HF
 dsimp only [List.drop]
 have q3 := q0.out.below (hb2.out.trans (HI3.mono hb2.out.size)) q0.out.lt
 have hb3 : Below w.heap.size w w3 := hb2.out.trans (HI3.mono hb2.out.size)
 have g3 := hg0.out.below hb3
 have hsz2 := hb2.out.size
 have hN := uA g3 (uI yM) (fun _ b off m cc e => by
  injection e with e _ _
  injection e with e
  injection e with e _ _
  subst e
  refine ⟨by have := hg0.out.lt; omega, fun e => ?_⟩
  have := (hg0.out.own.lt _ e).2
  omega) (by show E.length + 1 ≤ 900; omega)
 have aO := (HI3.block G (ak hR2.out)).trans hR2.out
 have hl3 := Put.bG hl0.out hb3
 have q3' := Lib.hid q3
 have g3' := Lib.hid g3
 replace hb3 := Lib.hid hb3
 replace aO := Lib.hid aO
 replace hl3 := Lib.hid hl3
 clear q3 g3 hrc hR2 yM
 go_wp2_with fail
 go_at_call 39
 refine hN.mono ?_
 clear hN
 rintro e w4 ⟨rfl, qZ, g4, jf, yN⟩
 replace g4 : LG B w4 C.log st qZ (E ++ [stamp st (mD (C.tasks + 1) ⟨y1, y2, y3, y4, y5, y6, y7, y8, y9⟩)]) := g4
 have keep : ∀ (k : Nat) (cs : Array Value) (T : TypeId) (f : Nat × Nat), w3.heap[k]? = some (.cells cs T f) → T ≠ 91 → T ≠ 50 → w4.heap[k]? = some (.cells cs T f) := fun k cs T f hk h1 h2 =>
  (jf.block k (Put.lt_of_heap hk) (fun e => by
   subst e
   have := g3'.out.obj
   rw [hk] at this
   exact h1 (Obj.cells.inj (Option.some.inj this)).2.1) (dE g3'.out.own hk h2)).trans hk
 have q4 : aI w4 c C := keep _ _ _ _ q3'.out (by decide) (by decide)
 have dF := keep _ _ _ _ aO.out (by decide) (by decide)
 have hl4 : w4.ownsRow B 109 2 C.live L.length (L.flatMap aP) := aD hl3.out fun k hk => by
  obtain ⟨cur, hc⟩ := ik hl3.out hk
  exact (keep _ _ _ _ hc (by decide) (by decide)).trans hc.symm
 have uK := jf.size
 have hO4 : aV (yK c C.log vl C.live) w w4 := by
  refine ⟨jf.os.trans hb3.out.os, jf.tape.trans hb3.out.tape, jf.output.trans hb3.out.output, Nat.le_trans hb3.out.size uK, fun k hk hf => ?_⟩
  have h3 := hb3.out.size
  exact (jf.block k (by omega) (fun e => hf (.inr (.inl e))) (fun e => hf (.inr (.inr (.inl e))))).trans (hb3.out.block k hk)
 have wo : cu w vl.ownBlock qZ.ownBlock := (cu.refl w vl.ownBlock).trans yN hb3.out.size
 have jO : ∀ k, C.live.ownBlock = some k → k < w4.heap.size := fun k hk => (hl4.lt k hk).2
 have hlv : Hid (∀ (k : Nat) (cs : Array Value) (T : TypeId) (f : Nat × Nat), w4.heap[k]? = some (.cells cs T f) → T ≠ 109 → C.live.ownBlock ≠ some k) := fun k cs T f hk hT => dE hl4 hk hT
 have hnc : C.live.ownBlock ≠ some c := dE hl4 q4 (by decide)
 have yO : C.live.ownBlock ≠ some G := dE hl4 dF (by decide)
 have hI0 : w4.grownBy w4.drew C.live.ownBlock := ⟨rfl, rfl, rfl, Nat.le_refl _, fun _ _ _ => rfl⟩
 have hS0 : TaskS B w4 C.live L.length (L.flatMap aP) (C.tasks + 1) ⟨y1, y2, y3, y4, y5, y6, y7, y8, y9⟩ [] w4.drew := aD hl4 fun _ _ => rfl
 have Ay : B ≤ w4.heap.size := by have := g4.bs; have := g4.lt; omega
 have Ao : w.heap.size ≤ w4.heap.size := Nat.le_trans hb3.out.size uK
 replace q4 := Lib.hid q4
 replace dF := Lib.hid dF
 replace g4 := Lib.hid g4
 replace hO4 := Lib.hid hO4
 replace wo := Lib.hid wo
 replace jO := Lib.hid jO
 have hrc : Hid (∀ W, w4.grownBy W C.live.ownBlock → ∀ j z, (encR ⟨y1, y2, y3, y4, y5, y6, y7, y8, y9⟩)[j]? = some z → W.cell? ⟨G, j, none⟩ = some z) := fun W hW j z hz => by
  have := (hW.block G (ak dF.out) yO.symm).trans dF.out
  exact ay this j z hz
 have hqc : Hid (∀ W, w4.grownBy W C.live.ownBlock → aI W c C) := fun W hW => (hW.block c q4.out.lt hnc.symm).trans q4.out
 clear keep hl3 hl4 aO hb3 q3' g3' jf yN hnc yO dF uK HI3 zW
 go_wp2_with fail
 refine Reg2.sJ 14 61 (Reg2.rows 0 [.p 0, .p 0, .p 2, .p 6, .m 14, .m 0, .p 0, .m 96, .m 224, .m 480, .p 0, .m 2016, .m 4064, .m 8190]) [0, 0, 0, 0, 1, 1, 0, 1, 0, 0, 0, 0, 1, 3]
  [.pure, .pure, .pure, .pure, .mU (C.live), .mU (.agg #[.int .i64 y1, .int .i64 y2, .int .i64 y3, .int .i64 y4, .int .i64 y5, .int .i64 y6, .bool y7, .int .i64 y8, .int .i64 y9]), .pure, .minor Nat 0 (fun x => .pointer (some ⟨x, 0, none⟩)) (OF w4.heap.size (C.tasks + 1) ⟨y1, y2, y3, y4, y5, y6, y7, y8, y9⟩), .pure, .pure, .pure, .pure, .minor Nat 0 (fun x => .slice (some ⟨x, 0, none⟩) 1 1) (fun x W => w4.heap.size ≤ x ∧ ∃ o, W.heap[x]? = some (.cells (aP (o, C.tasks + 1)).toArray 109 (0, 0)) ∧ OF w4.heap.size (C.tasks + 1) ⟨y1, y2, y3, y4, y5, y6, y7, y8, y9⟩ o W), .major Value undef id]
  (fun W => w4.grownBy W C.live.ownBlock) (TaskS B w4 C.live L.length (L.flatMap aP) (C.tasks + 1) ⟨y1, y2, y3, y4, y5, y6, y7, y8, y9⟩) (fun a b => a.grownBy b C.live.ownBlock) (by kernel_rfl) (by kernel_rfl) rfl rfl (fun vs a b h hs => o9 h hs) ?_ ?_ ?_ ?_ ?_ ?_
 ·exact kT
 ·exact kS
 ·have x1 : ∀ (x : Nat) (a b : World), Below a.heap.size a b → OF w4.heap.size (C.tasks + 1) ⟨y1, y2, y3, y4, y5, y6, y7, y8, y9⟩ x a → OF w4.heap.size (C.tasks + 1) ⟨y1, y2, y3, y4, y5, y6, y7, y8, y9⟩ x b := fun x a b he h => h.ext fun k _ hk => he.block k hk
  have x2 : ∀ (x : Nat) (a b : World), a.grownBy b C.live.ownBlock → OF w4.heap.size (C.tasks + 1) ⟨y1, y2, y3, y4, y5, y6, y7, y8, y9⟩ x a → OF w4.heap.size (C.tasks + 1) ⟨y1, y2, y3, y4, y5, y6, y7, y8, y9⟩ x b := fun x a b he h => h.ext fun k h1 hk => he.block k hk fun e => by have := jO.out k e.symm; omega
  refine ⟨trivial, trivial, trivial, trivial, ⟨fun _ _ _ _ _ => trivial, fun _ _ _ _ _ => trivial⟩, ⟨fun _ _ _ _ _ => trivial, fun _ _ _ _ _ => trivial⟩, trivial, ⟨x1, x2⟩, trivial, trivial, trivial, trivial, ⟨fun x a b he h => ?_, fun x a b he h => ?_⟩, trivial, trivial⟩
  ·obtain ⟨h1, o, h2, h3⟩ := h
   exact ⟨h1, o, (he.block x (ak h2)).trans h2, x1 o a b he h3⟩
  ·obtain ⟨h1, o, h2, h3⟩ := h
   exact ⟨h1, o, (he.block x (ak h2) (fun e => by have := jO.out x e.symm; omega)).trans h2, x2 o a b he h3⟩
 ·exact hI0
 ·exact hS0
 dsimp only [Reg2.mk, Reg2.rows, List.zip, List.zipWith, List.take]
 repeat ((first
  | (refine' Reg2.bq _ (by rfl) (fun wz => ?_) ?_; rotate_left; (go_simp; first | rfl | rw [if_neg (by omega)]))
  | (refine Reg2.aR (by rfl) (fun wz hI hF => ?_) (fun _ => ?_)
     ·unfold Reg2.One
      have d0 := (hqc.out wz hI).c4
      have r0 := hrc.out wz hI 0 _ rfl
      have r1 := hrc.out wz hI 1 _ rfl
      have r2 := hrc.out wz hI 2 _ rfl
      have r3 := hrc.out wz hI 3 _ rfl
      have r4 := hrc.out wz hI 4 _ rfl
      have r5 := hrc.out wz hI 5 _ rfl
      have r6 := hrc.out wz hI 6 _ rfl
      have r7 := hrc.out wz hI 7 _ rfl
      have r8 := hrc.out wz hI 8 _ rfl
      go_wp2_with fail
      first | exact ⟨_, rfl, rfl, Reg2.Ext.refl _⟩ | exact ⟨_, rfl, ⟨(), rfl, trivial⟩, Reg2.Ext.refl _⟩)); simp only [Act.put, xA, xB, xC, xD, xE, id])
 refine Reg2.pm (fun wz hI hF => ?_) fun ro => ?_
 ·have hc := yL.out wz
  have hz := hI.size
  go_wp2_with fail
  go_at_call 41
  refine hc.mono ?_
  clear hc
  rintro e w5 ⟨o, h, b, rfl, hO, hH, hW, lo, lh, lb, hb5⟩
  replace hO := Lib.hid hO
  replace hH := Lib.hid hH
  replace hW := Lib.hid hW
  go_wp2_with fail
  exact ⟨_, rfl, ⟨o, rfl, h, b, hO.out, hH.out, hW.out, by omega, by omega, by omega⟩, hb5⟩
 simp only [Act.put, xA, xB, xC, xD, xE, id]
 repeat (refine' Reg2.bq _ (by rfl) (fun wz => ?_) ?_; rotate_left; (go_simp; first | rfl | rw [if_neg (by omega)]); simp only [Act.put, xA, xB, xC, xD, xE, id])
 refine Reg2.pm (fun wz hI hF => ?_) fun rs => ?_
 ·have yP := hF.2.2.1
  have hz := hI.size
  have hfin : Hid (OF w4.heap.size (C.tasks + 1) ⟨y1, y2, y3, y4, y5, y6, y7, y8, y9⟩ ro (wz.alloc (.cells (aP (ro, C.tasks + 1)).toArray 109))) := yP.ext fun k _ hk => (((Below.refl wz.heap.size wz).alloc (Nat.le_refl _) _).block k hk)
  clear hF yP
  go_wp2_with fail
  exact ⟨_, rfl, ⟨wz.heap.size, rfl, hz, ro, heap_alloc_new wz (.cells (aP (ro, C.tasks + 1)).toArray 109), hfin.out⟩, (Below.refl wz.heap.size wz).alloc (Nat.le_refl _) _⟩
 simp only [Act.put, xA, xB, xC, xD, xE, id]
 refine Reg2.pj (fun wz hI hS hF => ?_) fun vv => ?_
 ·obtain ⟨hrs, o, yQ, hof⟩ := hF.2.2.2.2.2.2.2.2.2.2.2.1
  have hS1 : wz.ownsRow B 109 2 C.live L.length (L.flatMap aP) := hS
  have hszI := hI.size
  clear hF
  have hsrc : Src Tryz.prog 2 38 (.slice (some ⟨rs, 0, none⟩) 1 1) 1 (aP (o, C.tasks + 1)) wz := Src.ofSlice wz Tryz.underlying38 ⟨rs, 0, none⟩ 1 1 (aP (o, C.tasks + 1)) rfl (fun j u hj => by rw [Go.WideShapes.add_plain]; simpa using o7 yQ j u hj) (by simp [Value.oneCell', aP])
  go_wp2_with (at_builtin; go_must (refine dV _ rfl (.tmp 44) (.tmp 52) 38 38 rfl B 109 i0 (.agg #[.nilIface, .int .i64 0]) 2 24 Tryz.underlying38 hi0 hz0 hz1 hz2 rfl C.live L.length (L.flatMap aP) rfl hS1 (.slice (some ⟨rs, 0, none⟩) 1 1) 1 (aP (o, C.tasks + 1)) rfl hsrc ?c0 ?c1 (by omega) ?c5))
  case c0 => unfold maxLen; omega
  case c1 => omega
  case c5 =>
   intro v' w9 xI vX hnb
   have hnn : cu w4 C.live.ownBlock v'.ownBlock := by
    rcases hnb with e | e
    ·exact .inl e
    ·exact .inr ⟨_, e, hszI⟩
   have yR : OF w4.heap.size (C.tasks + 1) ⟨y1, y2, y3, y4, y5, y6, y7, y8, y9⟩ o w9 := hof.ext fun k h1 hk => vX.block k hk fun e => by have := jO.out k e.symm; omega
   go_wp2_with fail
   exact ⟨v', rfl, ⟨o, xI, hnn, yR⟩, vX⟩
 simp only [Act.put, xA, xB, xC, xD, xE, id]
 refine Reg2.bU ?_
 intro w5 jM zX xJ
 clear xJ hI0 hS0
 obtain ⟨o, fo, yS, wT⟩ : ∃ o, w5.ownsRow B 109 2 vv (L.length + 1) (L.flatMap aP ++ aP (o, C.tasks + 1)) ∧ cu w4 C.live.ownBlock vv.ownBlock ∧ OF w4.heap.size (C.tasks + 1) ⟨y1, y2, y3, y4, y5, y6, y7, y8, y9⟩ o w5 := zX
 dsimp only [List.drop]
 have q5 := hqc.out w5 jM
 have pg := (jM.block C.log g4.out.lt (hlv.out _ _ _ _ g4.out.obj (by decide)).symm).trans g4.out.obj
 have c4 := q5.c4
 have f4 := q5.free 4
 have q6 := q5.uJ vv
 have c3 := q6.c3
 have f3 := q6.free 3
 have q7 := q6.qY (C.tasks + 1)
 have hfin : Hid (ja B w c C L E vl st ⟨y1, y2, y3, y4, y5, y6, y7, y8, y9⟩ (.returned (.tuple #[.int .i64 (C.tasks + 1), .int .i64 0])) ((w5.setCell ⟨c, 4, none⟩ vv).setCell ⟨c, 3, none⟩ (.int .i64 (C.tasks + 1)))) := by
  have sc : ∀ k, k ≠ c → ((w5.setCell ⟨c, 4, none⟩ vv).setCell ⟨c, 3, none⟩ (.int .i64 (C.tasks + 1))).heap[k]? = w5.heap[k]? := fun k hk => (Below.heap_setCell _ ⟨c, 3, none⟩ _ k hk).trans (Below.heap_setCell w5 ⟨c, 4, none⟩ _ k hk)
  have hcl := q4.out.lt
  obtain ⟨h, b, x1, x2, x3, x4, x5, x6⟩ := wT.ext (b := (w5.setCell ⟨c, 4, none⟩ vv).setCell ⟨c, 3, none⟩ (.int .i64 (C.tasks + 1))) fun k h1 _ => sc k (by omega)
  refine ⟨o, h, b, vv, qZ, rfl, q7, ?_, ⟨?_, ?_, g4.out.bs⟩, x1, x2, x3, by omega, by omega, by omega, ?_, wo.out, ?_⟩
  ·exact aD fo fun k hk => sc k (fun e => dE fo q5 (by decide) (by rw [hk, e]))
  ·exact (sc C.log (Put.aM pg q5 (by decide))).trans pg
  ·refine aD g4.out.own fun k hk => ?_
   obtain ⟨cur, hc⟩ := ik g4.out.own hk
   exact (sc k (Put.aM hc q4.out (by decide))).trans (jM.block k (ak hc) (hlv.out _ _ _ _ hc (by decide)).symm)
  ·have hO := hO4.out
   refine ⟨jM.os.trans hO.os, jM.tape.trans hO.tape, jM.output.trans hO.output, by simpa using Nat.le_trans hO.size jM.size, fun k hk hf => ?_⟩
   exact (sc k (fun e => hf (.inl e))).trans ((jM.block k (Nat.lt_of_lt_of_le hk hO.size) (fun e => hf (.inr (.inr (.inr e.symm))))).trans (hO.block k hk hf))
  ·rcases yS with e | ⟨k, e, hk⟩
   ·exact .inl e
   ·exact .inr ⟨k, e, by omega⟩
 obtain ⟨yT, cap5, rfl, _⟩ := dR fo
 clear fo yS wT pg q5 q6 q7 jM wo hO4 g4 q4
 go_wp2_with fail
 go_ret2
 exact hfin.out
end
end Go.Proofs.YtbdfpbknckghgaaGreat

namespace Go.Proofs.YtbdfpbknckghgaaGreat
open Go.RowKit
theorem q9 {o h : Nat} {W : World} (c0 : W.cell? ⟨o, 0, none⟩ = some (.pointer (some ⟨h, 0, none⟩))) : Sem.run Tryz.prog (loadVar 153 ⟨o, 0, none⟩) W = .ok (.pointer (some ⟨h, 0, none⟩)) W := by
 go_simp
theorem mE (k o : Nat) (W : World) : Sem.run Tryz.prog (method (k + 1) 105 (.agg #[.pointer (some ⟨o, 0, none⟩)]) "Waits") W = Sem.run Tryz.prog (do pure (262, ← loadVar 153 ⟨o, 0, none⟩)) W := by kernel_rfl
theorem jb {o h : Nat} {W : World} (c0 : W.cell? ⟨o, 0, none⟩ = some (.pointer (some ⟨h, 0, none⟩))) (k : Nat) : Sem.run Tryz.prog (method (k + 1) 105 (.agg #[.pointer (some ⟨o, 0, none⟩)]) "Waits") W = .ok (262, .pointer (some ⟨h, 0, none⟩)) W := by
 rw [mE]
 simp only [Sem.run_bind, q9 c0, Result.andThen_ok]
 rfl
theorem jU (k o : Nat) (W : World) : Sem.run Tryz.prog (method (k + 1) 105 (.agg #[.pointer (some ⟨o, 0, none⟩)]) "berthage/ctrl.perform") W = .ok (266, .agg #[.pointer (some ⟨o, 0, none⟩)]) W := by kernel_rfl
end Go.Proofs.YtbdfpbknckghgaaGreat

namespace Go.Proofs.YtbdfpbknckghgaaGreat
open Go.RowKit Go.Lib Go.Sort
def bg (wt : Nat → Bool) (L : List (Nat × Int)) : List Int := (L.filter fun x => !wt x.1).map (·.2)
theorem wu : (Tryz.prog.info? 3).map (fun i => (i.zero, i.size, i.bytes)) = some (some (.int .i64 0), 1, 8) := by kernel_rfl
theorem mF (wt : Nat → Bool) (L : List (Nat × Int)) {i : Nat} (h : i < L.length) : bg wt (L.take (i + 1)) = if wt L[i]!.1 = true then bg wt (L.take i) else bg wt (L.take i) ++ [L[i]!.2] := by
 unfold bg
 rw [List.take_succ_eq_append_getElem h, getElem!_pos L i h, List.filter_append]
 cases hw : wt L[i].1 <;> simp [hw]
section
variable {w : World} {B c : Nat} {C : Ct} {L : List (Nat × Int)} {wt : Nat → Bool}
theorem rf (q : aI w c C) (hl : au aP 2 w C.live L) (hn : L.length ≤ 64) (hT : ∀ W, Below w.heap.size w W → ∀ x ∈ L, ∃ h, W.cell? ⟨x.1, 0, none⟩ = some (.pointer (some ⟨h, 0, none⟩)) ∧ Calls Tryz.prog 262 #[.pointer (some ⟨h, 0, none⟩), .pointer (some ⟨C.aQ, 0, none⟩)] W fun e w' => e = .returned (.bool (wt x.1)) ∧ W = w') :
 Calls Tryz.prog 19 #[.pointer (some ⟨c, 0, none⟩)] w fun e w' => ∃ v, e = .returned v ∧ w'.ownsRow w.heap.size 3 1 v (bg wt L).length ((bg wt L).map (.int .i64 ·)) ∧ Below w.heap.size w w' := by
 have hal := eY q
 have q0 := Lib.hid q
 have hl0 := Lib.hid hl
 have hT0 := Lib.hid hT
 obtain ⟨i0, hi0, hz0, hz1, hz2⟩ := info_parts wu
 obtain ⟨ao, cap, e0, h1, h2, h3⟩ := hl
 obtain ⟨n, hnn⟩ : ∃ n, n = L.length := ⟨_, rfl⟩
 rw [e0] at hal hl0
 rw [← hnn] at hal h1 h3 hl0 hn
 replace e0 := Lib.hid e0
 replace hnn := Lib.hid hnn
 clear q hT h3 h1 h2
 go_enter Tryz.func19, Tryz.ntmps19
 go_wp2_with (go_at_call 42; go_must (refine hal.mono ?_); rintro e w' ⟨rfl, rfl⟩)
 go_loopw [3, 5, 9] (fun vv _ ii wr => ∃ (i : Nat) (ao : Option Addr) (m cap : Nat), i ≤ n ∧ vv = .slice ao m cap ∧ ii = .int .i64 i ∧ Hid (wr.ownsRow w.heap.size 3 1 (.slice ao m cap) (bg wt (L.take i)).length ((bg wt (L.take i)).map (.int .i64 ·))) ∧ Hid (Below w.heap.size w wr)) (fun _ _ ii _ => n - (intOf ii).toNat)
 case atStart => exact ⟨0, none, 0, 0, Nat.zero_le _, rfl, rfl, ⟨rfl, .inl ⟨rfl, rfl⟩⟩, Below.refl _ _⟩
 case round =>
  obtain ⟨i, zY, m0, cap0, hin, rfl, rfl, ho, hbr⟩ := hrel
  by_cases hlt : i < n
  ·have b2 : (i : Int) < (n : Int) := by omega
   have wi : IntKind.i64.wrap ((i : Int) + 1) = (i : Int) + 1 := by rw [IntKind.wrap_i64]; omega
   have jc : i < L.length := by have := hnn.out; omega
   have hrr := hl0.out.below hbr.out
   obtain ⟨zT, cap', zZ, r1, r2, r3⟩ := hrr
   injection zZ with e1 en e2
   clear en
   subst e1 e2
   obtain ⟨g, off, rfl, hgl, hcell⟩ := r3 (by omega)
   have hx := fun (j : Nat) (z : Value) (hz : (aP L[i]!)[j]? = some z) => hcell i L[i]! j z (by rw [List.getElem?_eq_getElem jc, getElem!_pos L i jc]) hz
   have hmem : L[i]! ∈ L := by rw [getElem!_pos L i jc]; exact List.getElem_mem _
   have hsn := mF wt L jc
   have wy := fun W hW => hT0.out W hW _ hmem
   have hlen : (bg wt (L.take i)).length ≤ 64 := by
    unfold bg
    rw [List.length_map]
    have := List.length_filter_le (fun x : Nat × Int => !wt x.1) (L.take i)
    rw [List.length_take] at this
    omega
   generalize L[i]! = x at *
   obtain ⟨o, tid⟩ := x
   have k0 : wr.cell? ⟨g, off + i * 2, none⟩ = some (.iface 105 (.agg #[.pointer (some ⟨o, 0, none⟩)])) := hx 0 _ rfl
   have k1 : wr.cell? ⟨g, off + i * 2 + 1, none⟩ = some (.int .i64 tid) := hx 1 _ rfl
   obtain ⟨w1, hw1⟩ : ∃ w1, w1 = wr.alloc (.cells #[.iface 105 (.agg #[.pointer (some ⟨o, 0, none⟩)]), .int .i64 tid] 109) := ⟨_, rfl⟩
   have hb1 : Below wr.heap.size wr w1 := by rw [hw1]; exact (Below.refl _ _).alloc (Nat.le_refl _) _
   have hK1 : w1.heap[wr.heap.size]? = some (.cells #[.iface 105 (.agg #[.pointer (some ⟨o, 0, none⟩)]), .int .i64 tid] 109 (0, 0)) := by rw [hw1]; exact heap_alloc_new wr _
   have iZ : Hid (Below w.heap.size w w1) := hbr.out.trans (hb1.mono hbr.out.size)
   have ho1 := Lib.hid (Put.bG ho.out hb1)
   obtain ⟨G, hG⟩ : ∃ G, G = wr.heap.size := ⟨_, rfl⟩
   rw [← hG] at hK1
   replace hK1 := Lib.hid hK1
   replace wy := Lib.hid wy
   replace hsn := Lib.hid hsn
   clear hx hcell r1 r2 r3 hb1 ho hmem
   go_wp2_with fail
   rw [← hw1, ← hG]
   replace hw1 := Lib.hid hw1
   replace hG := Lib.hid hG
   clear k0 k1
   refine Reg2.ro w1 8 30 [.p 0, .m 1, .p 0, .p 4, .p 12, .m 28, .p 3, .p 67] [.iface 105 (.agg #[.pointer (some ⟨o, 0, none⟩)]), .pointer (some ⟨C.aQ, 0, none⟩)] (by kernel_rfl) (by kernel_rfl) rfl rfl ⟨rfl, rfl, rfl, Nat.le_refl _, fun _ _ => rfl⟩ ?_
   dsimp only [Reg2.gW]
   repeat ((first
    | (refine' Reg2.bq _ (by rfl) (fun wz => ?_) ?_; rotate_left; (go_simp; first | rfl | rw [if_neg (by omega)]))
    | (refine Reg2.aR (by rfl) (fun wz hI hF => ?_) (fun _ => ?_)
       ·unfold Reg2.One
        have hX := (hI.block G (ak hK1.out)).trans hK1.out
        have d0 : wz.cell? ⟨G, 0, none⟩ = some (.iface 105 (.agg #[.pointer (some ⟨o, 0, none⟩)])) := by simp [World.cell?, hX]
        have d1 := (q0.out.below (iZ.out.trans (hI.mono iZ.out.size)) q0.out.lt).c2
        clear hX
        go_wp2_with fail
        first | exact ⟨_, rfl, rfl, Reg2.Ext.refl _⟩ | exact ⟨_, rfl, ⟨(), rfl, trivial⟩, Reg2.Ext.refl _⟩)); simp only [Act.put, xA, xB, xC, xD, xE, id])
   refine Reg2.bU ?_
   intro w2 HI2 _ nZ
   clear nZ
   dsimp only [List.drop]
   have fH : Hid (Below w.heap.size w w2) := iZ.out.trans (HI2.mono iZ.out.size)
   obtain ⟨h, c0, hc⟩ := wy.out w2 fH.out
   have xO := jb c0
   have ho2 := Lib.hid (Put.bG ho1.out HI2)
   have hX := (HI2.block G (ak hK1.out)).trans hK1.out
   have d1 : w2.cell? ⟨G, 1, none⟩ = some (.int .i64 tid) := by simp [World.cell?, hX]
   clear c0 wy ho1 iZ HI2 hX
   replace hc := Lib.hid hc
   go_wp2_with fail
   go_at_call 262
   refine hc.out.mono ?_
   clear hc xO
   rintro e w' ⟨rfl, rfl⟩
   cases hwo : wt o with
   | true =>
     have hs2 : bg wt (L.take (i + 1)) = bg wt (L.take i) := by rw [hsn.out, if_pos hwo]
     clear d1 hwo
     go_wp2_with fail
     go_roundw
     case rel => exact ⟨i + 1, zY, m0, cap0, by omega, rfl, by go_num, by rw [hs2]; exact ho2, fH⟩
     case measure => simp [intOf]; omega
   | false =>
     have hs2 : bg wt (L.take (i + 1)) = bg wt (L.take i) ++ [tid] := by rw [hsn.out, if_neg (by rw [hwo]; decide)]
     have hbs := fH.out.size
     obtain ⟨M, hM⟩ : ∃ M, M = bg wt (L.take i) := ⟨_, rfl⟩
     rw [← hM] at ho2 hs2 hlen
     have uL := ho2.out
     replace hs2 := Lib.hid hs2
     clear hwo hM
     go_wp2_with (at_builtin; go_must (refine wpList_append_own_at _ rfl (.tmp 23) (.tmp 26) 56 rfl w.heap.size 3 i0 (.int .i64 0) 1 8 Tryz.underlying56 hi0 hz0 hz1 hz2 rfl (by decide) _ _ _ rfl (Put.bG uL ((Below.refl w2.heap.size w2).alloc (Nat.le_refl _) _)) ⟨w2.heap.size, 0, none⟩ 1 1 [.int .i64 tid] rfl rfl (cell_one_new _ _ _) (by simp [Value.oneCell']) ?c2 ?c3 ?c4 ?c5))
     case c2 => unfold maxLen; omega
     case c3 => omega
     case c4 => simp; omega
     case c5 =>
      intro v5 w5 fo hg5 _ _
      have hb5 : Hid (Below w.heap.size w w5) := (fH.out.alloc hbs _).grown hg5 (by simp; omega) fun k hk => (uL.lt k hk).1
      have jg : Hid (w5.ownsRow w.heap.size 3 1 v5 (bg wt (L.take (i + 1))).length ((bg wt (L.take (i + 1))).map (.int .i64 ·))) := by
       show World.ownsRow _ _ _ _ _ _ _
       rw [hs2.out]
       simpa using fo
      obtain ⟨yT, cap5, rfl, _⟩ := dR fo
      clear fo hg5 uL ho2
      go_wp2_with fail
      go_roundw
      case rel => exact ⟨i + 1, _, _, _, by omega, rfl, by go_num, jg, hb5⟩
      case measure => simp [intOf]; omega
  ·obtain rfl : i = n := by omega
   have b2 : ¬ (i : Int) < (i : Int) := by omega
   have e1 : L.take i = L := List.take_of_length_le (by rw [hnn.out]; exact Nat.le_refl _)
   rw [e1] at ho
   clear e1
   go_wp2_with fail
   go_ret
   exact ⟨_, rfl, ho.out, hbr.out⟩
end
end Go.Proofs.YtbdfpbknckghgaaGreat
