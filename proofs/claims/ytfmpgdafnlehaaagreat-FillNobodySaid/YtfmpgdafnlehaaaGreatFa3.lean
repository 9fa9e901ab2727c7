/-
 FillNobody of the Go text returns true for every input, and each argument reads afterwards as it read before. No condition.
-/
import Derived.Deep.Cut
import Derived.Deep.CutRange
import Derived.Test.YtfmpgdafnlehaaaGreatRows
import Derived.ProofKit
import Derived.OpenShut
import Derived.Test.YtfmpgdafnlehaaaGreatFa2
set_option maxRecDepth 1000000
set_option maxHeartbeats 8000000
set_option linter.all false
namespace Go.Proofs.YtfmpgdafnlehaaaGreat
open Go.RowKit Go.Lib Go.Sort
def aP (j : Jb) : List Value := [.int .i64 j.id, .int .i64 j.wid, .int .i64 j.lim, .int .i64 j.lU]
theorem mW (j : Jb) : (aP j).length = 4 := rfl
theorem mX (j : Jb) : ∀ v ∈ aP j, v.oneCell' = true := by
 intro v hv
 simp only [aP, List.mem_cons, List.not_mem_nil, or_false] at hv
 rcases hv with rfl | rfl | rfl | rfl <;> rfl
theorem oZ : (Tryz.prog.info? 156).map (fun i => (i.zero, i.size, i.bytes)) = some (some (.agg (aP default).toArray), 4, 32) := by kernel_rfl
theorem rf (x : Jb) (w : World) : Calls Tryz.prog 96 #[.agg (ai x).toArray] w fun e w' => e = .returned (.agg (aP x).toArray) ∧ Below w.heap.size w w' := by
 obtain ⟨x1, x2, x3, x4, x5, x6, x7, x8, x9, x0⟩ := x
 rw [show (ai (x1, x2, x3, x4, x5, x6, x7, x8, x9, x0)).toArray = #[.int .i64 x1, .int .i64 x2, .int .i64 x3, .int .i64 x4, .int .i64 x5, .int .i64 x6, .int .i64 x7, .int .i64 x8, .int .i64 x9, .int .u64 x0] from rfl, show (aP (x1, x2, x3, x4, x5, x6, x7, x8, x9, x0)).toArray = #[.int .i64 x1, .int .i64 x3, .int .i64 x4, .int .i64 x9] from rfl]
 go_enter Tryz.func96, Tryz.ntmps96
 go_wp2_with fail
 refine jX rfl rfl rfl (heap_alloc2_new w _ _) Tryz.underlying156 rfl (by kernel_rfl) ⟨rfl, ?_⟩
 exact ((Below.refl _ _).alloc (Nat.le_refl _) _).alloc (by simp) _
section
variable {w : World} {u : Value} {L : List Jb}
def iE (w : World) (e : TypeId) (sz n : Nat) (xs : List Value) (en : Ending) (w' : World) : Prop := ∃ v', en = .returned v' ∧ w'.ownsRow w.heap.size e sz v' n xs ∧ Below w.heap.size w w'
theorem o7 (h : af ai 10 w u L) (hL : L.length ≤ 1000) : Calls Tryz.prog 95 #[.func (.func 96) #[] #[], u] w (iE w 156 4 L.length (L.flatMap aP)) := by
 obtain ⟨i0, hi0, hz0, hz1, hz2⟩ := info_parts oZ
 have hr := Lib.hid h
 obtain ⟨ao, cap, rfl, q1, q2, _⟩ := h
 have vC : cap ≤ 9223372036854775807 := by unfold maxLen at q2; omega
 go_enter Tryz.func95, Tryz.ntmps95
 go_wp2_with (at_make; refine wpList_make_own w rfl _ _ 51 rfl w.heap.size 156 i0 (.agg (aP default).toArray) 4 Tryz.underlying51 hi0 hz0 hz1 .i64 .i64 _ L.length rfl rfl rfl (by rw [hz2]; omega) (by unfold maxLen; omega) (Nat.le_refl _) ?_; intro w1 ho1 hg1)
 have hb1 : Below w.heap.size w w1 := (Below.refl _ _).grown hg1 (Nat.le_refl _) (fun k hk => nomatch hk)
 obtain ⟨n, hn⟩ : ∃ n, L.length = n := ⟨_, rfl⟩
 rw [hn] at hL q1 ho1 ⊢
 replace hn := Lib.hid hn
 clear hg1
 go_wp2_with fail
 go_loopw [5, 13] (fun oo ii wr => ∃ (i : Nat), i ≤ n ∧ ii = .int .i64 i ∧ wr.ownsRow w.heap.size 156 4 oo (L.take i).length ((L.take i).flatMap aP) ∧ Below w.heap.size w wr) (fun _ ii _ => n - (intOf ii).toNat)
 case atStart => exact ⟨0, Nat.zero_le _, rfl, by simpa using ho1, hb1⟩
 case round =>
  obtain ⟨i, hin, rfl, hown, hbr⟩ := hrel
  clear ho1 hb1
  by_cases hlt : i < n
  ·have b2 : (i : Int) < (n : Int) := by omega
   have wi : IntKind.i64.wrap ((i : Int) + 1) = (i : Int) + 1 := by rw [IntKind.wrap_i64]; omega
   have iA : i < L.length := by have := hn.out; omega
   have hrr := hr.out.below hbr
   obtain ⟨B, off, cap', eJ, _, _, hB, LJ⟩ := hrr.tu i iA
   injection eJ with vG wN vH
   subst vG vH
   obtain ⟨X, hX⟩ : ∃ X, X = L.take i := ⟨_, rfl⟩
   have vD : X.length ≤ 1000 := by rw [hX, List.length_take]; omega
   have HE : Hid (L.take (i + 1) = X ++ [L.getD i default]) := by
    show _ = _
    rw [hX, List.take_succ_eq_append_getElem iA, List.getD_eq_getElem?_getD, List.getElem?_eq_getElem iA]; rfl
   rw [← hX] at hown
   replace hX := Lib.hid hX
   generalize L.getD i default = x at *
   have hit := rf x
   obtain ⟨x1, x2, x3, x4, x5, x6, x7, x8, x9, x0⟩ := x
   rw [show (ai (x1, x2, x3, x4, x5, x6, x7, x8, x9, x0)).toArray = #[.int .i64 x1, .int .i64 x2, .int .i64 x3, .int .i64 x4, .int .i64 x5, .int .i64 x6, .int .i64 x7, .int .i64 x8, .int .i64 x9, .int .u64 x0] from rfl, show (aP (x1, x2, x3, x4, x5, x6, x7, x8, x9, x0)).toArray = #[.int .i64 x1, .int .i64 x3, .int .i64 x4, .int .i64 x9] from rfl] at hit
   have a0 := LJ 0 _ rfl
   have a1 := LJ 1 _ rfl
   have a2 := LJ 2 _ rfl
   have a3 := LJ 3 _ rfl
   have a4 := LJ 4 _ rfl
   have a5 := LJ 5 _ rfl
   have a6 := LJ 6 _ rfl
   have a7 := LJ 7 _ rfl
   have a8 := LJ 8 _ rfl
   have a9 := LJ 9 _ rfl
   rw [Nat.add_zero] at a0
   clear LJ
   obtain ⟨w1, hw1⟩ : ∃ w1, w1 = wr.alloc (.cells #[.int .i64 x1, .int .i64 x2, .int .i64 x3, .int .i64 x4, .int .i64 x5, .int .i64 x6, .int .i64 x7, .int .i64 x8, .int .i64 x9, .int .u64 x0] 94) := ⟨_, rfl⟩
   have hb1 : Below wr.heap.size wr w1 := by rw [hw1]; exact (Below.refl _ _).alloc (Nat.le_refl _) _
   replace hown := Lib.hid hown
   go_wp2_with fail
   rw [← hw1]
   replace hw1 := Lib.hid hw1
   go_at_call 96
   refine (hit w1).mono ?_
   clear hit a0 a1 a2 a3 a4 a5 a6 a7 a8 a9
   rintro e w5 ⟨rfl, hb5⟩
   have rq := hb1.trans (hb5.mono hb1.size)
   have hown1 := oq hown.out (w' := w5) fun k hk => rq.block k (hown.out.lt k hk).2
   have nN := hbr.trans (rq.mono hbr.size)
   clear hb1 hb5 rq hown hbr
   have hsz : w.heap.size ≤ w5.heap.size := nN.size
   go_wp2_with (at_builtin; go_must (refine wpList_append_own _ rfl (.tmp 17) (.tmp 21) 51 rfl w.heap.size 156 i0 (.agg (aP default).toArray) 4 32 Tryz.underlying51 hi0 hz0 hz1 hz2 rfl (by decide) u5 X.length (X.flatMap aP) rfl (hown1.alloc _) ⟨w5.heap.size, 0, none⟩ 1 1 (aP (x1, x2, x3, x4, x5, x6, x7, x8, x9, x0)) rfl rfl ?c0 ?c1 ?c2 ?c3 ?c4 ?c5))
   case c0 => exact lM (vs := aP (x1, x2, x3, x4, x5, x6, x7, x8, x9, x0)) rfl
   case c1 => exact mX _
   case c2 => unfold maxLen; omega
   case c3 => omega
   case c4 => (have hh : ∀ o, (w5.alloc o).heap.size = w5.heap.size + 1 := fun o => by simp); first | omega | (rw [hh]; omega)
   case c5 =>
    intro v6 w7 qK qL _
    have mO : Below w.heap.size w w7 := (nN.alloc nN.size _).grown qL (by simp; omega) (fun k hk => (hown1.lt k hk).1)
    have qM : Hid (w7.ownsRow w.heap.size 156 4 v6 (L.take (i + 1)).length ((L.take (i + 1)).flatMap aP)) := by
     show World.ownsRow _ _ _ _ _ _ _
     rw [HE.out, List.length_append, List.flatMap_append]
     simp only [List.length_singleton, List.flatMap_cons, List.flatMap_nil, List.append_nil]
     exact qK
    clear qK qL hown1 nN
    go_wp2_with fail
    go_roundw
    case rel => exact ⟨i + 1, by omega, by go_num, qM.out, mO⟩
    case measure => simp [intOf]; omega
  ·obtain rfl : i = n := by omega
   have b2 : ¬ (i : Int) < (i : Int) := by omega
   have e1 : L.take i = L := List.take_of_length_le (by rw [hn.out]; exact Nat.le_refl _)
   rw [e1, hn.out] at hown
   have hfin : Hid (iE w 156 4 L.length (L.flatMap aP) (.returned u5) wr) := by
    rw [← hn.out] at hown
    exact ⟨u5, rfl, hown, hbr⟩
   clear hown e1
   go_wp2_with fail
   go_ret
   exact hfin.out
end
end Go.Proofs.YtfmpgdafnlehaaaGreat

namespace Go.Proofs.YtfmpgdafnlehaaaGreat
open Go.RowKit Go.Lib Go.Sort
section
variable {w : World} {B s c t d p g : Nat} {v u : Value} {m : Int} {M : Md} {L : List Jb}
theorem mY (h : af ai 10 w u L) (hL : L.length ≤ 1000) : Calls Tryz.prog 61 #[u] w (iE w 156 4 L.length (L.flatMap aP)) := by
 have hq := o7 h hL
 go_enter Tryz.func61, Tryz.ntmps61
 go_wp2_with fail
 go_at_call 95
 refine hq.mono ?_
 clear hq
 rintro e w' ⟨u', rfl, h1, h2⟩
 have hfin := Lib.hid (And.intro h1 h2)
 clear h1 h2
 go_wp2_with fail
 go_ret
 exact ⟨u', rfl, hfin.out⟩
def iF (M : Md) (r : List Jb) : Prop := r.Perm (M.L.filter fun j => decide (j.state = 1)) ∧ r.Pairwise (fun x y => aA y x = false)
theorem iF.len {r : List Jb} (h : iF M r) : r.length ≤ M.L.length := by rw [h.1.length_eq]; exact List.length_filter_le _ _
theorem pq {a : Nat} (h : CW w c t d p v g a m (dC M)) (hll : M.L.length ≤ 900) : Calls Tryz.prog 62 #[.pointer (some ⟨t, 0, none⟩)] w fun e w' => ∃ (v' : Value) (r : List Jb), e = .returned v' ∧ af ai 10 w' v' r ∧ iF M r ∧ Below w.heap.size w w' := by
 refine (kN h.ji (by show M.L.length ≤ 1000; omega)).mono ?_
 rintro e w' ⟨v', r, rfl, h1, h2, h3, h4⟩
 exact ⟨v', r, rfl, h1, ⟨h2, h3⟩, h4⟩
theorem mZ (h : SO B w s c t d p v g m M) (hll : M.L.length ≤ 900) : Calls Tryz.prog 23 #[.pointer (some ⟨s, 0, none⟩)] w fun e w' => ∃ (v' : Value) (r : List Jb), e = .returned v' ∧ iF M r ∧ af aP 4 w' v' r ∧ Below w.heap.size w w' := by
 have hl := oW h
 have q0 := h.at'.c0
 have q1 := h.cw.c0
 have hw := pq h.cw hll
 go_enter Tryz.func23, Tryz.ntmps23
 go_wp2_with fail
 go_at_call 60
 refine hl.mono ?_
 clear hl
 rintro e w' ⟨rfl, rfl⟩
 go_wp2_with fail
 go_at_call 62
 refine hw.mono ?_
 clear hw q0 q1
 rintro e w1 ⟨v1, r, rfl, h1, h2, hb1⟩
 have hi := mY h1 (by have := h2.len; omega)
 go_wp2_with fail
 go_at_call 61
 refine hi.mono ?_
 clear hi
 rintro e w2 ⟨u', rfl, h3, hb2⟩
 have hfin : Hid (af aP 4 w2 u' r ∧ Below w.heap.size w w2) := ⟨af.bG h3 mW rfl rfl, hb1.trans (hb2.mono hb1.size)⟩
 replace h2 := Lib.hid h2
 clear h1 h3 hb1 hb2
 go_wp2_with fail
 go_ret
 exact ⟨u', r, rfl, h2.out, hfin.out⟩
theorem gD (w : World) : Calls Tryz.prog 23 #[.pointer none] w fun e w' => e = .returned (.slice none 0 0) ∧ w = w' := by
 have hl := mV w
 go_enter Tryz.func23, Tryz.ntmps23
 go_wp2_with (go_at_call 60; go_must (refine hl.mono ?_); rintro e w' ⟨rfl, rfl⟩)
 go_ret
 exact ⟨rfl, rfl⟩
end
end Go.Proofs.YtfmpgdafnlehaaaGreat

namespace Go.Proofs.YtfmpgdafnlehaaaGreat
structure It where
 id : Int
 wd : Int
 lim : Int
 pl : Int
def ax (x : It) : List Value := [.int .i64 x.id, .int .i64 x.wd, .int .i64 x.lim, .int .i64 x.pl]
def It.ok (x : It) : Prop := (1 ≤ x.wd ∧ x.wd ≤ 64) ∧ (1 ≤ x.lim ∧ x.lim ≤ 1048576) ∧ -1 ≤ x.pl ∧ x.pl ≤ 1099511627776
def kY (x : It) : Bool := decide (1 ≤ x.wd) && decide (x.wd ≤ 64) && decide (1 ≤ x.lim) && decide (x.lim ≤ 1048576) && decide (-1 ≤ x.pl) && decide (x.pl ≤ 1099511627776)
theorem kZ (x : It) : kY x = true ↔ x.ok := by
 simp only [kY, It.ok, Bool.and_eq_true, decide_eq_true_eq]
 omega
theorem sD {x : It} (h : ¬ x.ok) : kY x = false := by
 cases hx : kY x with
 | false => rfl
 | true => exact absurd ((kZ x).1 hx) h
end Go.Proofs.YtfmpgdafnlehaaaGreat

namespace Go.Proofs.YtfmpgdafnlehaaaGreat
open Go.RowKit Go.Sort Go.Lib
theorem jQ : (Tryz.prog.info? 156).map (fun i => (i.zero, i.size, i.bytes)) = some (some (.agg #[.int .i64 0, .int .i64 0, .int .i64 0, .int .i64 0]), 4, 32) := by kernel_rfl
theorem lh : (Tryz.prog.info? 44).map (fun i => (i.zero, i.size, i.bytes)) = some (some (.agg #[.int .i64 0, .int .i64 0]), 2, 16) := by kernel_rfl
theorem iG (x : It) (w : World) :
 Calls Tryz.prog 131 #[.agg (ax x).toArray] w fun e w' => e = .returned (.bool (kY x)) ∧ w' = w.alloc (.cells (ax x).toArray 156) := by
 obtain ⟨i, n, l, p⟩ := x
 unfold kY ax
 dsimp only
 by_cases h1 : 1 ≤ n
 ·by_cases h2 : n ≤ 64
  ·by_cases h3 : 1 ≤ l
   ·by_cases h4 : l ≤ 1048576
    ·by_cases h5 : -1 ≤ p
     ·by_cases h6 : p ≤ 1099511627776
      ·go_enter Tryz.func131, Tryz.ntmps131
       go_wp2_with fail
       go_ret
       exact ⟨by simp [*] <;> omega, rfl⟩
      ·go_enter Tryz.func131, Tryz.ntmps131
       go_wp2_with fail
       go_ret
       exact ⟨by simp [*] <;> omega, rfl⟩
     ·go_enter Tryz.func131, Tryz.ntmps131
      go_wp2_with fail
      go_ret
      exact ⟨by simp [*] <;> omega, rfl⟩
    ·go_enter Tryz.func131, Tryz.ntmps131
     go_wp2_with fail
     go_ret
     exact ⟨by simp [*] <;> omega, rfl⟩
   ·go_enter Tryz.func131, Tryz.ntmps131
    go_wp2_with fail
    go_ret
    exact ⟨by simp [*] <;> omega, rfl⟩
  ·go_enter Tryz.func131, Tryz.ntmps131
   go_wp2_with fail
   go_ret
   exact ⟨by simp [*] <;> omega, rfl⟩
 ·go_enter Tryz.func131, Tryz.ntmps131
  go_wp2_with fail
  go_ret
  exact ⟨by simp [*] <;> omega, rfl⟩
theorem jR (x : It) (w : World) :
 Calls Tryz.prog 130 #[.agg (ax x).toArray] w fun e w' => e = .returned (.bool (!kY x)) ∧ Below w.heap.size w w' := by
 have h := fun W => iG x W
 have hz : (ax x).toArray = #[.int .i64 x.id, .int .i64 x.wd, .int .i64 x.lim, .int .i64 x.pl] := rfl
 rw [hz] at h ⊢
 clear hz
 obtain ⟨b, hb⟩ : ∃ b, b = kY x := ⟨_, rfl⟩
 rw [← hb] at h ⊢
 clear hb
 have hb2 : Hid (Below w.heap.size w ((w.alloc (.cells #[.int .i64 x.id, .int .i64 x.wd, .int .i64 x.lim, .int .i64 x.pl] 156)).alloc (.cells #[.int .i64 x.id, .int .i64 x.wd, .int .i64 x.lim, .int .i64 x.pl] 156))) := ((Below.refl _ _).alloc (Nat.le_refl _) _).alloc (by simp) _
 go_enter Tryz.func130, Tryz.ntmps130
 go_wp2_with (go_at_call 131; go_must (refine (h _).mono ?_); rintro e w1 ⟨rfl, rfl⟩)
 go_ret
 exact ⟨rfl, hb2.out⟩
end Go.Proofs.YtfmpgdafnlehaaaGreat

namespace Go.Proofs.YtfmpgdafnlehaaaGreat
open Go.RowKit Go.Sort Go.Lib
theorem iO {α : Type} {l : List α} {k : Nat} {s : α} (h : l[k]? = some s) : l.take (k + 1) = l.take k ++ [s] := by
 obtain ⟨hk, rfl⟩ := List.getElem?_eq_some_iff.1 h
 rw [List.take_succ_eq_append_getElem hk]
theorem ru {w : World} {l : List It} {b off k : Nat} {s : It} (hc : ∀ i s j u, l[i]? = some s → (ax s)[j]? = some u → w.cell? ⟨b, off + (i * 4 + j), none⟩ = some u) (hs : l[k]? = some s) :
 w.cell? ⟨b, off + k * 4, none⟩ = some (.int .i64 s.id) ∧ w.cell? ⟨b, off + k * 4 + 1, none⟩ = some (.int .i64 s.wd) ∧ w.cell? ⟨b, off + k * 4 + 2, none⟩ = some (.int .i64 s.lim) ∧ w.cell? ⟨b, off + k * 4 + 3, none⟩ = some (.int .i64 s.pl) :=
 ⟨hc k s 0 _ hs rfl, hc k s 1 _ hs rfl, hc k s 2 _ hs rfl, hc k s 3 _ hs rfl⟩
def ry (l : List It) (r : Int) : Prop := ((∀ x ∈ l, x.ok) ∧ r = -1) ∨ ((∃ x ∈ l, ¬ x.ok) ∧ 0 ≤ r)
theorem jS {w : World} {v : Value} {l : List It} (h : af ax 4 w v l) (hl : l.length ≤ 1000) :
 Calls Tryz.prog 172 #[v, .func (.func 130) #[] #[]] w fun e w' => ∃ r, e = .returned (.int .i64 r) ∧ ry l r ∧ Below w.heap.size w w' := by
 obtain ⟨ao, cap, rfl, hlc, hcm, hcells⟩ := h
 clear hcm
 go_enter Tryz.func172, Tryz.ntmps172
 go_wp2_with fail
 go_loopw [5, 8] (fun _ ii wr => ∃ (k : Nat), k ≤ l.length ∧ ii = .int .i64 k ∧ (∀ x ∈ l.take k, x.ok) ∧ Below w.heap.size w wr) (fun _ ii _ => l.length - (intOf ii).toNat)
 case atStart => exact ⟨0, Nat.zero_le _, rfl, fun x hx => by simp at hx, Below.refl _ _⟩
 case round =>
  obtain ⟨k, hk, rfl, hok, hb⟩ := hrel
  by_cases hlt : k < l.length
  ·obtain ⟨b, off, rfl, hbw, hcell⟩ := hcells (by omega)
   obtain ⟨s, hs⟩ : ∃ s, l[k]? = some s := ⟨_, List.getElem?_eq_getElem hlt⟩
   obtain ⟨c0, c1, c2, c3⟩ := ru hcell hs
   rw [← hb.cell (p := ⟨b, _, none⟩) hbw] at c0 c1 c2 c3
   have hsz := hb.size
   have hR := fun W => jR s W
   rw [show (ax s).toArray = #[.int .i64 s.id, .int .i64 s.wd, .int .i64 s.lim, .int .i64 s.pl] from rfl] at hR
   have hmem := List.mem_of_getElem? hs
   have htk := iO hs
   have b1 : (0 : Int) ≤ k := by omega
   have b2 : (k : Int) < (l.length : Int) := by omega
   clear hcell hcells
   by_cases hg : s.ok
   ·rw [(kZ s).2 hg] at hR
    have hok' : Hid (∀ x ∈ l.take (k + 1), x.ok) := by
     rw [htk]
     intro x hx
     rcases List.mem_append.1 hx with h1 | h1
     ·exact hok x h1
     ·have : x = s := by simpa using h1
      rw [this]; exact hg
    clear hok hg htk
    go_wp2_with (go_at_call 130; go_must (refine (hR _).mono ?_); rintro e w2 ⟨rfl, hb2⟩)
    go_roundw
    case rel => exact ⟨k + 1, by omega, by go_num, hok'.out, hb.trans (hb2.mono hsz)⟩
    case measure => simp [intOf]; omega
   ·rw [sD hg] at hR
    have hfin : Hid (ry l k) := .inr ⟨⟨s, hmem, hg⟩, by omega⟩
    clear hok hg htk
    go_wp2_with (go_at_call 130; go_must (refine (hR _).mono ?_); rintro e w2 ⟨rfl, hb2⟩)
    go_ret
    exact ⟨_, rfl, hfin.out, hb.trans (hb2.mono hsz)⟩
  ·obtain rfl : k = l.length := by omega
   have hfin : Hid (ry l (-1)) := .inl ⟨by rw [List.take_length] at hok; exact hok, rfl⟩
   clear hok hcells
   go_wp2_with fail
   go_ret
   exact ⟨_, rfl, hfin.out, hb⟩
theorem gI {w : World} {v : Value} {l : List It} (h : af ax 4 w v l) (hl : l.length ≤ 1000) :
 Calls Tryz.prog 129 #[v, .func (.func 130) #[] #[]] w fun e w' => ∃ b, e = .returned (.bool b) ∧ (b = false → ∀ x ∈ l, x.ok) ∧ (b = true → ∃ x ∈ l, ¬ x.ok) ∧ Below w.heap.size w w' := by
 have hi := jS h hl
 go_enter Tryz.func129, Tryz.ntmps129
 go_wp2_with fail
 go_at_call 172
 refine hi.mono ?_
 clear hi
 rintro e w1 ⟨r, rfl, hr, hb⟩
 rcases hr with ⟨h1, rfl⟩ | ⟨h1, h2⟩
 ·replace h1 := Lib.hid h1
  go_wp2_with fail
  go_ret
  exact ⟨_, rfl, fun _ => h1.out, fun h => by simp at h, hb⟩
 ·replace h1 := Lib.hid h1
  go_wp2_with fail
  go_ret
  exact ⟨_, rfl, fun h => by simp at h <;> omega, fun _ => h1.out, hb⟩
section
variable {α : Type} {enc : α → List Value} {sz : Nat}
theorem jT {w : World} {b off : Nat} (hsz : ∀ x, (enc x).length = sz) {l : List α} (h : ∀ i s j u, l[i]? = some s → (enc s)[j]? = some u → w.cell? ⟨b, off + (i * sz + j), none⟩ = some u) : ∀ j u, (l.flatMap enc)[j]? = some u → w.cell? ((⟨b, off, none⟩ : Addr).add j) = some u := by
 intro j u hj
 rw [Go.WideShapes.add_plain]
 have key : ∀ (l : List α) (j : Nat), (l.flatMap enc)[j]? = some u → ∃ i s q, l[i]? = some s ∧ (enc s)[q]? = some u ∧ j = i * sz + q := by
  intro l
  induction l with
  | nil => intro j hj; simp at hj
  | cons a l ih =>
    intro j hj
    rw [List.flatMap_cons] at hj
    by_cases hlt : j < sz
    ·rw [List.getElem?_append_left (by rw [hsz]; exact hlt)] at hj
     exact ⟨0, a, j, rfl, hj, by omega⟩
    ·rw [List.getElem?_append_right (by rw [hsz]; omega), hsz] at hj
     obtain ⟨i, s, q, h1, h2, h3⟩ := ih _ hj
     exact ⟨i + 1, s, q, h1, h2, by rw [Nat.add_mul]; omega⟩
 obtain ⟨i, s, q, h1, h2, rfl⟩ := key l j hj
 exact h i s q u h1 h2
theorem ng (hsz : ∀ x, (enc x).length = sz) (l : List α) : (l.flatMap enc).length = l.length * sz := by
 induction l with
 | nil => simp
 | cons a l ih => rw [List.flatMap_cons, List.length_append, ih, hsz, List.length_cons, Nat.add_mul]; omega
theorem lq {P : Program} {w : World} {v : Value} {t e : TypeId} {l : List α} (hu : P.underlying t = some (.slice e)) (hsz : ∀ x, (enc x).length = sz) (h1 : ∀ u ∈ l.flatMap enc, u.oneCell' = true) (hr : af enc sz w v l) : Src P sz t v l.length (l.flatMap enc) w := by
 obtain ⟨ao, cap, rfl, q1, q2, q3⟩ := hr
 by_cases h0 : l.length = 0
 ·have : l = [] := List.eq_nil_of_length_eq_zero h0
  subst this
  rcases ao with _ | a
  ·exact Src.ofNil w hu cap
  ·exact Src.ofSlice w hu a 0 cap [] (by simp) (fun j u hj => by simp at hj) (fun u hu => by simp at hu)
 ·obtain ⟨b, off, rfl, hlt, hc⟩ := q3 (by omega)
  exact Src.ofSlice w hu ⟨b, off, none⟩ l.length cap _ (ng hsz l) (jT hsz hc) h1
end
theorem pz (l : List It) : ∀ u ∈ l.flatMap ax, u.oneCell' = true := by
 intro u hu
 obtain ⟨x, _, hx⟩ := List.mem_flatMap.1 hu
 simp only [ax, List.mem_cons, List.not_mem_nil, or_false] at hx
 rcases hx with rfl | rfl | rfl | rfl <;> rfl
def iH (w : World) (l : List It) (e : Ending) (w' : World) : Prop :=
 ∃ v', e = .returned v' ∧ w'.ownsRow w.heap.size 156 4 v' l.length (l.flatMap ax) ∧ Below w.heap.size w w'
theorem ni {w : World} {v : Value} {l : List It} (hr : af ax 4 w v l) (hl : l.length ≤ 1000) : Calls Tryz.prog 132 #[v] w (iH w l) := by
 obtain ⟨i0, hi0, hz0, hz1, hz2⟩ := info_parts jQ
 have hr1 := hr.below ((Below.refl w.heap.size w).alloc (Nat.le_refl _) (.cells #[] 156))
 have hown : (w.alloc (.cells #[] 156)).ownsRow w.heap.size 156 4 (.slice (some ⟨w.heap.size, 0, none⟩) 0 0) 0 [] := cK (vs := []) rfl (Nat.le_refl _) rfl (Nat.zero_le _)
 have hsrc := Lib.hid (lq (enc := ax) (sz := 4) (t := 51) (P := Tryz.prog) Tryz.underlying51 (fun _ => rfl) (pz l) hr1)
 obtain ⟨ao, cap, rfl, q1, q2, q3⟩ := hr
 rcases ao with _ | a
 ·have hz : l = [] := by
   rcases Nat.eq_zero_or_pos l.length with h | h
   ·exact List.eq_nil_of_length_eq_zero h
   ·obtain ⟨b, off, e, _⟩ := q3 h; cases e
  subst hz
  have hnil : ∀ w : World, (binOp .eql 51 (.slice none 0 cap) (.slice none 0 0)).run Tryz.prog w = .ok (.bool true) w := fun w => Lib.run_eql_slice_nil w _ _ _ _ _ _ _ Tryz.underlying51
  have hfin : Hid (iH w [] (.returned (.slice none 0 0)) w) := ⟨_, rfl, World.ownsRow_nil w w.heap.size 156 4, Below.refl _ _⟩
  clear hown hsrc q3 hr1
  simp only [List.length_nil] at *
  go_enter Tryz.func132, Tryz.ntmps132
  go_wp2_with fail
  go_ret
  exact hfin.out
 ·have hnil : ∀ w : World, (binOp .eql 51 (.slice (some a) l.length cap) (.slice none 0 0)).run Tryz.prog w = .ok (.bool false) w := fun w => Lib.run_eql_slice_nil w _ _ _ _ _ _ _ Tryz.underlying51
  obtain ⟨n, hn⟩ : ∃ n, l.length = n := ⟨_, rfl⟩
  rw [hn] at hnil hsrc hl ⊢
  clear q1 q2 q3 hr1
  replace hn := Lib.hid hn
  go_enter Tryz.func132, Tryz.ntmps132
  go_wp2_with (at_builtin; go_must (refine bn _ rfl (.tmp 5) (.tmp 6) 51 51 rfl w.heap.size 156 i0 (.agg #[.int .i64 0, .int .i64 0, .int .i64 0, .int .i64 0]) 4 32 Tryz.underlying51 hi0 hz0 hz1 hz2 rfl (.slice (some ⟨w.heap.size, 0, none⟩) 0 0) 0 [] rfl hown (.slice (some a) n cap) n (l.flatMap ax) rfl hsrc.out ?c2 ?c3 ?c4 ?c5))
  case c2 => unfold maxLen; omega
  case c3 => omega
  case c4 => simp
  case c5 =>
   intro v' w2 hown3 hgrow
   have hfin : Hid (iH w l (.returned v') w2) := ⟨_, rfl, by rw [hn.out]; exact hown3, ((Below.refl _ w).alloc (Nat.le_refl _) _).grown hgrow (by simp) (fun q hq => by cases hq; exact Nat.le_refl _)⟩
   clear hown hgrow hown3 hsrc
   go_wp2_with fail
   go_ret
   exact hfin.out
def fw (w : World) (l : List (Int × Int)) (e : Ending) (w' : World) : Prop :=
 ∃ v', e = .returned v' ∧ w'.ownsRow w.heap.size 44 2 v' l.length (l.flatMap enc2) ∧ Below w.heap.size w w'
theorem nk {w : World} {v : Value} {l : List (Int × Int)} (hr : af enc2 2 w v l) (hl : l.length ≤ 1000) : Calls Tryz.prog 177 #[v] w (fw w l) := by
 obtain ⟨i0, hi0, hz0, hz1, hz2⟩ := info_parts lh
 have hr1 := hr.below ((Below.refl w.heap.size w).alloc (Nat.le_refl _) (.cells #[] 44))
 have hown : (w.alloc (.cells #[] 44)).ownsRow w.heap.size 44 2 (.slice (some ⟨w.heap.size, 0, none⟩) 0 0) 0 [] := cK (vs := []) rfl (Nat.le_refl _) rfl (Nat.zero_le _)
 have hsrc := Lib.hid (lq (enc := enc2) (sz := 2) (t := 109) (P := Tryz.prog) Tryz.underlying109 (fun _ => rfl) (kT l) hr1)
 obtain ⟨ao, cap, rfl, q1, q2, q3⟩ := hr
 rcases ao with _ | a
 ·have hz : l = [] := by
   rcases Nat.eq_zero_or_pos l.length with h | h
   ·exact List.eq_nil_of_length_eq_zero h
   ·obtain ⟨b, off, e, _⟩ := q3 h; cases e
  subst hz
  have hnil : ∀ w : World, (binOp .eql 109 (.slice none 0 cap) (.slice none 0 0)).run Tryz.prog w = .ok (.bool true) w := fun w => Lib.run_eql_slice_nil w _ _ _ _ _ _ _ Tryz.underlying109
  have hfin : Hid (fw w [] (.returned (.slice none 0 0)) w) := ⟨_, rfl, World.ownsRow_nil w w.heap.size 44 2, Below.refl _ _⟩
  clear hown hsrc q3 hr1
  simp only [List.length_nil] at *
  go_enter Tryz.func177, Tryz.ntmps177
  go_wp2_with fail
  go_ret
  exact hfin.out
 ·have hnil : ∀ w : World, (binOp .eql 109 (.slice (some a) l.length cap) (.slice none 0 0)).run Tryz.prog w = .ok (.bool false) w := fun w => Lib.run_eql_slice_nil w _ _ _ _ _ _ _ Tryz.underlying109
  obtain ⟨n, hn⟩ : ∃ n, l.length = n := ⟨_, rfl⟩
  rw [hn] at hnil hsrc hl ⊢
  clear q1 q2 q3 hr1
  replace hn := Lib.hid hn
  go_enter Tryz.func177, Tryz.ntmps177
  go_wp2_with (at_builtin; go_must (refine bn _ rfl (.tmp 5) (.tmp 6) 109 109 rfl w.heap.size 44 i0 (.agg #[.int .i64 0, .int .i64 0]) 2 16 Tryz.underlying109 hi0 hz0 hz1 hz2 rfl (.slice (some ⟨w.heap.size, 0, none⟩) 0 0) 0 [] rfl hown (.slice (some a) n cap) n (l.flatMap enc2) rfl hsrc.out ?c2 ?c3 ?c4 ?c5))
  case c2 => unfold maxLen; omega
  case c3 => omega
  case c4 => simp
  case c5 =>
   intro v' w2 hown3 hgrow
   have hfin : Hid (fw w l (.returned v') w2) := ⟨_, rfl, by rw [hn.out]; exact hown3, ((Below.refl _ w).alloc (Nat.le_refl _) _).grown hgrow (by simp) (fun q hq => by cases hq; exact Nat.le_refl _)⟩
   clear hown hgrow hown3 hsrc
   go_wp2_with fail
   go_ret
   exact hfin.out
end Go.Proofs.YtfmpgdafnlehaaaGreat

namespace Go.Proofs.YtfmpgdafnlehaaaGreat
open Go.RowKit Go.Sort Go.Lib
theorem lu {w : World} {base : Nat} {e : TypeId} {sz n k : Nat} {v : Value} {xs : List Value} (h : w.ownsRow base e sz v n xs) (hk : v.ownBlock = some k) : ∃ cur, w.heap[k]? = some (.cells cur e (0, 0)) := by
 rcases h.2 with ⟨rfl, _⟩ | ⟨g, cap, cur, rfl, _, hg, _⟩
 ·simp [Value.ownBlock] at hk
 ·have : g = k := by simpa [Value.ownBlock] using hk
  subst this
  exact ⟨cur, hg⟩
structure ek (B : Nat) (w : World) (z p g : Nat) (lv cv : Value) (L : List (Int × Int)) (ah now : Int) (f : Int → Int) (cs : List (Int × Int)) (a : Nat) (m : Int) : Prop where
 bz : B ≤ z
 obj : w.heap[z]? = some (.cells #[.pointer (some ⟨p, 0, none⟩), lv, cv] 111 (0, 0))
 x : PW w p g L ah
 can : Can L now f
 fr : ∀ t, now ≤ t → 0 ≤ f t ∧ f t ≤ 64
 jk : 0 ≤ now ∧ now ≤ 1099511627776
 ll : L.length ≤ a
 v : 0 ≤ ah ∧ ah ≤ m
 bp : B ≤ p
 bg : B ≤ g
 ch : w.ownsRow B 44 2 cv cs.length (fO cs)
section
variable {B : Nat} {w w' : World} {z p g : Nat} {lv cv : Value} {L : List (Int × Int)} {ah now : Int} {f : Int → Int} {cs : List (Int × Int)} {a : Nat} {m : Int}
theorem ek.kept (h : ek B w z p g lv cv L ah now f cs a m) (hb : Below w.heap.size w w') : ek B w' z p g lv cv L ah now f cs a m :=
 ⟨h.bz, (hb.block _ (aJ h.obj)).trans h.obj, h.x.kept hb, h.can, h.fr, h.jk, h.ll, h.v, h.bp, h.bg, aY h.ch hb⟩
end
end Go.Proofs.YtfmpgdafnlehaaaGreat

namespace Go.Proofs.YtfmpgdafnlehaaaGreat
open Go.RowKit Go.Sort Go.Lib
def aQ (w : World) (lv : Value) (l : List It) : Prop :=
 af ax 4 w lv l ∧ ∀ b off n cap, lv = .slice (some ⟨b, off, none⟩) n cap → ∃ cur, w.heap[b]? = some (Obj.cells cur 156 (0, 0))
section
variable {w w' : World} {lv : Value} {l : List It}
theorem aQ.bG {base n : Nat} {xs : List Value} (h : w.ownsRow base 156 4 lv n xs) (hx : xs = l.flatMap ax) (hn : n = l.length) : aQ w lv l :=
 ⟨af.bG h (fun _ => rfl) hx hn, fun b off m cap e => by subst e; exact lu h rfl⟩
theorem aQ.shape (h : aQ w lv l) : ∃ ao cap, lv = .slice ao l.length cap ∧ l.length ≤ cap ∧ cap ≤ maxLen := by
 obtain ⟨⟨ao, cap, rfl, q1, q2, _⟩, _⟩ := h
 exact ⟨ao, cap, rfl, q1, q2⟩
end
section
variable {B : Nat} {w w' : World} {z p g : Nat} {lv cv : Value} {L : List (Int × Int)} {ah now : Int} {f : Int → Int} {cs : List (Int × Int)} {a : Nat} {m : Int} {l : List It}
theorem lC (h : ek B w z p g lv cv L ah now f cs a m) (hl : aQ w lv l) :
 Calls Tryz.prog 92 #[.pointer (some ⟨z, 0, none⟩)] w fun e w' => e = .returned (.int .i64 l.length) ∧ w = w' := by
 obtain ⟨ao, cap, rfl, q1, q2⟩ := hl.shape
 have c1 : w.cell? ⟨z, 1, none⟩ = some (.slice ao l.length cap) := by simp [World.cell?, h.obj]
 clear h hl q1 q2
 go_enter Tryz.func92, Tryz.ntmps92
 go_wp2_with fail
 go_ret
 exact ⟨rfl, rfl⟩
theorem lD (h : ek B w z p g lv cv L ah now f cs a m) (hl : cs.length ≤ 1000) :
 Calls Tryz.prog 135 #[.pointer (some ⟨z, 0, none⟩)] w (fw w cs) := by
 have hc := nk (af.bG (enc := enc2) h.ch (fun _ => rfl) rfl rfl) hl
 obtain ⟨ao, cap, rfl, _⟩ := bM h.ch
 have c2 : w.cell? ⟨z, 2, none⟩ = some (.slice ao cs.length cap) := by simp [World.cell?, h.obj]
 clear h
 go_enter Tryz.func135, Tryz.ntmps135
 go_wp2_with fail
 go_at_call 177
 refine hc.mono ?_
 clear hc
 rintro e w1 ⟨v1, rfl, ho, hb⟩
 clear c2
 go_wp2_with fail
 go_ret
 exact ⟨_, rfl, ho, hb⟩
end
end Go.Proofs.YtfmpgdafnlehaaaGreat

namespace Go.Proofs.YtfmpgdafnlehaaaGreat
open Go.RowKit Go.Sort Go.Lib
def fP (w : World) (L : List (Int × Int)) (ah now : Int) (f : Int → Int) (a : Nat) (m : Int) (l : List It) (depth : Int) (e : Ending) (w' : World) : Prop :=
 Below w.heap.size w w' ∧ (((depth < 1 ∨ 64 < depth) ∧ e = .returned (.tuple #[.pointer none, .int .i64 1])) ∨
  ((1 ≤ depth ∧ depth ≤ 64) ∧ (∃ x ∈ l.take depth.toNat, ¬ x.ok) ∧ e = .returned (.tuple #[.pointer none, .int .i64 5])) ∨
  ((1 ≤ depth ∧ depth ≤ 64) ∧ (∀ x ∈ l.take depth.toNat, x.ok) ∧ ∃ (z p' g' : Nat) (lv : Value), e = .returned (.tuple #[.pointer (some ⟨z, 0, none⟩), .int .i64 0]) ∧
    ek w.heap.size w' z p' g' lv (.slice none 0 0) L ah now f [] a m ∧ aQ w' lv (l.take depth.toNat)))
structure lG (w : World) (p g : Nat) (L : List (Int × Int)) (ah now : Int) (f : Int → Int) (a : Nat) (m : Int) : Prop where
 x : PW w p g L ah
 can : Can L now f
 fr : ∀ t, now ≤ t → 0 ≤ f t ∧ f t ≤ 64
 jk : 0 ≤ now ∧ now ≤ 1099511627776
 ll : L.length ≤ a
 v : 0 ≤ ah ∧ ah ≤ m
section
variable {w : World} {p g : Nat} {v : Value} {L : List (Int × Int)} {ah now : Int} {f : Int → Int} {a : Nat} {m : Int} {l : List It}
theorem lG.kept {w' : World} (h : lG w p g L ah now f a m) (hb : Below w.heap.size w w') : lG w' p g L ah now f a m := ⟨h.x.kept hb, h.can, h.fr, h.jk, h.ll, h.v⟩
theorem lH (depth : Int) (h : lG w p g L ah now f a m) (ha : a ≤ 1000) (hv : af ax 4 w v l) (hl : l.length ≤ 1000) :
 Calls Tryz.prog 89 #[.pointer (some ⟨p, 0, none⟩), .int .i64 depth, v] w (fP w L ah now f a m l depth) := by
 have hcp := jP h.x h.can.sm.pos (Nat.le_trans h.ll ha)
 have hrec := Lib.hid h
 clear h
 by_cases hd : depth < 1 ∨ 64 < depth
 ·obtain ⟨ao, cap, rfl, _⟩ := hv
  have hd' := Lib.hid hd
  rcases hd with hd | hd
  ·go_enter Tryz.func89, Tryz.ntmps89
   go_wp2_with (go_at_call 128; go_must (refine hcp.mono ?_); rintro e w1 ⟨p1, g1, rfl, h1, h2, h3, hb⟩)
   go_ret2
   exact ⟨hb, .inl ⟨hd'.out, rfl⟩⟩
  ·have hd2 : ¬ depth < 1 := by omega
   go_enter Tryz.func89, Tryz.ntmps89
   go_wp2_with (go_at_call 128; go_must (refine hcp.mono ?_); rintro e w1 ⟨p1, g1, rfl, h1, h2, h3, hb⟩)
   go_ret2
   exact ⟨hb, .inl ⟨hd'.out, rfl⟩⟩
 ·obtain ⟨K, rfl⟩ : ∃ K : Nat, depth = (K : Int) := ⟨depth.toNat, by omega⟩
  have hd1 : ¬ ((K : Int) < 1) := by omega
  have hd2 : ¬ (64 < (K : Int)) := by omega
  have hd0 : Hid (1 ≤ (K : Int) ∧ (K : Int) ≤ 64) := by show _ ∧ _; omega
  clear hd
  obtain ⟨ao, cap, rfl, q1, q2, q3⟩ := hv
  obtain ⟨n, hn⟩ : ∃ n, n = min K l.length := ⟨_, rfl⟩
  have hmin : min (K : Int) (l.length : Int) = (n : Int) := by omega
  have hv : af ax 4 w (.slice ao n cap) (l.take n) := af.cut ⟨ao, cap, rfl, q1, q2, q3⟩ (by omega)
  have htk : Hid (l.take (K : Int).toNat = l.take n) := by
   show _ = _
   rw [Int.toNat_natCast]
   rcases Nat.le_total K l.length with h1 | h1
   ·rw [hn, Nat.min_eq_left h1]
   ·rw [hn, Nat.min_eq_right h1, List.take_of_length_le h1, List.take_of_length_le (Nat.le_refl _)]
  have hnl : n ≤ l.length := by omega
  have hln : (l.take n).length ≤ 1000 := by rw [List.length_take]; omega
  have hcf := fun (W : World) (hW : Below w.heap.size w W) => gI (hv.below hW) hln
  have hcl := fun (W : World) (hW : Below w.heap.size w W) => ni (hv.below hW) hln
  replace hcf := Lib.hid hcf
  replace hcl := Lib.hid hcl
  clear q3 hv
  replace hn := Lib.hid hn
  have b0 : (0 : Int) ≤ n := by omega
  have b1 : n ≤ cap := by omega
  go_enter Tryz.func89, Tryz.ntmps89
  go_wp2_with (go_at_call 128; go_must (refine hcp.mono ?_); rintro e w1 ⟨p1, g1, rfl, h1, h2, h3, hb⟩)
  go_at_call 129
  refine (hcf.out w1 hb).mono ?_
  clear hcf hcp
  rintro e w2 ⟨bb, rfl, hno, gY, hb2⟩
  cases bb with
  | true =>
    have hfin : Hid (fP w L ah now f a m l K (.returned (.tuple #[.pointer none, .int .i64 5])) w2) := ⟨hb.trans (hb2.mono hb.size), .inr (.inl ⟨hd0.out, by rw [htk.out]; exact gY rfl, rfl⟩)⟩
    clear hno gY h1 h2 h3 hb hb2
    go_wp2_with fail
    go_ret2
    exact hfin.out
  | false =>
    have hall := Lib.hid (hno rfl)
    clear hno gY
    have gF := hb.trans (hb2.mono hb.size)
    have hx2 := h1.kept hb2
    have sP := hcl.out w2 gF
    clear hcl h1 hb hb2
    replace hx2 := Lib.hid hx2
    go_wp2_with fail
    go_at_call 132
    refine sP.mono ?_
    clear sP
    rintro e w3 ⟨v3, rfl, ho3, hb3⟩
    have hx3 := hx2.out.kept hb3
    have hsz := gF.size
    have vQ := hb3.size
    have hlen : (l.take n).length = n := by rw [List.length_take]; omega
    rw [hlen] at ho3
    obtain ⟨uT, sQ, rfl, _⟩ := bM ho3
    have hb4 := gF.trans (hb3.mono hsz)
    obtain ⟨o, ho⟩ : ∃ o, o = Obj.cells #[.pointer (some ⟨p1, 0, none⟩), .slice uT n sQ, .slice none 0 0] 111 := ⟨_, rfl⟩
    have hal : Below w3.heap.size w3 (w3.alloc o) := (Below.refl _ _).alloc (Nat.le_refl _) _
    have rz : (w3.alloc o).heap[w3.heap.size]? = some o := heap_alloc_new w3 o
    rw [show some o = some (Obj.cells #[.pointer (some ⟨p1, 0, none⟩), .slice uT n sQ, .slice none 0 0] 111) from by rw [ho]] at rz
    have hfin : Hid (fP w L ah now f a m l K (.returned (.tuple #[.pointer (some ⟨w3.heap.size, 0, none⟩), .int .i64 0])) (w3.alloc o)) :=
     ⟨hb4.alloc (by have := hb4.size; omega) _, .inr (.inr ⟨hd0.out, by rw [htk.out]; exact hall.out, w3.heap.size, p1, g1, _, rfl,
      ⟨by have := hb4.size; omega, rz, hx3.kept hal, hrec.out.can, hrec.out.fr, hrec.out.jk, hrec.out.ll, hrec.out.v, h2, h3, World.ownsRow_nil _ w.heap.size 44 2⟩,
      by rw [htk.out]; exact aQ.bG (aY ho3 hal) rfl hlen.symm⟩)⟩
    rw [ho] at hfin
    clear rz hal hb4 hx3 ho3 hb3 hx2 hall gF ho
    go_wp2_with fail
    go_ret2
    exact hfin.out
end
end Go.Proofs.YtfmpgdafnlehaaaGreat

namespace Go.Proofs.YtfmpgdafnlehaaaGreat
open Go.RowKit Go.Lib Go.Sort
theorem CW.vI {w w1 : World} {c t d p g a : Nat} {v : Value} {m : Int} {P : Pg} (h : CW w c t d p v g a m P) (blk : ∀ k, cz c t d p v g k → w1.heap[k]? = w.heap[k]?) : CW w1 c t d p v g a m P := by
 obtain ⟨S, ah, ⟨cap, hp1, hp2⟩, hrest⟩ := h.nL
 refine ⟨(blk c (.inl rfl)).trans h.cell, ⟨(blk t (.inr (.inl rfl))).trans h.ji.cell, aM h.ji.own fun k hk => blk k (.inr (.inr (.inr (.inr (.inl hk)))))⟩, (blk d (.inr (.inr (.inl rfl)))).trans h.nodes, S, ah, ⟨cap, (blk p (.inr (.inr (.inr (.inl rfl))))).trans hp1, aM hp2 fun k hk => ?_⟩, hrest⟩
 have e : k = g := by simpa [Value.ownBlock] using hk.symm
 exact blk k (.inr (.inr (.inr (.inr (.inr e)))))
section
end
end Go.Proofs.YtfmpgdafnlehaaaGreat

namespace Go.Proofs.YtfmpgdafnlehaaaGreat
open Go.RowKit Go.Lib Go.Sort
section
variable {w : World} {f c t d p g : Nat} {v : Value} {m : Int} {F : Fi} {n : Nat}
theorem lJ {r : List Jb} (h : iF (aF n) r) : r = [] := by
 have h1 := h.1
 rw [show ((aF n).L.filter fun j => decide (j.state = 1)) = [] from rfl] at h1
 exact h1.eq_nil
theorem jU (q : ag w f F) (hC : CW w c t d p v g 1 m (dC (aF n))) (hst : F.st = 1) (hf : ∀ k, cz c t d p v g k → k ≠ f) :
 Calls Tryz.prog 54 #[.pointer (some ⟨f, 0, none⟩), .pointer (some ⟨c, 0, none⟩)] w fun e w' => e = .returned (.tuple #[]) ∧ ∃ v', ag w' f { F with st := 2, it := v' } ∧ af ax 4 w' v' [] ∧ ay (fun k => k = f) w w' := by
 have ho := qZ c w
 have q0 := Lib.hid q
 have C0 := Lib.hid hC
 clear q hC
 go_enter Tryz.func54, Tryz.ntmps54
 go_wp2_with fail
 go_at_call 87
 refine ho.mono ?_
 clear ho
 rintro e w1 ⟨rfl, hs, hb1⟩
 have hS : SO 0 w1 w.heap.size c t d p v g m (aF n) := ⟨hs, Nat.zero_le _, C0.out.kept hb1, fun _ _ => Nat.zero_le _⟩
 have hi := mZ hS (Nat.zero_le _)
 replace hb1 := Lib.hid hb1
 clear hs hS
 go_wp2_with fail
 go_at_call 23
 refine hi.mono ?_
 clear hi
 rintro e w2 ⟨v', r, rfl, hW, hr, hb2⟩
 obtain rfl := lJ hW
 have gF : Below w.heap.size w w2 := hb1.out.trans (hb2.mono hb1.out.size)
 have q2 := q0.out.below gF q0.out.lt
 obtain ⟨ao, cap, rfl, r1, r2, _⟩ := hr
 have c5 := q2.c5
 have f5 := q2.free 5
 have q3 := q2.p9 (.slice ao 0 cap)
 have c4 := q3.c4
 have f4 := q3.free 4
 have hs1 : IntKind.i64.wrap (F.st + 1) = 2 := by rw [hst]; rfl
 have hs2 : F.st + 1 = 2 := by rw [hst]; rfl
 have q4 := q3.setSt 2
 have ow := aD (h := f) (ay.of_below (S := fun k => k = f) gF) rfl 5 (.slice ao 0 cap)
 have vJ := Lib.hid (aD (h := f) ow rfl 4 (.int .i64 2))
 replace q4 := Lib.hid q4
 have hrow : Hid (∀ W, af ax 4 W (.slice ao 0 cap) []) := fun W => ⟨ao, cap, rfl, r1, r2, fun h => absurd h (by decide)⟩
 have wO : w2.cell? ⟨f, 4, none⟩ = some (.int .i64 1) := by rw [q2.c4, hst]
 rw [show (({ F with it := .slice ao 0 cap } : Fi)).st = 1 from hst] at c4
 clear q2 q3 ow hb2 gF hW hs1 hs2
 go_wp2_with fail
 go_end0
 exact ⟨rfl, _, q4.out, hrow.out _, vJ.out⟩
theorem ek.sF {B : Nat} {w w' : World} {z p g : Nat} {lv : Value} {L : List (Int × Int)} {ah now : Int} {h : Int → Int} {a : Nat} {m : Int} (q : ek B w z p g lv (.slice none 0 0) L ah now h [] a m) (blk : ∀ k, B ≤ k → k < w.heap.size → w'.heap[k]? = w.heap[k]?) : ek B w' z p g lv (.slice none 0 0) L ah now h [] a m := by
 obtain ⟨cap, hp1, hp2⟩ := q.x
 refine ⟨q.bz, (blk z q.bz (aJ q.obj)).trans q.obj, ⟨cap, (blk p q.bp (aJ hp1)).trans hp1, aM hp2 fun k hk => ?_⟩, q.can, q.fr, q.jk, q.ll, q.v, q.bp, q.bg, ⟨rfl, .inl ⟨rfl, rfl⟩⟩⟩
 have e : k = g := by simpa [Value.ownBlock] using hk.symm
 subst e
 obtain ⟨cur, hg⟩ := lu hp2 hk
 exact blk k q.bg (aJ hg)
theorem dD {S : Nat → Prop} {w w' : World} {lv : Value} (h : aQ w lv []) (ho : ay S w w') (hS : ∀ k cur, w.heap[k]? = some (Obj.cells cur 156 (0, 0)) → ¬ S k) : aQ w' lv [] := by
 obtain ⟨⟨ao, cap, rfl, q1, q2, q3⟩, h2⟩ := h
 refine ⟨⟨ao, cap, rfl, q1, q2, fun h => absurd h (by decide)⟩, fun b off n cap e => ?_⟩
 obtain ⟨cur, hb⟩ := h2 b off n cap e
 exact ⟨cur, (ho.block b (aJ hb) (hS b cur hb)).trans hb⟩
theorem jl {w : World} {f : Nat} {F : Fi} (q : ag w f F) (k : Nat) (cur : Array Value) (h : w.heap[k]? = some (Obj.cells cur 156 (0, 0))) : k ≠ f := Put.eU h q (by decide)
def lK (n B : Nat) (w : World) (z : Nat) (ah m : Int) : Prop := ∃ (p g : Nat) (lv : Value) (L : List (Int × Int)), ek B w z p g lv (.slice none 0 0) L ah 0 (fun t => bP (aF n) t 0) [] 1 m ∧ aQ w lv []
theorem lK.nO {S : Nat → Prop} {B : Nat} {w w' : World} {z : Nat} {ah m : Int} (h : lK n B w z ah m) (ho : ay S w w') (hS : ∀ k cur, w.heap[k]? = some (Obj.cells cur 156 (0, 0)) → ¬ S k) (hB : ∀ k, B ≤ k → ¬ S k) : lK n B w' z ah m := by
 obtain ⟨p, g, lv, L, h1, h2⟩ := h
 exact ⟨p, g, lv, L, h1.sF fun k hk hl => ho.block k hl (hB k hk), dD h2 ho hS⟩
theorem jV (q : ag w f F) (hC : CW w c t d p v g 1 m (dC (aF n))) (hn : n ≤ 64) (hst : F.st = 4) (hd : 1 ≤ F.dep ∧ F.dep ≤ 64) (hrow : ∀ W, af ax 4 W F.it []) :
 Calls Tryz.prog 56 #[.pointer (some ⟨f, 0, none⟩), .pointer (some ⟨c, 0, none⟩)] w fun e w' => e = .returned (.tuple #[]) ∧ ∃ z ah, ag w' f { F with pl := z, ah := ah, it := .slice none 0 0, st := 5 } ∧ lK n w.heap.size w' z ah m ∧ ay (fun k => k = f) w w' := by
 have hno := kX hC
 have c2 := hC.c2
 have sG : ∃ S ah, lG w p g S ah 0 (fun t => bP (aF n) t 0) 1 m := by
  obtain ⟨S, ah, hp, uU, hl, hv0, hv1⟩ := hC.nL
  exact ⟨S, ah, hp, uU, fun t _ => by show 0 ≤ bP (aF n) t 0 ∧ bP (aF n) t 0 ≤ 64; rw [iD]; omega, by decide, hl, hv0, hv1⟩
 obtain ⟨S, ah, sG⟩ := sG
 have q0 := Lib.hid q
 have C0 := Lib.hid hC
 have hnew : Hid (∀ W, Below w.heap.size w W → Calls Tryz.prog 89 #[.pointer (some ⟨p, 0, none⟩), .int .i64 F.dep, F.it] W fun e w' => Below W.heap.size W w' ∧ ∃ z p' g' lv, e = .returned (.tuple #[.pointer (some ⟨z, 0, none⟩), .int .i64 0]) ∧ ek w.heap.size w' z p' g' lv (.slice none 0 0) S ah 0 (fun t => bP (aF n) t 0) [] 1 m ∧ aQ w' lv []) := by
  intro W hW
  refine (lH F.dep (sG.kept hW) (by decide) (hrow W) (Nat.zero_le _)).mono ?_
  rintro e w' ⟨hb, h | ⟨_, ⟨x, hx, _⟩, _⟩ | ⟨_, _, z, p', g', lv, he, h1, h2⟩⟩
  ·omega
  ·simp at hx
  ·have hs := hW.size
   refine ⟨hb, z, p', g', lv, he, ⟨Nat.le_trans hs h1.bz, h1.obj, h1.x, h1.can, h1.fr, h1.jk, h1.ll, h1.v, Nat.le_trans hs h1.bp, Nat.le_trans hs h1.bg, ⟨rfl, .inl ⟨rfl, rfl⟩⟩⟩, by simpa using h2⟩
 clear sG q hC
 go_enter Tryz.func56, Tryz.ntmps56
 go_wp2_with (go_at_call 88; go_must (refine hno.mono ?_); rintro e w' ⟨rfl, rfl⟩)
 refine Reg2.tL 17 49 (Reg2.rows 0 [.p 0, .p 1, .p 3, .m 7, .p 0, .p 16, .p 48, .m 112, .p 0, .p 256, .p 768, .m 1792, .m 4095, .p 8191, .p 16383, .p 16383, .p 32767]) [0, 0, 0, 1, 0, 0, 0, 1, 0, 0, 0, 1, 1, 0, 0, 0, 0]
  [.pure, .pure, .pure, .mU (.pointer (some ⟨p, 0, none⟩)), .pure, .pure, .pure, .mU (.int .i64 F.dep), .pure, .pure, .pure, .mU (F.it), .minor Nat 0 (fun z => .tuple #[.pointer (some ⟨z, 0, none⟩), .int .i64 0]) (fun z W => ∃ p' g' lv, ek w.heap.size W z p' g' lv (.slice none 0 0) S ah 0 (fun t => bP (aF n) t 0) [] 1 m ∧ aQ W lv []), .pure, .pure, .pure, .pure]
  (fun W => Below w.heap.size w W) (fun _ _ => True) (fun a b => Below a.heap.size a b) (by kernel_rfl) (by kernel_rfl) rfl rfl (fun vs a b h hs => trivial) ?_ ?_ ?_ ?_ ?_ ?_
 ·intro a b he hb; exact hb.trans (Below.mono he hb.size)
 ·intro a b he hb; exact hb.trans (Below.mono he hb.size)
 ·have k1 : ∀ (x : Nat) (a b : World), Below a.heap.size a b → (∃ p' g' lv, ek w.heap.size a x p' g' lv (.slice none 0 0) S ah 0 (fun t => bP (aF n) t 0) [] 1 m ∧ aQ a lv []) → ∃ p' g' lv, ek w.heap.size b x p' g' lv (.slice none 0 0) S ah 0 (fun t => bP (aF n) t 0) [] 1 m ∧ aQ b lv [] := fun x a b he h => by
   obtain ⟨p', g', lv, h1, h2⟩ := h
   exact ⟨p', g', lv, h1.kept he, dD (S := fun _ => False) h2 (ay.of_below he) fun _ _ _ h => h⟩
  have k0 : ∀ (v : Value), Reg2.dw (fun a b => Below a.heap.size a b) (.minor Unit () (fun _ => v) (fun _ _ => True)) := fun _ => ⟨fun _ _ _ _ _ => trivial, fun _ _ _ _ _ => trivial⟩
  exact ⟨trivial, trivial, trivial, k0 _, trivial, trivial, trivial, k0 _, trivial, trivial, trivial, k0 _, ⟨k1, k1⟩, trivial, trivial, trivial, trivial, trivial⟩
 ·exact ⟨rfl, rfl, rfl, Nat.le_refl _, fun _ _ => rfl⟩
 ·trivial
 dsimp only [Reg2.mk, Reg2.rows, List.zip, List.zipWith, List.take]
 repeat ((first
  | (refine' Reg2.dK _ (by rfl) (fun wz => ?_) ?_; rotate_left; (go_simp; first | rfl | rw [if_neg (by omega)]))
  | (refine Reg2.dL (by rfl) (fun wz hI hF => ?_) (fun _ => ?_)
     ·unfold Reg2.One
      have d0 := (C0.out.kept hI).c2
      have d1 := (q0.out.below hI q0.out.lt).c3
      have d2 := (q0.out.below hI q0.out.lt).c5
      go_wp2_with fail
      first | exact ⟨_, rfl, rfl, Reg2.Ext.refl _⟩ | exact ⟨_, rfl, ⟨(), rfl, trivial⟩, Reg2.Ext.refl _⟩)); simp only [Act.put, xA, xB, xC, xD, xE, id])
 refine Reg2.pm (fun wz hI hF => ?_) (fun z => ?_) (by rfl)
 ·have hc := hnew.out wz hI
  go_wp2_with fail
  go_at_call 89
  refine hc.mono ?_
  clear hc
  rintro e w5 ⟨hb, z, p', g', lv, rfl, h1, h2⟩
  replace h1 := Lib.hid h1
  replace h2 := Lib.hid h2
  go_wp2_with fail
  exact ⟨_, rfl, ⟨z, rfl, p', g', lv, h1.out, h2.out⟩, hb⟩
 simp only [Act.put, xA, xB, xC, xD, xE, id]
 repeat (refine' Reg2.dK _ (by rfl) (fun wz => ?_) ?_; rotate_left; (go_simp; first | rfl | rw [if_neg (by omega)]); simp only [Act.put, xA, xB, xC, xD, xE, id])
 refine Reg2.fD ?_
 intro w1 HI _ HF
 obtain ⟨p', g', lv, hP, hL⟩ := HF.2.2.2.2.2.2.2.2.2.2.2.2.1
 clear HF c2
 dsimp only [List.drop]
 have q1 := q0.out.below HI q0.out.lt
 have z0 : w1.cell? ⟨z, 0, none⟩ = some (.pointer (some ⟨p', 0, none⟩)) := by simp [World.cell?, hP.obj]
 have uV := jN hP.x hP.can.sm.pos
 have hvb := hP.v
 have c0 := q1.c0
 have f0 := q1.free 0
 have q2 := q1.tO z
 have c6 := q2.c6
 have f6 := q2.free 6
 have q3 := q2.rV ah
 have c5 := q3.c5
 have f5 := q3.free 5
 have q4 := q3.p9 (.slice none 0 0)
 have c4 := q4.c4
 have f4 := q4.free 4
 have q5 := Lib.hid (q4.setSt 5)
 have o1 : ay (fun k => k = f) w w1 := ay.of_below HI
 have o2 := aD (h := f) o1 rfl 0 (.pointer (some ⟨z, 0, none⟩))
 have o3 := aD (h := f) o2 rfl 6 (.int .i64 ah)
 have o4 := aD (h := f) o3 rfl 5 (.slice none 0 0)
 have o5 := Lib.hid (aD (h := f) o4 rfl 4 (.int .i64 5))
 have o6 : ay (fun k => k = f) w1 _ := aD (h := f) (aD (h := f) (aD (h := f) (aD (h := f) (ay.refl (fun k => k = f) w1) rfl 0 (.pointer (some ⟨z, 0, none⟩))) rfl 6 (.int .i64 ah)) rfl 5 (.slice none 0 0)) rfl 4 (.int .i64 5)
 have hpl : Hid (lK n w.heap.size _ z ah m) := lK.nO ⟨p', g', lv, S, hP, hL⟩ o6 (fun k cur h => jl q1 k cur h) (fun k hk e => by have := q0.out.lt; omega)
 rw [show (({ F with pl := z, ah := ah, it := .slice none 0 0 } : Fi)).st = 4 from hst] at c4
 have vR : IntKind.i64.wrap ((4 : Int) + 1) = 5 := by decide
 clear hP hL q1 q2 q3 q4 o1 o2 o3 o4 o6 HI hno
 go_wp2_with (go_at_call 90; go_must (refine uV.mono ?_); rintro e w' ⟨rfl, rfl⟩)
 go_end0
 exact ⟨rfl, z, ah, q5.out, hpl.out, o5.out⟩
end
end Go.Proofs.YtfmpgdafnlehaaaGreat

namespace Go.Proofs.YtfmpgdafnlehaaaGreat
open Go.RowKit Go.Lib Go.Sort
section
variable {w : World} {f c t d p g s : Nat} {v : Value} {m : Int} {F : Fi} {n B z : Nat} {ah : Int}
theorem nu (q : ag w f F) {p' g' : Nat} {lv cv : Value} {L : List (Int × Int)} {now : Int} {h : Int → Int} {a : Nat} (hP : ek B w F.pl p' g' lv cv L ah now h [] a m) :
 Calls Tryz.prog 93 #[.pointer (some ⟨f, 0, none⟩), .int .i64 0] w fun e w' => e = .returned (.tuple #[]) ∧ ag w' f { F with st := 8 } ∧ ay (fun k => k = f) w w' := by
 have hc := lD hP (Nat.zero_le _)
 have c0 := q.c0
 have q0 := Lib.hid q
 clear q hP
 go_enter Tryz.func93, Tryz.ntmps93
 go_wp2_with fail
 go_at_call 135
 refine hc.mono ?_
 clear hc c0
 rintro e w1 ⟨v', rfl, how, hb1⟩
 obtain ⟨ao, cap, rfl, _⟩ := bM how
 have q1 := q0.out.below hb1 q0.out.lt
 have c4 := q1.c4
 have f4 := q1.free 4
 have q2 := q1.setSt 8
 have c10 := q2.c10
 have f10 := q2.free 10
 have q3 := Lib.hid q2.qa
 have o3 := Lib.hid (aD (h := f) (aD (h := f) (ay.of_below (S := fun k => k = f) hb1) rfl 4 (.int .i64 8)) rfl 10 (.pointer none))
 have e0 : List.length ([] : List (Int × Int)) = 0 := rfl
 rw [e0]
 clear how q1 q2 hb1
 go_wp2_with fail
 refine bodyPost_ret (results_none rfl _ _ _) rfl ?_
 exact ⟨rfl, q3.out, o3.out⟩
theorem nz {p' g' : Nat} {lv cv : Value} {L : List (Int × Int)} {now : Int} {h : Int → Int} {cs : List (Int × Int)} {a : Nat} (k : Int) (hP : ek B w z p' g' lv cv L ah now h cs a m) (hl : aQ w lv []) :
 Calls Tryz.prog 91 #[.pointer (some ⟨z, 0, none⟩), .int .i64 k] w fun e w' => e = .returned (.int .i64 0) ∧ Below w.heap.size w w' := by
 have hlf := lC hP hl
 rw [show ((([] : List It).length : Nat) : Int) = 0 from rfl] at hlf
 have hK2 : max 0 (min k (0 : Int)) = 0 := by omega
 clear hP hl
 go_enter Tryz.func91, Tryz.ntmps91
 go_wp2_with (go_at_call 92; go_must (refine hlf.mono ?_); rintro e w' ⟨rfl, rfl⟩)
 clear hlf hK2
 go_loopw [11] (fun ii wr => ii = .int .i64 0 ∧ Hid (Below w.heap.size w wr)) (fun _ _ => 0)
 case atStart => exact ⟨rfl, Below.refl _ _⟩
 case round =>
  obtain ⟨rfl, hb⟩ := hrel
  go_wp2_with fail
  go_ret
  exact ⟨rfl, hb.out⟩
theorem jW (q : ag w f F) (hP : lK n B w F.pl ah m) :
 Calls Tryz.prog 57 #[.pointer (some ⟨f, 0, none⟩)] w fun e w' => e = .returned (.tuple #[]) ∧ ag w' f { F with st := 8 } ∧ ay (fun k => k = f) w w' := by
 obtain ⟨p', g', lv, L, h1, h2⟩ := hP
 have q0 := Lib.hid q
 replace h1 := Lib.hid h1
 replace h2 := Lib.hid h2
 clear q
 go_enter Tryz.func57, Tryz.ntmps57
 go_wp2_with fail
 refine Reg2.ro w 8 19 [.p 0, .p 1, .p 3, .m 7, .p 0, .p 16, .p 48, .m 112] [.pointer (some ⟨F.pl, 0, none⟩), .int .i64 F.aZ] (by kernel_rfl) (by kernel_rfl) rfl rfl ⟨rfl, rfl, rfl, Nat.le_refl _, fun _ _ => rfl⟩ ?_
 dsimp only [Reg2.jE]
 repeat ((first
  | (refine' Reg2.dK _ (by rfl) (fun wz => ?_) ?_; rotate_left; (go_simp; first | rfl | rw [if_neg (by omega)]))
  | (refine Reg2.dL (by rfl) (fun wz hI hF => ?_) (fun _ => ?_)
     ·unfold Reg2.One
      have d0 := (q0.out.below hI q0.out.lt).c0
      have d1 := (q0.out.below hI q0.out.lt).c2
      go_wp2_with fail
      first | exact ⟨_, rfl, rfl, Reg2.Ext.refl _⟩ | exact ⟨_, rfl, ⟨(), rfl, trivial⟩, Reg2.Ext.refl _⟩)); simp only [Act.put, xA, xB, xC, xD, xE, id])
 refine Reg2.fD ?_
 intro w1 HI _ vK
 clear vK
 dsimp only [List.drop]
 have hl1 := dD (S := fun _ => False) h2.out (ay.of_below HI) fun _ _ _ h => h
 have hN := nz F.aZ (h1.out.kept HI) hl1
 replace HI := Lib.hid HI
 clear hl1
 go_wp2_with fail
 go_at_call 91
 refine hN.mono ?_
 clear hN
 rintro e w2 ⟨rfl, hb2⟩
 have hb : Below w.heap.size w w2 := HI.out.trans (hb2.mono HI.out.size)
 have q2 := q0.out.below hb q0.out.lt
 have hP2 := h1.out.kept hb
 have hL2 := dD (S := fun _ => False) h2.out (ay.of_below hb) fun _ _ _ h => h
 have o2 : Hid (ay (fun k => k = f) w w2) := ay.of_below hb
 have hlf := lC hP2 hL2
 have hbg := nu q2 hP2
 have c0 := q2.c0
 clear hP2 hL2 hb2 q2 hb
 rw [show ((([] : List It).length : Nat) : Int) = 0 from rfl] at hlf
 go_wp2_with (first
  | (go_at_call 92; go_must (refine hlf.mono ?_); rintro e w' ⟨rfl, rfl⟩)
  | (go_at_call 93; go_must (refine hbg.mono ?_); rintro e w3 ⟨rfl, q3, o3⟩; replace q3 := Lib.hid q3; replace o3 := Lib.hid o3))
 go_end0
 exact ⟨rfl, q3.out, o2.out.trans o3.out (nC.refl _ _)⟩
end
def lF : Nat → Lk
 | 0 => ⟨0, 0, 0, 0⟩
 | 1 => ⟨1, 0, 0, 1⟩
 | 2 => ⟨1, 0, 0, 1⟩
 | 3 => ⟨0, 0, 0, 1⟩
 | 4 => ⟨0, 0, 1, 2⟩
 | 5 => ⟨0, 0, 1, 2⟩
 | _ => ⟨0, 0, 0, 2⟩
structure sH (W : World) (c t d p : Nat) (v : Value) (g s f i : Nat) (F : Fi) : Prop where
 fi : ag W f F
 who : F.who = 1
 dep : F.dep = 9
 st : F.st = if i = 7 then 8 else (i : Int)
 lk : au 29 W s (lF i)
 core : CW W c t d p v g 1 0 (dC (aF 3))
 row : 2 ≤ i → i ≤ 4 → ∀ W, af ax 4 W F.it []
 lU : 5 ≤ i → i ≤ 6 → ∃ B ah, s < B ∧ lK 3 B W F.pl ah 0
structure sS (B c t d p : Nat) (v : Value) (g s f : Nat) : Prop where
 lo : ∀ k, cz c t d p v g k → B ≤ k ∧ k < f
 fs : f < s
 bf : B ≤ f
section
variable {B c t d p g s f i : Nat} {v : Value} {W : World} {F : Fi}
theorem pE {w : World} {l : Lk} (q : au 29 w s l) (k : Nat) (cur : Array Value) (h : w.heap[k]? = some (Obj.cells cur 156 (0, 0))) : k ≠ s := Put.eU h q (by decide)
theorem ui (G : sS B c t d p v g s f) (C : sH W c t d p v g s f i F) (hi : i < 7) (hB : B ≤ W.heap.size) :
 Calls Tryz.prog 17 #[.pointer (some ⟨f, 0, none⟩), .pointer (some ⟨c, 0, none⟩), .pointer (some ⟨s, 0, none⟩)] W fun e w' => e = .returned bR ∧ (∃ F', sH w' c t d p v g s f (i + 1) F') ∧ Below B W w' := by
 have wP := G.fs
 have wQ := G.bf
 have hw0 : F.who ≠ 0 := by rw [C.who]; decide
 have hne : f ≠ s := by omega
 have nf : ∀ k, cz c t d p v g k → k ≠ f ∧ k ≠ s := fun k hk => by have := (G.lo k hk).2; omega
 have lf := C.fi.lt
 have ls := C.lk.lt
 have hC0 : ∀ {w1 : World}, Below W.heap.size W w1 → ag w1 f F ∧ au 29 w1 s (lF i) ∧ CW w1 c t d p v g 1 0 (dC (aF 3)) := fun hb => ⟨C.fi.below hb lf, C.lk.below hb ls, C.core.kept hb⟩
 have fin : ∀ {w1 w' : World}, Below W.heap.size W w1 → aj w1 W.heap.size → ay (fun k => k = f ∨ k = s) w1 w' → CW w' c t d p v g 1 0 (dC (aF 3)) ∧ aj w' W.heap.size ∧ Below B W w' := fun {w1 w'} hb hz ho => by
  have hcw := (hC0 hb).2.2
  exact ⟨hcw.vI fun k hk => ho.block k (hcw.lt hk) (by have := nf k hk; omega), (ho.block _ (aJ hz) (by omega)).trans hz, (hb.mono hB).trans (ho.below (fun k hk => by omega) (Nat.le_trans hB hb.size))⟩
 have wide : ∀ {w1 w' : World}, ay (fun k => k = f) w1 w' → ay (fun k => k = f ∨ k = s) w1 w' := fun h => ⟨h.os, h.tape, h.output, h.size, fun k hk hn => h.block k hk fun e => hn (.inl e)⟩
 have hq : i = 0 ∨ i = 1 ∨ i = 2 ∨ i = 3 ∨ i = 4 ∨ i = 5 ∨ i = 6 := by omega
 have hwho := C.who
 have hst := C.st
 rcases hq with rfl | rfl | rfl | rfl | rfl | rfl | rfl
 ·have hst : F.st = 0 := by simpa using hst
  refine qc C.fi hw0 hst fun w1 hz hb => (iX 0 (hC0 hb).1 (hC0 hb).2.1 (by decide) (by rw [hwho]; rfl) (by omega) hne).mono ?_
  rintro e w' ⟨rfl, h1, h2, h3⟩
  obtain ⟨k1, k2, k3⟩ := fin hb hz h3
  rw [hwho] at h2
  exact ⟨rfl, ⟨⟨_, h1, hwho, C.dep, by show F.st + 1 = _; rw [hst]; rfl, h2, k1, fun h => absurd h (by decide), fun h => absurd h (by decide)⟩, k3⟩, k2⟩
 ·have hst : F.st = 1 := by simpa using hst
  refine qd C.fi hw0 hst fun w1 hz hb => (jU (hC0 hb).1 (hC0 hb).2.2 hst fun k hk => (nf k hk).1).mono ?_
  rintro e w' ⟨rfl, v', h1, h2, h3⟩
  obtain ⟨k1, k2, k3⟩ := fin hb hz (wide h3)
  obtain ⟨ao, cap, rfl, r1, r2, _⟩ := h2
  exact ⟨rfl, ⟨⟨_, h1, hwho, C.dep, rfl, (h3.block s (hC0 hb).2.1.lt (Ne.symm hne)).trans (hC0 hb).2.1, k1, fun _ _ W => ⟨ao, cap, rfl, r1, r2, fun h => absurd h (by decide)⟩, fun h => absurd h (by decide)⟩, k3⟩, k2⟩
 ·have hst : F.st = 2 := by simpa using hst
  refine qf C.fi hw0 hst fun w1 hz hb => (iY 0 (hC0 hb).1 (hC0 hb).2.1 (by omega) hne).mono ?_
  rintro e w' ⟨rfl, h1, h2, h3⟩
  obtain ⟨k1, k2, k3⟩ := fin hb hz h3
  rw [hwho] at h2
  exact ⟨rfl, ⟨⟨_, h1, hwho, C.dep, by show F.st + 1 = _; rw [hst]; rfl, h2, k1, fun _ _ => C.row (by decide) (by decide), fun h => absurd h (by decide)⟩, k3⟩, k2⟩
 ·have hst : F.st = 3 := by simpa using hst
  refine qg C.fi hw0 hst fun w1 hz hb => (iX 2 (hC0 hb).1 (hC0 hb).2.1 (by decide) (by rw [hwho]; rfl) (by omega) hne).mono ?_
  rintro e w' ⟨rfl, h1, h2, h3⟩
  obtain ⟨k1, k2, k3⟩ := fin hb hz h3
  rw [hwho] at h2
  exact ⟨rfl, ⟨⟨_, h1, hwho, C.dep, by show F.st + 1 = _; rw [hst]; rfl, h2, k1, fun _ _ => C.row (by decide) (by decide), fun h => absurd h (by decide)⟩, k3⟩, k2⟩
 ·have hst : F.st = 4 := by simpa using hst
  refine qh C.fi hw0 hst fun w1 hz hb => (jV (hC0 hb).1 (hC0 hb).2.2 (by decide) hst (by rw [C.dep]; decide) (C.row (by decide) (by decide))).mono ?_
  rintro e w' ⟨rfl, z, ah, h1, h2, h3⟩
  obtain ⟨k1, k2, k3⟩ := fin hb hz (wide h3)
  exact ⟨rfl, ⟨⟨_, h1, hwho, C.dep, rfl, (h3.block s (hC0 hb).2.1.lt (Ne.symm hne)).trans (hC0 hb).2.1, k1, fun _ h => absurd h (by decide), fun _ _ => ⟨_, ah, (hC0 hb).2.1.lt, h2⟩⟩, k3⟩, k2⟩
 ·have hst : F.st = 5 := by simpa using hst
  refine ql C.fi hw0 hst fun w1 hz hb => (iY 2 (hC0 hb).1 (hC0 hb).2.1 (by omega) hne).mono ?_
  rintro e w' ⟨rfl, h1, h2, h3⟩
  obtain ⟨k1, k2, k3⟩ := fin hb hz h3
  rw [hwho] at h2
  obtain ⟨B', ah, hsB, hP⟩ := C.lU (by decide) (by decide)
  have hP1 := hP.nO (S := fun _ => False) (ay.of_below hb) (fun _ _ _ h => h) fun _ _ h => h
  have hP2 := hP1.nO h3 (fun k cur hk => by have a1 := jl (hC0 hb).1 k cur hk; have a2 := pE (hC0 hb).2.1 k cur hk; omega) fun k hk => by omega
  exact ⟨rfl, ⟨⟨_, h1, hwho, C.dep, by show F.st + 1 = _; rw [hst]; rfl, h2, k1, fun _ h => absurd h (by decide), fun _ _ => ⟨B', ah, hsB, hP2⟩⟩, k3⟩, k2⟩
 ·have hst : F.st = 6 := by simpa using hst
  obtain ⟨B', ah, hsB, hP⟩ := C.lU (by decide) (by decide)
  refine qm C.fi hw0 hst fun w1 hz hb => (jW (hC0 hb).1 (hP.nO (S := fun _ => False) (ay.of_below hb) (fun _ _ _ h => h) fun _ _ h => h)).mono ?_
  rintro e w' ⟨rfl, h1, h3⟩
  obtain ⟨k1, k2, k3⟩ := fin hb hz (wide h3)
  exact ⟨rfl, ⟨⟨_, h1, hwho, C.dep, rfl, (h3.block s (hC0 hb).2.1.lt (Ne.symm hne)).trans (hC0 hb).2.1, k1, fun _ h => absurd h (by decide), fun _ h => absurd h (by decide)⟩, k3⟩, k2⟩
theorem iI (w : World) : Calls Tryz.prog 24 #[] w fun e w' => e = .returned (.bool true) ∧ Below w.heap.size w w' := by
 have hc := qY 3 w (by decide) (by decide)
 go_enter Tryz.func24, Tryz.ntmps24
 go_wp2_with fail
 go_at_call 48
 refine hc.mono ?_
 clear hc
 rintro e w1 ⟨c, t, d, p, v, g, rfl, rA, hb1⟩
 have hlt1 : Hid (∀ k, cz c t d p v g k → k < w1.heap.size) := fun k hk => rA.cw.lt hk
 have hn := ky 1 1 9 (by decide) (by decide) (by decide) w1
 replace rA := Lib.hid rA
 replace hb1 := Lib.hid hb1
 go_wp2_with fail
 go_at_call 18
 refine hn.mono ?_
 clear hn
 rintro e w2 ⟨f, rfl, hF2, hf2, hb2⟩
 obtain ⟨w3, hw3⟩ : ∃ w3, w3 = w2.alloc (.cells #[.int .i64 0, .int .i64 0, .int .i64 0, .int .i64 0] 29) := ⟨_, rfl⟩
 have hb3 : Below w2.heap.size w2 w3 := by rw [hw3]; exact (Below.refl _ _).alloc (Nat.le_refl _) _
 have hL3 : au 29 w3 w2.heap.size (lF 0) := by rw [hw3]; exact heap_alloc_new w2 _
 have sU : Hid (Below w1.heap.size w1 w3) := hb2.trans (hb3.mono hb2.size)
 obtain ⟨s, hs⟩ : ∃ s, s = w2.heap.size := ⟨_, rfl⟩
 rw [← hs] at hL3
 have G : Hid (sS w.heap.size c t d p v g s f) := ⟨fun k hk => ⟨rA.out.lo k hk, by have := hlt1.out k hk; omega⟩, by rw [hs]; exact hF2.lt, by have := hb1.out.size; omega⟩
 have C0 : Hid (sH w3 c t d p v g s f 0 ⟨w1.heap.size, 1, 1, 9, 0, .slice none 0 0, 0⟩) := ⟨hF2.below hb3 hF2.lt, rfl, rfl, rfl, hL3, rA.out.cw.kept sU.out, fun h => absurd h (by decide), fun h => absurd h (by decide)⟩
 have hb0 : Hid (Below w.heap.size w w3) := hb1.out.trans (sU.out.mono hb1.out.size)
 clear hb2 hb3 hL3 hF2 hf2
 go_wp2_with fail
 rw [← hw3, ← hs]
 replace hw3 := Lib.hid hw3
 replace hs := Lib.hid hs
 go_loopw [6] (fun ii wr => ∃ k : Nat, k ≤ 7 ∧ ii = .int .i64 k ∧ Hid (∃ F, sH wr c t d p v g s f k F) ∧ Hid (Below w.heap.size w wr)) (fun ii _ => 7 - (intOf ii).toNat)
 case atStart => exact ⟨0, by decide, rfl, ⟨_, C0.out⟩, hb0⟩
 case round =>
  obtain ⟨k, hk, rfl, hC, hbr⟩ := hrel
  obtain ⟨F, hC⟩ := hC.out
  have hw0 : F.who ≠ 0 := by rw [hC.who]; decide
  have hsg := aU hC.fi hw0
  rw [hC.st] at hsg
  by_cases h7 : k < 7
  ·have b7 : (k : Int) < 7 := by omega
   have wk : IntKind.i64.wrap ((k : Int) + 1) = (k : Int) + 1 := IntWalk.i64_in _ (by omega)
   have hst := ui G.out hC h7 hbr.out.size
   rw [if_neg (by omega)] at hsg
   unfold bR at hst
   clear hC
   go_wp2_with (first | (go_at_call 19; go_must (refine hsg.mono ?_); rintro e w' ⟨rfl, rfl⟩) | (go_at_call 17; go_must (refine hst.mono ?_); rintro e w' ⟨rfl, hz⟩; replace hz := Lib.hid hz))
   go_roundw
   case rel => exact ⟨k + 1, by omega, by go_num, hz.out.1, hbr.out.trans hz.out.2⟩
   case measure => simp [intOf]; omega
  ·obtain rfl : k = 7 := by omega
   have hid := pJ hC.lk
   rw [show (lF 7).free = true from rfl] at hid
   rw [if_pos rfl] at hsg
   clear hC
   go_wp2_with (first | (go_at_call 19; go_must (refine hsg.mono ?_); rintro e w' ⟨rfl, rfl⟩) | (go_at_call 51; go_must (refine hid.mono ?_); rintro e w' ⟨rfl, rfl⟩))
   go_ret
   exact ⟨rfl, hbr.out⟩
end
end Go.Proofs.YtfmpgdafnlehaaaGreat

namespace Go.Proofs.YtfmpgdafnlehaaaGreat
open Go.RowKit Go.Lib Go.Sort
theorem rC (w : World) : Sem.run Tryz.prog (binOp .eql 44 (.agg #[.int .i64 0, .int .i64 0]) (.agg #[.int .i64 0, .int .i64 0])) w = .ok (.bool true) w := by
 have u2 := Tryz.underlying2
 have a2 := Tryz.isAgg2
 have z2 := Tryz.sizeOf2
 have u3 := Tryz.underlying3
 have a3 := Tryz.isAgg3
 have z3 := Tryz.sizeOf3
 have u1 := Tryz.underlying44
 rw [run_eql_struct]
 go_simp
theorem lL (who : Int) (w : World) (_ : -9223372036854775808 ≤ who ∧ who ≤ 9223372036854775807) : Calls Tryz.prog 4 #[.int .i64 who] w fun e w' => e = .returned (.bool true) ∧ Below w.heap.size w w' := by
 obtain ⟨wA, rD⟩ : ∃ wA, wA = w.alloc (.cells #[.int .i64 0, .int .i64 0, .int .i64 0, .int .i64 0] 29) := ⟨_, rfl⟩
 have uW : Hid (Below w.heap.size w wA) := by show Below _ _ _; rw [rD]; exact (Below.refl _ _).alloc (Nat.le_refl _) _
 have hst := lZ (cv := .pointer none) (sv := .pointer (some ⟨w.heap.size, 0, none⟩)) wA
 unfold bR at hst
 rw [rD] at hst
 go_enter Tryz.func4, Tryz.ntmps4
 go_wp2_with fail
 rw [← rD] at hst ⊢
 replace rD := Lib.hid rD
 go_at_call 17
 refine hst.mono ?_
 clear hst
 rintro e w1 ⟨rfl, hb1⟩
 obtain ⟨w2, hw2⟩ : ∃ w2, w2 = w1.alloc (.cells #[.int .i64 0, .int .i64 0] 44) := ⟨_, rfl⟩
 have hb2 : Below w1.heap.size w1 w2 := by rw [hw2]; exact (Below.refl _ _).alloc (Nat.le_refl _) _
 have hz2 : aj w2 w1.heap.size := by rw [hw2]; exact heap_alloc_new w1 _
 have nP : Hid (Below w.heap.size w w2) := uW.out.trans ((hb1.trans (hb2.mono hb1.size)).mono uW.out.size)
 obtain ⟨b, hb⟩ : ∃ b, b = w1.heap.size := ⟨_, rfl⟩
 rw [← hb] at hz2
 have hlt := aJ hz2
 replace hz2 := Lib.hid hz2
 have hqe := rC
 clear hb1 hb2
 by_cases h1 : 1 ≤ who
 ·have d1 : decide (1 ≤ who) = true := decide_eq_true h1
  have hn := ky who 1 1 h1 (by decide) (by decide) w2
  rw [hw2] at hn
  go_wp2_with fail
  rw [← hw2] at hn ⊢
  rw [← hb]
  replace hw2 := Lib.hid hw2
  replace hb := Lib.hid hb
  go_at_call 18
  refine hn.mono ?_
  clear hn
  rintro e w3 ⟨f, rfl, _, _, hb3⟩
  have hz3 : aj w3 b := (hb3.block b hlt).trans hz2.out
  obtain ⟨_, k0, _⟩ := ak hz3 (show 0 < 2 by decide)
  obtain ⟨_, k1, _⟩ := ak hz3 (show 1 < 2 by decide)
  have haw := iI w3
  replace hz3 := Lib.hid hz3
  go_wp2_with (first
   | (go_at_call 19; go_must (refine (bY _).mono ?_); rintro e w' ⟨rfl, rfl⟩)
   | (go_at_call 20; go_must (refine (fU _).mono ?_); rintro e w' ⟨rfl, rfl⟩)
   | (go_at_call 21; go_must (refine (fV _).mono ?_); rintro e w' ⟨rfl, rfl⟩)
   | (go_at_call 22; go_must (refine (fZ _ _).mono ?_); rintro e w' ⟨rfl, rfl⟩)
   | (go_at_call 23; go_must (refine (gD _).mono ?_); rintro e w' ⟨rfl, rfl⟩)
   | (go_at_call 24; go_must (refine haw.mono ?_); rintro e w7 ⟨rfl, mO⟩))
  go_ret
  exact ⟨rfl, nP.out.trans ((hb3.trans (mO.mono hb3.size)).mono nP.out.size)⟩
 ·have d1 : decide (1 ≤ who) = false := decide_eq_false h1
  have hn := ou who 1 1 (by omega) w2
  rw [hw2] at hn
  go_wp2_with fail
  rw [← hw2] at hn ⊢
  rw [← hb]
  replace hw2 := Lib.hid hw2
  replace hb := Lib.hid hb
  go_at_call 18
  refine hn.mono ?_
  clear hn
  rintro e w' ⟨rfl, rfl⟩
  obtain ⟨_, k0, _⟩ := ak hz2.out (show 0 < 2 by decide)
  obtain ⟨_, k1, _⟩ := ak hz2.out (show 1 < 2 by decide)
  have haw := iI w2
  go_wp2_with (first
   | (go_at_call 19; go_must (refine (bY _).mono ?_); rintro e w' ⟨rfl, rfl⟩)
   | (go_at_call 20; go_must (refine (fU _).mono ?_); rintro e w' ⟨rfl, rfl⟩)
   | (go_at_call 21; go_must (refine (fV _).mono ?_); rintro e w' ⟨rfl, rfl⟩)
   | (go_at_call 22; go_must (refine (fZ _ _).mono ?_); rintro e w' ⟨rfl, rfl⟩)
   | (go_at_call 23; go_must (refine (gD _).mono ?_); rintro e w' ⟨rfl, rfl⟩)
   | (go_at_call 24; go_must (refine haw.mono ?_); rintro e w7 ⟨rfl, mO⟩))
  go_ret
  exact ⟨rfl, nP.out.trans (mO.mono nP.out.size)⟩
end Go.Proofs.YtfmpgdafnlehaaaGreat


namespace Go.Proofs.YtfmpgdafnlehaaaGreat.fillNobody
open Go.ChangeShapes Go.WideShapes Go.ChangeAt Go.RowKit
theorem own : ownKnob Tryz.prog.godebug = none := by kernel_rfl
theorem laid : laidOutB Tryz.prog = true := by kernel_rfl
theorem readable : (Tryz.f4.params.toList.all fun t => Tryz.prog.readableRec t && decide (t < Tryz.prog.types.size)) = true := by kernel_rfl
theorem lifted (os : Os) (started : os.Started) (H : Type) (enc : TypeId × Value → H) :
 ReturnsInHanded {} Tryz.checked os 4 .any (Rows.fillNobodySpec.pre6 enc Tryz.prog Tryz.f4 Rows.fillNobodyRow.domain false) (Rows.fillNobodySpec.post enc Tryz.prog Tryz.f4 false true false false) := by
 refine returnsInHanded_of_change (C := Tryz.checked) own started (by kernel_rfl) Tryz.func4
  (ChangeSpec.witness6 (enc := enc) (C := Tryz.checked) false ⟨#[], #[.int .i64 0], []⟩ 8 (by kernel_rfl) (by kernel_rfl) (by kernel_rfl) (by kernel_rfl)) ?_
 intro W base args ds gs before hval0 hW hcnd _
 have hval : ∀ (j : Nat) t v, Tryz.f4.params[j]? = some t → args[j]? = some v → Value.okWide Tryz.prog W .any base t v := hval0
 have hW' := hW
 obtain ⟨p, q, uX, hV, hpq, hfz, hnd⟩ := hW
 have hA : DataW.TrodAll enc Tryz.prog W 0 (fun _ => true) true Tryz.f4.params.toList args.toList ds p := uX
 rw [Tryz.params4] at hA hval
 obtain ⟨v0, wR, d0, ds0, p0, q0, hargs, rfl, rfl, h0, r0⟩ := trodAll_cons hA
 obtain ⟨rfl, rfl, rfl⟩ := trodAll_nil r0
 obtain rfl : args = #[v0] := by cases args; simp_all
 obtain ⟨rfl, rfl⟩ := trodVars_none hV
 obtain ⟨a0, rfl, rfl, rfl, w0⟩ := open_int Tryz.underlying3 (hval 0 3 v0 rfl rfl) h0
 clear uX hval0
 refine (lL a0 W (bounds_i64 w0)).mono fun e W' ⟨he, hg⟩ => ?_
 subst he
 exact ⟨_, rfl, nQ hW' rfl rfl rfl Tryz.underlying4 laid (rE readable) hg⟩
theorem over : Rows.fillNobodyRow.holds Tryz.pinned (OpenSpec.ofChange Rows.fillNobodySpec) :=
 OpenClaim.holds_of_wide 4 Tryz.f4 rfl rfl rfl rfl rfl rfl rfl ⟨rfl, rfl, rfl, rfl, rfl⟩ rfl rfl rfl rfl rfl (by kernel_rfl) Tryz.func4 (by kernel_rfl)
  (of_decide_eq_true (by kernel_rfl)) (by unfold Func.isWrapper; first | (rw [if_pos (by decide +kernel)]; kernel_rfl) | (rw [if_neg (by decide +kernel)]; exact ⟨rfl, rfl⟩))
  (fun os started H enc _ => lifted os started H enc)
theorem proved : Rows.FillNobodySaid := over
#print axioms proved
end Go.Proofs.YtfmpgdafnlehaaaGreat.fillNobody
