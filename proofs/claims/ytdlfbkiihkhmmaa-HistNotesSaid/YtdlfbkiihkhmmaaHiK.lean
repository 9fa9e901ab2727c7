/-
  Own words: a log and three rows of events beside it, each in its own block; a list of truths as an argument.
-/
import Derived.Test.YtdlfbkiihkhmmaaHiI
import Derived.Test.YtdlfbkiihkhmmaaRuW
namespace Go.Proofs.Ytdlfbkiihkhmmaa
set_option maxRecDepth 8000
open Go.RowKit Go.Lib Put

/-- Two rows lie apart. -/
def Ap (o u : Option Nat) : Prop := ∀ k, o = some k → u ≠ some k
theorem Ap.symm {o u : Option Nat} (h : Ap o u) : Ap u o := fun k h1 h2 => h k h2 h1
theorem Ap.next {o o' u : Option Nat} {w : World} (h : Ap o u) (hn : HNew w o o') (hlt : ∀ k, u = some k → k < w.heap.size) : Ap o' u := by
  intro k hk hu
  rcases hn with rfl | ⟨q, rfl, hq⟩
  · exact h k hk hu
  · injection hk with e
    have := hlt k hu
    omega
theorem Ap.none_l (u : Option Nat) : Ap none u := fun _ h => by cases h
theorem ev_keep {B s n : Nat} {o : Option Nat} {w w' : World} {u : Value} {xs : List Value} (h : w.ownsRow B 36 24 u n xs) (ho : HOff s o w w') (hs : u.ownBlock ≠ some s) (hd : Ap o u.ownBlock) : w'.ownsRow B 36 24 u n xs :=
  ownsRow_block h fun q hq => ho.block q (h.lt q hq).2 (fun e => hs (by rw [hq, e])) (fun e => hd q e hq)

structure R4 (B : Nat) (w : World) (s : Nat) (st : Int) (v va vo vr : Value) (L A O R : List Ev) : Prop where
  log : LG B w s st v L
  a : w.ownsRow B 36 24 va A.length (A.flatMap encE)
  o : w.ownsRow B 36 24 vo O.length (O.flatMap encE)
  r : w.ownsRow B 36 24 vr R.length (R.flatMap encE)
  d1 : Ap v.ownBlock va.ownBlock
  d2 : Ap v.ownBlock vo.ownBlock
  d3 : Ap v.ownBlock vr.ownBlock
  d4 : Ap va.ownBlock vo.ownBlock
  d5 : Ap va.ownBlock vr.ownBlock
  d6 : Ap vo.ownBlock vr.ownBlock

section
variable {B s : Nat} {w w' : World} {st st' : Int} {v v' va va' vo vo' vr vr' : Value} {L L' A A' O O' R R' : List Ev} {o : Option Nat}
theorem R4.lv (h : R4 B w s st v va vo vr L A O R) : ∀ k, v.ownBlock = some k → k < w.heap.size := fun k hk => (h.log.own.lt k hk).2
theorem R4.la (h : R4 B w s st v va vo vr L A O R) : ∀ k, va.ownBlock = some k → k < w.heap.size := fun k hk => (h.a.lt k hk).2
theorem R4.lo (h : R4 B w s st v va vo vr L A O R) : ∀ k, vo.ownBlock = some k → k < w.heap.size := fun k hk => (h.o.lt k hk).2
theorem R4.lr (h : R4 B w s st v va vo vr L A O R) : ∀ k, vr.ownBlock = some k → k < w.heap.size := fun k hk => (h.r.lt k hk).2
theorem R4.na (h : R4 B w s st v va vo vr L A O R) : va.ownBlock ≠ some s := own_not h.a h.log.obj (by decide)
theorem R4.no (h : R4 B w s st v va vo vr L A O R) : vo.ownBlock ≠ some s := own_not h.o h.log.obj (by decide)
theorem R4.nr (h : R4 B w s st v va vo vr L A O R) : vr.ownBlock ≠ some s := own_not h.r h.log.obj (by decide)
theorem R4.below (h : R4 B w s st v va vo vr L A O R) (hb : Below w.heap.size w w') : R4 B w' s st v va vo vr L A O R :=
  ⟨h.log.below hb, Put.own_kept h.a hb, Put.own_kept h.o hb, Put.own_kept h.r hb, h.d1, h.d2, h.d3, h.d4, h.d5, h.d6⟩
/-- The log has changed. -/
theorem R4.note (h : R4 B w s st v va vo vr L A O R) (hG : LG B w' s st' v' L') (ho : HOff s v.ownBlock w w') (hn : HNew w v.ownBlock v'.ownBlock) : R4 B w' s st' v' va vo vr L' A O R :=
  ⟨hG, ev_keep h.a ho h.na h.d1, ev_keep h.o ho h.no h.d2, ev_keep h.r ho h.nr h.d3, h.d1.next hn h.la, h.d2.next hn h.lo, h.d3.next hn h.lr, h.d4, h.d5, h.d6⟩
theorem R4.tick (h : R4 B w s st v va vo vr L A O R) (hG : LG B w' s st' v L') (ho : HOff s none w w') : R4 B w' s st' v va vo vr L' A O R :=
  ⟨hG, ev_keep h.a ho h.na (Ap.none_l _), ev_keep h.o ho h.no (Ap.none_l _), ev_keep h.r ho h.nr (Ap.none_l _), h.d1, h.d2, h.d3, h.d4, h.d5, h.d6⟩
theorem new_of (h : v'.ownBlock = v.ownBlock ∨ v'.ownBlock = some w.heap.size) : HNew w v.ownBlock v'.ownBlock := by
  rcases h with e | e
  · exact .inl e
  · exact .inr ⟨_, e, Nat.le_refl _⟩
theorem log_keep (h : LG B w s st v L) (ho : HOff s o w w') (hs : o ≠ some s) (hg : w.grownBy w' o) (hd : Ap o v.ownBlock) : LG B w' s st v L :=
  ⟨(hg.block s h.lt (fun e => hs e.symm)).trans h.obj, ev_keep h.own ho h.apart hd, h.bs⟩
theorem R4.appA (h : R4 B w s st v va vo vr L A O R) (h1 : w'.ownsRow B 36 24 va' A'.length (A'.flatMap encE)) (hg : w.grownBy w' va.ownBlock) (hn : va'.ownBlock = va.ownBlock ∨ va'.ownBlock = some w.heap.size) : R4 B w' s st v va' vo vr L A' O R :=
  have ho : HOff s va.ownBlock w w' := HOff.of_grown hg
  have hn' : HNew w va.ownBlock va'.ownBlock := new_of hn
  ⟨log_keep h.log ho h.na hg h.d1.symm, h1, ev_keep h.o ho h.no h.d4, ev_keep h.r ho h.nr h.d5, (h.d1.symm.next hn' h.lv).symm, h.d2, h.d3, h.d4.next hn' h.lo, h.d5.next hn' h.lr, h.d6⟩
theorem R4.appO (h : R4 B w s st v va vo vr L A O R) (h1 : w'.ownsRow B 36 24 vo' O'.length (O'.flatMap encE)) (hg : w.grownBy w' vo.ownBlock) (hn : vo'.ownBlock = vo.ownBlock ∨ vo'.ownBlock = some w.heap.size) : R4 B w' s st v va vo' vr L A O' R :=
  have ho : HOff s vo.ownBlock w w' := HOff.of_grown hg
  have hn' : HNew w vo.ownBlock vo'.ownBlock := new_of hn
  ⟨log_keep h.log ho h.no hg h.d2.symm, ev_keep h.a ho h.na h.d4.symm, h1, ev_keep h.r ho h.nr h.d6, h.d1, (h.d2.symm.next hn' h.lv).symm, h.d3, (h.d4.symm.next hn' h.la).symm, h.d5, h.d6.next hn' h.lr⟩
theorem R4.appR (h : R4 B w s st v va vo vr L A O R) (h1 : w'.ownsRow B 36 24 vr' R'.length (R'.flatMap encE)) (hg : w.grownBy w' vr.ownBlock) (hn : vr'.ownBlock = vr.ownBlock ∨ vr'.ownBlock = some w.heap.size) : R4 B w' s st v va vo vr' L A O R' :=
  have ho : HOff s vr.ownBlock w w' := HOff.of_grown hg
  have hn' : HNew w vr.ownBlock vr'.ownBlock := new_of hn
  ⟨log_keep h.log ho h.nr hg h.d3.symm, ev_keep h.a ho h.na h.d5.symm, ev_keep h.o ho h.no h.d6.symm, h1, h.d1, h.d2, (h.d3.symm.next hn' h.lv).symm, h.d4, (h.d5.symm.next hn' h.la).symm, (h.d6.symm.next hn' h.lo).symm⟩
theorem R4.start (h : LG B w s 0 (.slice none 0 0) []) : R4 B w s 0 (.slice none 0 0) (.slice none 0 0) (.slice none 0 0) (.slice none 0 0) [] [] [] [] :=
  ⟨h, World.ownsRow_nil _ _ _ _, World.ownsRow_nil _ _ _ _, World.ownsRow_nil _ _ _ _, Ap.none_l _, Ap.none_l _, Ap.none_l _, Ap.none_l _, Ap.none_l _, Ap.none_l _⟩
theorem R4.rowA (h : R4 B w s st v va vo vr L A O R) : RowAt encE 24 w va A := RowAt.of_own h.a (fun _ => rfl) rfl rfl
theorem R4.rowO (h : R4 B w s st v va vo vr L A O R) : RowAt encE 24 w vo O := RowAt.of_own h.o (fun _ => rfl) rfl rfl
theorem R4.rowR (h : R4 B w s st v va vo vr L A O R) : RowAt encE 24 w vr R := RowAt.of_own h.r (fun _ => rfl) rfl rfl
end

def encB1 (x : Bool) : List Value := [.bool x]
section
open Go.ChangeShapes Go.WideShapes Go.ChangeAt Go.Deep
theorem bools_of {H : Type} {enc : TypeId × Value → H} {P : Program} {w : World} {base : Nat} {t e : TypeId} {v : Value} {d : DataW H} {ps : List MemPlace} (ht : P.underlying t = some (.slice e)) (he : P.underlying e = some .bool) (hce : P.cellsOf e = 1)
    (hval : Value.okWide P w .any base t v) (hd : DataW.Trod enc P w 0 (fun _ => true) true t v d ps) : ∃ l : List Bool, RowAt encB1 1 w v l := by
  obtain ⟨l, hr, hl⟩ := elems_of (k := 1) (p := fun cs => ∃ x, encB1 x = cs) ht hce (by omega) (fun nn cs x h hlen => by
    rw [hce] at hlen
    match cs, hlen with
    | [c0], _ =>
      obtain ⟨x0, e0, _⟩ := DataW.trod_bool he h
      simp at e0
      subst e0
      exact ⟨x0, rfl⟩) hval hd
  obtain ⟨l', rfl, _⟩ := map_of (enc := encB1) (p := fun _ => True) l fun s hs => by
    obtain ⟨_, x, hx⟩ := hl s hs
    exact ⟨x, hx, trivial⟩
  exact ⟨l', hr.unmap⟩
end

end Go.Proofs.Ytdlfbkiihkhmmaa
