/-
  Own words (any program): structs whose fields may be structs again, down to cells: as an argument by value, and as the elements of a slice. Nothing of a program is said here.
-/
import Derived.Test.YtdlfbkiihkhmmaaRow
namespace Go.Proofs.Ytdlfbkiihkhmmaa
set_option maxRecDepth 8000
open Go.ChangeShapes Go.WideShapes Go.ChangeAt Go.RowKit Go.Deep

/-- The types of a struct's cells, structs within structs opened n deep. -/
def leafy (P : Program) : Nat → TypeId → List TypeId
  | 0, t => [t]
  | n + 1, t => match P.underlying t with
    | some (.struct fs) => fs.toList.flatMap fun f => leafy P n f.type
    | _ => [t]
def offsOk (P : Program) (lv : TypeId → List TypeId) (ok : TypeId → Bool) : List Field → Nat → Bool
  | [], _ => true
  | f :: r, o => f.offset == o && P.cellsOf f.type == (lv f.type).length && ok f.type && offsOk P lv ok r (o + (lv f.type).length)
/-- Fields lie one behind the other, and the last are a cell each. -/
def flatOk (P : Program) : Nat → TypeId → Bool
  | 0, t => P.cellsOf t == 1
  | n + 1, t => match P.underlying t with
    | some (.struct fs) => P.cellsOf t == (leafy P (n + 1) t).length && offsOk P (leafy P n) (flatOk P n) fs.toList 0
    | _ => P.cellsOf t == 1

section
variable {H : Type} {enc : TypeId × Value → H} {P : Program} {w : World} {base : Nat} {spare : Nat → Bool} {held : Bool}

/-- Each cell is one of its type. -/
def LeafAt (enc : TypeId × Value → H) (P : Program) (w : World) (base : Nat) (spare : Nat → Bool) (held : Bool) (ts : List TypeId) (cs : List Value) : Prop :=
  ∀ (j : Nat) (T : TypeId) (u : Value), ts[j]? = some T → cs[j]? = some u → ∃ (n : Nat) (y : DataW H × List MemPlace), DataW.trod enc P w base spare held n T [u] = some y

theorem leaf_one {t : TypeId} {fuel : Nat} {cs : List Value} {x : DataW H × List MemPlace} (hl : cs.length = 1) (h : DataW.trod enc P w base spare held fuel t cs = some x) : LeafAt enc P w base spare held [t] cs := by
  intro j T u hT hu
  have hj : j = 0 := by
    have := (List.getElem?_eq_some_iff.1 hT).1
    simp at this
    exact this
  subst hj
  match cs, hl with
  | [c], _ =>
    simp at hT hu
    subst hT hu
    exact ⟨fuel, x, h⟩

theorem leaf_all (n : Nat) : ∀ (t : TypeId) (fuel : Nat) (cs : List Value) (x : DataW H × List MemPlace), flatOk P n t = true → cs.length = P.cellsOf t → DataW.trod enc P w base spare held fuel t cs = some x →
    cs.length = (leafy P n t).length ∧ LeafAt enc P w base spare held (leafy P n t) cs := by
  induction n with
  | zero =>
    intro t fuel cs x hok hl h
    simp only [flatOk, beq_iff_eq] at hok
    exact ⟨by rw [hl, hok]; rfl, leaf_one (by rw [hl, hok]) h⟩
  | succ n ih =>
    intro t fuel cs x hok hl h
    have plain : P.cellsOf t = 1 → leafy P (n + 1) t = [t] → cs.length = (leafy P (n + 1) t).length ∧ LeafAt enc P w base spare held (leafy P (n + 1) t) cs := fun h1 h2 => by
      rw [h2]
      exact ⟨by rw [hl, h1]; rfl, leaf_one (by rw [hl, h1]) h⟩
    unfold flatOk at hok
    split at hok
    · rename_i fs hu
      rw [Bool.and_eq_true, beq_iff_eq] at hok
      obtain ⟨hc, ho⟩ := hok
      refine ⟨by rw [hl, hc], ?_⟩
      obtain ⟨ys, n', _, _, _, hyl, hf⟩ := DataW.trod_struct hu h
      have hlv : leafy P (n + 1) t = fs.toList.flatMap fun f => leafy P n f.type := by rw [leafy, hu]
      rw [hlv] at hc ⊢
      -- the fields from the k-th on
      have key : ∀ (fl : List Field) (o : Nat), offsOk P (leafy P n) (flatOk P n) fl o = true → o + (fl.flatMap fun f => leafy P n f.type).length ≤ cs.length → (∀ f ∈ fl, ∃ y, DataW.trod enc P w base spare held n' f.type ((cs.drop f.offset).take (P.cellsOf f.type)) = some y) →
          LeafAt enc P w base spare held (fl.flatMap fun f => leafy P n f.type) (cs.drop o) := by
        intro fl
        induction fl with
        | nil => intro o _ _ _ j T u hT; simp at hT
        | cons f r ihr =>
          intro o ho hle hall
          simp only [offsOk, Bool.and_eq_true, beq_iff_eq] at ho
          obtain ⟨⟨⟨h1, h2⟩, h3⟩, h4⟩ := ho
          rw [List.flatMap_cons, List.length_append] at hle
          obtain ⟨y, hy⟩ := hall f (by simp)
          rw [h1, h2] at hy
          have hlen : ((cs.drop o).take (leafy P n f.type).length).length = P.cellsOf f.type := by rw [List.length_take, List.length_drop, h2]; omega
          obtain ⟨_, hL⟩ := ih f.type n' _ y h3 hlen hy
          have hR := ihr (o + (leafy P n f.type).length) h4 (by omega) (fun g hg => hall g (by simp [hg]))
          intro j T u hT hu
          rw [List.flatMap_cons] at hT
          rcases Nat.lt_or_ge j (leafy P n f.type).length with hlt | hge
          · rw [List.getElem?_append_left hlt] at hT
            exact hL j T u hT (by rw [List.getElem?_take, if_pos hlt]; exact hu)
          · rw [List.getElem?_append_right hge] at hT
            refine hR (j - (leafy P n f.type).length) T u hT ?_
            rw [List.getElem?_drop] at hu ⊢
            rw [← hu]
            congr 1
            omega
      have := key fs.toList 0 ho (by rw [hl, hc]; omega) (fun f hfm => by
        obtain ⟨i, hi, rfl⟩ := List.getElem_of_mem hfm
        have hi' : i < fs.size := by simpa using hi
        have h5 := hf i fs[i] (Array.getElem?_eq_getElem hi')
        have h6 : ys[i]? = some (ys[i]'(by omega)) := List.getElem?_eq_getElem (by omega)
        exact ⟨_, by rw [Array.getElem_toList]; exact h5.trans h6⟩)
      simpa using this
    · rename_i hn
      refine plain (by simpa using hok) ?_
      rw [leafy]
      split
      · rename_i fs hu; exact absurd hu (hn fs)
      · rfl
end

/-- A struct by value: its cells, and that each is one of its type. -/
theorem flat_of {H : Type} {enc : TypeId × Value → H} {P : Program} {w : World} {base : Nat} {t : TypeId} {fs : Array Field} {ts : List TypeId} {n : Nat} {v : Value} {d : DataW H} {ps : List MemPlace} (ht : P.underlying t = some (.struct fs))
    (hok : flatOk P n t = true) (hts : leafy P n t = ts) (hval : Value.okWide P w .any base t v) (hd : DataW.Trod enc P w 0 (fun _ => true) true t v d ps) :
    ∃ s : List Value, v = .agg s.toArray ∧ s.length = ts.length ∧ LeafAt enc P w 0 (fun _ => true) true ts s := by
  subst hts
  obtain ⟨cs, rfl, hsz⟩ := okWide_struct ht hval
  obtain ⟨fuel, hf⟩ := hd
  obtain ⟨cs⟩ := cs
  obtain ⟨h1, h2⟩ := leaf_all n t fuel cs _ hok (by simpa using hsz) hf
  exact ⟨cs, rfl, h1, h2⟩

/-- A slice of structs as rows of values, and that each value is one of its type. -/
theorem flats_of {H : Type} {enc : TypeId × Value → H} {P : Program} {w : World} {base : Nat} {t e : TypeId} {ts : List TypeId} {n : Nat} {v : Value} {d : DataW H} {ps : List MemPlace} (ht : P.underlying t = some (.slice e))
    (hok : flatOk P n e = true) (hts : leafy P n e = ts) (hc : P.cellsOf e = ts.length) (h0 : 0 < ts.length) (hval : Value.okWide P w .any base t v) (hd : DataW.Trod enc P w 0 (fun _ => true) true t v d ps) :
    ∃ l : List (List Value), RowAt id ts.length w v l ∧ ∀ s ∈ l, s.length = ts.length ∧ LeafAt enc P w 0 (fun _ => true) true ts s := by
  subst hts
  obtain ⟨a0, len, cap, rfl⟩ := okWide_slice ht hval
  obtain ⟨fuel, hf⟩ := hd
  rcases open_slice ht hf with ⟨hcs, _⟩ | ⟨a, len', cap', m, nn, D, Pl, hcs, _, hl, hm, hmm, _, hi⟩
  · simp [Value.cells] at hcs
    obtain ⟨rfl, rfl, rfl⟩ := hcs
    exact ⟨[], RowAt.nil w, fun s hs => by cases hs⟩
  · simp [Value.cells] at hcs
    obtain ⟨rfl, rfl, rfl⟩ := hcs
    simp only [if_true] at hmm
    have hrow : ∀ i, i < len → ∃ cs : List Value, cs.length = (leafy P n e).length ∧ (∀ j, j < cs.length → w.cell? ((a.add (i * (leafy P n e).length)).add j) = cs[j]?) ∧ LeafAt enc P w 0 (fun _ => true) true (leafy P n e) cs := by
      intro i hil
      obtain ⟨cs', hc', ht'⟩ := hi i (by omega)
      obtain ⟨_, hcl, hat⟩ := World.cells?_some hc'
      obtain ⟨h1, h2⟩ := leaf_all n e nn _ _ hok hcl ht'
      rw [hc] at hat hcl
      exact ⟨cs', h1, fun j hj => hat j (by omega), h2⟩
    have hpick : ∃ f : Nat → List Value, ∀ i, i < len → (f i).length = (leafy P n e).length ∧ (∀ j, j < (f i).length → w.cell? ((a.add (i * (leafy P n e).length)).add j) = (f i)[j]?) ∧ LeafAt enc P w 0 (fun _ => true) true (leafy P n e) (f i) := by
      refine ⟨fun i => if h : i < len then Classical.choose (hrow i h) else [], fun i hil => ?_⟩
      simp only [dif_pos hil]
      exact Classical.choose_spec (hrow i hil)
    obtain ⟨f, hf'⟩ := hpick
    refine ⟨(List.range len).map f, ⟨some a, cap, by simp, by simpa using hl, hm, fun hp => ?_⟩, fun s hs => ?_⟩
    · have hp : 0 < len := by simpa using hp
      obtain ⟨b, off, spot⟩ := a
      have hfirst := (hf' 0 hp).2.1 0 (by rw [(hf' 0 hp).1]; exact h0)
      obtain ⟨u0, hu0⟩ : ∃ u, (f 0)[0]? = some u := ⟨_, List.getElem?_eq_getElem (by rw [(hf' 0 hp).1]; exact h0)⟩
      rw [hu0] at hfirst
      have hspot : spot = none := by simpa [Addr.add] using World.cell?_spot hfirst
      subst hspot
      refine ⟨b, off, rfl, ?_, fun i s j u hi2 hj => ?_⟩
      · rw [Go.WideShapes.add_plain, Go.WideShapes.add_plain] at hfirst
        exact World.block_lt_of_cell? w ⟨b, _, none⟩ hfirst
      · rw [List.getElem?_map] at hi2
        obtain ⟨i', hi', rfl⟩ := Option.map_eq_some_iff.1 hi2
        obtain ⟨hil, rfl⟩ := List.getElem?_eq_some_iff.1 hi'
        rw [List.length_range] at hil
        rw [List.getElem_range] at hj
        have hj2 : (f i)[j]? = some u := hj
        have := (hf' i hil).2.1 j (List.getElem?_eq_some_iff.1 hj2).1
        rw [Go.WideShapes.add_plain, Go.WideShapes.add_plain, hj2, Nat.add_assoc] at this
        exact this
    · obtain ⟨i, hi2, rfl⟩ := List.mem_map.1 hs
      have := hf' i (by simpa using hi2)
      exact ⟨this.1, this.2.2⟩

end Go.Proofs.Ytdlfbkiihkhmmaa
