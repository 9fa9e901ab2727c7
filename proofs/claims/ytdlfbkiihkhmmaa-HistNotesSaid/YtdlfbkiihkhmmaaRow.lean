/-
  Own words (any program): a slice whose elements lie as so many cells each, and what can be read of it. Nothing of a program is said here.
-/
import Derived.WalkKit
import Derived.ProofKit
import Derived.OpenShut
import Derived.Deep.Slices
import Derived.Deep.Fields
import Derived.ChangeSame
import Derived.Laws.AppendOwn
namespace Go.Proofs.Ytdlfbkiihkhmmaa
set_option maxRecDepth 8000
open Go.ChangeShapes Go.WideShapes Go.ChangeAt Go.RowKit Go.Deep

/-- What can be read of a slice whose elements lie as `enc` says, sz cells each. -/
def RowAt {α : Type} (enc : α → List Value) (sz : Nat) (w : World) (v : Value) (l : List α) : Prop :=
  ∃ ao cap, v = .slice ao l.length cap ∧ l.length ≤ cap ∧ cap ≤ maxLen ∧
    (0 < l.length → ∃ b off, ao = some ⟨b, off, none⟩ ∧ b < w.heap.size ∧ ∀ i s j u, l[i]? = some s → (enc s)[j]? = some u → w.cell? ⟨b, off + (i * sz + j), none⟩ = some u)

section
variable {α : Type} {enc : α → List Value} {sz : Nat} {w w' : World} {v : Value} {l : List α}

theorem RowAt.below (h : RowAt enc sz w v l) (hb : Below w.heap.size w w') : RowAt enc sz w' v l := by
  obtain ⟨ao, cap, h1, h2, h3, h4⟩ := h
  refine ⟨ao, cap, h1, h2, h3, fun hn => ?_⟩
  obtain ⟨b, off, e, hlt, hc⟩ := h4 hn
  refine ⟨b, off, e, Nat.lt_of_lt_of_le hlt hb.size, fun i s j u hi hj => ?_⟩
  rw [hb.cell (p := ⟨b, _, none⟩) hlt]
  exact hc i s j u hi hj

theorem RowAt.nil (w : World) : RowAt enc sz w (.slice none 0 0) ([] : List α) := ⟨none, 0, rfl, Nat.le_refl _, Nat.zero_le _, fun h => absurd h (by simp)⟩

theorem RowAt.cut {ao : Option Addr} {m cap n : Nat} (h : RowAt enc sz w (.slice ao m cap) l) (hn : n ≤ l.length) : RowAt enc sz w (.slice ao n cap) (l.take n) := by
  obtain ⟨ao', cap', e, h2, h3, h4⟩ := h
  cases e
  have hl : (l.take n).length = n := by rw [List.length_take]; omega
  refine ⟨ao, cap, by rw [hl], by omega, h3, fun hp => ?_⟩
  obtain ⟨b, off, e, hlt, hc⟩ := h4 (by omega)
  refine ⟨b, off, e, hlt, fun i s j u hi hj => hc i s j u ?_ hj⟩
  rw [List.getElem?_take] at hi
  split at hi
  · exact hi
  · cases hi

/-- An owned row reads so. -/
theorem RowAt.of_own {base : Nat} {e : TypeId} {n : Nat} {xs : List Value} (h : w.ownsRow base e sz v n xs) (hlen : ∀ s, (enc s).length = sz) (hx : xs = l.flatMap enc) (hn : n = l.length) : RowAt enc sz w v l := by
  subst hx
  subst hn
  rcases h.2 with ⟨rfl, h0⟩ | ⟨g, cap, cur, rfl, _, hg, hc1, hc2, _, _⟩
  · have : l = [] := by
      rcases l with _ | ⟨s, l⟩
      · rfl
      · simp at h0
    subst this
    exact RowAt.nil w
  · refine ⟨_, _, rfl, hc1, hc2, fun _ => ⟨g, 0, rfl, ?_, fun i s j u hi hj => ?_⟩⟩
    · rcases Nat.lt_or_ge g w.heap.size with hlt | hge
      · exact hlt
      · rw [Array.getElem?_eq_none hge] at hg; cases hg
    · have hj' : j < sz := by rw [← hlen s]; exact (List.getElem?_eq_some_iff.1 hj).1
      have key : ∀ (l : List α) (i : Nat), l[i]? = some s → (l.flatMap enc)[i * sz + j]? = some u := by
        intro l
        induction l with
        | nil => intro i hi; simp at hi
        | cons a l ih =>
          intro i hi
          rw [List.flatMap_cons]
          rcases i with _ | i
          · simp at hi
            subst hi
            rw [List.getElem?_append_left (by rw [hlen]; omega)]
            simpa using hj
          · rw [List.getElem?_append_right (by rw [hlen, Nat.add_mul]; omega), hlen]
            have := ih i (by simpa using hi)
            rw [← this]
            congr 1
            rw [Nat.add_mul]; omega
      have := h.cells (g := g) rfl (i * sz + j) u (key l i hi)
      rw [Go.WideShapes.add_plain] at this
      simpa using this

end

section
variable {H : Type} {enc : TypeId × Value → H} {P : Program} {w : World} {base : Nat} {spare : Nat → Bool} {held : Bool}
theorem open_slice_fields {t e : TypeId} {fs : Array Field} {fuel : Nat} {cs : List Value} {x : DataW H × List MemPlace} (ht : P.underlying t = some (.slice e)) (he : P.underlying e = some (.struct fs))
    (hone : oneCellFields P fs = true) (hC : P.cellsOf e = fs.size) (h : DataW.trod enc P w base spare held fuel t cs = some x) :
    (cs = [.slice none 0 0] ∧ x = (.nil, [])) ∨
    ∃ (a : Addr) (len cap m : Nat) (D : Nat → DataW H) (Pl : Nat → List MemPlace), cs = [.slice (some a) len cap] ∧ base ≤ a.block ∧ len ≤ cap ∧ cap ≤ maxLen ∧ m = (if spare a.block then cap else len) ∧
      x = (.slice ((List.range len).map D) ((List.range (m - len)).map fun j => D (len + j)), MemPlace.row a (m * fs.size) ++ (List.range m).flatMap Pl) ∧
      ∀ i, i < m → ∃ (ys : List (DataW H × List MemPlace)) (n : Nat), D i = .agg (ys.map (·.1)) ∧ Pl i = ys.flatMap (·.2) ∧ ys.length = fs.size ∧
        ∀ (j : Nat) (f : Field), fs[j]? = some f → ∃ (v : Value) (y : DataW H × List MemPlace), w.cell? (a.add (i * fs.size + j)) = some v ∧ ys[j]? = some y ∧ DataW.trod enc P w base spare held n f.type [v] = some y := by
  rcases open_slice ht h with h0 | ⟨a, len, cap, m, n, D, Pl, hcs, hb, hl, hm, hmm, hx, hi⟩
  · exact .inl h0
  · refine .inr ⟨a, len, cap, m, D, Pl, hcs, hb, hl, hm, hmm, by rw [hC] at hx; exact hx, fun i him => ?_⟩
    obtain ⟨cs', hc, ht'⟩ := hi i him
    rw [hC] at hc
    obtain ⟨ys, n', hn', hy, hlen, hyl, hf⟩ := DataW.trod_struct he ht'
    obtain ⟨_, hcl, hat⟩ := World.cells?_some hc
    simp only [Prod.mk.injEq] at hy
    refine ⟨ys, n', hy.1, hy.2, hyl, fun j f hj => ?_⟩
    obtain ⟨ho, hk⟩ := hone_of hone j f hj
    have hjl : j < fs.size := (Array.getElem?_eq_some_iff.1 hj).1
    have hcell := hat j hjl
    have hv : cs'[j]? = some (cs'[j]'(by omega)) := List.getElem?_eq_getElem (by omega)
    have h1 := hf j f hj
    rw [ho, hk] at h1
    have hone' : (cs'.drop j).take 1 = [cs'[j]'(by omega)] := by
      rw [List.drop_eq_getElem_cons (by omega)]
      rfl
    rw [hone'] at h1
    have hys : ys[j]? = some (ys[j]'(by omega)) := List.getElem?_eq_getElem (by omega)
    refine ⟨_, _, ?_, hys, h1.trans hys⟩
    rw [← Go.Deep.add_add, hcell, hv]
end

/-- The cells of a block that has just been made. -/
theorem cells_new {w : World} {n : Nat} {e : TypeId} {vs : List Value} (hn : n = w.heap.size) : ∀ j u, vs[j]? = some u → (w.alloc (.cells vs.toArray e)).cell? ((⟨n, 0, none⟩ : Addr).add j) = some u := by
  subst hn
  intro j u hj
  rw [Go.WideShapes.add_plain, cell_of_row _ _ _ vs.toArray e (0, 0) (heap_alloc_new w _)]
  simpa using hj

/-- A span: from when, up to when, how many. -/
structure Sp where
  a : Int
  b : Int
  n : Int

def i64 (x : Int) : Prop := -9223372036854775808 ≤ x ∧ x ≤ 9223372036854775807
def enc3 (s : Sp) : List Value := [.int .i64 s.a, .int .i64 s.b, .int .i64 s.n]
def Sp.fits (s : Sp) : Prop := i64 s.a ∧ i64 s.b ∧ i64 s.n

/-- What can be read of an argument that is a list of spans. -/
theorem spans_of {H : Type} {enc : TypeId × Value → H} {P : Program} {w : World} {base : Nat} {t e : TypeId} {f0 f1 f2 : Field} {v : Value} {d : DataW H} {ps : List MemPlace} (ht : P.underlying t = some (.slice e)) (he : P.underlying e = some (.struct #[f0, f1, f2]))
    (hone : oneCellFields P #[f0, f1, f2] = true) (hc : P.cellsOf e = 3) (h0 : P.underlying f0.type = some (.int .i64)) (h1 : P.underlying f1.type = some (.int .i64)) (h2 : P.underlying f2.type = some (.int .i64))
    (hval : Value.okWide P w .any base t v) (hd : DataW.Trod enc P w 0 (fun _ => true) true t v d ps) : ∃ l, RowAt enc3 3 w v l ∧ ∀ s ∈ l, s.fits := by
  obtain ⟨a0, len, cap, rfl⟩ := okWide_slice ht hval
  obtain ⟨fuel, hf⟩ := hd
  rcases open_slice_fields ht he hone (by rw [hc]; rfl) hf with ⟨hcs, _⟩ | ⟨a, len', cap', m, D, Pl, hcs, _, hl, hm, hmm, _, hi⟩
  · simp [Value.cells] at hcs
    obtain ⟨rfl, rfl, rfl⟩ := hcs
    exact ⟨[], RowAt.nil w, fun s hs => by cases hs⟩
  · simp [Value.cells] at hcs
    obtain ⟨rfl, rfl, rfl⟩ := hcs
    simp only [if_true] at hmm
    have hsp : ∀ i, i < len → ∃ s : Sp, s.fits ∧ w.cell? (a.add (i * 3 + 0)) = some (.int .i64 s.a) ∧ w.cell? (a.add (i * 3 + 1)) = some (.int .i64 s.b) ∧ w.cell? (a.add (i * 3 + 2)) = some (.int .i64 s.n) := by
      intro i hil
      obtain ⟨ys, n, _, _, _, hfs⟩ := hi i (by omega)
      obtain ⟨v0, y0, c0, _, t0⟩ := hfs 0 f0 rfl
      obtain ⟨v1, y1, c1, _, t1⟩ := hfs 1 f1 rfl
      obtain ⟨v2, y2, c2, _, t2⟩ := hfs 2 f2 rfl
      obtain ⟨x0, hx0, _, w0⟩ := DataW.trod_int h0 t0
      obtain ⟨x1, hx1, _, w1⟩ := DataW.trod_int h1 t1
      obtain ⟨x2, hx2, _, w2⟩ := DataW.trod_int h2 t2
      simp at hx0 hx1 hx2
      subst hx0 hx1 hx2
      exact ⟨⟨x0, x1, x2⟩, ⟨bounds_i64 w0, bounds_i64 w1, bounds_i64 w2⟩, c0, c1, c2⟩
    have hpick : ∃ f : Nat → Sp, ∀ i, i < len → (f i).fits ∧ w.cell? (a.add (i * 3 + 0)) = some (.int .i64 (f i).a) ∧ w.cell? (a.add (i * 3 + 1)) = some (.int .i64 (f i).b) ∧ w.cell? (a.add (i * 3 + 2)) = some (.int .i64 (f i).n) := by
      refine ⟨fun i => if h : i < len then Classical.choose (hsp i h) else ⟨0, 0, 0⟩, fun i hil => ?_⟩
      simp only [dif_pos hil]
      exact Classical.choose_spec (hsp i hil)
    obtain ⟨f, hf'⟩ := hpick
    refine ⟨(List.range len).map f, ⟨some a, cap, by simp, by simpa using hl, hm, fun hp => ?_⟩, fun s hs => ?_⟩
    · obtain ⟨b, off, spot⟩ := a
      have hp : 0 < len := by simpa using hp
      have hspot : spot = none := by simpa [Addr.add] using World.cell?_spot (hf' 0 hp).2.1
      subst hspot
      refine ⟨b, off, rfl, ?_, fun i s j u hi hj => ?_⟩
      · have := (hf' 0 hp).2.1
        rw [Go.WideShapes.add_plain] at this
        exact World.block_lt_of_cell? w ⟨b, _, none⟩ this
      · rw [List.getElem?_map] at hi
        obtain ⟨i', hi', rfl⟩ := Option.map_eq_some_iff.1 hi
        obtain ⟨hil, rfl⟩ := List.getElem?_eq_some_iff.1 hi'
        rw [List.length_range] at hil
        rw [List.getElem_range] at hj
        obtain ⟨_, c0, c1, c2⟩ := hf' i hil
        rw [Go.WideShapes.add_plain] at c0 c1 c2
        have hj3 : j < 3 := (List.getElem?_eq_some_iff.1 hj).1
        rcases (by omega : j = 0 ∨ j = 1 ∨ j = 2) with rfl | rfl | rfl
        · simp [enc3] at hj; subst hj; exact c0
        · simp [enc3] at hj; subst hj; exact c1
        · simp [enc3] at hj; subst hj; exact c2
    · obtain ⟨i, hi, rfl⟩ := List.mem_map.1 hs
      exact (hf' i (by simpa using hi)).1

end Go.Proofs.Ytdlfbkiihkhmmaa
