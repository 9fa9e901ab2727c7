/-
  Own walks: a profile's steps handed out, and a copy.
-/
import Derived.Test.YtbnpeicmbbgboaaPfB
import Derived.Laws.AppendOwn
namespace Go.Proofs.Ytbnpeicmbbgboaa
set_option maxRecDepth 8000
open Go.RowKit Go.Sort Go.Lib

theorem pf_infoStep : (Try.prog.info? 49).map (fun i => (i.zero, i.size, i.bytes)) = some (some (.agg #[.int .i64 0, .int .i64 0]), 2, 16) := by kernel_rfl

/-- An owned row that is not empty has a block. -/
theorem own_block {w : World} {base : Nat} {e : TypeId} {sz n : Nat} {v : Value} {xs : List Value} (h : w.ownsRow base e sz v n xs) (hn : 0 < n) : ∃ g cap, v = .slice (some ⟨g, 0, none⟩) n cap ∧ base ≤ g := by
  rcases h.2 with ⟨_, e0⟩ | ⟨g, cap, _, e, hb, _⟩
  · omega
  · exact ⟨g, cap, e, hb⟩

section
variable {w : World} {g : Nat} {L : List (Int × Int)} {cap : Nat}

set_option maxRecDepth 100000 in
set_option maxHeartbeats 1000000 in
theorem clone_any (ho : w.ownsRow 0 49 2 (.slice (some ⟨g, 0, none⟩) L.length cap) L.length (prV L)) (hp : 0 < L.length) (hl : L.length ≤ 1000) :
    Calls Try.prog 31 #[.slice (some ⟨g, 0, none⟩) L.length cap] w fun e w' => ∃ g' cap', e = .returned (.slice (some ⟨g', 0, none⟩) L.length cap') ∧ w.heap.size ≤ g' ∧ w'.ownsRow 0 49 2 (.slice (some ⟨g', 0, none⟩) L.length cap') L.length (prV L) ∧ Below w.heap.size w w' := by
  obtain ⟨i0, hi0, hz0, hz1, hz2⟩ := info_parts pf_infoStep
  have hgw : g < w.heap.size := (ho.lt g rfl).2
  have hown : (w.alloc (.cells #[] 49)).ownsRow w.heap.size 49 2 (.slice (some ⟨w.heap.size, 0, none⟩) 0 0) 0 [] := own_new (vs := []) rfl (Nat.le_refl _) rfl (Nat.zero_le _)
  have hcell : ∀ j u, (prV L)[j]? = some u → (w.alloc (.cells #[] 49)).cell? ((⟨g, 0, none⟩ : Addr).add j) = some u := fun j u hj => by
    have := ho.cells (g := g) rfl j u hj
    rw [Go.WideShapes.add_plain] at this ⊢
    rw [World.cell?_alloc_lt _ _ _ hgw]
    exact this
  have hnil : ∀ w : World, (binOp .eql 46 (.slice (some ⟨g, 0, none⟩) L.length cap) (.slice none 0 0)).run Try.prog w = .ok (.bool false) w := fun w => Lib.run_eql_slice_nil w _ _ _ _ _ _ _ Try.underlying46
  go_enter Try.func31, Try.ntmps31
  go_wp2_with (at_builtin; go_must (refine wpList_append_own _ rfl (.tmp 5) (.tmp 6) 46 rfl w.heap.size 49 i0 (.agg #[.int .i64 0, .int .i64 0]) 2 16 Try.underlying46 hi0 hz0 hz1 hz2 rfl (by decide) (.slice (some ⟨w.heap.size, 0, none⟩) 0 0) 0 [] rfl hown ⟨g, 0, none⟩ L.length cap (prV L) rfl (prV_length L) ?c0 ?c1 ?c2 ?c3 ?c4 ?c5))
  case c0 => exact hcell
  case c1 => exact prV_one L
  case c2 => unfold maxLen; omega
  case c3 => omega
  case c4 => simp
  case c5 =>
    intro v' w2 hown3 hgrow _
    have hb2 : Below w.heap.size w w2 := ((Below.refl _ w).alloc (Nat.le_refl _) _).grown hgrow (by simp) (fun q hq => by cases hq; exact Nat.le_refl _)
    clear hcell hown hgrow ho
    obtain ⟨g', cap', rfl, hg'⟩ := own_block hown3 (by omega)
    go_wp2_with fail
    go_ret
    exact ⟨g', cap', by go_num, hg', ownsRow_mono hown3 (Nat.zero_le _), hb2⟩
end

section
variable {w : World} {p g : Nat} {L : List (Int × Int)} {ver : Int}
theorem pf_Steps_any (h : PW w p g L ver) (hp : 0 < L.length) (hl : L.length ≤ 1000) :
    Calls Try.prog 18 #[.pointer (some ⟨p, 0, none⟩)] w fun e w' => ∃ g' cap', e = .returned (.slice (some ⟨g', 0, none⟩) L.length cap') ∧ w.heap.size ≤ g' ∧ w'.ownsRow 0 49 2 (.slice (some ⟨g', 0, none⟩) L.length cap') L.length (prV L) ∧ Below w.heap.size w w' := by
  have hn := pf_none_any h hp
  obtain ⟨cap, F⟩ := h.facts
  have c0 := F.c0
  have hc := clone_any F.own hp hl
  clear F h
  go_enter Try.func18, Try.ntmps18
  go_wp2_with (go_at_call 30; go_must (refine hn.mono ?_); rintro e w' ⟨rfl, rfl⟩)
  go_at_call 31
  refine hc.mono ?_
  clear hc hn
  rintro e w' ⟨g', cap', rfl, h1, h2, h3⟩
  clear c0
  go_wp2_with fail
  go_ret
  exact ⟨g', cap', by go_num, h1, h2, h3⟩
end

end Go.Proofs.Ytbnpeicmbbgboaa
