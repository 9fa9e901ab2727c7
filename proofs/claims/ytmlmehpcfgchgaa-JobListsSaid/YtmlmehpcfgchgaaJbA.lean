/-
  Own words and walks: requests, and calls of a table of jobs, as they lie; when a job may not be asked for, which errors come first (the law's own).
-/
import Derived.Test.YtmlmehpcfgchgaaChecked
import Derived.Test.YtmlmehpcfgchgaaRow
import Derived.WalkKit
import Derived.WalkSpells
import Derived.WalkLawsBesides
import Derived.Deep.DeepMust
import Derived.Lib.Hide
import Derived.Sort.Grow
namespace Go.Proofs.Ytmlmehpcfgchgaa
open Go.RowKit Go.Lib Go.Sort

/-- A request. -/
structure Rq where
  kind : Int
  id : Int
  user : Int
  width : Int
  limit : Int
  prio : Int
  held : Bool
  node : Int
  till : Int
def encR (r : Rq) : List Value := [.int .i64 r.kind, .int .i64 r.id, .int .i64 r.user, .int .i64 r.width, .int .i64 r.limit, .int .i64 r.prio, .bool r.held, .int .i64 r.node, .int .i64 r.till]
/-- A call of a table of jobs. -/
structure Cl where
  kind : Int
  r : Rq
  id : Int
  at_ : Int
  state : Int
  nodes : Int
def encC (o : Cl) : List Value := [.int .i64 o.kind, .int .i64 o.r.kind, .int .i64 o.r.id, .int .i64 o.r.user, .int .i64 o.r.width, .int .i64 o.r.limit, .int .i64 o.r.prio, .bool o.r.held, .int .i64 o.r.node, .int .i64 o.r.till, .int .i64 o.id, .int .i64 o.at_, .int .i64 o.state, .int .u64 o.nodes]

/-- Why a job may not be asked for. -/
def rightF (r : Rq) : Int :=
  if r.user < 0 then 1 else if 255 < r.user then 1 else if r.prio < 0 then 1 else if 1000 < r.prio then 1 else if r.width < 1 then 9 else if 64 < r.width then 9 else if r.limit < 1 then 10 else if 1048576 < r.limit then 10 else 0
/-- The error that comes ahead of looking for the job. -/
def earlyF (o : Cl) : Int :=
  if o.kind = 5 then (if o.at_ < -1 then 10 else if 1099511627776 < o.at_ then 10 else 0)
  else if o.kind = 6 then (if o.at_ < 0 then 10 else if 1099511627776 < o.at_ then 10 else 0)
  else if o.kind = 7 then (if o.at_ < 0 then 10 else if 1099511627776 < o.at_ then 10 else 0)
  else if o.kind = 3 then 0 else if o.kind = 4 then 0
  else if o.state < 4 then 1 else if 6 < o.state then 1 else if o.at_ < 0 then 10 else if 2199023255552 < o.at_ then 10 else 0

set_option maxRecDepth 100000 in
set_option maxHeartbeats 1000000 in
theorem right_fn (r : Rq) (w : World) : Calls Try.prog 8 #[.agg (encR r).toArray] w fun e w' => e = .returned (.int .i64 (rightF r)) ∧ ∃ o, w' = w.alloc o := by
  obtain ⟨x1, x2, x3, x4, x5, x6, x7, x8, x9⟩ := r
  simp only [encR]
  by_cases h0 : x3 < 0
  · have d0 : decide (x3 < 0) = true := decide_eq_true h0
    have e : rightF ⟨x1, x2, x3, x4, x5, x6, x7, x8, x9⟩ = 1 := by simp [rightF, h0]
    rw [e]
    clear e
    go_enter Try.func8, Try.ntmps8
    go_wp2_with fail
    go_ret
    exact ⟨rfl, _, rfl⟩
  · have d0 : decide (x3 < 0) = false := decide_eq_false h0
    by_cases h1 : 255 < x3
    · have d1 : decide (255 < x3) = true := decide_eq_true h1
      have e : rightF ⟨x1, x2, x3, x4, x5, x6, x7, x8, x9⟩ = 1 := by simp [rightF, h0, h1]
      rw [e]
      clear e
      go_enter Try.func8, Try.ntmps8
      go_wp2_with fail
      go_ret
      exact ⟨rfl, _, rfl⟩
    · have d1 : decide (255 < x3) = false := decide_eq_false h1
      by_cases h2 : x6 < 0
      · have d2 : decide (x6 < 0) = true := decide_eq_true h2
        have e : rightF ⟨x1, x2, x3, x4, x5, x6, x7, x8, x9⟩ = 1 := by simp [rightF, h0, h1, h2]
        rw [e]
        clear e
        go_enter Try.func8, Try.ntmps8
        go_wp2_with fail
        go_ret
        exact ⟨rfl, _, rfl⟩
      · have d2 : decide (x6 < 0) = false := decide_eq_false h2
        by_cases h3 : 1000 < x6
        · have d3 : decide (1000 < x6) = true := decide_eq_true h3
          have e : rightF ⟨x1, x2, x3, x4, x5, x6, x7, x8, x9⟩ = 1 := by simp [rightF, h0, h1, h2, h3]
          rw [e]
          clear e
          go_enter Try.func8, Try.ntmps8
          go_wp2_with fail
          go_ret
          exact ⟨rfl, _, rfl⟩
        · have d3 : decide (1000 < x6) = false := decide_eq_false h3
          by_cases h4 : x4 < 1
          · have d4 : decide (x4 < 1) = true := decide_eq_true h4
            have e : rightF ⟨x1, x2, x3, x4, x5, x6, x7, x8, x9⟩ = 9 := by simp [rightF, h0, h1, h2, h3, h4]
            rw [e]
            clear e
            go_enter Try.func8, Try.ntmps8
            go_wp2_with fail
            go_ret
            exact ⟨rfl, _, rfl⟩
          · have d4 : decide (x4 < 1) = false := decide_eq_false h4
            by_cases h5 : 64 < x4
            · have d5 : decide (64 < x4) = true := decide_eq_true h5
              have e : rightF ⟨x1, x2, x3, x4, x5, x6, x7, x8, x9⟩ = 9 := by simp [rightF, h0, h1, h2, h3, h4, h5]
              rw [e]
              clear e
              go_enter Try.func8, Try.ntmps8
              go_wp2_with fail
              go_ret
              exact ⟨rfl, _, rfl⟩
            · have d5 : decide (64 < x4) = false := decide_eq_false h5
              by_cases h6 : x5 < 1
              · have d6 : decide (x5 < 1) = true := decide_eq_true h6
                have e : rightF ⟨x1, x2, x3, x4, x5, x6, x7, x8, x9⟩ = 10 := by simp [rightF, h0, h1, h2, h3, h4, h5, h6]
                rw [e]
                clear e
                go_enter Try.func8, Try.ntmps8
                go_wp2_with fail
                go_ret
                exact ⟨rfl, _, rfl⟩
              · have d6 : decide (x5 < 1) = false := decide_eq_false h6
                by_cases h7 : 1048576 < x5
                · have d7 : decide (1048576 < x5) = true := decide_eq_true h7
                  have e : rightF ⟨x1, x2, x3, x4, x5, x6, x7, x8, x9⟩ = 10 := by simp [rightF, h0, h1, h2, h3, h4, h5, h6, h7]
                  rw [e]
                  clear e
                  go_enter Try.func8, Try.ntmps8
                  go_wp2_with fail
                  go_ret
                  exact ⟨rfl, _, rfl⟩
                · have d7 : decide (1048576 < x5) = false := decide_eq_false h7
                  have e : rightF ⟨x1, x2, x3, x4, x5, x6, x7, x8, x9⟩ = 0 := by simp [rightF, h0, h1, h2, h3, h4, h5, h6, h7]
                  rw [e]
                  clear e
                  go_enter Try.func8, Try.ntmps8
                  go_wp2_with fail
                  go_ret
                  exact ⟨rfl, _, rfl⟩

set_option maxRecDepth 100000 in
set_option maxHeartbeats 2000000 in
theorem early_fn (o : Cl) (w : World) : Calls Try.prog 33 #[.agg (encC o).toArray] w fun e w' => e = .returned (.int .i64 (earlyF o)) ∧ ∃ o, w' = w.alloc o := by
  obtain ⟨k, r, i, a, s, n⟩ := o
  simp only [encC]
  by_cases k5 : k = 5
  · subst k5
    by_cases g0 : a < -1
    · have d0 : decide (a < -1) = true := decide_eq_true g0
      have e : earlyF ⟨5, r, i, a, s, n⟩ = 10 := by simp [earlyF, g0]
      rw [e]
      clear e
      go_enter Try.func33, Try.ntmps33
      go_wp2_with fail
      go_ret
      exact ⟨rfl, _, rfl⟩
    · have d0 : decide (a < -1) = false := decide_eq_false g0
      by_cases g1 : 1099511627776 < a
      · have d1 : decide (1099511627776 < a) = true := decide_eq_true g1
        have e : earlyF ⟨5, r, i, a, s, n⟩ = 10 := by simp [earlyF, g0, g1]
        rw [e]
        clear e
        go_enter Try.func33, Try.ntmps33
        go_wp2_with fail
        go_ret
        exact ⟨rfl, _, rfl⟩
      · have d1 : decide (1099511627776 < a) = false := decide_eq_false g1
        have e : earlyF ⟨5, r, i, a, s, n⟩ = 0 := by simp [earlyF, g0, g1]
        rw [e]
        clear e
        go_enter Try.func33, Try.ntmps33
        go_wp2_with fail
        go_ret
        exact ⟨rfl, _, rfl⟩
  · have e5 : (k == 5) = false := beq_eq_false_iff_ne.2 k5
    by_cases k6 : k = 6
    · subst k6
      by_cases g0 : a < 0
      · have d0 : decide (a < 0) = true := decide_eq_true g0
        have e : earlyF ⟨6, r, i, a, s, n⟩ = 10 := by simp [earlyF, g0]
        rw [e]
        clear e
        go_enter Try.func33, Try.ntmps33
        go_wp2_with fail
        go_ret
        exact ⟨rfl, _, rfl⟩
      · have d0 : decide (a < 0) = false := decide_eq_false g0
        by_cases g1 : 1099511627776 < a
        · have d1 : decide (1099511627776 < a) = true := decide_eq_true g1
          have e : earlyF ⟨6, r, i, a, s, n⟩ = 10 := by simp [earlyF, g0, g1]
          rw [e]
          clear e
          go_enter Try.func33, Try.ntmps33
          go_wp2_with fail
          go_ret
          exact ⟨rfl, _, rfl⟩
        · have d1 : decide (1099511627776 < a) = false := decide_eq_false g1
          have e : earlyF ⟨6, r, i, a, s, n⟩ = 0 := by simp [earlyF, g0, g1]
          rw [e]
          clear e
          go_enter Try.func33, Try.ntmps33
          go_wp2_with fail
          go_ret
          exact ⟨rfl, _, rfl⟩
    · have e6 : (k == 6) = false := beq_eq_false_iff_ne.2 k6
      by_cases k7 : k = 7
      · subst k7
        by_cases g0 : a < 0
        · have d0 : decide (a < 0) = true := decide_eq_true g0
          have e : earlyF ⟨7, r, i, a, s, n⟩ = 10 := by simp [earlyF, g0]
          rw [e]
          clear e
          go_enter Try.func33, Try.ntmps33
          go_wp2_with fail
          go_ret
          exact ⟨rfl, _, rfl⟩
        · have d0 : decide (a < 0) = false := decide_eq_false g0
          by_cases g1 : 1099511627776 < a
          · have d1 : decide (1099511627776 < a) = true := decide_eq_true g1
            have e : earlyF ⟨7, r, i, a, s, n⟩ = 10 := by simp [earlyF, g0, g1]
            rw [e]
            clear e
            go_enter Try.func33, Try.ntmps33
            go_wp2_with fail
            go_ret
            exact ⟨rfl, _, rfl⟩
          · have d1 : decide (1099511627776 < a) = false := decide_eq_false g1
            have e : earlyF ⟨7, r, i, a, s, n⟩ = 0 := by simp [earlyF, g0, g1]
            rw [e]
            clear e
            go_enter Try.func33, Try.ntmps33
            go_wp2_with fail
            go_ret
            exact ⟨rfl, _, rfl⟩
      · have e7 : (k == 7) = false := beq_eq_false_iff_ne.2 k7
        by_cases k3 : k = 3
        · subst k3
          have e : earlyF ⟨3, r, i, a, s, n⟩ = 0 := by simp [earlyF]
          rw [e]
          clear e
          go_enter Try.func33, Try.ntmps33
          go_wp2_with fail
          go_ret
          exact ⟨rfl, _, rfl⟩
        · have e3 : (k == 3) = false := beq_eq_false_iff_ne.2 k3
          by_cases k4 : k = 4
          · subst k4
            have e : earlyF ⟨4, r, i, a, s, n⟩ = 0 := by simp [earlyF]
            rw [e]
            clear e
            go_enter Try.func33, Try.ntmps33
            go_wp2_with fail
            go_ret
            exact ⟨rfl, _, rfl⟩
          · have e4 : (k == 4) = false := beq_eq_false_iff_ne.2 k4
            by_cases g0 : s < 4
            · have d0 : decide (s < 4) = true := decide_eq_true g0
              have e : earlyF ⟨k, r, i, a, s, n⟩ = 1 := by simp [earlyF, k5, k6, k7, k3, k4, g0]
              rw [e]
              clear e
              go_enter Try.func33, Try.ntmps33
              go_wp2_with fail
              go_ret
              exact ⟨rfl, _, rfl⟩
            · have d0 : decide (s < 4) = false := decide_eq_false g0
              by_cases g1 : 6 < s
              · have d1 : decide (6 < s) = true := decide_eq_true g1
                have e : earlyF ⟨k, r, i, a, s, n⟩ = 1 := by simp [earlyF, k5, k6, k7, k3, k4, g0, g1]
                rw [e]
                clear e
                go_enter Try.func33, Try.ntmps33
                go_wp2_with fail
                go_ret
                exact ⟨rfl, _, rfl⟩
              · have d1 : decide (6 < s) = false := decide_eq_false g1
                by_cases g2 : a < 0
                · have d2 : decide (a < 0) = true := decide_eq_true g2
                  have e : earlyF ⟨k, r, i, a, s, n⟩ = 10 := by simp [earlyF, k5, k6, k7, k3, k4, g0, g1, g2]
                  rw [e]
                  clear e
                  go_enter Try.func33, Try.ntmps33
                  go_wp2_with fail
                  go_ret
                  exact ⟨rfl, _, rfl⟩
                · have d2 : decide (a < 0) = false := decide_eq_false g2
                  by_cases g3 : 2199023255552 < a
                  · have d3 : decide (2199023255552 < a) = true := decide_eq_true g3
                    have e : earlyF ⟨k, r, i, a, s, n⟩ = 10 := by simp [earlyF, k5, k6, k7, k3, k4, g0, g1, g2, g3]
                    rw [e]
                    clear e
                    go_enter Try.func33, Try.ntmps33
                    go_wp2_with fail
                    go_ret
                    exact ⟨rfl, _, rfl⟩
                  · have d3 : decide (2199023255552 < a) = false := decide_eq_false g3
                    have e : earlyF ⟨k, r, i, a, s, n⟩ = 0 := by simp [earlyF, k5, k6, k7, k3, k4, g0, g1, g2, g3]
                    rw [e]
                    clear e
                    go_enter Try.func33, Try.ntmps33
                    go_wp2_with fail
                    go_ret
                    exact ⟨rfl, _, rfl⟩

end Go.Proofs.Ytmlmehpcfgchgaa
