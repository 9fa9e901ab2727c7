/-
  Own walks: a reader's calls, where nothing is wrong.
-/
import Derived.Test.YtoefcfpjanmnlaaWireC
import Derived.Test.YtoefcfpjanmnlaaPuts
namespace Go.Proofs.Ytoefcfpjanmnlaa
open Go.RowKit

theorem RNum_any (x : Int) (hx : 0 ≤ x ∧ x ≤ 9223372036854775807) (l : List UInt8) (hl : l.length ≤ 10000) (b : Nat) (w : World) (h : Rd w b (enc x.toNat ++ l)) :
    Calls Try.prog 17 #[.pointer (some ⟨b, 0, none⟩)] w fun e w' => e = .returned (.int .i64 x) ∧ Rd w' b l ∧ Only b w w' := by
  obtain ⟨n, rfl⟩ := Int.eq_ofNat_of_zero_le hx.1
  rw [Int.toNat_natCast] at h
  have hn : n < 2 ^ 63 := by omega
  have HN := Lib.hid hn
  have hn2 : n ≤ 9223372036854775807 := by omega
  clear hn
  go_enter Try.func17, Try.ntmps17
  go_wp2_with (go_at_call 25; go_must (refine (number_any 63 (Or.inl rfl) n HN.out l hl b w h).mono ?_); rintro e w' ⟨rfl, hrd, hon⟩)
  go_ret
  exact ⟨rfl, hrd, hon⟩

theorem RSign_any (x : Int) (hx : -9223372036854775808 ≤ x ∧ x ≤ 9223372036854775807) (l : List UInt8) (hl : l.length ≤ 10000) (b : Nat) (w : World) (h : Rd w b (enc (zg x) ++ l)) :
    Calls Try.prog 16 #[.pointer (some ⟨b, 0, none⟩)] w fun e w' => e = .returned (.int .i64 x) ∧ Rd w' b l ∧ Only b w w' := by
  have HZ := Lib.hid (zg_lt hx)
  go_enter Try.func16, Try.ntmps16
  go_wp2_with (first | (go_at_call 25; go_must (refine (number_any 64 (Or.inr rfl) (zg x) HZ.out l hl b w h).mono ?_); rintro e w1 ⟨rfl, hrd, hon⟩) | (go_at_call 24; go_must (refine (unfold_any x hx _).mono ?_); rintro e w2 ⟨rfl, rfl⟩))
  go_ret
  exact ⟨rfl, hrd, hon⟩

theorem RBool_any (x : Bool) (l : List UInt8) (hl : l.length ≤ 10000) (b : Nat) (w : World) (h : Rd w b ((if x then 1 else 0) :: l)) :
    Calls Try.prog 18 #[.pointer (some ⟨b, 0, none⟩)] w fun e w' => e = .returned (.bool x) ∧ Rd w' b l ∧ Only b w w' := by
  cases x
  · go_enter Try.func18, Try.ntmps18
    go_wp2_with (go_at_call 26; go_must (refine (Byte_any w b 0 l h (by omega)).mono ?_); rintro e w1 ⟨rfl, hrd, hon⟩)
    go_ret
    exact ⟨rfl, hrd, hon⟩
  · go_enter Try.func18, Try.ntmps18
    go_wp2_with (go_at_call 26; go_must (refine (Byte_any w b 1 l h (by omega)).mono ?_); rintro e w1 ⟨rfl, hrd, hon⟩)
    go_ret
    exact ⟨rfl, hrd, hon⟩

set_option maxHeartbeats 400000 in
theorem REnd_any (b : Nat) (w : World) (h : Rd w b []) :
    Calls Try.prog 21 #[.pointer (some ⟨b, 0, none⟩)] w fun e w' => e = .returned (.int .i64 0) ∧ w = w' := by
  go_enter Try.func21, Try.ntmps21
  go_wp2_with (first | (go_at_call 20; go_must (refine (Left_any w b [] h).mono ?_); rintro e w1 ⟨rfl, rfl⟩) | (go_at_call 28; go_must (refine (Err_any w b [] h).mono ?_); rintro e w1 ⟨rfl, rfl⟩))
  go_ret
  exact ⟨rfl, rfl⟩

set_option maxHeartbeats 400000 in
theorem Read_any (l : List UInt8) (v : Value) (w : World) (h : BRead w v l) :
    Calls Try.prog 15 #[v] w fun e w' => ∃ b, e = .returned (.pointer (some ⟨b, 0, none⟩)) ∧ w.heap.size ≤ b ∧ Rd w' b l ∧ Reg.Ext w w' := by
  have hcv := conv_read h
  go_enter Try.func15, Try.ntmps15
  go_wp2
  go_ret
  refine ⟨w.heap.size, rfl, Nat.le_refl _, ⟨?_, ?_, ?_⟩, (Below.refl _ _).alloc (Nat.le_refl _) _⟩
  · simp only [World.cell?, heap_alloc_new]; rfl
  · simp only [World.cell?, heap_alloc_new]; rfl
  · simp only [World.frozen?, heap_alloc_new]; rfl

set_option maxHeartbeats 1000000 in
theorem RText_any (s : ByteArray) (hs : s.size ≤ 200) (b : Nat) (w : World) (h : Rd w b (enc s.size ++ tb s)) :
    Calls Try.prog 19 #[.pointer (some ⟨b, 0, none⟩), .int .i64 200] w fun e w' => e = .returned (.string s) ∧ Rd w' b [] ∧ Only b w w' := by
  have hlen := tb_length s
  have HL := Lib.hid hlen
  have hx : enc s.size = enc ((s.size : Int)).toNat := by rw [Int.toNat_natCast]
  rw [hx] at h
  have hlb : (tb s).length ≤ 10000 := by omega
  have hi1 : (0 : Int) ≤ s.size := by omega
  have hi2 : ((s.size : Nat) : Int) ≤ 200 := by omega
  clear hx hlen
  go_enter Try.func19, Try.ntmps19
  go_wp2_with (first | (go_at_call 17; go_must (refine (RNum_any (s.size : Int) (by omega) (tb s) hlb b w h).mono ?_); rintro e w1 ⟨rfl, hrd, hon⟩; have HR := Lib.hid hrd; have c0 := hrd.c0; have f0 := hrd.f0; rw [str_tb] at c0; clear hrd) | (go_at_call 20; go_must (refine (Left_any w1 b (tb s) HR.out).mono ?_); rintro e w2 ⟨rfl, rfl⟩; rw [HL.out]) | (go_at_call 28; go_must (refine (Err_any w1 b (tb s) HR.out).mono ?_); rintro e w2 ⟨rfl, rfl⟩))
  go_ret
  exact ⟨rfl, HR.out.set [], hon.trans (Only.setCell b 0 w1 _)⟩

/-- What a list's numbers are encoded as: each as a signed number, and again as a number, if it is one. -/
def encPairs (zs : List Int) : List UInt8 := zs.flatMap fun z => enc (zg z) ++ putP z
theorem encPairs_snoc (zs : List Int) (z : Int) : encPairs (zs ++ [z]) = encPairs zs ++ enc (zg z) ++ putP z := by simp [encPairs]
theorem encPairs_cons (zs : List Int) (z : Int) : encPairs (z :: zs) = enc (zg z) ++ (putP z ++ encPairs zs) := by simp [encPairs]
theorem putP_length (z : Int) : (putP z).length ≤ 10 := by unfold putP; split <;> first | exact (enc_length _).2 | simp
theorem encPairs_length (zs : List Int) : (encPairs zs).length ≤ 20 * zs.length := by
  induction zs with
  | nil => simp [encPairs]
  | cons z zs ih => have := (enc_length (zg z)).2; have := putP_length z; rw [encPairs_cons]; simp only [List.length_append, List.length_cons] at *; omega

theorem BBuf.ext {w w' : World} {base : Nat} {v : Value} {l : List UInt8} (h : BBuf w base v l) (he : Reg.Ext w w') : BBuf w' base v l := by
  rcases h with h | ⟨a, hv, hl, hc⟩
  · exact Or.inl (ownsRow_below h he fun k hk => (World.ownsRow.lt h k hk).2)
  · exact Or.inr ⟨a, hv, hl, fun j u hu => Keeps.of_ext he _ _ (hc j u hu)⟩

theorem PutB_any (a : Int) (h : -9223372036854775808 ≤ a ∧ a ≤ 9223372036854775807) (l : List UInt8) (v : Value) (base : Nat) (w : World) (hb : BBuf w base v l) (hl : l.length ≤ 1000000) (hbase : base ≤ w.heap.size) :
    Calls Try.prog 8 #[v, .int .i64 a] w fun e w' => ∃ v', e = .returned v' ∧ BBuf w' base v' (l ++ putP a) ∧ Below base w w' := by
  by_cases hn : a < 0
  · refine (Put_neg a hn v w).mono ?_
    rintro e w' ⟨rfl, rfl⟩
    exact ⟨v, rfl, by unfold putP; rw [if_pos hn, List.append_nil]; exact hb, Below.refl _ _⟩
  · refine (Put_any a ⟨by omega, h.2⟩ l v base w hb hl hbase).mono ?_
    rintro e w' ⟨v', rfl, ho, hbl⟩
    exact ⟨v', rfl, by unfold putP; rw [if_neg hn]; exact ho.buf, hbl⟩

/-- The states of the two statements whose order is open: appending, and reading. -/
def SApp (B : Nat) (b0 : Value) (X1 X2 X3 : List UInt8) : List Value → World → Prop
  | [], w => BBuf w B b0 X1
  | [v], w => BBuf w B v X2
  | _ :: v :: _, w => BBuf w B v X3
theorem SApp.ext {B : Nat} {b0 : Value} {X1 X2 X3 : List UInt8} (vs : List Value) (w w' : World) (he : Reg.Ext w w') (h : SApp B b0 X1 X2 X3 vs w) : SApp B b0 X1 X2 X3 vs w' := by
  match vs, h with
  | [], h => exact BBuf.ext h he
  | [_], h => exact BBuf.ext h he
  | _ :: _ :: _, h => exact BBuf.ext h he
def SRd (b : Nat) (Y1 Y2 Y3 : List UInt8) : List Value → World → Prop
  | [], w => Rd w b Y1
  | [_], w => Rd w b Y2
  | _ :: _ :: _, w => Rd w b Y3
theorem SRd.ext {b : Nat} {Y1 Y2 Y3 : List UInt8} (vs : List Value) (w w' : World) (he : Reg.Ext w w') (h : SRd b Y1 Y2 Y3 vs w) : SRd b Y1 Y2 Y3 vs w' := by
  match vs, h with
  | [], h => exact Rd.ext h he
  | [_], h => exact Rd.ext h he
  | _ :: _ :: _, h => exact Rd.ext h he

/-- What can be read of an argument that is a list of numbers. -/
structure IntsAt (w : World) (v : Value) (zs : List Int) : Prop where
  shape : ∃ ao cap, v = .slice ao zs.length cap ∧ zs.length ≤ cap ∧ cap ≤ maxLen ∧ (zs ≠ [] → ∃ b off, ao = some ⟨b, off, none⟩ ∧ b < w.heap.size ∧ ∀ i, i < zs.length → w.cell? ⟨b, off + i, none⟩ = some (.int .i64 (zs.getD i 0)))
  fits : ∀ z ∈ zs, -9223372036854775808 ≤ z ∧ z ≤ 9223372036854775807

end Go.Proofs.Ytoefcfpjanmnlaa
