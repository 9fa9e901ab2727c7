/-
  Own walks: the statements' own helpers (cut, raw, zig, awake), and All.
-/
import Derived.Test.YtpdnppncdfialaaWireA
namespace Go.Proofs.Ytpdnppncdfialaa
open Go.RowKit

/-- One new byte, as a string. -/
theorem conv_one (W : World) (n : Nat) (hn : n < 256) : (convert 25 9 (.slice (some ⟨W.heap.size, 0, none⟩) 1 1)).run Try.prog (W.alloc (.cells #[.int .u8 (n : Int)] 5)) = .ok (.string (str [byt n])) (W.alloc (.cells #[.int .u8 (n : Int)] 5)) := by
  refine conv_own (base := 0) (l := [byt n]) ⟨rfl, .inr ⟨W.heap.size, 1, #[.int .u8 (n : Int)], rfl, Nat.zero_le _, heap_alloc_new W _, Nat.le_refl _, by unfold maxLen; omega, rfl, ?_⟩⟩
  simp [bv, byt_toNat hn]

theorem str_size (l : List UInt8) : (str l).size = l.length := by simp [str, ByteArray.size]

theorem str_cat (a b : List UInt8) : str a ++ str b = str (a ++ b) := by
  apply ByteArray.ext
  simp [str]

/-- A text, or its first 200 bytes. -/
def cut200 (s : ByteArray) : ByteArray := if 200 < s.size then s.extract 0 200 else s
theorem cut200_size (s : ByteArray) : (cut200 s).size ≤ 200 := by
  unfold cut200
  split
  · rw [ByteArray.size_extract]; omega
  · omega

theorem str_toList (l : List UInt8) : (str l).toList = l := ByteArray.toList_mk l

/-- The bytes of signed numbers in a row. -/
def encAll (zs : List Int) : List UInt8 := zs.flatMap fun z => enc (zg z)
theorem encAll_snoc (zs : List Int) (z : Int) : encAll (zs ++ [z]) = encAll zs ++ enc (zg z) := by simp [encAll]
theorem encAll_length (zs : List Int) : (encAll zs).length ≤ 10 * zs.length := by
  induction zs with
  | nil => simp [encAll]
  | cons z zs ih => have := enc_length (zg z); simp only [encAll, List.flatMap_cons, List.length_append, List.length_cons] at *; omega

end Go.Proofs.Ytpdnppncdfialaa
