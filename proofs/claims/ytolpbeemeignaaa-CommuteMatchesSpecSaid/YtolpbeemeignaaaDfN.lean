/-
  A part of a slice of strings: from lo to hi.
-/
import Derived.Test.YtolpbeemeignaaaLinD
namespace Go.Proofs.Ytolpbeemeignaaa
open Go.RowKit
set_option maxRecDepth 4000

theorem run_mid (p : Option Addr) (len cap lo hi : Nat) (h : lo ≤ hi) (h' : hi ≤ cap) (w : World) :
    (Instr.slice 33 (.slice p len cap) (some (.int .i64 (lo : Int))) (some (.int .i64 (hi : Int))) none).run Try.prog w = .ok (.slice (sAt p lo cap) (hi - lo) (cap - lo)) w := by
  rw [run_slice_lh w 33 p len cap (by rw [Try.underlying33]; rfl) .i64 .i64 (lo : Int) (hi : Int) (by omega) (by omega) (by omega)]
  have : ∀ w, (sizeOf (Try.prog.elem 33)).run Try.prog w = .ok 1 w := fun w => by kernel_rfl
  rw [this]
  simp [Result.andThen, sliced, sAt]
/-- what lies between -/
def mid (l : List ByteArray) (lo hi : Nat) : List ByteArray := (l.drop lo).take (hi - lo)
theorem mid_nil (l : List ByteArray) (lo : Nat) : mid l lo lo = [] := by unfold mid; rw [Nat.sub_self, List.take_zero]
theorem mid_next (l : List ByteArray) (lo hi : Nat) (h : lo ≤ hi) (h' : hi < l.length) : mid l lo (hi + 1) = mid l lo hi ++ [l[hi]] := by
  unfold mid
  rw [show hi + 1 - lo = (hi - lo) + 1 by omega, List.take_succ_eq_append_getElem (by rw [List.length_drop]; omega), List.getElem_drop]
  congr 3; omega
theorem mid_size (l : List ByteArray) (lo hi : Nat) (h2 : hi ≤ l.length) : (mid l lo hi).length = hi - lo := by
  unfold mid; rw [List.length_take, List.length_drop]; omega
theorem Sts.mid {w : World} {p : Option Addr} {l : List ByteArray} (h : Sts w p l) (lo hi cap : Nat) (h1 : lo ≤ hi) (h2 : hi ≤ l.length) (hc : l.length ≤ cap) : Sts w (sAt p lo cap) (mid l lo hi) :=
  (h.from lo cap (by omega) hc).upto (hi - lo) (by rw [List.length_drop]; omega)
end Go.Proofs.Ytolpbeemeignaaa
