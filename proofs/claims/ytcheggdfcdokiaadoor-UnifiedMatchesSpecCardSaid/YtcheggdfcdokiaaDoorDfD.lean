
/-
  The program's diff.validate, walked.
  The program's diff.Distance, walked.
-/
import Derived.Test.YtcheggdfcdokiaaDoorLinD
import Derived.Test.YtcheggdfcdokiaaDoorDifM
import Derived.Test.YtcheggdfcdokiaaDoorDfT
namespace Go.Proofs.YtcheggdfcdokiaaDoor
open Go.RowKit
set_option maxRecDepth 4000

end Go.Proofs.YtcheggdfcdokiaaDoor
namespace Go.Proofs.YtcheggdfcdokiaaDoor
open Go.RowKit

theorem len_ok {l : List ByteArray} (h : Lin.vC l = 0) : l.length ≤ 120 := by
  unfold Lin.vC at h
  split at h
  · cases h
  · omega
/-- both texts are valid -/
def okD (a b : List ByteArray) : Prop := Lin.vC a = 0 ∧ Lin.vC b = 0
instance (a b : List ByteArray) : Decidable (okD a b) := inferInstanceAs (Decidable (_ ∧ _))
theorem tC_ok {a b : List ByteArray} (h : okD a b) : tC a b = 0 ∧ tI a b = 0 := t_none h.1 h.2
theorem tC_not {a b : List ByteArray} (h : ¬ okD a b) : ¬ tC a b = 0 := by
  unfold tC
  split
  · rename_i h1; intro h2; exact h ⟨h1, h2⟩
  · assumption
theorem tC_iff {a b : List ByteArray} : tC a b = 0 ↔ okD a b := ⟨fun h => Decidable.byContradiction fun h' => tC_not h' h, fun h => (tC_ok h).1⟩
/-- what Distance returns -/
def dD (a b : List ByteArray) : Int := if okD a b then (a.length : Int) + b.length - 2 * (Dif.lcs a b : Nat) else 0

end Go.Proofs.YtcheggdfcdokiaaDoor
