
/-
  Two operations, compared by Go.
-/
import Derived.Test.YtidncnhhjfdifaaSqMg
namespace Go.Proofs.Ytidncnhhjfdifaa
open Go.RowKit
set_option maxRecDepth 4000
set_option maxRecDepth 100000 in
theorem opNe (p o : Sq.O) (w : World) : (binOp .neq 53 p.v o.v).run Try.prog w = .ok (.bool (!decide (p = o))) w := by
  obtain ⟨d, r, c, ar, ac, l⟩ := p
  obtain ⟨d', r', c', ar', ac', l'⟩ := o
  unfold Sq.O.v
  dsimp only
  go_simp
  have hl : (l.toList = l'.toList) ↔ l = l' := ⟨fun h => tl_inj h, fun h => by rw [h]⟩
  simp only [hl]
  by_cases h1 : d = d' <;> by_cases h2 : r = r' <;> by_cases h3 : c = c' <;> by_cases h4 : ar = ar' <;> by_cases h5 : ac = ac' <;> by_cases h6 : l = l' <;> simp [h1, h2, h3, h4, h5, h6]
end Go.Proofs.Ytidncnhhjfdifaa
