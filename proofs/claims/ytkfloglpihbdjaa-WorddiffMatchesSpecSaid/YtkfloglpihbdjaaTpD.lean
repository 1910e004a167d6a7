
/-
  The reference's Apply, walked.
-/
import Derived.Test.YtkfloglpihbdjaaTpC
namespace Go.Proofs.Ytkfloglpihbdjaa
open Go.RowKit
set_option maxRecDepth 4000

end Go.Proofs.Ytkfloglpihbdjaa
