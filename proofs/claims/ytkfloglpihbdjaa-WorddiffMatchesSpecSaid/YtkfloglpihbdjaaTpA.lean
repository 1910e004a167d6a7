
/-
  The reference's End, Equal, has, walked.
-/
import Derived.Test.YtkfloglpihbdjaaTpM
import Derived.Test.YtkfloglpihbdjaaDifE
import Derived.Test.YtkfloglpihbdjaaDfH
import Derived.Deep.RegionHeld3
namespace Go.Proofs.Ytkfloglpihbdjaa
open Go.RowKit
set_option maxRecDepth 4000



end Go.Proofs.Ytkfloglpihbdjaa
