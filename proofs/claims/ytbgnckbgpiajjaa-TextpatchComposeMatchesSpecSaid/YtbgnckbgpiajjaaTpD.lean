/-
  The reference's Apply, walked.
-/
import Derived.Test.YtbgnckbgpiajjaaTpC
namespace Go.Proofs.Ytbgnckbgpiajjaa
open Go.RowKit
set_option maxRecDepth 4000

end Go.Proofs.Ytbgnckbgpiajjaa
