/-
  The reference's Apply, walked.
-/
import Derived.Test.YtolpbeemeignaaaTpC
namespace Go.Proofs.Ytolpbeemeignaaa
open Go.RowKit
set_option maxRecDepth 4000

end Go.Proofs.Ytolpbeemeignaaa
