/-
  Package lines: commonPrefix, commonSuffix, walked.
-/
import Derived.Test.YtolpbeemeignaaaLinB
import Derived.IntWalk
namespace Go.Proofs.Ytolpbeemeignaaa
open Go.RowKit
set_option maxRecDepth 4000

end Go.Proofs.Ytolpbeemeignaaa
