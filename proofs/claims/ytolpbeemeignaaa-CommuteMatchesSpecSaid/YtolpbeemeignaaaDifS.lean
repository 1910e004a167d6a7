/-
  The reference's suffixes, walked.
-/
import Derived.Test.YtolpbeemeignaaaDifT
namespace Go.Proofs.Ytolpbeemeignaaa
open Go.RowKit
set_option maxRecDepth 4000

end Go.Proofs.Ytolpbeemeignaaa
