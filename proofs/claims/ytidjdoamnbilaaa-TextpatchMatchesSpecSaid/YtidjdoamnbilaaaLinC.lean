/-
  Package lines: commonPrefix, commonSuffix, walked.
-/
import Derived.Test.YtidjdoamnbilaaaLinB
import Derived.IntWalk
namespace Go.Proofs.Ytidjdoamnbilaaa
open Go.RowKit

end Go.Proofs.Ytidjdoamnbilaaa
