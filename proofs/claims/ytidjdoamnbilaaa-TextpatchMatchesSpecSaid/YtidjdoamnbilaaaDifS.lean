/-
  The reference's suffixes, walked.
-/
import Derived.Test.YtidjdoamnbilaaaDifT
namespace Go.Proofs.Ytidjdoamnbilaaa
open Go.RowKit

end Go.Proofs.Ytidjdoamnbilaaa
