/-
  The reference's End, Equal, has, walked.
-/
import Derived.Test.YtolpbeemeignaaaTpM
import Derived.Test.YtolpbeemeignaaaDifE
import Derived.Test.YtolpbeemeignaaaDfH
import Derived.Deep.RegionHeld3
namespace Go.Proofs.Ytolpbeemeignaaa
open Go.RowKit
set_option maxRecDepth 4000

theorem refEnd_any (z : Int) (o1 n1 : Option Addr) (o2 o3 n2 n3 : Nat) (w : World) (h1 : 0 ≤ z) (h2 : z ≤ 1000000) (h3 : o2 ≤ 281474976710656) :
    Calls Try.prog 39 #[.agg #[.int .i64 z, .slice o1 o2 o3, .slice n1 n2 n3]] w (BPost (.int .i64 (z + (o2 : Int))) w) := by
  have wz : IntKind.i64.wrap (z + (o2 : Int)) = z + (o2 : Int) := IntWalk.i64_in _ (by omega)
  go_enter Try.func39, Try.ntmps39
  go_wp2_with fail
  go_ret
  exact ⟨rfl, up_alloc (Below.refl _ _) _⟩


end Go.Proofs.Ytolpbeemeignaaa
