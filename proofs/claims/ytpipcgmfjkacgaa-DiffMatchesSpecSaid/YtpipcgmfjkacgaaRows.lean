/-
  No cell of these rows narrows 'for every input' (looked for: loops, veiled, ifaces, maps, wideKeys, modest, calm, conditions, laid).
  DERIVED. THE GIVEN ROWS OF THIS SEAT. 4 by the template 'for every input the law returns true; each argument reads behind the call as it read before'; 0 by the template 'total and deterministic' (their statements: YtpipcgmfjkacgaaTotals.lean).
  GIVEN WITH THE SEED: the statements are not yours to turn. If you find one false, say at which input.
  Laid BY PROGRAM, IN A SANDBOX (cutbox-rows.mjs): the forced cells as the released guide's own fill.sh prints them over the translation f65a18832106f945… (all of the seat's roots in one cut). By AI agents, Wed Nov 11 2026. No macro, syntax, notation, axiom, sorry.
-/
import Derived.Test.YtpipcgmfjkacgaaChecked
import GoSem.Claim
import GoSem.ClaimJoined
import GoSem.ClaimMapViews
import Derived.JoinedTies
import Derived.KernelRfl
namespace Go.Proofs.Ytpipcgmfjkacgaa
/- THE CELL 'sum', in the pinned program and in every row, IS THE sha256 OF THE DUMP (.gsa) THAT YtpipcgmfjkacgaaProg.lean LOADS. Nothing in Lean hashes anything: it is a label: what it is worth is what the hold of that sum in a sandbox is worth. -/
noncomputable def Try.pinned : Pinned := { name := "ytpipcgmfjkacgaa", sum := "f65a18832106f9457635c32d15cc972e201b85e8be612e52e228e08f465bdfb2", checked := Try.checked }
namespace Rows
def none {H : Type} : Left H := { results := [], args := [] }

/-- 'changeforgelaw1.DiffMatchesSpec': WHATEVER THE INPUT: true; the input reads as it did. -/
def diffMatchesSpecSpec : ChangeSpec := { name := "diffMatchesSpec", fn := fun _ => fun
  | [d1, d2] => { results := [.lit (.bool true)], args := [d1, d2] }
  | _ => none }
def diffMatchesSpecRow : OpenClaim := { program := "ytpipcgmfjkacgaa", sum := "f65a18832106f9457635c32d15cc972e201b85e8be612e52e228e08f465bdfb2", func := "changeforge/changeforgelaw1.DiffMatchesSpec", spec := "diffMatchesSpec", inPlace := ["internal/bytealg.IndexByteString", "internal/bytealg.IndexString"], unfollowed := true, recurses := true, named := ["internal/bytealg.MaxLen"], apart := false }
def DiffMatchesSpecSaid : Prop := diffMatchesSpecRow.holds Try.pinned (OpenSpec.ofChange diffMatchesSpecSpec)

/-- ITS FALSE NEIGHBOUR: 'it returns false'. Refute it at one input. -/
def diffMatchesSpecWrong : ChangeSpec := { name := "diffMatchesSpec", fn := fun _ => fun
  | [d1, d2] => { results := [.lit (.bool false)], args := [d1, d2] }
  | _ => none }
def DiffMatchesSpecWrongFalsely : Prop := diffMatchesSpecRow.holds Try.pinned (OpenSpec.ofChange diffMatchesSpecWrong)

/-- 'changeforgelaw1.DiffMetric': WHATEVER THE INPUT: true; the input reads as it did. -/
def diffMetricSpec : ChangeSpec := { name := "diffMetric", fn := fun _ => fun
  | [d1, d2, d3] => { results := [.lit (.bool true)], args := [d1, d2, d3] }
  | _ => none }
def diffMetricRow : OpenClaim := { program := "ytpipcgmfjkacgaa", sum := "f65a18832106f9457635c32d15cc972e201b85e8be612e52e228e08f465bdfb2", func := "changeforge/changeforgelaw1.DiffMetric", spec := "diffMetric", inPlace := ["internal/bytealg.IndexByteString", "internal/bytealg.IndexString"], named := ["internal/bytealg.MaxLen"], apart := false }
def DiffMetricSaid : Prop := diffMetricRow.holds Try.pinned (OpenSpec.ofChange diffMetricSpec)

/-- ITS FALSE NEIGHBOUR: 'it returns false'. Refute it at one input. -/
def diffMetricWrong : ChangeSpec := { name := "diffMetric", fn := fun _ => fun
  | [d1, d2, d3] => { results := [.lit (.bool false)], args := [d1, d2, d3] }
  | _ => none }
def DiffMetricWrongFalsely : Prop := diffMetricRow.holds Try.pinned (OpenSpec.ofChange diffMetricWrong)

/-- 'changeforgelaw1.DiffCommonLongest': WHATEVER THE INPUT: true; the input reads as it did. -/
def diffCommonLongestSpec : ChangeSpec := { name := "diffCommonLongest", fn := fun _ => fun
  | [d1, d2, d3] => { results := [.lit (.bool true)], args := [d1, d2, d3] }
  | _ => none }
def diffCommonLongestRow : OpenClaim := { program := "ytpipcgmfjkacgaa", sum := "f65a18832106f9457635c32d15cc972e201b85e8be612e52e228e08f465bdfb2", func := "changeforge/changeforgelaw1.DiffCommonLongest", spec := "diffCommonLongest", inPlace := ["internal/bytealg.IndexByteString", "internal/bytealg.IndexString"], unfollowed := true, recurses := true, named := ["internal/bytealg.MaxLen"], apart := false }
def DiffCommonLongestSaid : Prop := diffCommonLongestRow.holds Try.pinned (OpenSpec.ofChange diffCommonLongestSpec)

/-- ITS FALSE NEIGHBOUR: 'it returns false'. Refute it at one input. -/
def diffCommonLongestWrong : ChangeSpec := { name := "diffCommonLongest", fn := fun _ => fun
  | [d1, d2, d3] => { results := [.lit (.bool false)], args := [d1, d2, d3] }
  | _ => none }
def DiffCommonLongestWrongFalsely : Prop := diffCommonLongestRow.holds Try.pinned (OpenSpec.ofChange diffCommonLongestWrong)

/-- 'changeforgelaw1.DiffAffixes': WHATEVER THE INPUT: true; the input reads as it did. -/
def diffAffixesSpec : ChangeSpec := { name := "diffAffixes", fn := fun _ => fun
  | [d1, d2] => { results := [.lit (.bool true)], args := [d1, d2] }
  | _ => none }
def diffAffixesRow : OpenClaim := { program := "ytpipcgmfjkacgaa", sum := "f65a18832106f9457635c32d15cc972e201b85e8be612e52e228e08f465bdfb2", func := "changeforge/changeforgelaw1.DiffAffixes", spec := "diffAffixes", inPlace := ["internal/bytealg.IndexByteString", "internal/bytealg.IndexString"], named := ["internal/bytealg.MaxLen"], apart := false }
def DiffAffixesSaid : Prop := diffAffixesRow.holds Try.pinned (OpenSpec.ofChange diffAffixesSpec)

/-- ITS FALSE NEIGHBOUR: 'it returns false'. Refute it at one input. -/
def diffAffixesWrong : ChangeSpec := { name := "diffAffixes", fn := fun _ => fun
  | [d1, d2] => { results := [.lit (.bool false)], args := [d1, d2] }
  | _ => none }
def DiffAffixesWrongFalsely : Prop := diffAffixesRow.holds Try.pinned (OpenSpec.ofChange diffAffixesWrong)

/- THE SECOND FORM. 'bulk': how many values and letters a reading holds, each counted each time it is reached (what is shared counts as often as it is met; a slice's spare places count too). A statement '..UptoSaid' is the law's where the arguments, and the package variables that the reading takes, are together of bulk at most 1048576: NARROWER than '..Said'. Prove '..Said' where nothing that the law and all that it calls make is longer than what came in: it says more and counts as full. Else prove '..UptoSaid'. A law counts once. -/
mutual
def uptoBulk {H : Type} : DataW H → Nat
  | .lit (.string bytes) => bytes.length + 1
  | .lit _ => 1
  | .nil => 1
  | .ptr d => uptoBulk d + 1
  | .slice elems spare => uptoBulkAll elems + uptoBulkAll spare + 1
  | .agg parts => uptoBulkAll parts + 1
  | .iface _ d => uptoBulk d + 1
  | .map entries => uptoBulkEntries entries + 1
  | .held _ => 1
def uptoBulkAll {H : Type} : List (DataW H) → Nat
  | [] => 0
  | d :: r => uptoBulk d + uptoBulkAll r
def uptoBulkEntries {H : Type} : List (Lit × DataW H) → Nat
  | [] => 0
  | x :: r => uptoBulkEntry x + uptoBulkEntries r
def uptoBulkEntry {H : Type} : Lit × DataW H → Nat
  | (.string bytes, d) => bytes.length + uptoBulk d + 1
  | (_, d) => uptoBulk d + 1
 end
def uptoSmall : (H : Type) → List (DataW H) → Bool := fun _ ds => decide (uptoBulkAll ds ≤ 1048576)
def OpenSpec.upto (s : _root_.Go.ChangeSpec) : _root_.Go.OpenSpec := { _root_.Go.OpenSpec.ofChange s with cond := some uptoSmall }

/-- 'changeforgelaw1.DiffMatchesSpec', WHERE WHAT IT READS IS OF BULK AT MOST 1048576: true; the input reads as it did. -/
def diffMatchesSpecUptoRow : OpenClaim := { program := "ytpipcgmfjkacgaa", sum := "f65a18832106f9457635c32d15cc972e201b85e8be612e52e228e08f465bdfb2", func := "changeforge/changeforgelaw1.DiffMatchesSpec", spec := "diffMatchesSpec", inPlace := ["internal/bytealg.IndexByteString", "internal/bytealg.IndexString"], unfollowed := true, recurses := true, named := ["internal/bytealg.MaxLen"], apart := false, narrowed := true }
def DiffMatchesSpecUptoSaid : Prop := diffMatchesSpecUptoRow.holds Try.pinned (OpenSpec.upto diffMatchesSpecSpec)

/-- 'changeforgelaw1.DiffMetric', WHERE WHAT IT READS IS OF BULK AT MOST 1048576: true; the input reads as it did. -/
def diffMetricUptoRow : OpenClaim := { program := "ytpipcgmfjkacgaa", sum := "f65a18832106f9457635c32d15cc972e201b85e8be612e52e228e08f465bdfb2", func := "changeforge/changeforgelaw1.DiffMetric", spec := "diffMetric", inPlace := ["internal/bytealg.IndexByteString", "internal/bytealg.IndexString"], named := ["internal/bytealg.MaxLen"], apart := false, narrowed := true }
def DiffMetricUptoSaid : Prop := diffMetricUptoRow.holds Try.pinned (OpenSpec.upto diffMetricSpec)

/-- 'changeforgelaw1.DiffCommonLongest', WHERE WHAT IT READS IS OF BULK AT MOST 1048576: true; the input reads as it did. -/
def diffCommonLongestUptoRow : OpenClaim := { program := "ytpipcgmfjkacgaa", sum := "f65a18832106f9457635c32d15cc972e201b85e8be612e52e228e08f465bdfb2", func := "changeforge/changeforgelaw1.DiffCommonLongest", spec := "diffCommonLongest", inPlace := ["internal/bytealg.IndexByteString", "internal/bytealg.IndexString"], unfollowed := true, recurses := true, named := ["internal/bytealg.MaxLen"], apart := false, narrowed := true }
def DiffCommonLongestUptoSaid : Prop := diffCommonLongestUptoRow.holds Try.pinned (OpenSpec.upto diffCommonLongestSpec)

/-- 'changeforgelaw1.DiffAffixes', WHERE WHAT IT READS IS OF BULK AT MOST 1048576: true; the input reads as it did. -/
def diffAffixesUptoRow : OpenClaim := { program := "ytpipcgmfjkacgaa", sum := "f65a18832106f9457635c32d15cc972e201b85e8be612e52e228e08f465bdfb2", func := "changeforge/changeforgelaw1.DiffAffixes", spec := "diffAffixes", inPlace := ["internal/bytealg.IndexByteString", "internal/bytealg.IndexString"], named := ["internal/bytealg.MaxLen"], apart := false, narrowed := true }
def DiffAffixesUptoSaid : Prop := diffAffixesUptoRow.holds Try.pinned (OpenSpec.upto diffAffixesSpec)

end Rows
end Go.Proofs.Ytpipcgmfjkacgaa
