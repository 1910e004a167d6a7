/-
  No cell of these rows narrows 'for every input' (looked for: loops, veiled, ifaces, maps, wideKeys, modest, calm, conditions, laid).
  DERIVED. THE GIVEN ROWS OF THIS SEAT. 9 by the template 'for every input the law returns true; each argument reads behind the call as it read before'; 0 by the template 'total and deterministic' (their statements: YtidjdoamnbilaaaTotals.lean).
  GIVEN WITH THE SEED: the statements are not yours to turn. If you find one false, say at which input.
  Laid BY PROGRAM, IN A SANDBOX (cutbox-rows.mjs): the forced cells as the released guide's own fill.sh prints them over the translation bec9218967ac46cd… (all of the seat's roots in one cut). By AI agents, Wed Nov 11 2026. No macro, syntax, notation, axiom, sorry.
-/
import Derived.Test.YtidjdoamnbilaaaChecked
import GoSem.Claim
import GoSem.ClaimJoined
import GoSem.ClaimMapViews
import Derived.JoinedTies
import Derived.KernelRfl
namespace Go.Proofs.Ytidjdoamnbilaaa
/- THE CELL 'sum', in the pinned program and in every row, IS THE sha256 OF THE DUMP (.gsa) THAT YtidjdoamnbilaaaProg.lean LOADS. Nothing in Lean hashes anything: it is a label: what it is worth is what the hold of that sum in a sandbox is worth. -/
noncomputable def Try.pinned : Pinned := { name := "ytidjdoamnbilaaa", sum := "bec9218967ac46cda4cf7661224fab19875cbf5231753eef6f374fe06d31fe10", checked := Try.checked }
namespace Rows
def none {H : Type} : Left H := { results := [], args := [] }

/-- 'changeforgelaw1.TextpatchMatchesSpec': WHATEVER THE INPUT: true; the input reads as it did. -/
def textpatchMatchesSpecSpec : ChangeSpec := { name := "textpatchMatchesSpec", fn := fun _ => fun
  | [d1, d2] => { results := [.lit (.bool true)], args := [d1, d2] }
  | _ => none }
def textpatchMatchesSpecRow : OpenClaim := { program := "ytidjdoamnbilaaa", sum := "bec9218967ac46cda4cf7661224fab19875cbf5231753eef6f374fe06d31fe10", func := "changeforge/changeforgelaw1.TextpatchMatchesSpec", spec := "textpatchMatchesSpec", inPlace := ["internal/bytealg.IndexByteString", "internal/bytealg.IndexString"], unfollowed := true, recurses := true, named := ["internal/bytealg.MaxLen"], apart := false }
def TextpatchMatchesSpecSaid : Prop := textpatchMatchesSpecRow.holds Try.pinned (OpenSpec.ofChange textpatchMatchesSpecSpec)

/-- ITS FALSE NEIGHBOUR: 'it returns false'. Refute it at one input. -/
def textpatchMatchesSpecWrong : ChangeSpec := { name := "textpatchMatchesSpec", fn := fun _ => fun
  | [d1, d2] => { results := [.lit (.bool false)], args := [d1, d2] }
  | _ => none }
def TextpatchMatchesSpecWrongFalsely : Prop := textpatchMatchesSpecRow.holds Try.pinned (OpenSpec.ofChange textpatchMatchesSpecWrong)

/-- 'changeforgelaw1.TextpatchComposeMatchesSpec': WHATEVER THE INPUT: true; the input reads as it did. -/
def textpatchComposeMatchesSpecSpec : ChangeSpec := { name := "textpatchComposeMatchesSpec", fn := fun _ => fun
  | [d1, d2] => { results := [.lit (.bool true)], args := [d1, d2] }
  | _ => none }
def textpatchComposeMatchesSpecRow : OpenClaim := { program := "ytidjdoamnbilaaa", sum := "bec9218967ac46cda4cf7661224fab19875cbf5231753eef6f374fe06d31fe10", func := "changeforge/changeforgelaw1.TextpatchComposeMatchesSpec", spec := "textpatchComposeMatchesSpec", inPlace := ["internal/bytealg.IndexByteString", "internal/bytealg.IndexString"], unfollowed := true, recurses := true, named := ["internal/bytealg.MaxLen"], apart := false }
def TextpatchComposeMatchesSpecSaid : Prop := textpatchComposeMatchesSpecRow.holds Try.pinned (OpenSpec.ofChange textpatchComposeMatchesSpecSpec)

/-- ITS FALSE NEIGHBOUR: 'it returns false'. Refute it at one input. -/
def textpatchComposeMatchesSpecWrong : ChangeSpec := { name := "textpatchComposeMatchesSpec", fn := fun _ => fun
  | [d1, d2] => { results := [.lit (.bool false)], args := [d1, d2] }
  | _ => none }
def TextpatchComposeMatchesSpecWrongFalsely : Prop := textpatchComposeMatchesSpecRow.holds Try.pinned (OpenSpec.ofChange textpatchComposeMatchesSpecWrong)

/-- 'changeforgelaw1.TextpatchUndo': WHATEVER THE INPUT: true; the input reads as it did. -/
def textpatchUndoSpec : ChangeSpec := { name := "textpatchUndo", fn := fun _ => fun
  | [d1, d2] => { results := [.lit (.bool true)], args := [d1, d2] }
  | _ => none }
def textpatchUndoRow : OpenClaim := { program := "ytidjdoamnbilaaa", sum := "bec9218967ac46cda4cf7661224fab19875cbf5231753eef6f374fe06d31fe10", func := "changeforge/changeforgelaw1.TextpatchUndo", spec := "textpatchUndo", inPlace := ["internal/bytealg.IndexByteString", "internal/bytealg.IndexString"], unfollowed := true, recurses := true, named := ["internal/bytealg.MaxLen"], apart := false }
def TextpatchUndoSaid : Prop := textpatchUndoRow.holds Try.pinned (OpenSpec.ofChange textpatchUndoSpec)

/-- ITS FALSE NEIGHBOUR: 'it returns false'. Refute it at one input. -/
def textpatchUndoWrong : ChangeSpec := { name := "textpatchUndo", fn := fun _ => fun
  | [d1, d2] => { results := [.lit (.bool false)], args := [d1, d2] }
  | _ => none }
def TextpatchUndoWrongFalsely : Prop := textpatchUndoRow.holds Try.pinned (OpenSpec.ofChange textpatchUndoWrong)

/-- 'changeforgelaw1.TextpatchInvolution': WHATEVER THE INPUT: true; the input reads as it did. -/
def textpatchInvolutionSpec : ChangeSpec := { name := "textpatchInvolution", fn := fun _ => fun
  | [d] => { results := [.lit (.bool true)], args := [d] }
  | _ => none }
def textpatchInvolutionRow : OpenClaim := { program := "ytidjdoamnbilaaa", sum := "bec9218967ac46cda4cf7661224fab19875cbf5231753eef6f374fe06d31fe10", func := "changeforge/changeforgelaw1.TextpatchInvolution", spec := "textpatchInvolution", inPlace := ["internal/bytealg.IndexByteString", "internal/bytealg.IndexString"], unfollowed := true, recurses := true, named := ["internal/bytealg.MaxLen"], apart := false }
def TextpatchInvolutionSaid : Prop := textpatchInvolutionRow.holds Try.pinned (OpenSpec.ofChange textpatchInvolutionSpec)

/-- ITS FALSE NEIGHBOUR: 'it returns false'. Refute it at one input. -/
def textpatchInvolutionWrong : ChangeSpec := { name := "textpatchInvolution", fn := fun _ => fun
  | [d] => { results := [.lit (.bool false)], args := [d] }
  | _ => none }
def TextpatchInvolutionWrongFalsely : Prop := textpatchInvolutionRow.holds Try.pinned (OpenSpec.ofChange textpatchInvolutionWrong)

/-- 'changeforgelaw1.TextpatchComposition': WHATEVER THE INPUT: true; the input reads as it did. -/
def textpatchCompositionSpec : ChangeSpec := { name := "textpatchComposition", fn := fun _ => fun
  | [d1, d2, d3] => { results := [.lit (.bool true)], args := [d1, d2, d3] }
  | _ => none }
def textpatchCompositionRow : OpenClaim := { program := "ytidjdoamnbilaaa", sum := "bec9218967ac46cda4cf7661224fab19875cbf5231753eef6f374fe06d31fe10", func := "changeforge/changeforgelaw1.TextpatchComposition", spec := "textpatchComposition", inPlace := ["internal/bytealg.IndexByteString", "internal/bytealg.IndexString"], unfollowed := true, recurses := true, named := ["internal/bytealg.MaxLen"], apart := false }
def TextpatchCompositionSaid : Prop := textpatchCompositionRow.holds Try.pinned (OpenSpec.ofChange textpatchCompositionSpec)

/-- ITS FALSE NEIGHBOUR: 'it returns false'. Refute it at one input. -/
def textpatchCompositionWrong : ChangeSpec := { name := "textpatchComposition", fn := fun _ => fun
  | [d1, d2, d3] => { results := [.lit (.bool false)], args := [d1, d2, d3] }
  | _ => none }
def TextpatchCompositionWrongFalsely : Prop := textpatchCompositionRow.holds Try.pinned (OpenSpec.ofChange textpatchCompositionWrong)

/-- 'changeforgelaw1.TextpatchIdentity': WHATEVER THE INPUT: true; the input reads as it did. -/
def textpatchIdentitySpec : ChangeSpec := { name := "textpatchIdentity", fn := fun _ => fun
  | [d1, d2] => { results := [.lit (.bool true)], args := [d1, d2] }
  | _ => none }
def textpatchIdentityRow : OpenClaim := { program := "ytidjdoamnbilaaa", sum := "bec9218967ac46cda4cf7661224fab19875cbf5231753eef6f374fe06d31fe10", func := "changeforge/changeforgelaw1.TextpatchIdentity", spec := "textpatchIdentity", inPlace := ["internal/bytealg.IndexByteString", "internal/bytealg.IndexString"], unfollowed := true, recurses := true, named := ["internal/bytealg.MaxLen"], apart := false }
def TextpatchIdentitySaid : Prop := textpatchIdentityRow.holds Try.pinned (OpenSpec.ofChange textpatchIdentitySpec)

/-- ITS FALSE NEIGHBOUR: 'it returns false'. Refute it at one input. -/
def textpatchIdentityWrong : ChangeSpec := { name := "textpatchIdentity", fn := fun _ => fun
  | [d1, d2] => { results := [.lit (.bool false)], args := [d1, d2] }
  | _ => none }
def TextpatchIdentityWrongFalsely : Prop := textpatchIdentityRow.holds Try.pinned (OpenSpec.ofChange textpatchIdentityWrong)

/-- 'changeforgelaw1.TextpatchScripts': WHATEVER THE INPUT: true; the input reads as it did. -/
def textpatchScriptsSpec : ChangeSpec := { name := "textpatchScripts", fn := fun _ => fun
  | [d1, d2, d3] => { results := [.lit (.bool true)], args := [d1, d2, d3] }
  | _ => none }
def textpatchScriptsRow : OpenClaim := { program := "ytidjdoamnbilaaa", sum := "bec9218967ac46cda4cf7661224fab19875cbf5231753eef6f374fe06d31fe10", func := "changeforge/changeforgelaw1.TextpatchScripts", spec := "textpatchScripts", inPlace := ["internal/bytealg.IndexByteString", "internal/bytealg.IndexString"], unfollowed := true, recurses := true, named := ["internal/bytealg.MaxLen"], apart := false }
def TextpatchScriptsSaid : Prop := textpatchScriptsRow.holds Try.pinned (OpenSpec.ofChange textpatchScriptsSpec)

/-- ITS FALSE NEIGHBOUR: 'it returns false'. Refute it at one input. -/
def textpatchScriptsWrong : ChangeSpec := { name := "textpatchScripts", fn := fun _ => fun
  | [d1, d2, d3] => { results := [.lit (.bool false)], args := [d1, d2, d3] }
  | _ => none }
def TextpatchScriptsWrongFalsely : Prop := textpatchScriptsRow.holds Try.pinned (OpenSpec.ofChange textpatchScriptsWrong)

/-- 'changeforgelaw1.DiffApplies': WHATEVER THE INPUT: true; the input reads as it did. -/
def diffAppliesSpec : ChangeSpec := { name := "diffApplies", fn := fun _ => fun
  | [d1, d2] => { results := [.lit (.bool true)], args := [d1, d2] }
  | _ => none }
def diffAppliesRow : OpenClaim := { program := "ytidjdoamnbilaaa", sum := "bec9218967ac46cda4cf7661224fab19875cbf5231753eef6f374fe06d31fe10", func := "changeforge/changeforgelaw1.DiffApplies", spec := "diffApplies", inPlace := ["internal/bytealg.IndexByteString", "internal/bytealg.IndexString"], unfollowed := true, recurses := true, named := ["internal/bytealg.MaxLen"], apart := false }
def DiffAppliesSaid : Prop := diffAppliesRow.holds Try.pinned (OpenSpec.ofChange diffAppliesSpec)

/-- ITS FALSE NEIGHBOUR: 'it returns false'. Refute it at one input. -/
def diffAppliesWrong : ChangeSpec := { name := "diffApplies", fn := fun _ => fun
  | [d1, d2] => { results := [.lit (.bool false)], args := [d1, d2] }
  | _ => none }
def DiffAppliesWrongFalsely : Prop := diffAppliesRow.holds Try.pinned (OpenSpec.ofChange diffAppliesWrong)

/-- 'changeforgelaw1.DiffLeast': WHATEVER THE INPUT: true; the input reads as it did. -/
def diffLeastSpec : ChangeSpec := { name := "diffLeast", fn := fun _ => fun
  | [d1, d2] => { results := [.lit (.bool true)], args := [d1, d2] }
  | _ => none }
def diffLeastRow : OpenClaim := { program := "ytidjdoamnbilaaa", sum := "bec9218967ac46cda4cf7661224fab19875cbf5231753eef6f374fe06d31fe10", func := "changeforge/changeforgelaw1.DiffLeast", spec := "diffLeast", inPlace := ["internal/bytealg.IndexByteString", "internal/bytealg.IndexString"], unfollowed := true, recurses := true, named := ["internal/bytealg.MaxLen"], apart := false }
def DiffLeastSaid : Prop := diffLeastRow.holds Try.pinned (OpenSpec.ofChange diffLeastSpec)

/-- ITS FALSE NEIGHBOUR: 'it returns false'. Refute it at one input. -/
def diffLeastWrong : ChangeSpec := { name := "diffLeast", fn := fun _ => fun
  | [d1, d2] => { results := [.lit (.bool false)], args := [d1, d2] }
  | _ => none }
def DiffLeastWrongFalsely : Prop := diffLeastRow.holds Try.pinned (OpenSpec.ofChange diffLeastWrong)

/- THE SECOND FORM. 'bulk': how many values and letters a reading holds, each counted each time it is reached (what is shared counts as often as it is met; a slice's spare places count too). A statement '..UptoSaid' is the law's where the arguments, and the package variables that the reading takes, are together of bulk at most 1048576: NARROWER than '..Said'. Prove '..Said' where nothing that the law and all that it calls make is longer than what came in: it says more and counts as full. Else prove '..UptoSaid'. A law counts once. -/
mutual
def uptoBulk {H : Type} : DataW H → Nat
  | .lit (.string bytes) => bytes.length + 1
  | .lit _ => 1
  | .nil => 1
  | .ptr d => uptoBulk d + 1
  | .slice elems spare => uptoBulkAll elems + uptoBulkAll spare + 1
  | .agg parts => uptoBulkAll parts + 1
  | .iface _ d => uptoBulk d + 1
  | .map entries => uptoBulkEntries entries + 1
  | .held _ => 1
def uptoBulkAll {H : Type} : List (DataW H) → Nat
  | [] => 0
  | d :: r => uptoBulk d + uptoBulkAll r
def uptoBulkEntries {H : Type} : List (Lit × DataW H) → Nat
  | [] => 0
  | x :: r => uptoBulkEntry x + uptoBulkEntries r
def uptoBulkEntry {H : Type} : Lit × DataW H → Nat
  | (.string bytes, d) => bytes.length + uptoBulk d + 1
  | (_, d) => uptoBulk d + 1
 end
def uptoSmall : (H : Type) → List (DataW H) → Bool := fun _ ds => decide (uptoBulkAll ds ≤ 1048576)
def OpenSpec.upto (s : _root_.Go.ChangeSpec) : _root_.Go.OpenSpec := { _root_.Go.OpenSpec.ofChange s with cond := some uptoSmall }

/-- 'changeforgelaw1.TextpatchMatchesSpec', WHERE WHAT IT READS IS OF BULK AT MOST 1048576: true; the input reads as it did. -/
def textpatchMatchesSpecUptoRow : OpenClaim := { program := "ytidjdoamnbilaaa", sum := "bec9218967ac46cda4cf7661224fab19875cbf5231753eef6f374fe06d31fe10", func := "changeforge/changeforgelaw1.TextpatchMatchesSpec", spec := "textpatchMatchesSpec", inPlace := ["internal/bytealg.IndexByteString", "internal/bytealg.IndexString"], unfollowed := true, recurses := true, named := ["internal/bytealg.MaxLen"], apart := false, narrowed := true }
def TextpatchMatchesSpecUptoSaid : Prop := textpatchMatchesSpecUptoRow.holds Try.pinned (OpenSpec.upto textpatchMatchesSpecSpec)

/-- 'changeforgelaw1.TextpatchComposeMatchesSpec', WHERE WHAT IT READS IS OF BULK AT MOST 1048576: true; the input reads as it did. -/
def textpatchComposeMatchesSpecUptoRow : OpenClaim := { program := "ytidjdoamnbilaaa", sum := "bec9218967ac46cda4cf7661224fab19875cbf5231753eef6f374fe06d31fe10", func := "changeforge/changeforgelaw1.TextpatchComposeMatchesSpec", spec := "textpatchComposeMatchesSpec", inPlace := ["internal/bytealg.IndexByteString", "internal/bytealg.IndexString"], unfollowed := true, recurses := true, named := ["internal/bytealg.MaxLen"], apart := false, narrowed := true }
def TextpatchComposeMatchesSpecUptoSaid : Prop := textpatchComposeMatchesSpecUptoRow.holds Try.pinned (OpenSpec.upto textpatchComposeMatchesSpecSpec)

/-- 'changeforgelaw1.TextpatchUndo', WHERE WHAT IT READS IS OF BULK AT MOST 1048576: true; the input reads as it did. -/
def textpatchUndoUptoRow : OpenClaim := { program := "ytidjdoamnbilaaa", sum := "bec9218967ac46cda4cf7661224fab19875cbf5231753eef6f374fe06d31fe10", func := "changeforge/changeforgelaw1.TextpatchUndo", spec := "textpatchUndo", inPlace := ["internal/bytealg.IndexByteString", "internal/bytealg.IndexString"], unfollowed := true, recurses := true, named := ["internal/bytealg.MaxLen"], apart := false, narrowed := true }
def TextpatchUndoUptoSaid : Prop := textpatchUndoUptoRow.holds Try.pinned (OpenSpec.upto textpatchUndoSpec)

/-- 'changeforgelaw1.TextpatchInvolution', WHERE WHAT IT READS IS OF BULK AT MOST 1048576: true; the input reads as it did. -/
def textpatchInvolutionUptoRow : OpenClaim := { program := "ytidjdoamnbilaaa", sum := "bec9218967ac46cda4cf7661224fab19875cbf5231753eef6f374fe06d31fe10", func := "changeforge/changeforgelaw1.TextpatchInvolution", spec := "textpatchInvolution", inPlace := ["internal/bytealg.IndexByteString", "internal/bytealg.IndexString"], unfollowed := true, recurses := true, named := ["internal/bytealg.MaxLen"], apart := false, narrowed := true }
def TextpatchInvolutionUptoSaid : Prop := textpatchInvolutionUptoRow.holds Try.pinned (OpenSpec.upto textpatchInvolutionSpec)

/-- 'changeforgelaw1.TextpatchComposition', WHERE WHAT IT READS IS OF BULK AT MOST 1048576: true; the input reads as it did. -/
def textpatchCompositionUptoRow : OpenClaim := { program := "ytidjdoamnbilaaa", sum := "bec9218967ac46cda4cf7661224fab19875cbf5231753eef6f374fe06d31fe10", func := "changeforge/changeforgelaw1.TextpatchComposition", spec := "textpatchComposition", inPlace := ["internal/bytealg.IndexByteString", "internal/bytealg.IndexString"], unfollowed := true, recurses := true, named := ["internal/bytealg.MaxLen"], apart := false, narrowed := true }
def TextpatchCompositionUptoSaid : Prop := textpatchCompositionUptoRow.holds Try.pinned (OpenSpec.upto textpatchCompositionSpec)

/-- 'changeforgelaw1.TextpatchIdentity', WHERE WHAT IT READS IS OF BULK AT MOST 1048576: true; the input reads as it did. -/
def textpatchIdentityUptoRow : OpenClaim := { program := "ytidjdoamnbilaaa", sum := "bec9218967ac46cda4cf7661224fab19875cbf5231753eef6f374fe06d31fe10", func := "changeforge/changeforgelaw1.TextpatchIdentity", spec := "textpatchIdentity", inPlace := ["internal/bytealg.IndexByteString", "internal/bytealg.IndexString"], unfollowed := true, recurses := true, named := ["internal/bytealg.MaxLen"], apart := false, narrowed := true }
def TextpatchIdentityUptoSaid : Prop := textpatchIdentityUptoRow.holds Try.pinned (OpenSpec.upto textpatchIdentitySpec)

/-- 'changeforgelaw1.TextpatchScripts', WHERE WHAT IT READS IS OF BULK AT MOST 1048576: true; the input reads as it did. -/
def textpatchScriptsUptoRow : OpenClaim := { program := "ytidjdoamnbilaaa", sum := "bec9218967ac46cda4cf7661224fab19875cbf5231753eef6f374fe06d31fe10", func := "changeforge/changeforgelaw1.TextpatchScripts", spec := "textpatchScripts", inPlace := ["internal/bytealg.IndexByteString", "internal/bytealg.IndexString"], unfollowed := true, recurses := true, named := ["internal/bytealg.MaxLen"], apart := false, narrowed := true }
def TextpatchScriptsUptoSaid : Prop := textpatchScriptsUptoRow.holds Try.pinned (OpenSpec.upto textpatchScriptsSpec)

/-- 'changeforgelaw1.DiffApplies', WHERE WHAT IT READS IS OF BULK AT MOST 1048576: true; the input reads as it did. -/
def diffAppliesUptoRow : OpenClaim := { program := "ytidjdoamnbilaaa", sum := "bec9218967ac46cda4cf7661224fab19875cbf5231753eef6f374fe06d31fe10", func := "changeforge/changeforgelaw1.DiffApplies", spec := "diffApplies", inPlace := ["internal/bytealg.IndexByteString", "internal/bytealg.IndexString"], unfollowed := true, recurses := true, named := ["internal/bytealg.MaxLen"], apart := false, narrowed := true }
def DiffAppliesUptoSaid : Prop := diffAppliesUptoRow.holds Try.pinned (OpenSpec.upto diffAppliesSpec)

/-- 'changeforgelaw1.DiffLeast', WHERE WHAT IT READS IS OF BULK AT MOST 1048576: true; the input reads as it did. -/
def diffLeastUptoRow : OpenClaim := { program := "ytidjdoamnbilaaa", sum := "bec9218967ac46cda4cf7661224fab19875cbf5231753eef6f374fe06d31fe10", func := "changeforge/changeforgelaw1.DiffLeast", spec := "diffLeast", inPlace := ["internal/bytealg.IndexByteString", "internal/bytealg.IndexString"], unfollowed := true, recurses := true, named := ["internal/bytealg.MaxLen"], apart := false, narrowed := true }
def DiffLeastUptoSaid : Prop := diffLeastUptoRow.holds Try.pinned (OpenSpec.upto diffLeastSpec)

end Rows
end Go.Proofs.Ytidjdoamnbilaaa
