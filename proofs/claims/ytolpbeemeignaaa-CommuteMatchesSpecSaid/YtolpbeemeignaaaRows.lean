/-
  No cell of these rows narrows 'for every input' (looked for: loops, veiled, ifaces, maps, wideKeys, modest, calm, conditions, laid).
  DERIVED. THE GIVEN ROWS OF THIS SEAT. 10 by the template 'for every input the law returns true; each argument reads behind the call as it read before'; 0 by the template 'total and deterministic' (their statements: YtolpbeemeignaaaTotals.lean).
  GIVEN WITH THE SEED: the statements are not yours to turn. If you find one false, say at which input.
  Laid BY PROGRAM, IN A SANDBOX (cutbox-rows.mjs): the forced cells as the released guide's own fill.sh prints them over the translation d58f902feb71fbce… (all of the seat's roots in one cut). By AI agents, Wed Nov 11 2026. No macro, syntax, notation, axiom, sorry.
-/
import Derived.Test.YtolpbeemeignaaaChecked
import GoSem.Claim
import GoSem.ClaimJoined
import GoSem.ClaimMapViews
import Derived.JoinedTies
import Derived.KernelRfl
namespace Go.Proofs.Ytolpbeemeignaaa
/- THE CELL 'sum', in the pinned program and in every row, IS THE sha256 OF THE DUMP (.gsa) THAT YtolpbeemeignaaaProg.lean LOADS. Nothing in Lean hashes anything: it is a label: what it is worth is what the hold of that sum in a sandbox is worth. -/
noncomputable def Try.pinned : Pinned := { name := "ytolpbeemeignaaa", sum := "d58f902feb71fbceb40c559532226895473be0cacb6f568b8f0f3f238205741e", checked := Try.checked }
namespace Rows
def none {H : Type} : Left H := { results := [], args := [] }

/-- 'changeforgelaw1.CommuteMatchesSpec': WHATEVER THE INPUT: true; the input reads as it did. -/
def commuteMatchesSpecSpec : ChangeSpec := { name := "commuteMatchesSpec", fn := fun _ => fun
  | [d1, d2] => { results := [.lit (.bool true)], args := [d1, d2] }
  | _ => none }
def commuteMatchesSpecRow : OpenClaim := { program := "ytolpbeemeignaaa", sum := "d58f902feb71fbceb40c559532226895473be0cacb6f568b8f0f3f238205741e", func := "changeforge/changeforgelaw1.CommuteMatchesSpec", spec := "commuteMatchesSpec", inPlace := ["internal/bytealg.IndexByteString", "internal/bytealg.IndexString"], unfollowed := true, recurses := true, named := ["internal/bytealg.MaxLen"], apart := false }
def CommuteMatchesSpecSaid : Prop := commuteMatchesSpecRow.holds Try.pinned (OpenSpec.ofChange commuteMatchesSpecSpec)

/-- ITS FALSE NEIGHBOUR: 'it returns false'. Refute it at one input. -/
def commuteMatchesSpecWrong : ChangeSpec := { name := "commuteMatchesSpec", fn := fun _ => fun
  | [d1, d2] => { results := [.lit (.bool false)], args := [d1, d2] }
  | _ => none }
def CommuteMatchesSpecWrongFalsely : Prop := commuteMatchesSpecRow.holds Try.pinned (OpenSpec.ofChange commuteMatchesSpecWrong)

/-- 'changeforgelaw1.CommuteSameEffect': WHATEVER THE INPUT: true; the input reads as it did. -/
def commuteSameEffectSpec : ChangeSpec := { name := "commuteSameEffect", fn := fun _ => fun
  | [d1, d2, d3] => { results := [.lit (.bool true)], args := [d1, d2, d3] }
  | _ => none }
def commuteSameEffectRow : OpenClaim := { program := "ytolpbeemeignaaa", sum := "d58f902feb71fbceb40c559532226895473be0cacb6f568b8f0f3f238205741e", func := "changeforge/changeforgelaw1.CommuteSameEffect", spec := "commuteSameEffect", inPlace := ["internal/bytealg.IndexByteString", "internal/bytealg.IndexString"], unfollowed := true, recurses := true, named := ["internal/bytealg.MaxLen"], apart := false }
def CommuteSameEffectSaid : Prop := commuteSameEffectRow.holds Try.pinned (OpenSpec.ofChange commuteSameEffectSpec)

/-- ITS FALSE NEIGHBOUR: 'it returns false'. Refute it at one input. -/
def commuteSameEffectWrong : ChangeSpec := { name := "commuteSameEffect", fn := fun _ => fun
  | [d1, d2, d3] => { results := [.lit (.bool false)], args := [d1, d2, d3] }
  | _ => none }
def CommuteSameEffectWrongFalsely : Prop := commuteSameEffectRow.holds Try.pinned (OpenSpec.ofChange commuteSameEffectWrong)

/-- 'changeforgelaw1.CommuteTwice': WHATEVER THE INPUT: true; the input reads as it did. -/
def commuteTwiceSpec : ChangeSpec := { name := "commuteTwice", fn := fun _ => fun
  | [d1, d2] => { results := [.lit (.bool true)], args := [d1, d2] }
  | _ => none }
def commuteTwiceRow : OpenClaim := { program := "ytolpbeemeignaaa", sum := "d58f902feb71fbceb40c559532226895473be0cacb6f568b8f0f3f238205741e", func := "changeforge/changeforgelaw1.CommuteTwice", spec := "commuteTwice", inPlace := ["internal/bytealg.IndexByteString", "internal/bytealg.IndexString"], unfollowed := true, recurses := true, named := ["internal/bytealg.MaxLen"], apart := false }
def CommuteTwiceSaid : Prop := commuteTwiceRow.holds Try.pinned (OpenSpec.ofChange commuteTwiceSpec)

/-- ITS FALSE NEIGHBOUR: 'it returns false'. Refute it at one input. -/
def commuteTwiceWrong : ChangeSpec := { name := "commuteTwice", fn := fun _ => fun
  | [d1, d2] => { results := [.lit (.bool false)], args := [d1, d2] }
  | _ => none }
def CommuteTwiceWrongFalsely : Prop := commuteTwiceRow.holds Try.pinned (OpenSpec.ofChange commuteTwiceWrong)

/-- 'changeforgelaw1.CommuteInverse': WHATEVER THE INPUT: true; the input reads as it did. -/
def commuteInverseSpec : ChangeSpec := { name := "commuteInverse", fn := fun _ => fun
  | [d1, d2] => { results := [.lit (.bool true)], args := [d1, d2] }
  | _ => none }
def commuteInverseRow : OpenClaim := { program := "ytolpbeemeignaaa", sum := "d58f902feb71fbceb40c559532226895473be0cacb6f568b8f0f3f238205741e", func := "changeforge/changeforgelaw1.CommuteInverse", spec := "commuteInverse", inPlace := ["internal/bytealg.IndexByteString", "internal/bytealg.IndexString"], unfollowed := true, recurses := true, named := ["internal/bytealg.MaxLen"], apart := false }
def CommuteInverseSaid : Prop := commuteInverseRow.holds Try.pinned (OpenSpec.ofChange commuteInverseSpec)

/-- ITS FALSE NEIGHBOUR: 'it returns false'. Refute it at one input. -/
def commuteInverseWrong : ChangeSpec := { name := "commuteInverse", fn := fun _ => fun
  | [d1, d2] => { results := [.lit (.bool false)], args := [d1, d2] }
  | _ => none }
def CommuteInverseWrongFalsely : Prop := commuteInverseRow.holds Try.pinned (OpenSpec.ofChange commuteInverseWrong)

/-- 'changeforgelaw1.CommuteRebases': WHATEVER THE INPUT: true; the input reads as it did. -/
def commuteRebasesSpec : ChangeSpec := { name := "commuteRebases", fn := fun _ => fun
  | [d1, d2, d3] => { results := [.lit (.bool true)], args := [d1, d2, d3] }
  | _ => none }
def commuteRebasesRow : OpenClaim := { program := "ytolpbeemeignaaa", sum := "d58f902feb71fbceb40c559532226895473be0cacb6f568b8f0f3f238205741e", func := "changeforge/changeforgelaw1.CommuteRebases", spec := "commuteRebases", inPlace := ["internal/bytealg.IndexByteString", "internal/bytealg.IndexString"], unfollowed := true, recurses := true, named := ["internal/bytealg.MaxLen"], apart := false }
def CommuteRebasesSaid : Prop := commuteRebasesRow.holds Try.pinned (OpenSpec.ofChange commuteRebasesSpec)

/-- ITS FALSE NEIGHBOUR: 'it returns false'. Refute it at one input. -/
def commuteRebasesWrong : ChangeSpec := { name := "commuteRebases", fn := fun _ => fun
  | [d1, d2, d3] => { results := [.lit (.bool false)], args := [d1, d2, d3] }
  | _ => none }
def CommuteRebasesWrongFalsely : Prop := commuteRebasesRow.holds Try.pinned (OpenSpec.ofChange commuteRebasesWrong)

/-- 'changeforgelaw1.CommuteComposes': WHATEVER THE INPUT: true; the input reads as it did. -/
def commuteComposesSpec : ChangeSpec := { name := "commuteComposes", fn := fun _ => fun
  | [d1, d2] => { results := [.lit (.bool true)], args := [d1, d2] }
  | _ => none }
def commuteComposesRow : OpenClaim := { program := "ytolpbeemeignaaa", sum := "d58f902feb71fbceb40c559532226895473be0cacb6f568b8f0f3f238205741e", func := "changeforge/changeforgelaw1.CommuteComposes", spec := "commuteComposes", inPlace := ["internal/bytealg.IndexByteString", "internal/bytealg.IndexString"], unfollowed := true, recurses := true, named := ["internal/bytealg.MaxLen"], apart := false }
def CommuteComposesSaid : Prop := commuteComposesRow.holds Try.pinned (OpenSpec.ofChange commuteComposesSpec)

/-- ITS FALSE NEIGHBOUR: 'it returns false'. Refute it at one input. -/
def commuteComposesWrong : ChangeSpec := { name := "commuteComposes", fn := fun _ => fun
  | [d1, d2] => { results := [.lit (.bool false)], args := [d1, d2] }
  | _ => none }
def CommuteComposesWrongFalsely : Prop := commuteComposesRow.holds Try.pinned (OpenSpec.ofChange commuteComposesWrong)

/-- 'changeforgelaw1.TextpatchComposeMatchesSpec': WHATEVER THE INPUT: true; the input reads as it did. -/
def textpatchComposeMatchesSpecSpec : ChangeSpec := { name := "textpatchComposeMatchesSpec", fn := fun _ => fun
  | [d1, d2] => { results := [.lit (.bool true)], args := [d1, d2] }
  | _ => none }
def textpatchComposeMatchesSpecRow : OpenClaim := { program := "ytolpbeemeignaaa", sum := "d58f902feb71fbceb40c559532226895473be0cacb6f568b8f0f3f238205741e", func := "changeforge/changeforgelaw1.TextpatchComposeMatchesSpec", spec := "textpatchComposeMatchesSpec", inPlace := ["internal/bytealg.IndexByteString", "internal/bytealg.IndexString"], unfollowed := true, recurses := true, named := ["internal/bytealg.MaxLen"], apart := false }
def TextpatchComposeMatchesSpecSaid : Prop := textpatchComposeMatchesSpecRow.holds Try.pinned (OpenSpec.ofChange textpatchComposeMatchesSpecSpec)

/-- ITS FALSE NEIGHBOUR: 'it returns false'. Refute it at one input. -/
def textpatchComposeMatchesSpecWrong : ChangeSpec := { name := "textpatchComposeMatchesSpec", fn := fun _ => fun
  | [d1, d2] => { results := [.lit (.bool false)], args := [d1, d2] }
  | _ => none }
def TextpatchComposeMatchesSpecWrongFalsely : Prop := textpatchComposeMatchesSpecRow.holds Try.pinned (OpenSpec.ofChange textpatchComposeMatchesSpecWrong)

/-- 'changeforgelaw1.TextpatchComposition': WHATEVER THE INPUT: true; the input reads as it did. -/
def textpatchCompositionSpec : ChangeSpec := { name := "textpatchComposition", fn := fun _ => fun
  | [d1, d2, d3] => { results := [.lit (.bool true)], args := [d1, d2, d3] }
  | _ => none }
def textpatchCompositionRow : OpenClaim := { program := "ytolpbeemeignaaa", sum := "d58f902feb71fbceb40c559532226895473be0cacb6f568b8f0f3f238205741e", func := "changeforge/changeforgelaw1.TextpatchComposition", spec := "textpatchComposition", inPlace := ["internal/bytealg.IndexByteString", "internal/bytealg.IndexString"], unfollowed := true, recurses := true, named := ["internal/bytealg.MaxLen"], apart := false }
def TextpatchCompositionSaid : Prop := textpatchCompositionRow.holds Try.pinned (OpenSpec.ofChange textpatchCompositionSpec)

/-- ITS FALSE NEIGHBOUR: 'it returns false'. Refute it at one input. -/
def textpatchCompositionWrong : ChangeSpec := { name := "textpatchComposition", fn := fun _ => fun
  | [d1, d2, d3] => { results := [.lit (.bool false)], args := [d1, d2, d3] }
  | _ => none }
def TextpatchCompositionWrongFalsely : Prop := textpatchCompositionRow.holds Try.pinned (OpenSpec.ofChange textpatchCompositionWrong)

/-- 'changeforgelaw1.TextpatchIdentity': WHATEVER THE INPUT: true; the input reads as it did. -/
def textpatchIdentitySpec : ChangeSpec := { name := "textpatchIdentity", fn := fun _ => fun
  | [d1, d2] => { results := [.lit (.bool true)], args := [d1, d2] }
  | _ => none }
def textpatchIdentityRow : OpenClaim := { program := "ytolpbeemeignaaa", sum := "d58f902feb71fbceb40c559532226895473be0cacb6f568b8f0f3f238205741e", func := "changeforge/changeforgelaw1.TextpatchIdentity", spec := "textpatchIdentity", inPlace := ["internal/bytealg.IndexByteString", "internal/bytealg.IndexString"], unfollowed := true, recurses := true, named := ["internal/bytealg.MaxLen"], apart := false }
def TextpatchIdentitySaid : Prop := textpatchIdentityRow.holds Try.pinned (OpenSpec.ofChange textpatchIdentitySpec)

/-- ITS FALSE NEIGHBOUR: 'it returns false'. Refute it at one input. -/
def textpatchIdentityWrong : ChangeSpec := { name := "textpatchIdentity", fn := fun _ => fun
  | [d1, d2] => { results := [.lit (.bool false)], args := [d1, d2] }
  | _ => none }
def TextpatchIdentityWrongFalsely : Prop := textpatchIdentityRow.holds Try.pinned (OpenSpec.ofChange textpatchIdentityWrong)

/-- 'changeforgelaw1.TextpatchScripts': WHATEVER THE INPUT: true; the input reads as it did. -/
def textpatchScriptsSpec : ChangeSpec := { name := "textpatchScripts", fn := fun _ => fun
  | [d1, d2, d3] => { results := [.lit (.bool true)], args := [d1, d2, d3] }
  | _ => none }
def textpatchScriptsRow : OpenClaim := { program := "ytolpbeemeignaaa", sum := "d58f902feb71fbceb40c559532226895473be0cacb6f568b8f0f3f238205741e", func := "changeforge/changeforgelaw1.TextpatchScripts", spec := "textpatchScripts", inPlace := ["internal/bytealg.IndexByteString", "internal/bytealg.IndexString"], unfollowed := true, recurses := true, named := ["internal/bytealg.MaxLen"], apart := false }
def TextpatchScriptsSaid : Prop := textpatchScriptsRow.holds Try.pinned (OpenSpec.ofChange textpatchScriptsSpec)

/-- ITS FALSE NEIGHBOUR: 'it returns false'. Refute it at one input. -/
def textpatchScriptsWrong : ChangeSpec := { name := "textpatchScripts", fn := fun _ => fun
  | [d1, d2, d3] => { results := [.lit (.bool false)], args := [d1, d2, d3] }
  | _ => none }
def TextpatchScriptsWrongFalsely : Prop := textpatchScriptsRow.holds Try.pinned (OpenSpec.ofChange textpatchScriptsWrong)

/- THE SECOND FORM. 'bulk': how many values and letters a reading holds, each counted each time it is reached (what is shared counts as often as it is met; a slice's spare places count too). A statement '..UptoSaid' is the law's where the arguments, and the package variables that the reading takes, are together of bulk at most 1048576: NARROWER than '..Said'. Prove '..Said' where nothing that the law and all that it calls make is longer than what came in: it says more and counts as full. Else prove '..UptoSaid'. A law counts once. -/
mutual
def uptoBulk {H : Type} : DataW H → Nat
  | .lit (.string bytes) => bytes.length + 1
  | .lit _ => 1
  | .nil => 1
  | .ptr d => uptoBulk d + 1
  | .slice elems spare => uptoBulkAll elems + uptoBulkAll spare + 1
  | .agg parts => uptoBulkAll parts + 1
  | .iface _ d => uptoBulk d + 1
  | .map entries => uptoBulkEntries entries + 1
  | .held _ => 1
def uptoBulkAll {H : Type} : List (DataW H) → Nat
  | [] => 0
  | d :: r => uptoBulk d + uptoBulkAll r
def uptoBulkEntries {H : Type} : List (Lit × DataW H) → Nat
  | [] => 0
  | x :: r => uptoBulkEntry x + uptoBulkEntries r
def uptoBulkEntry {H : Type} : Lit × DataW H → Nat
  | (.string bytes, d) => bytes.length + uptoBulk d + 1
  | (_, d) => uptoBulk d + 1
 end
def uptoSmall : (H : Type) → List (DataW H) → Bool := fun _ ds => decide (uptoBulkAll ds ≤ 1048576)
def OpenSpec.upto (s : _root_.Go.ChangeSpec) : _root_.Go.OpenSpec := { _root_.Go.OpenSpec.ofChange s with cond := some uptoSmall }

/-- 'changeforgelaw1.CommuteMatchesSpec', WHERE WHAT IT READS IS OF BULK AT MOST 1048576: true; the input reads as it did. -/
def commuteMatchesSpecUptoRow : OpenClaim := { program := "ytolpbeemeignaaa", sum := "d58f902feb71fbceb40c559532226895473be0cacb6f568b8f0f3f238205741e", func := "changeforge/changeforgelaw1.CommuteMatchesSpec", spec := "commuteMatchesSpec", inPlace := ["internal/bytealg.IndexByteString", "internal/bytealg.IndexString"], unfollowed := true, recurses := true, named := ["internal/bytealg.MaxLen"], apart := false, narrowed := true }
def CommuteMatchesSpecUptoSaid : Prop := commuteMatchesSpecUptoRow.holds Try.pinned (OpenSpec.upto commuteMatchesSpecSpec)

/-- 'changeforgelaw1.CommuteSameEffect', WHERE WHAT IT READS IS OF BULK AT MOST 1048576: true; the input reads as it did. -/
def commuteSameEffectUptoRow : OpenClaim := { program := "ytolpbeemeignaaa", sum := "d58f902feb71fbceb40c559532226895473be0cacb6f568b8f0f3f238205741e", func := "changeforge/changeforgelaw1.CommuteSameEffect", spec := "commuteSameEffect", inPlace := ["internal/bytealg.IndexByteString", "internal/bytealg.IndexString"], unfollowed := true, recurses := true, named := ["internal/bytealg.MaxLen"], apart := false, narrowed := true }
def CommuteSameEffectUptoSaid : Prop := commuteSameEffectUptoRow.holds Try.pinned (OpenSpec.upto commuteSameEffectSpec)

/-- 'changeforgelaw1.CommuteTwice', WHERE WHAT IT READS IS OF BULK AT MOST 1048576: true; the input reads as it did. -/
def commuteTwiceUptoRow : OpenClaim := { program := "ytolpbeemeignaaa", sum := "d58f902feb71fbceb40c559532226895473be0cacb6f568b8f0f3f238205741e", func := "changeforge/changeforgelaw1.CommuteTwice", spec := "commuteTwice", inPlace := ["internal/bytealg.IndexByteString", "internal/bytealg.IndexString"], unfollowed := true, recurses := true, named := ["internal/bytealg.MaxLen"], apart := false, narrowed := true }
def CommuteTwiceUptoSaid : Prop := commuteTwiceUptoRow.holds Try.pinned (OpenSpec.upto commuteTwiceSpec)

/-- 'changeforgelaw1.CommuteInverse', WHERE WHAT IT READS IS OF BULK AT MOST 1048576: true; the input reads as it did. -/
def commuteInverseUptoRow : OpenClaim := { program := "ytolpbeemeignaaa", sum := "d58f902feb71fbceb40c559532226895473be0cacb6f568b8f0f3f238205741e", func := "changeforge/changeforgelaw1.CommuteInverse", spec := "commuteInverse", inPlace := ["internal/bytealg.IndexByteString", "internal/bytealg.IndexString"], unfollowed := true, recurses := true, named := ["internal/bytealg.MaxLen"], apart := false, narrowed := true }
def CommuteInverseUptoSaid : Prop := commuteInverseUptoRow.holds Try.pinned (OpenSpec.upto commuteInverseSpec)

/-- 'changeforgelaw1.CommuteRebases', WHERE WHAT IT READS IS OF BULK AT MOST 1048576: true; the input reads as it did. -/
def commuteRebasesUptoRow : OpenClaim := { program := "ytolpbeemeignaaa", sum := "d58f902feb71fbceb40c559532226895473be0cacb6f568b8f0f3f238205741e", func := "changeforge/changeforgelaw1.CommuteRebases", spec := "commuteRebases", inPlace := ["internal/bytealg.IndexByteString", "internal/bytealg.IndexString"], unfollowed := true, recurses := true, named := ["internal/bytealg.MaxLen"], apart := false, narrowed := true }
def CommuteRebasesUptoSaid : Prop := commuteRebasesUptoRow.holds Try.pinned (OpenSpec.upto commuteRebasesSpec)

/-- 'changeforgelaw1.CommuteComposes', WHERE WHAT IT READS IS OF BULK AT MOST 1048576: true; the input reads as it did. -/
def commuteComposesUptoRow : OpenClaim := { program := "ytolpbeemeignaaa", sum := "d58f902feb71fbceb40c559532226895473be0cacb6f568b8f0f3f238205741e", func := "changeforge/changeforgelaw1.CommuteComposes", spec := "commuteComposes", inPlace := ["internal/bytealg.IndexByteString", "internal/bytealg.IndexString"], unfollowed := true, recurses := true, named := ["internal/bytealg.MaxLen"], apart := false, narrowed := true }
def CommuteComposesUptoSaid : Prop := commuteComposesUptoRow.holds Try.pinned (OpenSpec.upto commuteComposesSpec)

/-- 'changeforgelaw1.TextpatchComposeMatchesSpec', WHERE WHAT IT READS IS OF BULK AT MOST 1048576: true; the input reads as it did. -/
def textpatchComposeMatchesSpecUptoRow : OpenClaim := { program := "ytolpbeemeignaaa", sum := "d58f902feb71fbceb40c559532226895473be0cacb6f568b8f0f3f238205741e", func := "changeforge/changeforgelaw1.TextpatchComposeMatchesSpec", spec := "textpatchComposeMatchesSpec", inPlace := ["internal/bytealg.IndexByteString", "internal/bytealg.IndexString"], unfollowed := true, recurses := true, named := ["internal/bytealg.MaxLen"], apart := false, narrowed := true }
def TextpatchComposeMatchesSpecUptoSaid : Prop := textpatchComposeMatchesSpecUptoRow.holds Try.pinned (OpenSpec.upto textpatchComposeMatchesSpecSpec)

/-- 'changeforgelaw1.TextpatchComposition', WHERE WHAT IT READS IS OF BULK AT MOST 1048576: true; the input reads as it did. -/
def textpatchCompositionUptoRow : OpenClaim := { program := "ytolpbeemeignaaa", sum := "d58f902feb71fbceb40c559532226895473be0cacb6f568b8f0f3f238205741e", func := "changeforge/changeforgelaw1.TextpatchComposition", spec := "textpatchComposition", inPlace := ["internal/bytealg.IndexByteString", "internal/bytealg.IndexString"], unfollowed := true, recurses := true, named := ["internal/bytealg.MaxLen"], apart := false, narrowed := true }
def TextpatchCompositionUptoSaid : Prop := textpatchCompositionUptoRow.holds Try.pinned (OpenSpec.upto textpatchCompositionSpec)

/-- 'changeforgelaw1.TextpatchIdentity', WHERE WHAT IT READS IS OF BULK AT MOST 1048576: true; the input reads as it did. -/
def textpatchIdentityUptoRow : OpenClaim := { program := "ytolpbeemeignaaa", sum := "d58f902feb71fbceb40c559532226895473be0cacb6f568b8f0f3f238205741e", func := "changeforge/changeforgelaw1.TextpatchIdentity", spec := "textpatchIdentity", inPlace := ["internal/bytealg.IndexByteString", "internal/bytealg.IndexString"], unfollowed := true, recurses := true, named := ["internal/bytealg.MaxLen"], apart := false, narrowed := true }
def TextpatchIdentityUptoSaid : Prop := textpatchIdentityUptoRow.holds Try.pinned (OpenSpec.upto textpatchIdentitySpec)

/-- 'changeforgelaw1.TextpatchScripts', WHERE WHAT IT READS IS OF BULK AT MOST 1048576: true; the input reads as it did. -/
def textpatchScriptsUptoRow : OpenClaim := { program := "ytolpbeemeignaaa", sum := "d58f902feb71fbceb40c559532226895473be0cacb6f568b8f0f3f238205741e", func := "changeforge/changeforgelaw1.TextpatchScripts", spec := "textpatchScripts", inPlace := ["internal/bytealg.IndexByteString", "internal/bytealg.IndexString"], unfollowed := true, recurses := true, named := ["internal/bytealg.MaxLen"], apart := false, narrowed := true }
def TextpatchScriptsUptoSaid : Prop := textpatchScriptsUptoRow.holds Try.pinned (OpenSpec.upto textpatchScriptsSpec)

end Rows
end Go.Proofs.Ytolpbeemeignaaa
