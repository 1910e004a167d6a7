/-
  No cell of these rows narrows 'for every input' (looked for: loops, veiled, ifaces, maps, wideKeys, modest, calm, conditions, laid).
  DERIVED. THE GIVEN ROWS OF THIS SEAT. 11 by the template 'for every input the law returns true; each argument reads behind the call as it read before'; 0 by the template 'total and deterministic' (their statements: YtidncnhhjfdifaaTotals.lean).
  GIVEN WITH THE SEED: the statements are not yours to turn. If you find one false, say at which input.
  Laid BY PROGRAM, IN A SANDBOX (cutbox-rows.mjs): the forced cells as the released guide's own fill.sh prints them over the translation b3827c7e5be128e6… (all of the seat's roots in one cut). By AI agents, Wed Nov 11 2026. No macro, syntax, notation, axiom, sorry.
-/
import Derived.Test.YtidncnhhjfdifaaChecked
import GoSem.Claim
import GoSem.ClaimJoined
import GoSem.ClaimMapViews
import Derived.JoinedTies
import Derived.KernelRfl
namespace Go.Proofs.Ytidncnhhjfdifaa
/- THE CELL 'sum', in the pinned program and in every row, IS THE sha256 OF THE DUMP (.gsa) THAT YtidncnhhjfdifaaProg.lean LOADS. Nothing in Lean hashes anything: it is a label: what it is worth is what the hold of that sum in a sandbox is worth. -/
noncomputable def Try.pinned : Pinned := { name := "ytidncnhhjfdifaa", sum := "b3827c7e5be128e6120d91115600e05914835303d7b6248872a51d308069f57a", checked := Try.checked }
namespace Rows
def none {H : Type} : Left H := { results := [], args := [] }

/-- 'changeforgelaw2.MultivalueMatchesSpec': WHATEVER THE INPUT: true; the input reads as it did. -/
def multivalueMatchesSpecSpec : ChangeSpec := { name := "multivalueMatchesSpec", fn := fun _ => fun
  | [d1, d2, d3, d4] => { results := [.lit (.bool true)], args := [d1, d2, d3, d4] }
  | _ => none }
def multivalueMatchesSpecRow : OpenClaim := { program := "ytidncnhhjfdifaa", sum := "b3827c7e5be128e6120d91115600e05914835303d7b6248872a51d308069f57a", func := "changeforge/changeforgelaw2.MultivalueMatchesSpec", spec := "multivalueMatchesSpec", unfollowed := true, recurses := true, plainKeys := false, apart := false }
def MultivalueMatchesSpecSaid : Prop := multivalueMatchesSpecRow.holds Try.pinned (OpenSpec.ofChange multivalueMatchesSpecSpec)

/-- ITS FALSE NEIGHBOUR: 'it returns false'. Refute it at one input. -/
def multivalueMatchesSpecWrong : ChangeSpec := { name := "multivalueMatchesSpec", fn := fun _ => fun
  | [d1, d2, d3, d4] => { results := [.lit (.bool false)], args := [d1, d2, d3, d4] }
  | _ => none }
def MultivalueMatchesSpecWrongFalsely : Prop := multivalueMatchesSpecRow.holds Try.pinned (OpenSpec.ofChange multivalueMatchesSpecWrong)

/-- 'changeforgelaw2.MultivalueSemilattice': WHATEVER THE INPUT: true; the input reads as it did. -/
def multivalueSemilatticeSpec : ChangeSpec := { name := "multivalueSemilattice", fn := fun _ => fun
  | [d1, d2, d3] => { results := [.lit (.bool true)], args := [d1, d2, d3] }
  | _ => none }
def multivalueSemilatticeRow : OpenClaim := { program := "ytidncnhhjfdifaa", sum := "b3827c7e5be128e6120d91115600e05914835303d7b6248872a51d308069f57a", func := "changeforge/changeforgelaw2.MultivalueSemilattice", spec := "multivalueSemilattice", unfollowed := true, recurses := true, plainKeys := false, apart := false }
def MultivalueSemilatticeSaid : Prop := multivalueSemilatticeRow.holds Try.pinned (OpenSpec.ofChange multivalueSemilatticeSpec)

/-- ITS FALSE NEIGHBOUR: 'it returns false'. Refute it at one input. -/
def multivalueSemilatticeWrong : ChangeSpec := { name := "multivalueSemilattice", fn := fun _ => fun
  | [d1, d2, d3] => { results := [.lit (.bool false)], args := [d1, d2, d3] }
  | _ => none }
def MultivalueSemilatticeWrongFalsely : Prop := multivalueSemilatticeRow.holds Try.pinned (OpenSpec.ofChange multivalueSemilatticeWrong)

/-- 'changeforgelaw2.MultivalueWriteWins': WHATEVER THE INPUT: true; the input reads as it did. -/
def multivalueWriteWinsSpec : ChangeSpec := { name := "multivalueWriteWins", fn := fun _ => fun
  | [d1, d2, d3] => { results := [.lit (.bool true)], args := [d1, d2, d3] }
  | _ => none }
def multivalueWriteWinsRow : OpenClaim := { program := "ytidncnhhjfdifaa", sum := "b3827c7e5be128e6120d91115600e05914835303d7b6248872a51d308069f57a", func := "changeforge/changeforgelaw2.MultivalueWriteWins", spec := "multivalueWriteWins", unfollowed := true, recurses := true, plainKeys := false, apart := false }
def MultivalueWriteWinsSaid : Prop := multivalueWriteWinsRow.holds Try.pinned (OpenSpec.ofChange multivalueWriteWinsSpec)

/-- ITS FALSE NEIGHBOUR: 'it returns false'. Refute it at one input. -/
def multivalueWriteWinsWrong : ChangeSpec := { name := "multivalueWriteWins", fn := fun _ => fun
  | [d1, d2, d3] => { results := [.lit (.bool false)], args := [d1, d2, d3] }
  | _ => none }
def MultivalueWriteWinsWrongFalsely : Prop := multivalueWriteWinsRow.holds Try.pinned (OpenSpec.ofChange multivalueWriteWinsWrong)

/-- 'changeforgelaw2.MultivalueConcurrent': WHATEVER THE INPUT: true; the input reads as it did. -/
def multivalueConcurrentSpec : ChangeSpec := { name := "multivalueConcurrent", fn := fun _ => fun
  | [d1, d2, d3, d4, d5] => { results := [.lit (.bool true)], args := [d1, d2, d3, d4, d5] }
  | _ => none }
def multivalueConcurrentRow : OpenClaim := { program := "ytidncnhhjfdifaa", sum := "b3827c7e5be128e6120d91115600e05914835303d7b6248872a51d308069f57a", func := "changeforge/changeforgelaw2.MultivalueConcurrent", spec := "multivalueConcurrent", unfollowed := true, recurses := true, plainKeys := false, apart := false }
def MultivalueConcurrentSaid : Prop := multivalueConcurrentRow.holds Try.pinned (OpenSpec.ofChange multivalueConcurrentSpec)

/-- ITS FALSE NEIGHBOUR: 'it returns false'. Refute it at one input. -/
def multivalueConcurrentWrong : ChangeSpec := { name := "multivalueConcurrent", fn := fun _ => fun
  | [d1, d2, d3, d4, d5] => { results := [.lit (.bool false)], args := [d1, d2, d3, d4, d5] }
  | _ => none }
def MultivalueConcurrentWrongFalsely : Prop := multivalueConcurrentRow.holds Try.pinned (OpenSpec.ofChange multivalueConcurrentWrong)

/-- 'changeforgelaw2.MultivalueCovers': WHATEVER THE INPUT: true; the input reads as it did. -/
def multivalueCoversSpec : ChangeSpec := { name := "multivalueCovers", fn := fun _ => fun
  | [d1, d2, d3] => { results := [.lit (.bool true)], args := [d1, d2, d3] }
  | _ => none }
def multivalueCoversRow : OpenClaim := { program := "ytidncnhhjfdifaa", sum := "b3827c7e5be128e6120d91115600e05914835303d7b6248872a51d308069f57a", func := "changeforge/changeforgelaw2.MultivalueCovers", spec := "multivalueCovers", unfollowed := true, recurses := true, plainKeys := false, apart := false }
def MultivalueCoversSaid : Prop := multivalueCoversRow.holds Try.pinned (OpenSpec.ofChange multivalueCoversSpec)

/-- ITS FALSE NEIGHBOUR: 'it returns false'. Refute it at one input. -/
def multivalueCoversWrong : ChangeSpec := { name := "multivalueCovers", fn := fun _ => fun
  | [d1, d2, d3] => { results := [.lit (.bool false)], args := [d1, d2, d3] }
  | _ => none }
def MultivalueCoversWrongFalsely : Prop := multivalueCoversRow.holds Try.pinned (OpenSpec.ofChange multivalueCoversWrong)

/-- 'changeforgelaw2.MultivalueResolves': WHATEVER THE INPUT: true; the input reads as it did. -/
def multivalueResolvesSpec : ChangeSpec := { name := "multivalueResolves", fn := fun _ => fun
  | [d1, d2, d3, d4] => { results := [.lit (.bool true)], args := [d1, d2, d3, d4] }
  | _ => none }
def multivalueResolvesRow : OpenClaim := { program := "ytidncnhhjfdifaa", sum := "b3827c7e5be128e6120d91115600e05914835303d7b6248872a51d308069f57a", func := "changeforge/changeforgelaw2.MultivalueResolves", spec := "multivalueResolves", unfollowed := true, recurses := true, plainKeys := false, apart := false }
def MultivalueResolvesSaid : Prop := multivalueResolvesRow.holds Try.pinned (OpenSpec.ofChange multivalueResolvesSpec)

/-- ITS FALSE NEIGHBOUR: 'it returns false'. Refute it at one input. -/
def multivalueResolvesWrong : ChangeSpec := { name := "multivalueResolves", fn := fun _ => fun
  | [d1, d2, d3, d4] => { results := [.lit (.bool false)], args := [d1, d2, d3, d4] }
  | _ => none }
def MultivalueResolvesWrongFalsely : Prop := multivalueResolvesRow.holds Try.pinned (OpenSpec.ofChange multivalueResolvesWrong)

/-- 'changeforgelaw2.SequenceMatchesSpec': WHATEVER THE INPUT: true; the input reads as it did. -/
def sequenceMatchesSpecSpec : ChangeSpec := { name := "sequenceMatchesSpec", fn := fun _ => fun
  | [d1, d2] => { results := [.lit (.bool true)], args := [d1, d2] }
  | _ => none }
def sequenceMatchesSpecRow : OpenClaim := { program := "ytidncnhhjfdifaa", sum := "b3827c7e5be128e6120d91115600e05914835303d7b6248872a51d308069f57a", func := "changeforge/changeforgelaw2.SequenceMatchesSpec", spec := "sequenceMatchesSpec", inPlace := ["internal/bytealg.IndexByteString", "internal/bytealg.IndexString"], unfollowed := true, recurses := true, named := ["internal/bytealg.MaxLen"], plainKeys := false, apart := false }
def SequenceMatchesSpecSaid : Prop := sequenceMatchesSpecRow.holds Try.pinned (OpenSpec.ofChange sequenceMatchesSpecSpec)

/-- ITS FALSE NEIGHBOUR: 'it returns false'. Refute it at one input. -/
def sequenceMatchesSpecWrong : ChangeSpec := { name := "sequenceMatchesSpec", fn := fun _ => fun
  | [d1, d2] => { results := [.lit (.bool false)], args := [d1, d2] }
  | _ => none }
def SequenceMatchesSpecWrongFalsely : Prop := sequenceMatchesSpecRow.holds Try.pinned (OpenSpec.ofChange sequenceMatchesSpecWrong)

/-- 'changeforgelaw2.SequenceSemilattice': WHATEVER THE INPUT: true; the input reads as it did. -/
def sequenceSemilatticeSpec : ChangeSpec := { name := "sequenceSemilattice", fn := fun _ => fun
  | [d1, d2, d3] => { results := [.lit (.bool true)], args := [d1, d2, d3] }
  | _ => none }
def sequenceSemilatticeRow : OpenClaim := { program := "ytidncnhhjfdifaa", sum := "b3827c7e5be128e6120d91115600e05914835303d7b6248872a51d308069f57a", func := "changeforge/changeforgelaw2.SequenceSemilattice", spec := "sequenceSemilattice", inPlace := ["internal/bytealg.IndexByteString", "internal/bytealg.IndexString"], unfollowed := true, recurses := true, named := ["internal/bytealg.MaxLen"], plainKeys := false, apart := false }
def SequenceSemilatticeSaid : Prop := sequenceSemilatticeRow.holds Try.pinned (OpenSpec.ofChange sequenceSemilatticeSpec)

/-- ITS FALSE NEIGHBOUR: 'it returns false'. Refute it at one input. -/
def sequenceSemilatticeWrong : ChangeSpec := { name := "sequenceSemilattice", fn := fun _ => fun
  | [d1, d2, d3] => { results := [.lit (.bool false)], args := [d1, d2, d3] }
  | _ => none }
def SequenceSemilatticeWrongFalsely : Prop := sequenceSemilatticeRow.holds Try.pinned (OpenSpec.ofChange sequenceSemilatticeWrong)

/-- 'changeforgelaw2.SequenceInserts': WHATEVER THE INPUT: true; the input reads as it did. -/
def sequenceInsertsSpec : ChangeSpec := { name := "sequenceInserts", fn := fun _ => fun
  | [d1, d2] => { results := [.lit (.bool true)], args := [d1, d2] }
  | _ => none }
def sequenceInsertsRow : OpenClaim := { program := "ytidncnhhjfdifaa", sum := "b3827c7e5be128e6120d91115600e05914835303d7b6248872a51d308069f57a", func := "changeforge/changeforgelaw2.SequenceInserts", spec := "sequenceInserts", inPlace := ["internal/bytealg.IndexByteString", "internal/bytealg.IndexString"], unfollowed := true, recurses := true, named := ["internal/bytealg.MaxLen"], plainKeys := false, apart := false }
def SequenceInsertsSaid : Prop := sequenceInsertsRow.holds Try.pinned (OpenSpec.ofChange sequenceInsertsSpec)

/-- ITS FALSE NEIGHBOUR: 'it returns false'. Refute it at one input. -/
def sequenceInsertsWrong : ChangeSpec := { name := "sequenceInserts", fn := fun _ => fun
  | [d1, d2] => { results := [.lit (.bool false)], args := [d1, d2] }
  | _ => none }
def SequenceInsertsWrongFalsely : Prop := sequenceInsertsRow.holds Try.pinned (OpenSpec.ofChange sequenceInsertsWrong)

/-- 'changeforgelaw2.SequenceDeletes': WHATEVER THE INPUT: true; the input reads as it did. -/
def sequenceDeletesSpec : ChangeSpec := { name := "sequenceDeletes", fn := fun _ => fun
  | [d1, d2] => { results := [.lit (.bool true)], args := [d1, d2] }
  | _ => none }
def sequenceDeletesRow : OpenClaim := { program := "ytidncnhhjfdifaa", sum := "b3827c7e5be128e6120d91115600e05914835303d7b6248872a51d308069f57a", func := "changeforge/changeforgelaw2.SequenceDeletes", spec := "sequenceDeletes", inPlace := ["internal/bytealg.IndexByteString", "internal/bytealg.IndexString"], unfollowed := true, recurses := true, named := ["internal/bytealg.MaxLen"], plainKeys := false, apart := false }
def SequenceDeletesSaid : Prop := sequenceDeletesRow.holds Try.pinned (OpenSpec.ofChange sequenceDeletesSpec)

/-- ITS FALSE NEIGHBOUR: 'it returns false'. Refute it at one input. -/
def sequenceDeletesWrong : ChangeSpec := { name := "sequenceDeletes", fn := fun _ => fun
  | [d1, d2] => { results := [.lit (.bool false)], args := [d1, d2] }
  | _ => none }
def SequenceDeletesWrongFalsely : Prop := sequenceDeletesRow.holds Try.pinned (OpenSpec.ofChange sequenceDeletesWrong)

/-- 'changeforgelaw2.SequenceTyped': WHATEVER THE INPUT: true; the input reads as it did. -/
def sequenceTypedSpec : ChangeSpec := { name := "sequenceTyped", fn := fun _ => fun
  | [d1, d2] => { results := [.lit (.bool true)], args := [d1, d2] }
  | _ => none }
def sequenceTypedRow : OpenClaim := { program := "ytidncnhhjfdifaa", sum := "b3827c7e5be128e6120d91115600e05914835303d7b6248872a51d308069f57a", func := "changeforge/changeforgelaw2.SequenceTyped", spec := "sequenceTyped", inPlace := ["internal/bytealg.IndexByteString", "internal/bytealg.IndexString"], unfollowed := true, recurses := true, named := ["internal/bytealg.MaxLen"], plainKeys := false, apart := false }
def SequenceTypedSaid : Prop := sequenceTypedRow.holds Try.pinned (OpenSpec.ofChange sequenceTypedSpec)

/-- ITS FALSE NEIGHBOUR: 'it returns false'. Refute it at one input. -/
def sequenceTypedWrong : ChangeSpec := { name := "sequenceTyped", fn := fun _ => fun
  | [d1, d2] => { results := [.lit (.bool false)], args := [d1, d2] }
  | _ => none }
def SequenceTypedWrongFalsely : Prop := sequenceTypedRow.holds Try.pinned (OpenSpec.ofChange sequenceTypedWrong)

/- THE SECOND FORM. 'bulk': how many values and letters a reading holds, each counted each time it is reached (what is shared counts as often as it is met; a slice's spare places count too). A statement '..UptoSaid' is the law's where the arguments, and the package variables that the reading takes, are together of bulk at most 1048576: NARROWER than '..Said'. Prove '..Said' where nothing that the law and all that it calls make is longer than what came in: it says more and counts as full. Else prove '..UptoSaid'. A law counts once. -/
mutual
def uptoBulk {H : Type} : DataW H → Nat
  | .lit (.string bytes) => bytes.length + 1
  | .lit _ => 1
  | .nil => 1
  | .ptr d => uptoBulk d + 1
  | .slice elems spare => uptoBulkAll elems + uptoBulkAll spare + 1
  | .agg parts => uptoBulkAll parts + 1
  | .iface _ d => uptoBulk d + 1
  | .map entries => uptoBulkEntries entries + 1
  | .held _ => 1
def uptoBulkAll {H : Type} : List (DataW H) → Nat
  | [] => 0
  | d :: r => uptoBulk d + uptoBulkAll r
def uptoBulkEntries {H : Type} : List (Lit × DataW H) → Nat
  | [] => 0
  | x :: r => uptoBulkEntry x + uptoBulkEntries r
def uptoBulkEntry {H : Type} : Lit × DataW H → Nat
  | (.string bytes, d) => bytes.length + uptoBulk d + 1
  | (_, d) => uptoBulk d + 1
 end
def uptoSmall : (H : Type) → List (DataW H) → Bool := fun _ ds => decide (uptoBulkAll ds ≤ 1048576)
def OpenSpec.upto (s : _root_.Go.ChangeSpec) : _root_.Go.OpenSpec := { _root_.Go.OpenSpec.ofChange s with cond := some uptoSmall }

/-- 'changeforgelaw2.MultivalueMatchesSpec', WHERE WHAT IT READS IS OF BULK AT MOST 1048576: true; the input reads as it did. -/
def multivalueMatchesSpecUptoRow : OpenClaim := { program := "ytidncnhhjfdifaa", sum := "b3827c7e5be128e6120d91115600e05914835303d7b6248872a51d308069f57a", func := "changeforge/changeforgelaw2.MultivalueMatchesSpec", spec := "multivalueMatchesSpec", unfollowed := true, recurses := true, plainKeys := false, apart := false, narrowed := true }
def MultivalueMatchesSpecUptoSaid : Prop := multivalueMatchesSpecUptoRow.holds Try.pinned (OpenSpec.upto multivalueMatchesSpecSpec)

/-- 'changeforgelaw2.MultivalueSemilattice', WHERE WHAT IT READS IS OF BULK AT MOST 1048576: true; the input reads as it did. -/
def multivalueSemilatticeUptoRow : OpenClaim := { program := "ytidncnhhjfdifaa", sum := "b3827c7e5be128e6120d91115600e05914835303d7b6248872a51d308069f57a", func := "changeforge/changeforgelaw2.MultivalueSemilattice", spec := "multivalueSemilattice", unfollowed := true, recurses := true, plainKeys := false, apart := false, narrowed := true }
def MultivalueSemilatticeUptoSaid : Prop := multivalueSemilatticeUptoRow.holds Try.pinned (OpenSpec.upto multivalueSemilatticeSpec)

/-- 'changeforgelaw2.MultivalueWriteWins', WHERE WHAT IT READS IS OF BULK AT MOST 1048576: true; the input reads as it did. -/
def multivalueWriteWinsUptoRow : OpenClaim := { program := "ytidncnhhjfdifaa", sum := "b3827c7e5be128e6120d91115600e05914835303d7b6248872a51d308069f57a", func := "changeforge/changeforgelaw2.MultivalueWriteWins", spec := "multivalueWriteWins", unfollowed := true, recurses := true, plainKeys := false, apart := false, narrowed := true }
def MultivalueWriteWinsUptoSaid : Prop := multivalueWriteWinsUptoRow.holds Try.pinned (OpenSpec.upto multivalueWriteWinsSpec)

/-- 'changeforgelaw2.MultivalueConcurrent', WHERE WHAT IT READS IS OF BULK AT MOST 1048576: true; the input reads as it did. -/
def multivalueConcurrentUptoRow : OpenClaim := { program := "ytidncnhhjfdifaa", sum := "b3827c7e5be128e6120d91115600e05914835303d7b6248872a51d308069f57a", func := "changeforge/changeforgelaw2.MultivalueConcurrent", spec := "multivalueConcurrent", unfollowed := true, recurses := true, plainKeys := false, apart := false, narrowed := true }
def MultivalueConcurrentUptoSaid : Prop := multivalueConcurrentUptoRow.holds Try.pinned (OpenSpec.upto multivalueConcurrentSpec)

/-- 'changeforgelaw2.MultivalueCovers', WHERE WHAT IT READS IS OF BULK AT MOST 1048576: true; the input reads as it did. -/
def multivalueCoversUptoRow : OpenClaim := { program := "ytidncnhhjfdifaa", sum := "b3827c7e5be128e6120d91115600e05914835303d7b6248872a51d308069f57a", func := "changeforge/changeforgelaw2.MultivalueCovers", spec := "multivalueCovers", unfollowed := true, recurses := true, plainKeys := false, apart := false, narrowed := true }
def MultivalueCoversUptoSaid : Prop := multivalueCoversUptoRow.holds Try.pinned (OpenSpec.upto multivalueCoversSpec)

/-- 'changeforgelaw2.MultivalueResolves', WHERE WHAT IT READS IS OF BULK AT MOST 1048576: true; the input reads as it did. -/
def multivalueResolvesUptoRow : OpenClaim := { program := "ytidncnhhjfdifaa", sum := "b3827c7e5be128e6120d91115600e05914835303d7b6248872a51d308069f57a", func := "changeforge/changeforgelaw2.MultivalueResolves", spec := "multivalueResolves", unfollowed := true, recurses := true, plainKeys := false, apart := false, narrowed := true }
def MultivalueResolvesUptoSaid : Prop := multivalueResolvesUptoRow.holds Try.pinned (OpenSpec.upto multivalueResolvesSpec)

/-- 'changeforgelaw2.SequenceMatchesSpec', WHERE WHAT IT READS IS OF BULK AT MOST 1048576: true; the input reads as it did. -/
def sequenceMatchesSpecUptoRow : OpenClaim := { program := "ytidncnhhjfdifaa", sum := "b3827c7e5be128e6120d91115600e05914835303d7b6248872a51d308069f57a", func := "changeforge/changeforgelaw2.SequenceMatchesSpec", spec := "sequenceMatchesSpec", inPlace := ["internal/bytealg.IndexByteString", "internal/bytealg.IndexString"], unfollowed := true, recurses := true, named := ["internal/bytealg.MaxLen"], plainKeys := false, apart := false, narrowed := true }
def SequenceMatchesSpecUptoSaid : Prop := sequenceMatchesSpecUptoRow.holds Try.pinned (OpenSpec.upto sequenceMatchesSpecSpec)

/-- 'changeforgelaw2.SequenceSemilattice', WHERE WHAT IT READS IS OF BULK AT MOST 1048576: true; the input reads as it did. -/
def sequenceSemilatticeUptoRow : OpenClaim := { program := "ytidncnhhjfdifaa", sum := "b3827c7e5be128e6120d91115600e05914835303d7b6248872a51d308069f57a", func := "changeforge/changeforgelaw2.SequenceSemilattice", spec := "sequenceSemilattice", inPlace := ["internal/bytealg.IndexByteString", "internal/bytealg.IndexString"], unfollowed := true, recurses := true, named := ["internal/bytealg.MaxLen"], plainKeys := false, apart := false, narrowed := true }
def SequenceSemilatticeUptoSaid : Prop := sequenceSemilatticeUptoRow.holds Try.pinned (OpenSpec.upto sequenceSemilatticeSpec)

/-- 'changeforgelaw2.SequenceInserts', WHERE WHAT IT READS IS OF BULK AT MOST 1048576: true; the input reads as it did. -/
def sequenceInsertsUptoRow : OpenClaim := { program := "ytidncnhhjfdifaa", sum := "b3827c7e5be128e6120d91115600e05914835303d7b6248872a51d308069f57a", func := "changeforge/changeforgelaw2.SequenceInserts", spec := "sequenceInserts", inPlace := ["internal/bytealg.IndexByteString", "internal/bytealg.IndexString"], unfollowed := true, recurses := true, named := ["internal/bytealg.MaxLen"], plainKeys := false, apart := false, narrowed := true }
def SequenceInsertsUptoSaid : Prop := sequenceInsertsUptoRow.holds Try.pinned (OpenSpec.upto sequenceInsertsSpec)

/-- 'changeforgelaw2.SequenceDeletes', WHERE WHAT IT READS IS OF BULK AT MOST 1048576: true; the input reads as it did. -/
def sequenceDeletesUptoRow : OpenClaim := { program := "ytidncnhhjfdifaa", sum := "b3827c7e5be128e6120d91115600e05914835303d7b6248872a51d308069f57a", func := "changeforge/changeforgelaw2.SequenceDeletes", spec := "sequenceDeletes", inPlace := ["internal/bytealg.IndexByteString", "internal/bytealg.IndexString"], unfollowed := true, recurses := true, named := ["internal/bytealg.MaxLen"], plainKeys := false, apart := false, narrowed := true }
def SequenceDeletesUptoSaid : Prop := sequenceDeletesUptoRow.holds Try.pinned (OpenSpec.upto sequenceDeletesSpec)

/-- 'changeforgelaw2.SequenceTyped', WHERE WHAT IT READS IS OF BULK AT MOST 1048576: true; the input reads as it did. -/
def sequenceTypedUptoRow : OpenClaim := { program := "ytidncnhhjfdifaa", sum := "b3827c7e5be128e6120d91115600e05914835303d7b6248872a51d308069f57a", func := "changeforge/changeforgelaw2.SequenceTyped", spec := "sequenceTyped", inPlace := ["internal/bytealg.IndexByteString", "internal/bytealg.IndexString"], unfollowed := true, recurses := true, named := ["internal/bytealg.MaxLen"], plainKeys := false, apart := false, narrowed := true }
def SequenceTypedUptoSaid : Prop := sequenceTypedUptoRow.holds Try.pinned (OpenSpec.upto sequenceTypedSpec)

end Rows
end Go.Proofs.Ytidncnhhjfdifaa
