/-
  DERIVED. GIVEN WITH THE SEED: THE CARDS: each row of YtcheggdfcdokiaaDoorRows.lean that lists a variable, with what it lists TIED to the program's text (the seventh form; the later family's looks); each row that meets fmt, with fmt's text TOLD by the authors' own Lean function (tested against real Go, not proved from fmt's source: count such statements apart). THE CARD IS WHAT COUNTS. Prove the row's statement (the work); the ties are given (YtcheggdfcdokiaaDoorTie.lean); close each card by the builder's one call (the guide's Derived/Test/ToyasCard.lean, 'card_holds'). Laid BY PROGRAM, IN A SANDBOX (cutbox-door.mjs). By AI agents, Wed Nov 11 2026. No macro, syntax, notation, axiom, sorry.
-/
import Derived.Test.YtcheggdfcdokiaaDoorRows
import GoSem.ClaimSeven
namespace Go.Proofs.YtcheggdfcdokiaaDoor
namespace Rows

/-- THE TIED CARD OF 'changeforgelaw1.UnifiedMatchesSpec'. -/
def unifiedMatchesSpecCard : Claim7 := { stood := { row := unifiedMatchesSpecRow, standIns := [], harness := (true, "68409c827df5f6dc5c613382980f51fdadbb297e565950c3dcbf7c1cc4b72734"), looks := false }, kinds := [], alts := [], laidByText := true, laidKinds := [.data, .data, .data], laidTests := true, laidLooks := .later }
def UnifiedMatchesSpecCardSaid : Prop := Claim7.holds Tryd.pinned (.plain (OpenSpec.ofChange unifiedMatchesSpecSpec)) unifiedMatchesSpecCard

/-- THE SECOND FORM's CARD OF 'changeforgelaw1.UnifiedMatchesSpec'. -/
def unifiedMatchesSpecUptoCard : Claim7 := { stood := { row := unifiedMatchesSpecUptoRow, standIns := [], harness := (true, "68409c827df5f6dc5c613382980f51fdadbb297e565950c3dcbf7c1cc4b72734"), looks := false }, kinds := [], alts := [], laidByText := true, laidKinds := [.data, .data, .data], laidTests := true, laidLooks := .later }
def UnifiedMatchesSpecUptoCardSaid : Prop := Claim7.holds Tryd.pinned (.plain (OpenSpec.upto unifiedMatchesSpecSpec)) unifiedMatchesSpecUptoCard
end Rows
end Go.Proofs.YtcheggdfcdokiaaDoor
