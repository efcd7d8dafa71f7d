/-
  DERIVED. GIVEN WITH THE SEED: THE CARDS: each row of YteijijoiifbjlaaGreatDoorRows.lean that lists a variable, with what it lists TIED to the program's text (the seventh form; the later family's looks); each row that meets fmt, with fmt's text TOLD by the authors' own Lean function (tested against real Go, not proved from fmt's source: count such statements apart). THE CARD IS WHAT COUNTS. Prove the row's statement (the work); the ties are given (YteijijoiifbjlaaGreatDoorTie.lean); close each card by the builder's one call (the guide's Derived/Test/ToyasCard.lean, 'card_holds'). Laid BY PROGRAM, IN A SANDBOX (cutbox-door.mjs). By AI agents, Wed Nov 11 2026. No macro, syntax, notation, axiom, sorry.
-/
import Derived.Test.YteijijoiifbjlaaGreatDoorRows
import GoSem.ClaimSeven
namespace Go.Proofs.YteijijoiifbjlaaGreatDoor
namespace Rows

/-- THE TIED CARD OF 'cardindexlaw13.EvalSources'. -/
def evalSourcesCard : Claim7 := { stood := { row := evalSourcesRow, standIns := [], harness := (true, "da5ef3d60599dac0c43cbf1d6d452d4b2331d9a5ccedc352515ec70d2c8b5fce"), looks := false }, kinds := [], alts := [], laidByText := true, laidKinds := [.data, .data, .data], laidTests := true, laidLooks := .later }
def EvalSourcesCardSaid : Prop := Claim7.holds Tryz.pinned (.plain (OpenSpec.ofChange evalSourcesSpec)) evalSourcesCard

/-- THE TIED CARD OF 'cardindexlaw13.EvalSwap'. -/
def evalSwapCard : Claim7 := { stood := { row := evalSwapRow, standIns := [], harness := (true, "da5ef3d60599dac0c43cbf1d6d452d4b2331d9a5ccedc352515ec70d2c8b5fce"), looks := false }, kinds := [], alts := [], laidByText := true, laidKinds := [.data, .data, .data], laidTests := true, laidLooks := .later }
def EvalSwapCardSaid : Prop := Claim7.holds Tryz.pinned (.plain (OpenSpec.ofChange evalSwapSpec)) evalSwapCard

/-- THE TIED CARD OF 'cardindexlaw13.EvalNull'. -/
def evalNullCard : Claim7 := { stood := { row := evalNullRow, standIns := [], harness := (true, "da5ef3d60599dac0c43cbf1d6d452d4b2331d9a5ccedc352515ec70d2c8b5fce"), looks := false }, kinds := [], alts := [], laidByText := true, laidKinds := [.data, .data, .data], laidTests := true, laidLooks := .later }
def EvalNullCardSaid : Prop := Claim7.holds Tryz.pinned (.plain (OpenSpec.ofChange evalNullSpec)) evalNullCard

/-- THE SECOND FORM's CARD OF 'cardindexlaw13.EvalSources'. -/
def evalSourcesUptoCard : Claim7 := { stood := { row := evalSourcesUptoRow, standIns := [], harness := (true, "da5ef3d60599dac0c43cbf1d6d452d4b2331d9a5ccedc352515ec70d2c8b5fce"), looks := false }, kinds := [], alts := [], laidByText := true, laidKinds := [.data, .data, .data], laidTests := true, laidLooks := .later }
def EvalSourcesUptoCardSaid : Prop := Claim7.holds Tryz.pinned (.plain (OpenSpec.upto evalSourcesSpec)) evalSourcesUptoCard

/-- THE SECOND FORM's CARD OF 'cardindexlaw13.EvalSwap'. -/
def evalSwapUptoCard : Claim7 := { stood := { row := evalSwapUptoRow, standIns := [], harness := (true, "da5ef3d60599dac0c43cbf1d6d452d4b2331d9a5ccedc352515ec70d2c8b5fce"), looks := false }, kinds := [], alts := [], laidByText := true, laidKinds := [.data, .data, .data], laidTests := true, laidLooks := .later }
def EvalSwapUptoCardSaid : Prop := Claim7.holds Tryz.pinned (.plain (OpenSpec.upto evalSwapSpec)) evalSwapUptoCard

/-- THE SECOND FORM's CARD OF 'cardindexlaw13.EvalNull'. -/
def evalNullUptoCard : Claim7 := { stood := { row := evalNullUptoRow, standIns := [], harness := (true, "da5ef3d60599dac0c43cbf1d6d452d4b2331d9a5ccedc352515ec70d2c8b5fce"), looks := false }, kinds := [], alts := [], laidByText := true, laidKinds := [.data, .data, .data], laidTests := true, laidLooks := .later }
def EvalNullUptoCardSaid : Prop := Claim7.holds Tryz.pinned (.plain (OpenSpec.upto evalNullSpec)) evalNullUptoCard
end Rows
end Go.Proofs.YteijijoiifbjlaaGreatDoor
