/-
  DERIVED. GIVEN WITH THE SEED: THE CARDS: each row of YtbelhgdogafedaaGreatDoorRows.lean that lists a variable, with what it lists TIED to the program's text (the seventh form; the later family's looks); each row that meets fmt, with fmt's text TOLD by the authors' own Lean function (tested against real Go, not proved from fmt's source: count such statements apart). THE CARD IS WHAT COUNTS. Prove the row's statement (the work); the ties are given (YtbelhgdogafedaaGreatDoorTie.lean); close each card by the builder's one call (the guide's Derived/Test/ToyasCard.lean, 'card_holds'). Laid BY PROGRAM, IN A SANDBOX (cutbox-door.mjs). By AI agents, Wed Nov 11 2026. No macro, syntax, notation, axiom, sorry.
-/
import Derived.Test.YtbelhgdogafedaaGreatDoorRows
import GoSem.ClaimSeven
namespace Go.Proofs.YtbelhgdogafedaaGreatDoor
namespace Rows

/-- THE TIED CARD OF 'cardindexlaw13.EvalSources'. -/
def evalSourcesCard : Claim7 := { stood := { row := evalSourcesRow, standIns := [], harness := (true, "841f8001cfd8eb92830ec881c0d982d2828e4dbe466eb31d538c903edf0fa62a"), looks := false }, kinds := [], alts := [], laidByText := true, laidKinds := [.data, .data, .data], laidTests := true, laidLooks := .later }
def EvalSourcesCardSaid : Prop := Claim7.holds Tryz.pinned (.plain (OpenSpec.ofChange evalSourcesSpec)) evalSourcesCard

/-- THE TIED CARD OF 'cardindexlaw13.EvalIn'. -/
def evalInCard : Claim7 := { stood := { row := evalInRow, standIns := [], harness := (true, "841f8001cfd8eb92830ec881c0d982d2828e4dbe466eb31d538c903edf0fa62a"), looks := false }, kinds := [], alts := [], laidByText := true, laidKinds := [.data, .data, .data], laidTests := true, laidLooks := .later }
def EvalInCardSaid : Prop := Claim7.holds Tryz.pinned (.plain (OpenSpec.ofChange evalInSpec)) evalInCard

/-- THE TIED CARD OF 'cardindexlaw13.EvalFirst'. -/
def evalFirstCard : Claim7 := { stood := { row := evalFirstRow, standIns := [], harness := (true, "841f8001cfd8eb92830ec881c0d982d2828e4dbe466eb31d538c903edf0fa62a"), looks := false }, kinds := [], alts := [], laidByText := true, laidKinds := [.data, .data, .data], laidTests := true, laidLooks := .later }
def EvalFirstCardSaid : Prop := Claim7.holds Tryz.pinned (.plain (OpenSpec.ofChange evalFirstSpec)) evalFirstCard

/-- THE TIED CARD OF 'cardindexlaw13.EvalSwap'. -/
def evalSwapCard : Claim7 := { stood := { row := evalSwapRow, standIns := [], harness := (true, "841f8001cfd8eb92830ec881c0d982d2828e4dbe466eb31d538c903edf0fa62a"), looks := false }, kinds := [], alts := [], laidByText := true, laidKinds := [.data, .data, .data], laidTests := true, laidLooks := .later }
def EvalSwapCardSaid : Prop := Claim7.holds Tryz.pinned (.plain (OpenSpec.ofChange evalSwapSpec)) evalSwapCard

/-- THE TIED CARD OF 'cardindexlaw13.EvalNull'. -/
def evalNullCard : Claim7 := { stood := { row := evalNullRow, standIns := [], harness := (true, "841f8001cfd8eb92830ec881c0d982d2828e4dbe466eb31d538c903edf0fa62a"), looks := false }, kinds := [], alts := [], laidByText := true, laidKinds := [.data, .data, .data], laidTests := true, laidLooks := .later }
def EvalNullCardSaid : Prop := Claim7.holds Tryz.pinned (.plain (OpenSpec.ofChange evalNullSpec)) evalNullCard

/-- THE SECOND FORM's CARD OF 'cardindexlaw13.EvalSources'. -/
def evalSourcesUptoCard : Claim7 := { stood := { row := evalSourcesUptoRow, standIns := [], harness := (true, "841f8001cfd8eb92830ec881c0d982d2828e4dbe466eb31d538c903edf0fa62a"), looks := false }, kinds := [], alts := [], laidByText := true, laidKinds := [.data, .data, .data], laidTests := true, laidLooks := .later }
def EvalSourcesUptoCardSaid : Prop := Claim7.holds Tryz.pinned (.plain (OpenSpec.upto evalSourcesSpec)) evalSourcesUptoCard

/-- THE SECOND FORM's CARD OF 'cardindexlaw13.EvalIn'. -/
def evalInUptoCard : Claim7 := { stood := { row := evalInUptoRow, standIns := [], harness := (true, "841f8001cfd8eb92830ec881c0d982d2828e4dbe466eb31d538c903edf0fa62a"), looks := false }, kinds := [], alts := [], laidByText := true, laidKinds := [.data, .data, .data], laidTests := true, laidLooks := .later }
def EvalInUptoCardSaid : Prop := Claim7.holds Tryz.pinned (.plain (OpenSpec.upto evalInSpec)) evalInUptoCard

/-- THE SECOND FORM's CARD OF 'cardindexlaw13.EvalFirst'. -/
def evalFirstUptoCard : Claim7 := { stood := { row := evalFirstUptoRow, standIns := [], harness := (true, "841f8001cfd8eb92830ec881c0d982d2828e4dbe466eb31d538c903edf0fa62a"), looks := false }, kinds := [], alts := [], laidByText := true, laidKinds := [.data, .data, .data], laidTests := true, laidLooks := .later }
def EvalFirstUptoCardSaid : Prop := Claim7.holds Tryz.pinned (.plain (OpenSpec.upto evalFirstSpec)) evalFirstUptoCard

/-- THE SECOND FORM's CARD OF 'cardindexlaw13.EvalSwap'. -/
def evalSwapUptoCard : Claim7 := { stood := { row := evalSwapUptoRow, standIns := [], harness := (true, "841f8001cfd8eb92830ec881c0d982d2828e4dbe466eb31d538c903edf0fa62a"), looks := false }, kinds := [], alts := [], laidByText := true, laidKinds := [.data, .data, .data], laidTests := true, laidLooks := .later }
def EvalSwapUptoCardSaid : Prop := Claim7.holds Tryz.pinned (.plain (OpenSpec.upto evalSwapSpec)) evalSwapUptoCard

/-- THE SECOND FORM's CARD OF 'cardindexlaw13.EvalNull'. -/
def evalNullUptoCard : Claim7 := { stood := { row := evalNullUptoRow, standIns := [], harness := (true, "841f8001cfd8eb92830ec881c0d982d2828e4dbe466eb31d538c903edf0fa62a"), looks := false }, kinds := [], alts := [], laidByText := true, laidKinds := [.data, .data, .data], laidTests := true, laidLooks := .later }
def EvalNullUptoCardSaid : Prop := Claim7.holds Tryz.pinned (.plain (OpenSpec.upto evalNullSpec)) evalNullUptoCard
end Rows
end Go.Proofs.YtbelhgdogafedaaGreatDoor
