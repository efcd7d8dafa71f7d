/-
  DERIVED. GIVEN WITH THE SEED: THE CARDS: each row of YtceknmibopnmhaaGreatDoorRows.lean that lists a variable, with what it lists TIED to the program's text (the seventh form; the later family's looks); each row that meets fmt, with fmt's text TOLD by the authors' own Lean function (tested against real Go, not proved from fmt's source: count such statements apart). THE CARD IS WHAT COUNTS. Prove the row's statement (the work); the ties are given (YtceknmibopnmhaaGreatDoorTie.lean); close each card by the builder's one call (the guide's Derived/Test/ToyasCard.lean, 'card_holds'). Laid BY PROGRAM, IN A SANDBOX (cutbox-door.mjs). By AI agents, Wed Nov 11 2026. No macro, syntax, notation, axiom, sorry.
-/
import Derived.Test.YtceknmibopnmhaaGreatDoorRows
import GoSem.ClaimSeven
namespace Go.Proofs.YtceknmibopnmhaaGreatDoor
namespace Rows

/-- THE TIED CARD OF 'cardindexlaw02.ValueNumbers'. -/
def valueNumbersCard : Claim7 := { stood := { row := valueNumbersRow, standIns := [], harness := (true, "ce08fbcb100e322fd636750da77b3caa6e767f60c752ee1f25a02254e3465982"), looks := false }, kinds := [], alts := [], laidByText := true, laidKinds := [.data, .data, .data, .data, .pinned], laidTests := true, laidLooks := .later }
def ValueNumbersCardSaid : Prop := Claim7.holds Tryz.pinned (.plain (OpenSpec.ofChange valueNumbersSpec)) valueNumbersCard

/-- THE TIED CARD OF 'cardindexlaw08.AggNumbers'. -/
def aggNumbersCard : Claim7 := { stood := { row := aggNumbersRow, standIns := [], harness := (true, "ce08fbcb100e322fd636750da77b3caa6e767f60c752ee1f25a02254e3465982"), looks := false }, kinds := [], alts := [], laidByText := true, laidKinds := [.data, .data, .data], laidTests := true, laidLooks := .later }
def AggNumbersCardSaid : Prop := Claim7.holds Tryz.pinned (.plain (OpenSpec.ofChange aggNumbersSpec)) aggNumbersCard

/-- THE TIED CARD OF 'cardindexlaw08.AggTells'. -/
def aggTellsCard : Claim7 := { stood := { row := aggTellsRow, standIns := [], harness := (true, "ce08fbcb100e322fd636750da77b3caa6e767f60c752ee1f25a02254e3465982"), looks := false }, kinds := [], alts := [], laidByText := true, laidKinds := [.data, .data, .data], laidTests := true, laidLooks := .later }
def AggTellsCardSaid : Prop := Claim7.holds Tryz.pinned (.plain (OpenSpec.ofChange aggTellsSpec)) aggTellsCard

/-- THE TIED CARD OF 'cardindexlaw08.AggParts'. -/
def aggPartsCard : Claim7 := { stood := { row := aggPartsRow, standIns := [], harness := (true, "ce08fbcb100e322fd636750da77b3caa6e767f60c752ee1f25a02254e3465982"), looks := false }, kinds := [], alts := [], laidByText := true, laidKinds := [.data, .data, .data], laidTests := true, laidLooks := .later }
def AggPartsCardSaid : Prop := Claim7.holds Tryz.pinned (.plain (OpenSpec.ofChange aggPartsSpec)) aggPartsCard

/-- THE TIED CARD OF 'cardindexlaw08.AggOnce'. -/
def aggOnceCard : Claim7 := { stood := { row := aggOnceRow, standIns := [], harness := (true, "ce08fbcb100e322fd636750da77b3caa6e767f60c752ee1f25a02254e3465982"), looks := false }, kinds := [], alts := [], laidByText := true, laidKinds := [.data, .data, .data], laidTests := true, laidLooks := .later }
def AggOnceCardSaid : Prop := Claim7.holds Tryz.pinned (.plain (OpenSpec.ofChange aggOnceSpec)) aggOnceCard

/-- THE TIED CARD OF 'cardindexlaw08.AggNulls'. -/
def aggNullsCard : Claim7 := { stood := { row := aggNullsRow, standIns := [], harness := (true, "ce08fbcb100e322fd636750da77b3caa6e767f60c752ee1f25a02254e3465982"), looks := false }, kinds := [], alts := [], laidByText := true, laidKinds := [.data, .data, .data], laidTests := true, laidLooks := .later }
def AggNullsCardSaid : Prop := Claim7.holds Tryz.pinned (.plain (OpenSpec.ofChange aggNullsSpec)) aggNullsCard

/-- THE TIED CARD OF 'cardindexlaw08.AggAgain'. -/
def aggAgainCard : Claim7 := { stood := { row := aggAgainRow, standIns := [], harness := (true, "ce08fbcb100e322fd636750da77b3caa6e767f60c752ee1f25a02254e3465982"), looks := false }, kinds := [], alts := [], laidByText := true, laidKinds := [.data, .data, .data], laidTests := true, laidLooks := .later }
def AggAgainCardSaid : Prop := Claim7.holds Tryz.pinned (.plain (OpenSpec.ofChange aggAgainSpec)) aggAgainCard

/-- THE SECOND FORM's CARD OF 'cardindexlaw02.ValueNumbers'. -/
def valueNumbersUptoCard : Claim7 := { stood := { row := valueNumbersUptoRow, standIns := [], harness := (true, "ce08fbcb100e322fd636750da77b3caa6e767f60c752ee1f25a02254e3465982"), looks := false }, kinds := [], alts := [], laidByText := true, laidKinds := [.data, .data, .data, .data, .pinned], laidTests := true, laidLooks := .later }
def ValueNumbersUptoCardSaid : Prop := Claim7.holds Tryz.pinned (.plain (OpenSpec.upto valueNumbersSpec)) valueNumbersUptoCard

/-- THE SECOND FORM's CARD OF 'cardindexlaw08.AggNumbers'. -/
def aggNumbersUptoCard : Claim7 := { stood := { row := aggNumbersUptoRow, standIns := [], harness := (true, "ce08fbcb100e322fd636750da77b3caa6e767f60c752ee1f25a02254e3465982"), looks := false }, kinds := [], alts := [], laidByText := true, laidKinds := [.data, .data, .data], laidTests := true, laidLooks := .later }
def AggNumbersUptoCardSaid : Prop := Claim7.holds Tryz.pinned (.plain (OpenSpec.upto aggNumbersSpec)) aggNumbersUptoCard

/-- THE SECOND FORM's CARD OF 'cardindexlaw08.AggTells'. -/
def aggTellsUptoCard : Claim7 := { stood := { row := aggTellsUptoRow, standIns := [], harness := (true, "ce08fbcb100e322fd636750da77b3caa6e767f60c752ee1f25a02254e3465982"), looks := false }, kinds := [], alts := [], laidByText := true, laidKinds := [.data, .data, .data], laidTests := true, laidLooks := .later }
def AggTellsUptoCardSaid : Prop := Claim7.holds Tryz.pinned (.plain (OpenSpec.upto aggTellsSpec)) aggTellsUptoCard

/-- THE SECOND FORM's CARD OF 'cardindexlaw08.AggParts'. -/
def aggPartsUptoCard : Claim7 := { stood := { row := aggPartsUptoRow, standIns := [], harness := (true, "ce08fbcb100e322fd636750da77b3caa6e767f60c752ee1f25a02254e3465982"), looks := false }, kinds := [], alts := [], laidByText := true, laidKinds := [.data, .data, .data], laidTests := true, laidLooks := .later }
def AggPartsUptoCardSaid : Prop := Claim7.holds Tryz.pinned (.plain (OpenSpec.upto aggPartsSpec)) aggPartsUptoCard

/-- THE SECOND FORM's CARD OF 'cardindexlaw08.AggOnce'. -/
def aggOnceUptoCard : Claim7 := { stood := { row := aggOnceUptoRow, standIns := [], harness := (true, "ce08fbcb100e322fd636750da77b3caa6e767f60c752ee1f25a02254e3465982"), looks := false }, kinds := [], alts := [], laidByText := true, laidKinds := [.data, .data, .data], laidTests := true, laidLooks := .later }
def AggOnceUptoCardSaid : Prop := Claim7.holds Tryz.pinned (.plain (OpenSpec.upto aggOnceSpec)) aggOnceUptoCard

/-- THE SECOND FORM's CARD OF 'cardindexlaw08.AggNulls'. -/
def aggNullsUptoCard : Claim7 := { stood := { row := aggNullsUptoRow, standIns := [], harness := (true, "ce08fbcb100e322fd636750da77b3caa6e767f60c752ee1f25a02254e3465982"), looks := false }, kinds := [], alts := [], laidByText := true, laidKinds := [.data, .data, .data], laidTests := true, laidLooks := .later }
def AggNullsUptoCardSaid : Prop := Claim7.holds Tryz.pinned (.plain (OpenSpec.upto aggNullsSpec)) aggNullsUptoCard

/-- THE SECOND FORM's CARD OF 'cardindexlaw08.AggAgain'. -/
def aggAgainUptoCard : Claim7 := { stood := { row := aggAgainUptoRow, standIns := [], harness := (true, "ce08fbcb100e322fd636750da77b3caa6e767f60c752ee1f25a02254e3465982"), looks := false }, kinds := [], alts := [], laidByText := true, laidKinds := [.data, .data, .data], laidTests := true, laidLooks := .later }
def AggAgainUptoCardSaid : Prop := Claim7.holds Tryz.pinned (.plain (OpenSpec.upto aggAgainSpec)) aggAgainUptoCard
end Rows
end Go.Proofs.YtceknmibopnmhaaGreatDoor
