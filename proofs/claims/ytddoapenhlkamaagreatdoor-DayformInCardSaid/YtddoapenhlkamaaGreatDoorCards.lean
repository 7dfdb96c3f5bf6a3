/-
  DERIVED. GIVEN WITH THE SEED: THE CARDS: each row of YtddoapenhlkamaaGreatDoorRows.lean that lists a variable, with what it lists TIED to the program's text (the seventh form; the later family's looks); each row that meets fmt, with fmt's text TOLD by the authors' own Lean function (tested against real Go, not proved from fmt's source: count such statements apart). THE CARD IS WHAT COUNTS. Prove the row's statement (the work); the ties are given (YtddoapenhlkamaaGreatDoorTie.lean); close each card by the builder's one call (the guide's Derived/Test/ToyasCard.lean, 'card_holds'). Laid BY PROGRAM, IN A SANDBOX (cutbox-door.mjs). By AI agents, Wed Nov 11 2026. No macro, syntax, notation, axiom, sorry.
-/
import Derived.Test.YtddoapenhlkamaaGreatDoorRows
import GoSem.ClaimSeven
namespace Go.Proofs.YtddoapenhlkamaaGreatDoor
namespace Rows

/-- THE TIED CARD OF 'meridianlaw08.DayformTexts'. -/
def dayformTextsCard : Claim7 := { stood := { row := dayformTextsRow, standIns := [], harness := (true, "d591f1bf35d7587051bbe967d8a7e495634fca9113e86ec41569e94aeb0b3710"), looks := true }, kinds := [], alts := [], laidByText := true, laidKinds := [.data, .data, .data, .data, .sentinel, .sentinel, .data, .data, .data, .pinned, .pinned], laidTests := true, laidLooks := .later }
def DayformTextsCardSaid : Prop := Claim7.holds Tryz.pinned (.plain (OpenSpec.ofChange dayformTextsSpec)) dayformTextsCard

/-- THE TIED CARD OF 'meridianlaw08.DayformParses'. -/
def dayformParsesCard : Claim7 := { stood := { row := dayformParsesRow, standIns := [], harness := (true, "d591f1bf35d7587051bbe967d8a7e495634fca9113e86ec41569e94aeb0b3710"), looks := true }, kinds := [], alts := [], laidByText := true, laidKinds := [.data, .data, .data, .data, .sentinel, .sentinel, .data, .data, .data, .pinned, .pinned], laidTests := true, laidLooks := .later }
def DayformParsesCardSaid : Prop := Claim7.holds Tryz.pinned (.plain (OpenSpec.ofChange dayformParsesSpec)) dayformParsesCard

/-- THE TIED CARD OF 'meridianlaw08.DayformIn'. -/
def dayformInCard : Claim7 := { stood := { row := dayformInRow, standIns := [], harness := (true, "d591f1bf35d7587051bbe967d8a7e495634fca9113e86ec41569e94aeb0b3710"), looks := true }, kinds := [], alts := [], laidByText := true, laidKinds := [.data, .data, .data, .data, .sentinel, .sentinel, .data, .data, .data, .pinned, .pinned], laidTests := true, laidLooks := .later }
def DayformInCardSaid : Prop := Claim7.holds Tryz.pinned (.plain (OpenSpec.ofChange dayformInSpec)) dayformInCard

/-- THE SECOND FORM's CARD OF 'meridianlaw08.DayformTexts'. -/
def dayformTextsUptoCard : Claim7 := { stood := { row := dayformTextsUptoRow, standIns := [], harness := (true, "d591f1bf35d7587051bbe967d8a7e495634fca9113e86ec41569e94aeb0b3710"), looks := true }, kinds := [], alts := [], laidByText := true, laidKinds := [.data, .data, .data, .data, .sentinel, .sentinel, .data, .data, .data, .pinned, .pinned], laidTests := true, laidLooks := .later }
def DayformTextsUptoCardSaid : Prop := Claim7.holds Tryz.pinned (.plain (OpenSpec.upto dayformTextsSpec)) dayformTextsUptoCard

/-- THE SECOND FORM's CARD OF 'meridianlaw08.DayformParses'. -/
def dayformParsesUptoCard : Claim7 := { stood := { row := dayformParsesUptoRow, standIns := [], harness := (true, "d591f1bf35d7587051bbe967d8a7e495634fca9113e86ec41569e94aeb0b3710"), looks := true }, kinds := [], alts := [], laidByText := true, laidKinds := [.data, .data, .data, .data, .sentinel, .sentinel, .data, .data, .data, .pinned, .pinned], laidTests := true, laidLooks := .later }
def DayformParsesUptoCardSaid : Prop := Claim7.holds Tryz.pinned (.plain (OpenSpec.upto dayformParsesSpec)) dayformParsesUptoCard

/-- THE SECOND FORM's CARD OF 'meridianlaw08.DayformIn'. -/
def dayformInUptoCard : Claim7 := { stood := { row := dayformInUptoRow, standIns := [], harness := (true, "d591f1bf35d7587051bbe967d8a7e495634fca9113e86ec41569e94aeb0b3710"), looks := true }, kinds := [], alts := [], laidByText := true, laidKinds := [.data, .data, .data, .data, .sentinel, .sentinel, .data, .data, .data, .pinned, .pinned], laidTests := true, laidLooks := .later }
def DayformInUptoCardSaid : Prop := Claim7.holds Tryz.pinned (.plain (OpenSpec.upto dayformInSpec)) dayformInUptoCard
end Rows
end Go.Proofs.YtddoapenhlkamaaGreatDoor
