/-
  DERIVED. GIVEN WITH THE SEED: THE CARDS: each row of YtcfmmllegaddhaaDoorRows.lean that lists a variable, with what it lists TIED to the program's text (the seventh form; the later family's looks); each row that meets fmt, with fmt's text TOLD by the authors' own Lean function (tested against real Go, not proved from fmt's source: count such statements apart). THE CARD IS WHAT COUNTS. Prove the row's statement (the work); the ties are given (YtcfmmllegaddhaaDoorTie.lean); close each card by the builder's one call (the guide's Derived/Test/ToyasCard.lean, 'card_holds'). Laid BY PROGRAM, IN A SANDBOX (cutbox-door.mjs). By AI agents, Wed Nov 11 2026. No macro, syntax, notation, axiom, sorry.
-/
import Derived.Test.YtcfmmllegaddhaaDoorRows
import GoSem.ClaimSeven
namespace Go.Proofs.YtcfmmllegaddhaaDoor
namespace Rows

/-- THE TIED CARD OF 'meridianlaw12.AbbrKinds'. -/
def abbrKindsCard : Claim7 := { stood := { row := abbrKindsRow, standIns := [], harness := (true, "bed23a2b444ff762cb1ab7f7de4cf5fa2b4d5ac2d2e4df8fbe41d66cf8ea37ed"), looks := false }, kinds := [], alts := [], laidByText := true, laidKinds := [.data], laidTests := true, laidLooks := .later }
def AbbrKindsCardSaid : Prop := Claim7.holds Tryd.pinned (.plain (OpenSpec.ofChange abbrKindsSpec)) abbrKindsCard

/-- THE TIED CARD OF 'meridianlaw12.AbbrOffsets'. -/
def abbrOffsetsCard : Claim7 := { stood := { row := abbrOffsetsRow, standIns := [], harness := (true, "bed23a2b444ff762cb1ab7f7de4cf5fa2b4d5ac2d2e4df8fbe41d66cf8ea37ed"), looks := false }, kinds := [], alts := [], laidByText := true, laidKinds := [.data], laidTests := true, laidLooks := .later }
def AbbrOffsetsCardSaid : Prop := Claim7.holds Tryd.pinned (.plain (OpenSpec.ofChange abbrOffsetsSpec)) abbrOffsetsCard

/-- THE TIED CARD OF 'meridianlaw12.AbbrShows'. -/
def abbrShowsCard : Claim7 := { stood := { row := abbrShowsRow, standIns := [], harness := (true, "bed23a2b444ff762cb1ab7f7de4cf5fa2b4d5ac2d2e4df8fbe41d66cf8ea37ed"), looks := false }, kinds := [], alts := [], laidByText := true, laidKinds := [.data], laidTests := true, laidLooks := .later }
def AbbrShowsCardSaid : Prop := Claim7.holds Tryd.pinned (.plain (OpenSpec.ofChange abbrShowsSpec)) abbrShowsCard

/-- THE TIED CARD OF 'meridianlaw12.AbbrBack'. -/
def abbrBackCard : Claim7 := { stood := { row := abbrBackRow, standIns := [], harness := (true, "bed23a2b444ff762cb1ab7f7de4cf5fa2b4d5ac2d2e4df8fbe41d66cf8ea37ed"), looks := false }, kinds := [], alts := [], laidByText := true, laidKinds := [.data], laidTests := true, laidLooks := .later }
def AbbrBackCardSaid : Prop := Claim7.holds Tryd.pinned (.plain (OpenSpec.ofChange abbrBackSpec)) abbrBackCard

/-- THE TIED CARD OF 'meridianlaw12.AbbrCounts'. -/
def abbrCountsCard : Claim7 := { stood := { row := abbrCountsRow, standIns := [], harness := (true, "bed23a2b444ff762cb1ab7f7de4cf5fa2b4d5ac2d2e4df8fbe41d66cf8ea37ed"), looks := false }, kinds := [], alts := [], laidByText := true, laidKinds := [.data], laidTests := true, laidLooks := .later }
def AbbrCountsCardSaid : Prop := Claim7.holds Tryd.pinned (.plain (OpenSpec.ofChange abbrCountsSpec)) abbrCountsCard

/-- THE TIED CARD OF 'meridianlaw12.AbbrGoes'. -/
def abbrGoesCard : Claim7 := { stood := { row := abbrGoesRow, standIns := [], harness := (true, "bed23a2b444ff762cb1ab7f7de4cf5fa2b4d5ac2d2e4df8fbe41d66cf8ea37ed"), looks := false }, kinds := [], alts := [], laidByText := true, laidKinds := [.data], laidTests := true, laidLooks := .later }
def AbbrGoesCardSaid : Prop := Claim7.holds Tryd.pinned (.plain (OpenSpec.ofChange abbrGoesSpec)) abbrGoesCard

/-- THE TIED CARD OF 'meridianlaw12.AbbrSigns'. -/
def abbrSignsCard : Claim7 := { stood := { row := abbrSignsRow, standIns := [], harness := (true, "bed23a2b444ff762cb1ab7f7de4cf5fa2b4d5ac2d2e4df8fbe41d66cf8ea37ed"), looks := false }, kinds := [], alts := [], laidByText := true, laidKinds := [.data], laidTests := true, laidLooks := .later }
def AbbrSignsCardSaid : Prop := Claim7.holds Tryd.pinned (.plain (OpenSpec.ofChange abbrSignsSpec)) abbrSignsCard

/-- THE SECOND FORM's CARD OF 'meridianlaw12.AbbrKinds'. -/
def abbrKindsUptoCard : Claim7 := { stood := { row := abbrKindsUptoRow, standIns := [], harness := (true, "bed23a2b444ff762cb1ab7f7de4cf5fa2b4d5ac2d2e4df8fbe41d66cf8ea37ed"), looks := false }, kinds := [], alts := [], laidByText := true, laidKinds := [.data], laidTests := true, laidLooks := .later }
def AbbrKindsUptoCardSaid : Prop := Claim7.holds Tryd.pinned (.plain (OpenSpec.upto abbrKindsSpec)) abbrKindsUptoCard

/-- THE SECOND FORM's CARD OF 'meridianlaw12.AbbrOffsets'. -/
def abbrOffsetsUptoCard : Claim7 := { stood := { row := abbrOffsetsUptoRow, standIns := [], harness := (true, "bed23a2b444ff762cb1ab7f7de4cf5fa2b4d5ac2d2e4df8fbe41d66cf8ea37ed"), looks := false }, kinds := [], alts := [], laidByText := true, laidKinds := [.data], laidTests := true, laidLooks := .later }
def AbbrOffsetsUptoCardSaid : Prop := Claim7.holds Tryd.pinned (.plain (OpenSpec.upto abbrOffsetsSpec)) abbrOffsetsUptoCard

/-- THE SECOND FORM's CARD OF 'meridianlaw12.AbbrShows'. -/
def abbrShowsUptoCard : Claim7 := { stood := { row := abbrShowsUptoRow, standIns := [], harness := (true, "bed23a2b444ff762cb1ab7f7de4cf5fa2b4d5ac2d2e4df8fbe41d66cf8ea37ed"), looks := false }, kinds := [], alts := [], laidByText := true, laidKinds := [.data], laidTests := true, laidLooks := .later }
def AbbrShowsUptoCardSaid : Prop := Claim7.holds Tryd.pinned (.plain (OpenSpec.upto abbrShowsSpec)) abbrShowsUptoCard

/-- THE SECOND FORM's CARD OF 'meridianlaw12.AbbrBack'. -/
def abbrBackUptoCard : Claim7 := { stood := { row := abbrBackUptoRow, standIns := [], harness := (true, "bed23a2b444ff762cb1ab7f7de4cf5fa2b4d5ac2d2e4df8fbe41d66cf8ea37ed"), looks := false }, kinds := [], alts := [], laidByText := true, laidKinds := [.data], laidTests := true, laidLooks := .later }
def AbbrBackUptoCardSaid : Prop := Claim7.holds Tryd.pinned (.plain (OpenSpec.upto abbrBackSpec)) abbrBackUptoCard

/-- THE SECOND FORM's CARD OF 'meridianlaw12.AbbrCounts'. -/
def abbrCountsUptoCard : Claim7 := { stood := { row := abbrCountsUptoRow, standIns := [], harness := (true, "bed23a2b444ff762cb1ab7f7de4cf5fa2b4d5ac2d2e4df8fbe41d66cf8ea37ed"), looks := false }, kinds := [], alts := [], laidByText := true, laidKinds := [.data], laidTests := true, laidLooks := .later }
def AbbrCountsUptoCardSaid : Prop := Claim7.holds Tryd.pinned (.plain (OpenSpec.upto abbrCountsSpec)) abbrCountsUptoCard

/-- THE SECOND FORM's CARD OF 'meridianlaw12.AbbrGoes'. -/
def abbrGoesUptoCard : Claim7 := { stood := { row := abbrGoesUptoRow, standIns := [], harness := (true, "bed23a2b444ff762cb1ab7f7de4cf5fa2b4d5ac2d2e4df8fbe41d66cf8ea37ed"), looks := false }, kinds := [], alts := [], laidByText := true, laidKinds := [.data], laidTests := true, laidLooks := .later }
def AbbrGoesUptoCardSaid : Prop := Claim7.holds Tryd.pinned (.plain (OpenSpec.upto abbrGoesSpec)) abbrGoesUptoCard

/-- THE SECOND FORM's CARD OF 'meridianlaw12.AbbrSigns'. -/
def abbrSignsUptoCard : Claim7 := { stood := { row := abbrSignsUptoRow, standIns := [], harness := (true, "bed23a2b444ff762cb1ab7f7de4cf5fa2b4d5ac2d2e4df8fbe41d66cf8ea37ed"), looks := false }, kinds := [], alts := [], laidByText := true, laidKinds := [.data], laidTests := true, laidLooks := .later }
def AbbrSignsUptoCardSaid : Prop := Claim7.holds Tryd.pinned (.plain (OpenSpec.upto abbrSignsSpec)) abbrSignsUptoCard
end Rows
end Go.Proofs.YtcfmmllegaddhaaDoor
