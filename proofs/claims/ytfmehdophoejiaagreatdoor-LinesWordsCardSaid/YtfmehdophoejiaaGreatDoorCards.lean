/-
  DERIVED. GIVEN WITH THE SEED: THE CARDS: each row of YtfmehdophoejiaaGreatDoorRows.lean that lists a variable, with what it lists TIED to the program's text (the seventh form; the later family's looks); each row that meets fmt, with fmt's text TOLD by the authors' own Lean function (tested against real Go, not proved from fmt's source: count such statements apart). THE CARD IS WHAT COUNTS. Prove the row's statement (the work); the ties are given (YtfmehdophoejiaaGreatDoorTie.lean); close each card by the builder's one call (the guide's Derived/Test/ToyasCard.lean, 'card_holds'). Laid BY PROGRAM, IN A SANDBOX (cutbox-door.mjs). By AI agents, Wed Nov 11 2026. No macro, syntax, notation, axiom, sorry.
-/
import Derived.Test.YtfmehdophoejiaaGreatDoorRows
import GoSem.ClaimSeven
namespace Go.Proofs.YtfmehdophoejiaaGreatDoor
namespace Rows

/-- THE TIED CARD OF 'meridianlaw09.LinesNames'. -/
def linesNamesCard : Claim7 := { stood := { row := linesNamesRow, standIns := [], harness := (true, "ad37abf919a6a476bc7f810b85e31f99f1953684754d6f659b754b6ca49ac7e8"), looks := true }, kinds := [], alts := [], laidByText := true, laidKinds := [.data, .data, .data, .data, .sentinel, .sentinel, .data, .data, .data, .data, .data, .data, .data, .pinned, .pinned], laidTests := true, laidLooks := .later }
def LinesNamesCardSaid : Prop := Claim7.holds Tryz.pinned (.plain (OpenSpec.ofChange linesNamesSpec)) linesNamesCard

/-- THE TIED CARD OF 'meridianlaw09.LinesRules'. -/
def linesRulesCard : Claim7 := { stood := { row := linesRulesRow, standIns := [], harness := (true, "ad37abf919a6a476bc7f810b85e31f99f1953684754d6f659b754b6ca49ac7e8"), looks := true }, kinds := [], alts := [], laidByText := true, laidKinds := [.data, .data, .data, .data, .sentinel, .sentinel, .data, .data, .data, .data, .data, .data, .data, .pinned, .pinned], laidTests := true, laidLooks := .later }
def LinesRulesCardSaid : Prop := Claim7.holds Tryz.pinned (.plain (OpenSpec.ofChange linesRulesSpec)) linesRulesCard

/-- THE TIED CARD OF 'meridianlaw09.LinesEras'. -/
def linesErasCard : Claim7 := { stood := { row := linesErasRow, standIns := [], harness := (true, "ad37abf919a6a476bc7f810b85e31f99f1953684754d6f659b754b6ca49ac7e8"), looks := true }, kinds := [], alts := [], laidByText := true, laidKinds := [.data, .data, .data, .data, .sentinel, .sentinel, .data, .data, .data, .data, .data, .data, .data, .pinned, .pinned], laidTests := true, laidLooks := .later }
def LinesErasCardSaid : Prop := Claim7.holds Tryz.pinned (.plain (OpenSpec.ofChange linesErasSpec)) linesErasCard

/-- THE TIED CARD OF 'meridianlaw09.LinesWords'. -/
def linesWordsCard : Claim7 := { stood := { row := linesWordsRow, standIns := [], harness := (true, "ad37abf919a6a476bc7f810b85e31f99f1953684754d6f659b754b6ca49ac7e8"), looks := true }, kinds := [], alts := [], laidByText := true, laidKinds := [.data, .data, .data, .data, .sentinel, .sentinel, .data, .data, .data, .data, .data, .data, .data, .data, .pinned, .pinned], laidTests := true, laidLooks := .later }
def LinesWordsCardSaid : Prop := Claim7.holds Tryz.pinned (.plain (OpenSpec.ofChange linesWordsSpec)) linesWordsCard

/-- THE TIED CARD OF 'meridianlaw09.LinesBack'. -/
def linesBackCard : Claim7 := { stood := { row := linesBackRow, standIns := [], harness := (true, "ad37abf919a6a476bc7f810b85e31f99f1953684754d6f659b754b6ca49ac7e8"), looks := true }, kinds := [], alts := [], laidByText := true, laidKinds := [.data, .data, .data, .data, .sentinel, .sentinel, .data, .data, .data, .data, .data, .data, .data, .data, .pinned, .pinned], laidTests := true, laidLooks := .later }
def LinesBackCardSaid : Prop := Claim7.holds Tryz.pinned (.plain (OpenSpec.ofChange linesBackSpec)) linesBackCard

/-- THE TIED CARD OF 'meridianlaw09.LinesShort'. -/
def linesShortCard : Claim7 := { stood := { row := linesShortRow, standIns := [], harness := (true, "ad37abf919a6a476bc7f810b85e31f99f1953684754d6f659b754b6ca49ac7e8"), looks := true }, kinds := [], alts := [], laidByText := true, laidKinds := [.data, .data, .data, .data, .sentinel, .sentinel, .data, .data, .data, .data, .data, .data, .data, .pinned, .pinned], laidTests := true, laidLooks := .later }
def LinesShortCardSaid : Prop := Claim7.holds Tryz.pinned (.plain (OpenSpec.ofChange linesShortSpec)) linesShortCard

/-- THE TIED CARD OF 'meridianlaw09.LinesApart'. -/
def linesApartCard : Claim7 := { stood := { row := linesApartRow, standIns := [], harness := (true, "ad37abf919a6a476bc7f810b85e31f99f1953684754d6f659b754b6ca49ac7e8"), looks := true }, kinds := [], alts := [], laidByText := true, laidKinds := [.data, .data, .data, .data, .sentinel, .sentinel, .data, .data, .data, .data, .data, .data, .data, .pinned, .pinned], laidTests := true, laidLooks := .later }
def LinesApartCardSaid : Prop := Claim7.holds Tryz.pinned (.plain (OpenSpec.ofChange linesApartSpec)) linesApartCard

/-- THE SECOND FORM's CARD OF 'meridianlaw09.LinesNames'. -/
def linesNamesUptoCard : Claim7 := { stood := { row := linesNamesUptoRow, standIns := [], harness := (true, "ad37abf919a6a476bc7f810b85e31f99f1953684754d6f659b754b6ca49ac7e8"), looks := true }, kinds := [], alts := [], laidByText := true, laidKinds := [.data, .data, .data, .data, .sentinel, .sentinel, .data, .data, .data, .data, .data, .data, .data, .pinned, .pinned], laidTests := true, laidLooks := .later }
def LinesNamesUptoCardSaid : Prop := Claim7.holds Tryz.pinned (.plain (OpenSpec.upto linesNamesSpec)) linesNamesUptoCard

/-- THE SECOND FORM's CARD OF 'meridianlaw09.LinesRules'. -/
def linesRulesUptoCard : Claim7 := { stood := { row := linesRulesUptoRow, standIns := [], harness := (true, "ad37abf919a6a476bc7f810b85e31f99f1953684754d6f659b754b6ca49ac7e8"), looks := true }, kinds := [], alts := [], laidByText := true, laidKinds := [.data, .data, .data, .data, .sentinel, .sentinel, .data, .data, .data, .data, .data, .data, .data, .pinned, .pinned], laidTests := true, laidLooks := .later }
def LinesRulesUptoCardSaid : Prop := Claim7.holds Tryz.pinned (.plain (OpenSpec.upto linesRulesSpec)) linesRulesUptoCard

/-- THE SECOND FORM's CARD OF 'meridianlaw09.LinesEras'. -/
def linesErasUptoCard : Claim7 := { stood := { row := linesErasUptoRow, standIns := [], harness := (true, "ad37abf919a6a476bc7f810b85e31f99f1953684754d6f659b754b6ca49ac7e8"), looks := true }, kinds := [], alts := [], laidByText := true, laidKinds := [.data, .data, .data, .data, .sentinel, .sentinel, .data, .data, .data, .data, .data, .data, .data, .pinned, .pinned], laidTests := true, laidLooks := .later }
def LinesErasUptoCardSaid : Prop := Claim7.holds Tryz.pinned (.plain (OpenSpec.upto linesErasSpec)) linesErasUptoCard

/-- THE SECOND FORM's CARD OF 'meridianlaw09.LinesWords'. -/
def linesWordsUptoCard : Claim7 := { stood := { row := linesWordsUptoRow, standIns := [], harness := (true, "ad37abf919a6a476bc7f810b85e31f99f1953684754d6f659b754b6ca49ac7e8"), looks := true }, kinds := [], alts := [], laidByText := true, laidKinds := [.data, .data, .data, .data, .sentinel, .sentinel, .data, .data, .data, .data, .data, .data, .data, .data, .pinned, .pinned], laidTests := true, laidLooks := .later }
def LinesWordsUptoCardSaid : Prop := Claim7.holds Tryz.pinned (.plain (OpenSpec.upto linesWordsSpec)) linesWordsUptoCard

/-- THE SECOND FORM's CARD OF 'meridianlaw09.LinesBack'. -/
def linesBackUptoCard : Claim7 := { stood := { row := linesBackUptoRow, standIns := [], harness := (true, "ad37abf919a6a476bc7f810b85e31f99f1953684754d6f659b754b6ca49ac7e8"), looks := true }, kinds := [], alts := [], laidByText := true, laidKinds := [.data, .data, .data, .data, .sentinel, .sentinel, .data, .data, .data, .data, .data, .data, .data, .data, .pinned, .pinned], laidTests := true, laidLooks := .later }
def LinesBackUptoCardSaid : Prop := Claim7.holds Tryz.pinned (.plain (OpenSpec.upto linesBackSpec)) linesBackUptoCard

/-- THE SECOND FORM's CARD OF 'meridianlaw09.LinesShort'. -/
def linesShortUptoCard : Claim7 := { stood := { row := linesShortUptoRow, standIns := [], harness := (true, "ad37abf919a6a476bc7f810b85e31f99f1953684754d6f659b754b6ca49ac7e8"), looks := true }, kinds := [], alts := [], laidByText := true, laidKinds := [.data, .data, .data, .data, .sentinel, .sentinel, .data, .data, .data, .data, .data, .data, .data, .pinned, .pinned], laidTests := true, laidLooks := .later }
def LinesShortUptoCardSaid : Prop := Claim7.holds Tryz.pinned (.plain (OpenSpec.upto linesShortSpec)) linesShortUptoCard

/-- THE SECOND FORM's CARD OF 'meridianlaw09.LinesApart'. -/
def linesApartUptoCard : Claim7 := { stood := { row := linesApartUptoRow, standIns := [], harness := (true, "ad37abf919a6a476bc7f810b85e31f99f1953684754d6f659b754b6ca49ac7e8"), looks := true }, kinds := [], alts := [], laidByText := true, laidKinds := [.data, .data, .data, .data, .sentinel, .sentinel, .data, .data, .data, .data, .data, .data, .data, .pinned, .pinned], laidTests := true, laidLooks := .later }
def LinesApartUptoCardSaid : Prop := Claim7.holds Tryz.pinned (.plain (OpenSpec.upto linesApartSpec)) linesApartUptoCard
end Rows
end Go.Proofs.YtfmehdophoejiaaGreatDoor
