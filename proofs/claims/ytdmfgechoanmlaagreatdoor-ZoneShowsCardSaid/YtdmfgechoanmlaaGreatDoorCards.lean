/-
  DERIVED. GIVEN WITH THE SEED: THE CARDS: each row of YtdmfgechoanmlaaGreatDoorRows.lean that lists a variable, with what it lists TIED to the program's text (the seventh form; the later family's looks); each row that meets fmt, with fmt's text TOLD by the authors' own Lean function (tested against real Go, not proved from fmt's source: count such statements apart). THE CARD IS WHAT COUNTS. Prove the row's statement (the work); the ties are given (YtdmfgechoanmlaaGreatDoorTie.lean); close each card by the builder's one call (the guide's Derived/Test/ToyasCard.lean, 'card_holds'). Laid BY PROGRAM, IN A SANDBOX (cutbox-door.mjs). By AI agents, Wed Nov 11 2026. No macro, syntax, notation, axiom, sorry.
-/
import Derived.Test.YtdmfgechoanmlaaGreatDoorRows
import GoSem.ClaimSeven
namespace Go.Proofs.YtdmfgechoanmlaaGreatDoor
namespace Rows

/-- THE TIED CARD OF 'meridianlaw13.ZoneShows'. -/
def zoneShowsCard : Claim7 := { stood := { row := zoneShowsRow, standIns := [], harness := (true, "5a08707c53901eff91c4d68171096d099de83531282676b8da1474dca52a8014"), looks := false }, kinds := [], alts := [], laidByText := true, laidKinds := [.data, .data], laidTests := true, laidLooks := .later }
def ZoneShowsCardSaid : Prop := Claim7.holds Tryz.pinned (.plain (OpenSpec.ofChange zoneShowsSpec)) zoneShowsCard

/-- THE TIED CARD OF 'meridianlaw13.ZoneParts'. -/
def zonePartsCard : Claim7 := { stood := { row := zonePartsRow, standIns := [], harness := (true, "5a08707c53901eff91c4d68171096d099de83531282676b8da1474dca52a8014"), looks := false }, kinds := [], alts := [], laidByText := true, laidKinds := [.data, .data], laidTests := true, laidLooks := .later }
def ZonePartsCardSaid : Prop := Claim7.holds Tryz.pinned (.plain (OpenSpec.ofChange zonePartsSpec)) zonePartsCard

/-- THE TIED CARD OF 'meridianlaw14.TableFinds'. -/
def tableFindsCard : Claim7 := { stood := { row := tableFindsRow, standIns := [], harness := (true, "5a08707c53901eff91c4d68171096d099de83531282676b8da1474dca52a8014"), looks := false }, kinds := [], alts := [], laidByText := true, laidKinds := [.data, .data], laidTests := true, laidLooks := .later }
def TableFindsCardSaid : Prop := Claim7.holds Tryz.pinned (.plain (OpenSpec.ofChange tableFindsSpec)) tableFindsCard

/-- THE SECOND FORM's CARD OF 'meridianlaw13.ZoneShows'. -/
def zoneShowsUptoCard : Claim7 := { stood := { row := zoneShowsUptoRow, standIns := [], harness := (true, "5a08707c53901eff91c4d68171096d099de83531282676b8da1474dca52a8014"), looks := false }, kinds := [], alts := [], laidByText := true, laidKinds := [.data, .data], laidTests := true, laidLooks := .later }
def ZoneShowsUptoCardSaid : Prop := Claim7.holds Tryz.pinned (.plain (OpenSpec.upto zoneShowsSpec)) zoneShowsUptoCard

/-- THE SECOND FORM's CARD OF 'meridianlaw13.ZoneParts'. -/
def zonePartsUptoCard : Claim7 := { stood := { row := zonePartsUptoRow, standIns := [], harness := (true, "5a08707c53901eff91c4d68171096d099de83531282676b8da1474dca52a8014"), looks := false }, kinds := [], alts := [], laidByText := true, laidKinds := [.data, .data], laidTests := true, laidLooks := .later }
def ZonePartsUptoCardSaid : Prop := Claim7.holds Tryz.pinned (.plain (OpenSpec.upto zonePartsSpec)) zonePartsUptoCard

/-- THE SECOND FORM's CARD OF 'meridianlaw14.TableFinds'. -/
def tableFindsUptoCard : Claim7 := { stood := { row := tableFindsUptoRow, standIns := [], harness := (true, "5a08707c53901eff91c4d68171096d099de83531282676b8da1474dca52a8014"), looks := false }, kinds := [], alts := [], laidByText := true, laidKinds := [.data, .data], laidTests := true, laidLooks := .later }
def TableFindsUptoCardSaid : Prop := Claim7.holds Tryz.pinned (.plain (OpenSpec.upto tableFindsSpec)) tableFindsUptoCard
end Rows
end Go.Proofs.YtdmfgechoanmlaaGreatDoor
