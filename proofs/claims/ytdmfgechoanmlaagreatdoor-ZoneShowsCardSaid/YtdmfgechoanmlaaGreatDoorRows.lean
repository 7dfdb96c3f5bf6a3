/-
  NARROWER THAN 'FOR EVERY INPUT', by the rows' own cells (each row's printed sentence says how): ZoneShows: laid · ZoneParts: laid · TableFinds: laid.
  DERIVED. THE GIVEN ROWS OF THIS SEAT. 3 by the template 'for every input the law returns true; each argument reads behind the call as it read before'; 0 by the template 'total and deterministic' (their statements: YtdmfgechoanmlaaGreatDoorTotals.lean).
  GIVEN WITH THE SEED: the statements are not yours to turn. If you find one false, say at which input.
  Laid BY PROGRAM, IN A SANDBOX (cutbox-rows.mjs): the forced cells as the released guide's own fill.sh prints them over the translation 14b19ac02f9d1990… (all of the seat's roots in one cut). By AI agents, Wed Nov 11 2026. No macro, syntax, notation, axiom, sorry.
-/
import Derived.Test.YtdmfgechoanmlaaGreatDoorChecked
import GoSem.Claim
import GoSem.ClaimJoined
import GoSem.ClaimMapViews
import Derived.JoinedTies
import Derived.KernelRfl
namespace Go.Proofs.YtdmfgechoanmlaaGreatDoor
/- THE CELL 'sum', in the pinned program and in every row, IS THE sha256 OF THE DUMP (.gsa) THAT YtdmfgechoanmlaaGreatDoorProg.lean LOADS. Nothing in Lean hashes anything: it is a label: what it is worth is what the hold of that sum in a sandbox is worth. -/
noncomputable def Tryz.pinned : Pinned := { name := "ytdmfgechoanmlaagreatdoor", sum := "14b19ac02f9d1990d0877c0351c61dcc5bf426bce46f638f7401f2ee135040d4", checked := Tryz.checked }
namespace Rows
def none {H : Type} : Left H := { results := [], args := [] }

/- WHAT THE LISTED PACKAGE-LEVEL VARIABLES READ AS WHEN THE CALL BEGINS. Each datum BY PROGRAM (the guide's laid-datum.mjs) off the statement by which the dump's own 'gosem.cut.vars' lays the variable. In a bare row this is a premise. The card (YtdmfgechoanmlaaGreatDoorCards.lean) ties it to the program's text. -/
def laid_meridian_civil_ahead {H : Type} : DataW H := .agg [.lit (.int .i64 0), .lit (.int .i64 31), .lit (.int .i64 59), .lit (.int .i64 90), .lit (.int .i64 120), .lit (.int .i64 151), .lit (.int .i64 181), .lit (.int .i64 212), .lit (.int .i64 243), .lit (.int .i64 273), .lit (.int .i64 304), .lit (.int .i64 334), .lit (.int .i64 365)]
def laid_meridian_abbr_marks {H : Type} : DataW H := .agg [.lit (.string []), .lit (.string [37, 115]), .lit (.string [37, 122]), .lit (.string [47])]

/-- 'meridianlaw13.ZoneShows': WHATEVER THE INPUT: true; the input reads as it did. -/
def zoneShowsSpec : ChangeSpec := { name := "zoneShows", fn := fun _ => fun
  | [d1, d2] => { results := [.lit (.bool true)], args := [d1, d2] }
  | _ => none }
def zoneShowsRow : OpenClaim := { program := "ytdmfgechoanmlaagreatdoor", sum := "14b19ac02f9d1990d0877c0351c61dcc5bf426bce46f638f7401f2ee135040d4", func := "meridian/meridianlaw13.ZoneShows", spec := "zoneShows", inPlace := ["internal/bytealg.IndexByteString", "internal/bytealg.IndexString"], unfollowed := true, recurses := true, named := ["meridian/abbr.marks", "meridian/civil.ahead", "internal/bytealg.MaxLen"], apart := false, laid := [("meridian/civil.ahead", laid_meridian_civil_ahead), ("meridian/abbr.marks", laid_meridian_abbr_marks)] }
def ZoneShowsSaid : Prop := zoneShowsRow.holds Tryz.pinned (OpenSpec.ofChange zoneShowsSpec)

/-- ITS FALSE NEIGHBOUR: 'it returns false'. Refute it at one input. -/
def zoneShowsWrong : ChangeSpec := { name := "zoneShows", fn := fun _ => fun
  | [d1, d2] => { results := [.lit (.bool false)], args := [d1, d2] }
  | _ => none }
def ZoneShowsWrongFalsely : Prop := zoneShowsRow.holds Tryz.pinned (OpenSpec.ofChange zoneShowsWrong)

/-- 'meridianlaw13.ZoneParts': WHATEVER THE INPUT: true; the input reads as it did. -/
def zonePartsSpec : ChangeSpec := { name := "zoneParts", fn := fun _ => fun
  | [d1, d2, d3] => { results := [.lit (.bool true)], args := [d1, d2, d3] }
  | _ => none }
def zonePartsRow : OpenClaim := { program := "ytdmfgechoanmlaagreatdoor", sum := "14b19ac02f9d1990d0877c0351c61dcc5bf426bce46f638f7401f2ee135040d4", func := "meridian/meridianlaw13.ZoneParts", spec := "zoneParts", inPlace := ["internal/bytealg.IndexByteString", "internal/bytealg.IndexString"], unfollowed := true, recurses := true, named := ["meridian/abbr.marks", "meridian/civil.ahead", "internal/bytealg.MaxLen"], apart := false, laid := [("meridian/civil.ahead", laid_meridian_civil_ahead), ("meridian/abbr.marks", laid_meridian_abbr_marks)] }
def ZonePartsSaid : Prop := zonePartsRow.holds Tryz.pinned (OpenSpec.ofChange zonePartsSpec)

/-- ITS FALSE NEIGHBOUR: 'it returns false'. Refute it at one input. -/
def zonePartsWrong : ChangeSpec := { name := "zoneParts", fn := fun _ => fun
  | [d1, d2, d3] => { results := [.lit (.bool false)], args := [d1, d2, d3] }
  | _ => none }
def ZonePartsWrongFalsely : Prop := zonePartsRow.holds Tryz.pinned (OpenSpec.ofChange zonePartsWrong)

/-- 'meridianlaw14.TableFinds': WHATEVER THE INPUT: true; the input reads as it did. -/
def tableFindsSpec : ChangeSpec := { name := "tableFinds", fn := fun _ => fun
  | [d1, d2] => { results := [.lit (.bool true)], args := [d1, d2] }
  | _ => none }
def tableFindsRow : OpenClaim := { program := "ytdmfgechoanmlaagreatdoor", sum := "14b19ac02f9d1990d0877c0351c61dcc5bf426bce46f638f7401f2ee135040d4", func := "meridian/meridianlaw14.TableFinds", spec := "tableFinds", inPlace := ["internal/bytealg.IndexByteString", "internal/bytealg.IndexString"], unfollowed := true, recurses := true, named := ["meridian/abbr.marks", "meridian/civil.ahead", "internal/bytealg.MaxLen"], apart := false, laid := [("meridian/civil.ahead", laid_meridian_civil_ahead), ("meridian/abbr.marks", laid_meridian_abbr_marks)] }
def TableFindsSaid : Prop := tableFindsRow.holds Tryz.pinned (OpenSpec.ofChange tableFindsSpec)

/-- ITS FALSE NEIGHBOUR: 'it returns false'. Refute it at one input. -/
def tableFindsWrong : ChangeSpec := { name := "tableFinds", fn := fun _ => fun
  | [d1, d2] => { results := [.lit (.bool false)], args := [d1, d2] }
  | _ => none }
def TableFindsWrongFalsely : Prop := tableFindsRow.holds Tryz.pinned (OpenSpec.ofChange tableFindsWrong)

/- THE SECOND FORM. 'bulk': how many values and letters a reading holds, each counted each time it is reached (what is shared counts as often as it is met; a slice's spare places count too). A statement '..UptoSaid' is the law's where the arguments, and the package variables that the reading takes, are together of bulk at most 1048576: NARROWER than '..Said'. Prove '..Said' where nothing that the law and all that it calls make is longer than what came in: it says more and counts as full. Else prove '..UptoSaid'. A law counts once. -/
mutual
def uptoBulk {H : Type} : DataW H → Nat
  | .lit (.string bytes) => bytes.length + 1
  | .lit _ => 1
  | .nil => 1
  | .ptr d => uptoBulk d + 1
  | .slice elems spare => uptoBulkAll elems + uptoBulkAll spare + 1
  | .agg parts => uptoBulkAll parts + 1
  | .iface _ d => uptoBulk d + 1
  | .map entries => uptoBulkEntries entries + 1
  | .held _ => 1
def uptoBulkAll {H : Type} : List (DataW H) → Nat
  | [] => 0
  | d :: r => uptoBulk d + uptoBulkAll r
def uptoBulkEntries {H : Type} : List (Lit × DataW H) → Nat
  | [] => 0
  | x :: r => uptoBulkEntry x + uptoBulkEntries r
def uptoBulkEntry {H : Type} : Lit × DataW H → Nat
  | (.string bytes, d) => bytes.length + uptoBulk d + 1
  | (_, d) => uptoBulk d + 1
 end
def uptoSmall : (H : Type) → List (DataW H) → Bool := fun _ ds => decide (uptoBulkAll ds ≤ 1048576)
def OpenSpec.upto (s : _root_.Go.ChangeSpec) : _root_.Go.OpenSpec := { _root_.Go.OpenSpec.ofChange s with cond := some uptoSmall }

/-- 'meridianlaw13.ZoneShows', WHERE WHAT IT READS IS OF BULK AT MOST 1048576: true; the input reads as it did. -/
def zoneShowsUptoRow : OpenClaim := { program := "ytdmfgechoanmlaagreatdoor", sum := "14b19ac02f9d1990d0877c0351c61dcc5bf426bce46f638f7401f2ee135040d4", func := "meridian/meridianlaw13.ZoneShows", spec := "zoneShows", inPlace := ["internal/bytealg.IndexByteString", "internal/bytealg.IndexString"], unfollowed := true, recurses := true, named := ["meridian/abbr.marks", "meridian/civil.ahead", "internal/bytealg.MaxLen"], apart := false, laid := [("meridian/civil.ahead", laid_meridian_civil_ahead), ("meridian/abbr.marks", laid_meridian_abbr_marks)], narrowed := true }
def ZoneShowsUptoSaid : Prop := zoneShowsUptoRow.holds Tryz.pinned (OpenSpec.upto zoneShowsSpec)

/-- 'meridianlaw13.ZoneParts', WHERE WHAT IT READS IS OF BULK AT MOST 1048576: true; the input reads as it did. -/
def zonePartsUptoRow : OpenClaim := { program := "ytdmfgechoanmlaagreatdoor", sum := "14b19ac02f9d1990d0877c0351c61dcc5bf426bce46f638f7401f2ee135040d4", func := "meridian/meridianlaw13.ZoneParts", spec := "zoneParts", inPlace := ["internal/bytealg.IndexByteString", "internal/bytealg.IndexString"], unfollowed := true, recurses := true, named := ["meridian/abbr.marks", "meridian/civil.ahead", "internal/bytealg.MaxLen"], apart := false, laid := [("meridian/civil.ahead", laid_meridian_civil_ahead), ("meridian/abbr.marks", laid_meridian_abbr_marks)], narrowed := true }
def ZonePartsUptoSaid : Prop := zonePartsUptoRow.holds Tryz.pinned (OpenSpec.upto zonePartsSpec)

/-- 'meridianlaw14.TableFinds', WHERE WHAT IT READS IS OF BULK AT MOST 1048576: true; the input reads as it did. -/
def tableFindsUptoRow : OpenClaim := { program := "ytdmfgechoanmlaagreatdoor", sum := "14b19ac02f9d1990d0877c0351c61dcc5bf426bce46f638f7401f2ee135040d4", func := "meridian/meridianlaw14.TableFinds", spec := "tableFinds", inPlace := ["internal/bytealg.IndexByteString", "internal/bytealg.IndexString"], unfollowed := true, recurses := true, named := ["meridian/abbr.marks", "meridian/civil.ahead", "internal/bytealg.MaxLen"], apart := false, laid := [("meridian/civil.ahead", laid_meridian_civil_ahead), ("meridian/abbr.marks", laid_meridian_abbr_marks)], narrowed := true }
def TableFindsUptoSaid : Prop := tableFindsUptoRow.holds Tryz.pinned (OpenSpec.upto tableFindsSpec)

end Rows
end Go.Proofs.YtdmfgechoanmlaaGreatDoor
