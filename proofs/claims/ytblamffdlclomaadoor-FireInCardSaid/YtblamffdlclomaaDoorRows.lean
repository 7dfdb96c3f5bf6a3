/-
  NARROWER THAN 'FOR EVERY INPUT', by the rows' own cells (each row's printed sentence says how): FireIn: laid · FireCounts: laid.
  DERIVED. THE GIVEN ROWS OF THIS SEAT. 2 by the template 'for every input the law returns true; each argument reads behind the call as it read before'; 0 by the template 'total and deterministic' (their statements: YtblamffdlclomaaDoorTotals.lean).
  GIVEN WITH THE SEED: the statements are not yours to turn. If you find one false, say at which input.
  Laid BY PROGRAM, IN A SANDBOX (cutbox-rows.mjs): the forced cells as the released guide's own fill.sh prints them over the translation 39de961d65bf269f… (all of the seat's roots in one cut). By AI agents, Wed Nov 11 2026. No macro, syntax, notation, axiom, sorry.
-/
import Derived.Test.YtblamffdlclomaaDoorChecked
import GoSem.Claim
import GoSem.ClaimJoined
import GoSem.ClaimMapViews
import Derived.JoinedTies
import Derived.KernelRfl
namespace Go.Proofs.YtblamffdlclomaaDoor
/- THE CELL 'sum', in the pinned program and in every row, IS THE sha256 OF THE DUMP (.gsa) THAT YtblamffdlclomaaDoorProg.lean LOADS. Nothing in Lean hashes anything: it is a label: what it is worth is what the hold of that sum in a sandbox is worth. -/
noncomputable def Tryd.pinned : Pinned := { name := "ytblamffdlclomaadoor", sum := "39de961d65bf269fff0b7b23217f5013dd7b832be69303e6f905dfcfed839010", checked := Tryd.checked }
namespace Rows
def none {H : Type} : Left H := { results := [], args := [] }

/- WHAT THE LISTED PACKAGE-LEVEL VARIABLES READ AS WHEN THE CALL BEGINS. Each datum BY PROGRAM (the guide's laid-datum.mjs) off the statement by which the dump's own 'gosem.cut.vars' lays the variable. In a bare row this is a premise. The card (YtblamffdlclomaaDoorCards.lean) ties it to the program's text. -/
def laid_meridian_civil_ahead {H : Type} : DataW H := .agg [.lit (.int .i64 0), .lit (.int .i64 31), .lit (.int .i64 59), .lit (.int .i64 90), .lit (.int .i64 120), .lit (.int .i64 151), .lit (.int .i64 181), .lit (.int .i64 212), .lit (.int .i64 243), .lit (.int .i64 273), .lit (.int .i64 304), .lit (.int .i64 334), .lit (.int .i64 365)]

/-- 'meridianlaw11.FireIn': WHATEVER THE INPUT: true; the input reads as it did. -/
def fireInSpec : ChangeSpec := { name := "fireIn", fn := fun _ => fun
  | [d1, d2, d3] => { results := [.lit (.bool true)], args := [d1, d2, d3] }
  | _ => none }
def fireInRow : OpenClaim := { program := "ytblamffdlclomaadoor", sum := "39de961d65bf269fff0b7b23217f5013dd7b832be69303e6f905dfcfed839010", func := "meridian/meridianlaw11.FireIn", spec := "fireIn", unfollowed := true, recurses := true, named := ["meridian/civil.ahead"], apart := false, laid := [("meridian/civil.ahead", laid_meridian_civil_ahead)] }
def FireInSaid : Prop := fireInRow.holds Tryd.pinned (OpenSpec.ofChange fireInSpec)

/-- ITS FALSE NEIGHBOUR: 'it returns false'. Refute it at one input. -/
def fireInWrong : ChangeSpec := { name := "fireIn", fn := fun _ => fun
  | [d1, d2, d3] => { results := [.lit (.bool false)], args := [d1, d2, d3] }
  | _ => none }
def FireInWrongFalsely : Prop := fireInRow.holds Tryd.pinned (OpenSpec.ofChange fireInWrong)

/-- 'meridianlaw11.FireCounts': WHATEVER THE INPUT: true; the input reads as it did. -/
def fireCountsSpec : ChangeSpec := { name := "fireCounts", fn := fun _ => fun
  | [d1, d2] => { results := [.lit (.bool true)], args := [d1, d2] }
  | _ => none }
def fireCountsRow : OpenClaim := { program := "ytblamffdlclomaadoor", sum := "39de961d65bf269fff0b7b23217f5013dd7b832be69303e6f905dfcfed839010", func := "meridian/meridianlaw11.FireCounts", spec := "fireCounts", unfollowed := true, recurses := true, named := ["meridian/civil.ahead"], apart := false, laid := [("meridian/civil.ahead", laid_meridian_civil_ahead)] }
def FireCountsSaid : Prop := fireCountsRow.holds Tryd.pinned (OpenSpec.ofChange fireCountsSpec)

/-- ITS FALSE NEIGHBOUR: 'it returns false'. Refute it at one input. -/
def fireCountsWrong : ChangeSpec := { name := "fireCounts", fn := fun _ => fun
  | [d1, d2] => { results := [.lit (.bool false)], args := [d1, d2] }
  | _ => none }
def FireCountsWrongFalsely : Prop := fireCountsRow.holds Tryd.pinned (OpenSpec.ofChange fireCountsWrong)

/- THE SECOND FORM. 'bulk': how many values and letters a reading holds, each counted each time it is reached (what is shared counts as often as it is met; a slice's spare places count too). A statement '..UptoSaid' is the law's where the arguments, and the package variables that the reading takes, are together of bulk at most 1048576: NARROWER than '..Said'. Prove '..Said' where nothing that the law and all that it calls make is longer than what came in: it says more and counts as full. Else prove '..UptoSaid'. A law counts once. -/
mutual
def uptoBulk {H : Type} : DataW H → Nat
  | .lit (.string bytes) => bytes.length + 1
  | .lit _ => 1
  | .nil => 1
  | .ptr d => uptoBulk d + 1
  | .slice elems spare => uptoBulkAll elems + uptoBulkAll spare + 1
  | .agg parts => uptoBulkAll parts + 1
  | .iface _ d => uptoBulk d + 1
  | .map entries => uptoBulkEntries entries + 1
  | .held _ => 1
def uptoBulkAll {H : Type} : List (DataW H) → Nat
  | [] => 0
  | d :: r => uptoBulk d + uptoBulkAll r
def uptoBulkEntries {H : Type} : List (Lit × DataW H) → Nat
  | [] => 0
  | x :: r => uptoBulkEntry x + uptoBulkEntries r
def uptoBulkEntry {H : Type} : Lit × DataW H → Nat
  | (.string bytes, d) => bytes.length + uptoBulk d + 1
  | (_, d) => uptoBulk d + 1
 end
def uptoSmall : (H : Type) → List (DataW H) → Bool := fun _ ds => decide (uptoBulkAll ds ≤ 1048576)
def OpenSpec.upto (s : _root_.Go.ChangeSpec) : _root_.Go.OpenSpec := { _root_.Go.OpenSpec.ofChange s with cond := some uptoSmall }

/-- 'meridianlaw11.FireIn', WHERE WHAT IT READS IS OF BULK AT MOST 1048576: true; the input reads as it did. -/
def fireInUptoRow : OpenClaim := { program := "ytblamffdlclomaadoor", sum := "39de961d65bf269fff0b7b23217f5013dd7b832be69303e6f905dfcfed839010", func := "meridian/meridianlaw11.FireIn", spec := "fireIn", unfollowed := true, recurses := true, named := ["meridian/civil.ahead"], apart := false, laid := [("meridian/civil.ahead", laid_meridian_civil_ahead)], narrowed := true }
def FireInUptoSaid : Prop := fireInUptoRow.holds Tryd.pinned (OpenSpec.upto fireInSpec)

/-- 'meridianlaw11.FireCounts', WHERE WHAT IT READS IS OF BULK AT MOST 1048576: true; the input reads as it did. -/
def fireCountsUptoRow : OpenClaim := { program := "ytblamffdlclomaadoor", sum := "39de961d65bf269fff0b7b23217f5013dd7b832be69303e6f905dfcfed839010", func := "meridian/meridianlaw11.FireCounts", spec := "fireCounts", unfollowed := true, recurses := true, named := ["meridian/civil.ahead"], apart := false, laid := [("meridian/civil.ahead", laid_meridian_civil_ahead)], narrowed := true }
def FireCountsUptoSaid : Prop := fireCountsUptoRow.holds Tryd.pinned (OpenSpec.upto fireCountsSpec)

end Rows
end Go.Proofs.YtblamffdlclomaaDoor
