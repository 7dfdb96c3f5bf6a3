/-
  NARROWER THAN 'FOR EVERY INPUT', by the rows' own cells (each row's printed sentence says how): AbbrKinds: laid · AbbrOffsets: laid · AbbrShows: laid · AbbrBack: laid · AbbrCounts: laid · AbbrGoes: laid · AbbrSigns: laid.
  DERIVED. THE GIVEN ROWS OF THIS SEAT. 7 by the template 'for every input the law returns true; each argument reads behind the call as it read before'; 0 by the template 'total and deterministic' (their statements: YtcfmmllegaddhaaDoorTotals.lean).
  GIVEN WITH THE SEED: the statements are not yours to turn. If you find one false, say at which input.
  Laid BY PROGRAM, IN A SANDBOX (cutbox-rows.mjs): the forced cells as the released guide's own fill.sh prints them over the translation 0280424e08635577… (all of the seat's roots in one cut). By AI agents, Wed Nov 11 2026. No macro, syntax, notation, axiom, sorry.
-/
import Derived.Test.YtcfmmllegaddhaaDoorChecked
import GoSem.Claim
import GoSem.ClaimJoined
import GoSem.ClaimMapViews
import Derived.JoinedTies
import Derived.KernelRfl
namespace Go.Proofs.YtcfmmllegaddhaaDoor
/- THE CELL 'sum', in the pinned program and in every row, IS THE sha256 OF THE DUMP (.gsa) THAT YtcfmmllegaddhaaDoorProg.lean LOADS. Nothing in Lean hashes anything: it is a label: what it is worth is what the hold of that sum in a sandbox is worth. -/
noncomputable def Tryd.pinned : Pinned := { name := "ytcfmmllegaddhaadoor", sum := "0280424e08635577a5eeec01fa2fc348f48216332ebd7c3da80173c74faf6987", checked := Tryd.checked }
namespace Rows
def none {H : Type} : Left H := { results := [], args := [] }

/- WHAT THE LISTED PACKAGE-LEVEL VARIABLES READ AS WHEN THE CALL BEGINS. Each datum BY PROGRAM (the guide's laid-datum.mjs) off the statement by which the dump's own 'gosem.cut.vars' lays the variable. In a bare row this is a premise. The card (YtcfmmllegaddhaaDoorCards.lean) ties it to the program's text. -/
def laid_meridian_abbr_marks {H : Type} : DataW H := .agg [.lit (.string []), .lit (.string [37, 115]), .lit (.string [37, 122]), .lit (.string [47])]

/-- 'meridianlaw12.AbbrKinds': WHATEVER THE INPUT: true; the input reads as it did. -/
def abbrKindsSpec : ChangeSpec := { name := "abbrKinds", fn := fun _ => fun
  | [d] => { results := [.lit (.bool true)], args := [d] }
  | _ => none }
def abbrKindsRow : OpenClaim := { program := "ytcfmmllegaddhaadoor", sum := "0280424e08635577a5eeec01fa2fc348f48216332ebd7c3da80173c74faf6987", func := "meridian/meridianlaw12.AbbrKinds", spec := "abbrKinds", inPlace := ["internal/bytealg.IndexByteString", "internal/bytealg.IndexString"], named := ["meridian/abbr.marks", "internal/bytealg.MaxLen"], apart := false, laid := [("meridian/abbr.marks", laid_meridian_abbr_marks)] }
def AbbrKindsSaid : Prop := abbrKindsRow.holds Tryd.pinned (OpenSpec.ofChange abbrKindsSpec)

/-- ITS FALSE NEIGHBOUR: 'it returns false'. Refute it at one input. -/
def abbrKindsWrong : ChangeSpec := { name := "abbrKinds", fn := fun _ => fun
  | [d] => { results := [.lit (.bool false)], args := [d] }
  | _ => none }
def AbbrKindsWrongFalsely : Prop := abbrKindsRow.holds Tryd.pinned (OpenSpec.ofChange abbrKindsWrong)

/-- 'meridianlaw12.AbbrOffsets': WHATEVER THE INPUT: true; the input reads as it did. -/
def abbrOffsetsSpec : ChangeSpec := { name := "abbrOffsets", fn := fun _ => fun
  | [d1, d2] => { results := [.lit (.bool true)], args := [d1, d2] }
  | _ => none }
def abbrOffsetsRow : OpenClaim := { program := "ytcfmmllegaddhaadoor", sum := "0280424e08635577a5eeec01fa2fc348f48216332ebd7c3da80173c74faf6987", func := "meridian/meridianlaw12.AbbrOffsets", spec := "abbrOffsets", inPlace := ["internal/bytealg.IndexByteString", "internal/bytealg.IndexString"], named := ["meridian/abbr.marks", "internal/bytealg.MaxLen"], apart := false, laid := [("meridian/abbr.marks", laid_meridian_abbr_marks)] }
def AbbrOffsetsSaid : Prop := abbrOffsetsRow.holds Tryd.pinned (OpenSpec.ofChange abbrOffsetsSpec)

/-- ITS FALSE NEIGHBOUR: 'it returns false'. Refute it at one input. -/
def abbrOffsetsWrong : ChangeSpec := { name := "abbrOffsets", fn := fun _ => fun
  | [d1, d2] => { results := [.lit (.bool false)], args := [d1, d2] }
  | _ => none }
def AbbrOffsetsWrongFalsely : Prop := abbrOffsetsRow.holds Tryd.pinned (OpenSpec.ofChange abbrOffsetsWrong)

/-- 'meridianlaw12.AbbrShows': WHATEVER THE INPUT: true; the input reads as it did. -/
def abbrShowsSpec : ChangeSpec := { name := "abbrShows", fn := fun _ => fun
  | [d1, d2, d3] => { results := [.lit (.bool true)], args := [d1, d2, d3] }
  | _ => none }
def abbrShowsRow : OpenClaim := { program := "ytcfmmllegaddhaadoor", sum := "0280424e08635577a5eeec01fa2fc348f48216332ebd7c3da80173c74faf6987", func := "meridian/meridianlaw12.AbbrShows", spec := "abbrShows", inPlace := ["internal/bytealg.IndexByteString", "internal/bytealg.IndexString"], named := ["meridian/abbr.marks", "internal/bytealg.MaxLen"], apart := false, laid := [("meridian/abbr.marks", laid_meridian_abbr_marks)] }
def AbbrShowsSaid : Prop := abbrShowsRow.holds Tryd.pinned (OpenSpec.ofChange abbrShowsSpec)

/-- ITS FALSE NEIGHBOUR: 'it returns false'. Refute it at one input. -/
def abbrShowsWrong : ChangeSpec := { name := "abbrShows", fn := fun _ => fun
  | [d1, d2, d3] => { results := [.lit (.bool false)], args := [d1, d2, d3] }
  | _ => none }
def AbbrShowsWrongFalsely : Prop := abbrShowsRow.holds Tryd.pinned (OpenSpec.ofChange abbrShowsWrong)

/-- 'meridianlaw12.AbbrBack': WHATEVER THE INPUT: true; the input reads as it did. -/
def abbrBackSpec : ChangeSpec := { name := "abbrBack", fn := fun _ => fun
  | [d1, d2, d3] => { results := [.lit (.bool true)], args := [d1, d2, d3] }
  | _ => none }
def abbrBackRow : OpenClaim := { program := "ytcfmmllegaddhaadoor", sum := "0280424e08635577a5eeec01fa2fc348f48216332ebd7c3da80173c74faf6987", func := "meridian/meridianlaw12.AbbrBack", spec := "abbrBack", inPlace := ["internal/bytealg.IndexByteString", "internal/bytealg.IndexString"], named := ["meridian/abbr.marks", "internal/bytealg.MaxLen"], apart := false, laid := [("meridian/abbr.marks", laid_meridian_abbr_marks)] }
def AbbrBackSaid : Prop := abbrBackRow.holds Tryd.pinned (OpenSpec.ofChange abbrBackSpec)

/-- ITS FALSE NEIGHBOUR: 'it returns false'. Refute it at one input. -/
def abbrBackWrong : ChangeSpec := { name := "abbrBack", fn := fun _ => fun
  | [d1, d2, d3] => { results := [.lit (.bool false)], args := [d1, d2, d3] }
  | _ => none }
def AbbrBackWrongFalsely : Prop := abbrBackRow.holds Tryd.pinned (OpenSpec.ofChange abbrBackWrong)

/-- 'meridianlaw12.AbbrCounts': WHATEVER THE INPUT: true; the input reads as it did. -/
def abbrCountsSpec : ChangeSpec := { name := "abbrCounts", fn := fun _ => fun
  | [d1, d2, d3] => { results := [.lit (.bool true)], args := [d1, d2, d3] }
  | _ => none }
def abbrCountsRow : OpenClaim := { program := "ytcfmmllegaddhaadoor", sum := "0280424e08635577a5eeec01fa2fc348f48216332ebd7c3da80173c74faf6987", func := "meridian/meridianlaw12.AbbrCounts", spec := "abbrCounts", inPlace := ["internal/bytealg.IndexByteString", "internal/bytealg.IndexString"], named := ["meridian/abbr.marks", "internal/bytealg.MaxLen"], apart := false, laid := [("meridian/abbr.marks", laid_meridian_abbr_marks)] }
def AbbrCountsSaid : Prop := abbrCountsRow.holds Tryd.pinned (OpenSpec.ofChange abbrCountsSpec)

/-- ITS FALSE NEIGHBOUR: 'it returns false'. Refute it at one input. -/
def abbrCountsWrong : ChangeSpec := { name := "abbrCounts", fn := fun _ => fun
  | [d1, d2, d3] => { results := [.lit (.bool false)], args := [d1, d2, d3] }
  | _ => none }
def AbbrCountsWrongFalsely : Prop := abbrCountsRow.holds Tryd.pinned (OpenSpec.ofChange abbrCountsWrong)

/-- 'meridianlaw12.AbbrGoes': WHATEVER THE INPUT: true; the input reads as it did. -/
def abbrGoesSpec : ChangeSpec := { name := "abbrGoes", fn := fun _ => fun
  | [d1, d2, d3] => { results := [.lit (.bool true)], args := [d1, d2, d3] }
  | _ => none }
def abbrGoesRow : OpenClaim := { program := "ytcfmmllegaddhaadoor", sum := "0280424e08635577a5eeec01fa2fc348f48216332ebd7c3da80173c74faf6987", func := "meridian/meridianlaw12.AbbrGoes", spec := "abbrGoes", inPlace := ["internal/bytealg.IndexByteString", "internal/bytealg.IndexString"], unfollowed := true, recurses := true, named := ["meridian/abbr.marks", "internal/bytealg.MaxLen"], apart := false, laid := [("meridian/abbr.marks", laid_meridian_abbr_marks)] }
def AbbrGoesSaid : Prop := abbrGoesRow.holds Tryd.pinned (OpenSpec.ofChange abbrGoesSpec)

/-- ITS FALSE NEIGHBOUR: 'it returns false'. Refute it at one input. -/
def abbrGoesWrong : ChangeSpec := { name := "abbrGoes", fn := fun _ => fun
  | [d1, d2, d3] => { results := [.lit (.bool false)], args := [d1, d2, d3] }
  | _ => none }
def AbbrGoesWrongFalsely : Prop := abbrGoesRow.holds Tryd.pinned (OpenSpec.ofChange abbrGoesWrong)

/-- 'meridianlaw12.AbbrSigns': WHATEVER THE INPUT: true; the input reads as it did. -/
def abbrSignsSpec : ChangeSpec := { name := "abbrSigns", fn := fun _ => fun
  | [d] => { results := [.lit (.bool true)], args := [d] }
  | _ => none }
def abbrSignsRow : OpenClaim := { program := "ytcfmmllegaddhaadoor", sum := "0280424e08635577a5eeec01fa2fc348f48216332ebd7c3da80173c74faf6987", func := "meridian/meridianlaw12.AbbrSigns", spec := "abbrSigns", inPlace := ["internal/bytealg.IndexByteString", "internal/bytealg.IndexString"], named := ["meridian/abbr.marks", "internal/bytealg.MaxLen"], apart := false, laid := [("meridian/abbr.marks", laid_meridian_abbr_marks)] }
def AbbrSignsSaid : Prop := abbrSignsRow.holds Tryd.pinned (OpenSpec.ofChange abbrSignsSpec)

/-- ITS FALSE NEIGHBOUR: 'it returns false'. Refute it at one input. -/
def abbrSignsWrong : ChangeSpec := { name := "abbrSigns", fn := fun _ => fun
  | [d] => { results := [.lit (.bool false)], args := [d] }
  | _ => none }
def AbbrSignsWrongFalsely : Prop := abbrSignsRow.holds Tryd.pinned (OpenSpec.ofChange abbrSignsWrong)

/- THE SECOND FORM. 'bulk': how many values and letters a reading holds, each counted each time it is reached (what is shared counts as often as it is met; a slice's spare places count too). A statement '..UptoSaid' is the law's where the arguments, and the package variables that the reading takes, are together of bulk at most 1048576: NARROWER than '..Said'. Prove '..Said' where nothing that the law and all that it calls make is longer than what came in: it says more and counts as full. Else prove '..UptoSaid'. A law counts once. -/
mutual
def uptoBulk {H : Type} : DataW H → Nat
  | .lit (.string bytes) => bytes.length + 1
  | .lit _ => 1
  | .nil => 1
  | .ptr d => uptoBulk d + 1
  | .slice elems spare => uptoBulkAll elems + uptoBulkAll spare + 1
  | .agg parts => uptoBulkAll parts + 1
  | .iface _ d => uptoBulk d + 1
  | .map entries => uptoBulkEntries entries + 1
  | .held _ => 1
def uptoBulkAll {H : Type} : List (DataW H) → Nat
  | [] => 0
  | d :: r => uptoBulk d + uptoBulkAll r
def uptoBulkEntries {H : Type} : List (Lit × DataW H) → Nat
  | [] => 0
  | x :: r => uptoBulkEntry x + uptoBulkEntries r
def uptoBulkEntry {H : Type} : Lit × DataW H → Nat
  | (.string bytes, d) => bytes.length + uptoBulk d + 1
  | (_, d) => uptoBulk d + 1
 end
def uptoSmall : (H : Type) → List (DataW H) → Bool := fun _ ds => decide (uptoBulkAll ds ≤ 1048576)
def OpenSpec.upto (s : _root_.Go.ChangeSpec) : _root_.Go.OpenSpec := { _root_.Go.OpenSpec.ofChange s with cond := some uptoSmall }

/-- 'meridianlaw12.AbbrKinds', WHERE WHAT IT READS IS OF BULK AT MOST 1048576: true; the input reads as it did. -/
def abbrKindsUptoRow : OpenClaim := { program := "ytcfmmllegaddhaadoor", sum := "0280424e08635577a5eeec01fa2fc348f48216332ebd7c3da80173c74faf6987", func := "meridian/meridianlaw12.AbbrKinds", spec := "abbrKinds", inPlace := ["internal/bytealg.IndexByteString", "internal/bytealg.IndexString"], named := ["meridian/abbr.marks", "internal/bytealg.MaxLen"], apart := false, laid := [("meridian/abbr.marks", laid_meridian_abbr_marks)], narrowed := true }
def AbbrKindsUptoSaid : Prop := abbrKindsUptoRow.holds Tryd.pinned (OpenSpec.upto abbrKindsSpec)

/-- 'meridianlaw12.AbbrOffsets', WHERE WHAT IT READS IS OF BULK AT MOST 1048576: true; the input reads as it did. -/
def abbrOffsetsUptoRow : OpenClaim := { program := "ytcfmmllegaddhaadoor", sum := "0280424e08635577a5eeec01fa2fc348f48216332ebd7c3da80173c74faf6987", func := "meridian/meridianlaw12.AbbrOffsets", spec := "abbrOffsets", inPlace := ["internal/bytealg.IndexByteString", "internal/bytealg.IndexString"], named := ["meridian/abbr.marks", "internal/bytealg.MaxLen"], apart := false, laid := [("meridian/abbr.marks", laid_meridian_abbr_marks)], narrowed := true }
def AbbrOffsetsUptoSaid : Prop := abbrOffsetsUptoRow.holds Tryd.pinned (OpenSpec.upto abbrOffsetsSpec)

/-- 'meridianlaw12.AbbrShows', WHERE WHAT IT READS IS OF BULK AT MOST 1048576: true; the input reads as it did. -/
def abbrShowsUptoRow : OpenClaim := { program := "ytcfmmllegaddhaadoor", sum := "0280424e08635577a5eeec01fa2fc348f48216332ebd7c3da80173c74faf6987", func := "meridian/meridianlaw12.AbbrShows", spec := "abbrShows", inPlace := ["internal/bytealg.IndexByteString", "internal/bytealg.IndexString"], named := ["meridian/abbr.marks", "internal/bytealg.MaxLen"], apart := false, laid := [("meridian/abbr.marks", laid_meridian_abbr_marks)], narrowed := true }
def AbbrShowsUptoSaid : Prop := abbrShowsUptoRow.holds Tryd.pinned (OpenSpec.upto abbrShowsSpec)

/-- 'meridianlaw12.AbbrBack', WHERE WHAT IT READS IS OF BULK AT MOST 1048576: true; the input reads as it did. -/
def abbrBackUptoRow : OpenClaim := { program := "ytcfmmllegaddhaadoor", sum := "0280424e08635577a5eeec01fa2fc348f48216332ebd7c3da80173c74faf6987", func := "meridian/meridianlaw12.AbbrBack", spec := "abbrBack", inPlace := ["internal/bytealg.IndexByteString", "internal/bytealg.IndexString"], named := ["meridian/abbr.marks", "internal/bytealg.MaxLen"], apart := false, laid := [("meridian/abbr.marks", laid_meridian_abbr_marks)], narrowed := true }
def AbbrBackUptoSaid : Prop := abbrBackUptoRow.holds Tryd.pinned (OpenSpec.upto abbrBackSpec)

/-- 'meridianlaw12.AbbrCounts', WHERE WHAT IT READS IS OF BULK AT MOST 1048576: true; the input reads as it did. -/
def abbrCountsUptoRow : OpenClaim := { program := "ytcfmmllegaddhaadoor", sum := "0280424e08635577a5eeec01fa2fc348f48216332ebd7c3da80173c74faf6987", func := "meridian/meridianlaw12.AbbrCounts", spec := "abbrCounts", inPlace := ["internal/bytealg.IndexByteString", "internal/bytealg.IndexString"], named := ["meridian/abbr.marks", "internal/bytealg.MaxLen"], apart := false, laid := [("meridian/abbr.marks", laid_meridian_abbr_marks)], narrowed := true }
def AbbrCountsUptoSaid : Prop := abbrCountsUptoRow.holds Tryd.pinned (OpenSpec.upto abbrCountsSpec)

/-- 'meridianlaw12.AbbrGoes', WHERE WHAT IT READS IS OF BULK AT MOST 1048576: true; the input reads as it did. -/
def abbrGoesUptoRow : OpenClaim := { program := "ytcfmmllegaddhaadoor", sum := "0280424e08635577a5eeec01fa2fc348f48216332ebd7c3da80173c74faf6987", func := "meridian/meridianlaw12.AbbrGoes", spec := "abbrGoes", inPlace := ["internal/bytealg.IndexByteString", "internal/bytealg.IndexString"], unfollowed := true, recurses := true, named := ["meridian/abbr.marks", "internal/bytealg.MaxLen"], apart := false, laid := [("meridian/abbr.marks", laid_meridian_abbr_marks)], narrowed := true }
def AbbrGoesUptoSaid : Prop := abbrGoesUptoRow.holds Tryd.pinned (OpenSpec.upto abbrGoesSpec)

/-- 'meridianlaw12.AbbrSigns', WHERE WHAT IT READS IS OF BULK AT MOST 1048576: true; the input reads as it did. -/
def abbrSignsUptoRow : OpenClaim := { program := "ytcfmmllegaddhaadoor", sum := "0280424e08635577a5eeec01fa2fc348f48216332ebd7c3da80173c74faf6987", func := "meridian/meridianlaw12.AbbrSigns", spec := "abbrSigns", inPlace := ["internal/bytealg.IndexByteString", "internal/bytealg.IndexString"], named := ["meridian/abbr.marks", "internal/bytealg.MaxLen"], apart := false, laid := [("meridian/abbr.marks", laid_meridian_abbr_marks)], narrowed := true }
def AbbrSignsUptoSaid : Prop := abbrSignsUptoRow.holds Tryd.pinned (OpenSpec.upto abbrSignsSpec)

end Rows
end Go.Proofs.YtcfmmllegaddhaaDoor
