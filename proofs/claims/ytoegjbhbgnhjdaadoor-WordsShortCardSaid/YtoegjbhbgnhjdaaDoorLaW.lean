/- What the listed tables give: if the variables read as the rows list them, the tables read as they are laid; and a world is named that meets that condition. -/
import Derived.Test.YtoegjbhbgnhjdaaDoorRows
import Derived.Test.YtoegjbhbgnhjdaaDoorWdI
import Derived.Test.YtoegjbhbgnhjdaaDoorTrd
import Derived.ProofKit
import Derived.LaidMore
import Derived.LaidLaws
import Derived.OpenShut
import Derived.Stop.Joined
import Derived.Lib.LaidU8T
import Derived.Lay
namespace Go.Proofs.YtoegjbhbgnhjdaaDoor
open Go.ChangeShapes Go.WideShapes Go.ChangeAt Go.RowKit

theorem own : ownKnob Tryd.prog.godebug = none := by kernel_rfl

def laid10 : List (String × DataW Unit) := [("math/bits.deBruijn32tab", Rows.laid_math_bits_deBruijn32tab), ("math/bits.deBruijn64tab", Rows.laid_math_bits_deBruijn64tab), ("internal/strconv.uint64pow10", Rows.laid_internal_strconv_uint64pow10), ("unicode/utf8.acceptRanges", Rows.laid_unicode_utf8_acceptRanges), ("strconv.ErrRange", Rows.laid_strconv_ErrRange), ("strconv.ErrSyntax", Rows.laid_strconv_ErrSyntax), ("meridian/words.kinds", Rows.laid_meridian_words_kinds), ("meridian/words.months", Rows.laid_meridian_words_months), ("meridian/words.ends", Rows.laid_meridian_words_ends), ("unicode/utf8.first", Rows.laid_unicode_utf8_first)]
def laid11 : List (String × DataW Unit) := [("math/bits.deBruijn32tab", Rows.laid_math_bits_deBruijn32tab), ("math/bits.deBruijn64tab", Rows.laid_math_bits_deBruijn64tab), ("internal/strconv.uint64pow10", Rows.laid_internal_strconv_uint64pow10), ("unicode/utf8.acceptRanges", Rows.laid_unicode_utf8_acceptRanges), ("strconv.ErrRange", Rows.laid_strconv_ErrRange), ("strconv.ErrSyntax", Rows.laid_strconv_ErrSyntax), ("meridian/words.kinds", Rows.laid_meridian_words_kinds), ("meridian/words.months", Rows.laid_meridian_words_months), ("meridian/words.weekdays", Rows.laid_meridian_words_weekdays), ("meridian/words.ends", Rows.laid_meridian_words_ends), ("unicode/utf8.first", Rows.laid_unicode_utf8_first)]

open Go.Lib in
theorem list_of_reads {W : World} {name : String} {g n : Nat} {t : TypeId} {ws : List (List UInt8)} (hg : Tryd.prog.globalNamed name = some g) (ht : (Tryd.prog.globals[g]?).map (·.type) = some t) (hu : Tryd.prog.underlying t = some (.array n 9)) (hl : ws.length = n) (h0 : 0 < n)
    (h : VarReads Tryd.prog W name (.agg (ws.map fun p => .lit (.string p)))) : ListAt g ws W := by
  obtain ⟨g', t', cs, f, p, h1, h2, h3, h4⟩ := h
  obtain rfl := Option.some.inj (hg.symm.trans h1)
  obtain rfl := Option.some.inj (ht.symm.trans h2)
  have key : ∀ i q, ws[i]? = some q → W.cell? ⟨g, i, none⟩ = some (.string ⟨q.toArray⟩) := by
    intro i q hq
    have hi := (List.getElem?_eq_some_iff.1 hq).1
    rw [World.var?_cell hg h3]
    have := ars_str hu (by kernel_rfl) Tryd.underlying9 h4 (by omega) (show (ws.map fun p => DataW.lit (.string p))[i]? = some (.lit (.string q)) by rw [List.getElem?_map, hq]; rfl)
    simpa using this
  obtain ⟨q, hq⟩ : ∃ q, ws[0]? = some q := ⟨_, List.getElem?_eq_getElem (by omega)⟩
  exact ⟨wcell_lt (key 0 q hq), key⟩
open Go.Lib in
theorem err_of_reads {W : World} {name s : String} {g : Nat} {t : TypeId} {ms : Array (String × TypeId)} {d : DataW Unit} (hg : Tryd.prog.globalNamed name = some g) (ht : (Tryd.prog.globals[g]?).map (·.type) = some t) (hu : Tryd.prog.underlying t = some (.interface ms))
    (h : VarReads Tryd.prog W name (.iface s d)) : ErrW g W := by
  obtain ⟨g', t', cs, f, p, h1, h2, h3, h4⟩ := h
  obtain rfl := Option.some.inj (hg.symm.trans h1)
  obtain rfl := Option.some.inj (ht.symm.trans h2)
  obtain ⟨_, u, v, hcs, _⟩ := iface_of_trod hu h4
  refine ⟨.iface u v, ?_, .inr ⟨u, v, rfl⟩⟩
  rw [World.var?_cell hg h3]
  rw [← Array.getElem?_toList, hcs]; rfl
open Go.Lib in
theorem pow_of_reads {W : World} (h : VarReads Tryd.prog W "internal/strconv.uint64pow10" Rows.laid_internal_strconv_uint64pow10) : PowW W := by
  obtain ⟨g, t, cs, f, p, h1, h2, h3, h4⟩ := h
  obtain rfl := Option.some.inj ((show (Tryd.prog.globalNamed "internal/strconv.uint64pow10") = some 8 by kernel_rfl).symm.trans h1)
  obtain rfl := Option.some.inj ((show (Tryd.prog.globals[8]?).map (·.type) = some 108 by kernel_rfl).symm.trans h2)
  unfold PowW Lib.TabIs
  rw [h3, ← Lib.cells_of_tab Tryd.underlying108 Tryd.underlying82 (by kernel_rfl) (by kernel_rfl) (show DataW.trod _ _ _ _ _ _ _ _ _ = some (Lib.tabData .u64 Lib.pow10Tab, _) from h4)]

theorem u8types : U8Types Tryd.prog Tryd.lays230_ren := { Tryd.lays230 with }
theorem u8extra : U8Extra Tryd.prog Tryd.lays230_ren := ⟨by kernel_rfl, by kernel_rfl, by kernel_rfl, by kernel_rfl, by kernel_rfl, by kernel_rfl, by kernel_rfl⟩
theorem first_eq : Rows.laid_unicode_utf8_first = Lib.firstData := by kernel_rfl
theorem accept_eq : (Rows.laid_unicode_utf8_acceptRanges : DataW Unit) = Lib.acceptData := by kernel_rfl

open Go.Lib in
theorem laidW_of {W : World} {l : List (String × DataW Unit)} (h : laidMet Tryd.prog l W) (m0 : ("internal/strconv.uint64pow10", Rows.laid_internal_strconv_uint64pow10) ∈ l) (m1 : ("unicode/utf8.acceptRanges", Rows.laid_unicode_utf8_acceptRanges) ∈ l) (m2 : ("strconv.ErrRange", Rows.laid_strconv_ErrRange) ∈ l) (m3 : ("strconv.ErrSyntax", Rows.laid_strconv_ErrSyntax) ∈ l)
    (m4 : ("meridian/words.kinds", Rows.laid_meridian_words_kinds) ∈ l) (m5 : ("meridian/words.months", Rows.laid_meridian_words_months) ∈ l) (m6 : ("meridian/words.ends", Rows.laid_meridian_words_ends) ∈ l) (m7 : ("unicode/utf8.first", Rows.laid_unicode_utf8_first) ∈ l) : LaidW W where
  kin := list_of_reads (ws := kindsL) (by kernel_rfl) (by kernel_rfl) Tryd.underlying42 rfl (by omega) (laidMet.reads h m4)
  mon := list_of_reads (ws := monthsL) (by kernel_rfl) (by kernel_rfl) Tryd.underlying44 rfl (by omega) (laidMet.reads h m5)
  end' := list_of_reads (ws := endsL) (by kernel_rfl) (by kernel_rfl) Tryd.underlying46 rfl (by omega) (laidMet.reads h m6)
  u8 := utf8Tabs_of_readsT u8types u8extra (first_eq ▸ laidMet.reads h m7) (accept_eq ▸ laidMet.reads h m1)
  pow := pow_of_reads (laidMet.reads h m0)
  syn := err_of_reads (by kernel_rfl) (by kernel_rfl) Tryd.underlying52 (laidMet.reads h m3)
  ran := err_of_reads (by kernel_rfl) (by kernel_rfl) Tryd.underlying52 (laidMet.reads h m2)

theorem of_laid10 {W : World} (h : laidMetH Tryd.prog laid10 W) (_ : W.ShapedOpen Tryd.prog) : LaidW W := by
  rw [MakeChecks.laidMetH_plain _ _ _ (by kernel_rfl)] at h
  exact laidW_of h (by simp [laid10]) (by simp [laid10]) (by simp [laid10]) (by simp [laid10]) (by simp [laid10]) (by simp [laid10]) (by simp [laid10]) (by simp [laid10])
theorem of_laid11 {W : World} (h : laidMetH Tryd.prog laid11 W) (_ : W.ShapedOpen Tryd.prog) : LaidX W := by
  rw [MakeChecks.laidMetH_plain _ _ _ (by kernel_rfl)] at h
  exact ⟨laidW_of h (by simp [laid11]) (by simp [laid11]) (by simp [laid11]) (by simp [laid11]) (by simp [laid11]) (by simp [laid11]) (by simp [laid11]) (by simp [laid11]),
    list_of_reads (ws := weeksL) (by kernel_rfl) (by kernel_rfl) Tryd.underlying45 rfl (by omega) (Lib.laidMet.reads h (n := "meridian/words.weekdays") (d := Rows.laid_meridian_words_weekdays) (by simp [laid11]))⟩

set_option maxRecDepth 100000 in
/-- A world in which the tables read so. -/
theorem met10 (os : Os) (args : Array Value) : laidMetH Tryd.prog laid10 ((World.laidAll Tryd.prog os laid10).forCall (fun _ _ => 0) ⟨#[], args, []⟩).memory := by
  rw [MakeChecks.laidMetH_plain _ _ _ (by kernel_rfl)]
  exact laidMet_laidAll _ (by kernel_rfl) (by kernel_rfl)
set_option maxRecDepth 100000 in
theorem met11 (os : Os) (args : Array Value) : laidMetH Tryd.prog laid11 ((World.laidAll Tryd.prog os laid11).forCall (fun _ _ => 0) ⟨#[], args, []⟩).memory := by
  rw [MakeChecks.laidMetH_plain _ _ _ (by kernel_rfl)]
  exact laidMet_laidAll _ (by kernel_rfl) (by kernel_rfl)
theorem shaped10 (os : Os) : (World.laidAll Tryd.prog os laid10).Shaped Tryd.prog := World.shaped_of_ZipB (by kernel_rfl) (by kernel_rfl)
theorem shaped11 (os : Os) : (World.laidAll Tryd.prog os laid11).Shaped Tryd.prog := World.shaped_of_ZipB (by kernel_rfl) (by kernel_rfl)
theorem wwf_bd {n : Int} (h : (Lit.int .i64 n).wf = true) : -9223372036854775808 ≤ n ∧ n ≤ 9223372036854775807 := by
  simpa [Lit.wf, IntKind.min, IntKind.max, IntKind.bits, IntKind.signed] using h
end Go.Proofs.YtoegjbhbgnhjdaaDoor
