/- What the listed tables give package dayform: if the variables read as the rows list them, the tables read as they are laid; a world is named that meets that condition; a day of a month as an argument, opened. -/
import Derived.Test.YtddoapenhlkamaaGreatDoorRows
import Derived.Test.YtddoapenhlkamaaGreatDoorDfD
import Derived.Test.YtddoapenhlkamaaGreatDoorOpA
import Derived.Test.YtddoapenhlkamaaGreatDoorTrd
import Derived.ProofKit
import Derived.LaidMore
import Derived.LaidLaws
import Derived.OpenShut
import Derived.Stop.Joined
import Derived.Lib.LaidU8T
import Derived.Lib.LaidCase
import Derived.PinnedBridge
import Derived.Lay
namespace Go.Proofs.YtddoapenhlkamaaGreatDoor
open Go.ChangeShapes Go.WideShapes Go.ChangeAt Go.RowKit

theorem own : ownKnob Tryz.prog.godebug = none := by kernel_rfl
theorem laidOut : laidOutB Tryz.prog = true := by kernel_rfl

def laidF : List (String × DataW Unit) := [("math/bits.deBruijn32tab", Rows.laid_math_bits_deBruijn32tab), ("math/bits.deBruijn64tab", Rows.laid_math_bits_deBruijn64tab), ("internal/strconv.uint64pow10", Rows.laid_internal_strconv_uint64pow10), ("unicode/utf8.acceptRanges", Rows.laid_unicode_utf8_acceptRanges), ("strconv.ErrRange", Rows.laid_strconv_ErrRange), ("strconv.ErrSyntax", Rows.laid_strconv_ErrSyntax), ("meridian/civil.ahead", Rows.laid_meridian_civil_ahead), ("meridian/words.weekdays", Rows.laid_meridian_words_weekdays), ("meridian/dayform.signs", Rows.laid_meridian_dayform_signs), ("unicode.CaseRanges", Rows.laid_unicode_CaseRanges), ("unicode/utf8.first", Rows.laid_unicode_utf8_first)]

open Go.Lib in
theorem flist_of {W : World} {name : String} {g n : Nat} {t : TypeId} {ws : List (List UInt8)} (hg : Tryz.prog.globalNamed name = some g) (ht : (Tryz.prog.globals[g]?).map (·.type) = some t) (hu : Tryz.prog.underlying t = some (.array n 9)) (hl : ws.length = n) (h0 : 0 < n)
    (h : VarReads Tryz.prog W name (.agg (ws.map fun p => .lit (.string p)))) : ListAt g ws W := by
  obtain ⟨g', t', cs, f, p, h1, h2, h3, h4⟩ := h
  obtain rfl := Option.some.inj (hg.symm.trans h1)
  obtain rfl := Option.some.inj (ht.symm.trans h2)
  have key : ∀ i q, ws[i]? = some q → W.cell? ⟨g, i, none⟩ = some (.string ⟨q.toArray⟩) := by
    intro i q hq
    have hi := (List.getElem?_eq_some_iff.1 hq).1
    rw [World.var?_cell hg h3]
    have := ars_str hu (by kernel_rfl) Tryz.underlying9 h4 (by omega) (show (ws.map fun p => DataW.lit (.string p))[i]? = some (.lit (.string q)) by rw [List.getElem?_map, hq]; rfl)
    simpa using this
  obtain ⟨q, hq⟩ : ∃ q, ws[0]? = some q := ⟨_, List.getElem?_eq_getElem (by omega)⟩
  exact ⟨wcell_lt (key 0 q hq), key⟩
open Go.Lib in
theorem ferr_of {W : World} {name s : String} {g : Nat} {t : TypeId} {ms : Array (String × TypeId)} {d : DataW Unit} (hg : Tryz.prog.globalNamed name = some g) (ht : (Tryz.prog.globals[g]?).map (·.type) = some t) (hu : Tryz.prog.underlying t = some (.interface ms))
    (h : VarReads Tryz.prog W name (.iface s d)) : ErrF g W := by
  obtain ⟨g', t', cs, f, p, h1, h2, h3, h4⟩ := h
  obtain rfl := Option.some.inj (hg.symm.trans h1)
  obtain rfl := Option.some.inj (ht.symm.trans h2)
  obtain ⟨_, u, v, hcs, _⟩ := iface_of_trod hu h4
  refine ⟨.iface u v, ?_, .inr ⟨u, v, rfl⟩⟩
  rw [World.var?_cell hg h3]
  rw [← Array.getElem?_toList, hcs]; rfl
open Go.Lib in
theorem fpow_of {W : World} (h : VarReads Tryz.prog W "internal/strconv.uint64pow10" Rows.laid_internal_strconv_uint64pow10) : PowF W := by
  obtain ⟨g, t, cs, f, p, h1, h2, h3, h4⟩ := h
  obtain rfl := Option.some.inj ((show (Tryz.prog.globalNamed "internal/strconv.uint64pow10") = some 3 by kernel_rfl).symm.trans h1)
  obtain rfl := Option.some.inj ((show (Tryz.prog.globals[3]?).map (·.type) = some 102 by kernel_rfl).symm.trans h2)
  unfold PowF Lib.TabIs
  rw [h3, ← Lib.cells_of_tab Tryz.underlying102 Tryz.underlying81 (by kernel_rfl) (by kernel_rfl) (show DataW.trod _ _ _ _ _ _ _ _ _ = some (Lib.tabData .u64 Lib.pow10Tab, _) from h4)]
def fahTab : List Int := [0, 31, 59, 90, 120, 151, 181, 212, 243, 273, 304, 334, 365]
theorem fahTab_at (m : Int) (h1 : 1 ≤ m) (h2 : m ≤ 13) : fahTab.getD (m.toNat - 1) 0 = ah m := by
  obtain rfl | rfl | rfl | rfl | rfl | rfl | rfl | rfl | rfl | rfl | rfl | rfl | rfl : m = 1 ∨ m = 2 ∨ m = 3 ∨ m = 4 ∨ m = 5 ∨ m = 6 ∨ m = 7 ∨ m = 8 ∨ m = 9 ∨ m = 10 ∨ m = 11 ∨ m = 12 ∨ m = 13 := by omega
  all_goals decide
open Go.Lib in
theorem fah_of {W : World} (h : VarReads Tryz.prog W "meridian/civil.ahead" Rows.laid_meridian_civil_ahead) : AhAt W := by
  have hg : Tryz.prog.globalNamed "meridian/civil.ahead" = some 2 := by kernel_rfl
  obtain ⟨g, t, cs, f, p, h1, h2, h3, h4⟩ := h
  obtain rfl := Option.some.inj (hg.symm.trans h1)
  obtain rfl := Option.some.inj ((show (Tryz.prog.globals[2]?).map (·.type) = some 99 by kernel_rfl).symm.trans h2)
  have e3 : Lib.TabIs Tryz.prog W "meridian/civil.ahead" .i64 fahTab := by
    unfold Lib.TabIs
    rw [h3, ← Lib.cells_of_tab Tryz.underlying99 Tryz.underlying3 (by kernel_rfl) (by kernel_rfl) (show DataW.trod _ _ _ _ _ _ _ _ _ = some (Lib.tabData .i64 fahTab, _) from h4)]
  intro m m1 m2
  rw [e3.cell hg (m.toNat - 1) (by show m.toNat - 1 < 13; omega), fahTab_at m m1 m2]

theorem u8types : U8Types Tryz.prog Tryz.lays230_ren := { Tryz.lays230 with }
theorem u8extra : U8Extra Tryz.prog Tryz.lays230_ren := ⟨by kernel_rfl, by kernel_rfl, by kernel_rfl, by kernel_rfl, by kernel_rfl, by kernel_rfl, by kernel_rfl⟩
theorem first_eq : Rows.laid_unicode_utf8_first = Lib.firstData := by kernel_rfl
theorem accept_eq : (Rows.laid_unicode_utf8_acceptRanges : DataW Unit) = Lib.acceptData := by kernel_rfl
theorem case_eq : Rows.laid_unicode_CaseRanges = Lib.caseData := Pinned.caseRanges_eq
theorem caseextra : CaseExtra Tryz.prog Tryz.lays159_ren := ⟨by kernel_rfl, by kernel_rfl, by kernel_rfl, by kernel_rfl, by kernel_rfl, by kernel_rfl⟩

theorem fmax_is {W : World} (h : W.ShapedOpen Tryz.prog) : MaxF W :=
  cell_of_shapedOpen_int h (by decide +kernel) (zero := #[.int .i64 0]) (t := 3) (by kernel_rfl) rfl (by kernel_rfl) (by kernel_rfl) Tryz.underlying3

open Go.Lib in
theorem of_laidF {W : World} (h : laidMetH Tryz.prog laidF W) (hs : W.ShapedOpen Tryz.prog) : LaidF W := by
  rw [MakeChecks.laidMetH_plain _ _ _ (by kernel_rfl)] at h
  have r : ∀ n d, (n, d) ∈ laidF → VarReads Tryz.prog W n d := fun n d m => laidMet.reads h m
  exact
    { ah := fah_of (r _ _ (by simp [laidF]))
      sig := flist_of (ws := signsL) (by kernel_rfl) (by kernel_rfl) Tryz.underlying44 rfl (by omega) (r "meridian/dayform.signs" Rows.laid_meridian_dayform_signs (by simp [laidF]))
      wee := flist_of (ws := weeksL) (by kernel_rfl) (by kernel_rfl) Tryz.underlying61 rfl (by omega) (r "meridian/words.weekdays" Rows.laid_meridian_words_weekdays (by simp [laidF]))
      u8 := utf8Tabs_of_readsT u8types u8extra (first_eq ▸ r _ _ (by simp [laidF])) (accept_eq ▸ r "unicode/utf8.acceptRanges" Rows.laid_unicode_utf8_acceptRanges (by simp [laidF]))
      pow := fpow_of (r _ _ (by simp [laidF]))
      syn := ferr_of (by kernel_rfl) (by kernel_rfl) Tryz.underlying73 (r "strconv.ErrSyntax" Rows.laid_strconv_ErrSyntax (by simp [laidF]))
      ran := ferr_of (by kernel_rfl) (by kernel_rfl) Tryz.underlying73 (r "strconv.ErrRange" Rows.laid_strconv_ErrRange (by simp [laidF]))
      cas := caseVar_of_reads { Tryz.lays159 with } (by first | exact Tryz.lays159.t206 | kernel_rfl) caseextra (case_eq ▸ r _ _ (by simp [laidF]))
      mx := fmax_is hs }

set_option maxRecDepth 100000 in
/-- A world in which the tables read so. -/
theorem metF (os : Os) (args : Array Value) : laidMetH Tryz.prog laidF ((World.laidAll Tryz.prog os laidF).forCall (fun _ _ => 0) ⟨#[], args, []⟩).memory := by
  rw [MakeChecks.laidMetH_plain _ _ _ (by kernel_rfl)]
  exact laidMet_laidAll _ (by kernel_rfl) (by kernel_rfl)
set_option maxRecDepth 100000 in
theorem shapedF (os : Os) : (World.laidAll Tryz.prog os laidF).Shaped Tryz.prog := World.shaped_of_ZipB (by kernel_rfl) (by kernel_rfl)

/-- The world's shape is that of its heap. -/
theorem shaped_heap {P : Program} {w w' : World} (hh : w.heap = w'.heap) (h : w.Shaped P) : w'.Shaped P := by
  refine ⟨fun g zero t hg hz => ?_, fun k hk1 hk2 => hh ▸ h.2 k hk1 hk2⟩
  obtain ⟨cs, h1, h2, h3⟩ := h.1 g zero t hg hz
  exact ⟨cs, hh ▸ h1, h2, fun hb => Row.ok_of_shape (fun b x hx => by simpa [World.shape?, ← hh] using hx) (h3 hb)⟩
theorem shaped_call {P : Program} {w : World} {t : Tape} {args : Array Value} (h : w.Shaped P) : (w.forCall t ⟨#[], args, []⟩).Shaped P :=
  shaped_heap (by simp [World.forCall, Input.heap]) h

theorem day_open1 {H : Type} {enc : TypeId × Value → H} {W : World} {sp : Nat → Bool} {held : Bool} {n : Nat} {v : Value} {y : DataW H × List MemPlace} (h : DataW.trod enc Tryz.prog W 0 sp held n 3 [v] = some y) : ∃ a : Int, v = .int .i64 a := by
  obtain ⟨a, e1, _, _⟩ := DataW.trod_int Tryz.underlying3 h
  exact ⟨a, by simpa using e1⟩
set_option maxRecDepth 100000 in
/-- A day of a month that is handed over by value: its three numbers. -/
theorem open_day {H : Type} {enc : TypeId × Value → H} {W : World} {sp : Nat → Bool} {held : Bool} {b0 : Nat} {v : Value} {d : DataW H} {p : List MemPlace} (hv : Value.okWide Tryz.prog W .any b0 23 v) (h : DataW.Trod enc Tryz.prog W 0 sp held 23 v d p) :
    ∃ k wk n : Int, v = .agg #[.int .i64 k, .int .i64 wk, .int .i64 n] := by
  obtain ⟨v0, v1, v2, y0, y1, y2, n, rfl, _, _, t0, t1, t2⟩ := Joins.open_agg3 Tryz.underlying23 (by kernel_rfl) (by kernel_rfl) hv h
  obtain ⟨a, rfl⟩ := day_open1 t0
  obtain ⟨b, rfl⟩ := day_open1 t1
  obtain ⟨c, rfl⟩ := day_open1 t2
  exact ⟨a, b, c, rfl⟩
end Go.Proofs.YtddoapenhlkamaaGreatDoor
