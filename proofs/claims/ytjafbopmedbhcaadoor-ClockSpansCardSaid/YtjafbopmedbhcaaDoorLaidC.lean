/- What the listed tables give: if the variables read as the rows list them, the tables read as they are laid; and the heap that the program's own start leaves meets that condition. -/
import Derived.Test.YtjafbopmedbhcaaDoorRows
import Derived.Test.YtjafbopmedbhcaaDoorAwkC
import Derived.Test.YtjafbopmedbhcaaDoorPrt
import Derived.Test.YtjafbopmedbhcaaDoorTrd
import Derived.Shelf.Vars
import Derived.ProofKit
import Derived.LaidMore
import Derived.OpenShut
import Derived.Stop.Joined
import Derived.Lib.SmallJoins
namespace Go.Proofs.YtjafbopmedbhcaaDoor
open Go.ChangeShapes Go.WideShapes Go.ChangeAt Go.RowKit

theorem own : ownKnob Tryd.prog.godebug = none := by kernel_rfl

def laid6 : List (String × DataW Unit) := [("math/bits.deBruijn32tab", Rows.laid_math_bits_deBruijn32tab), ("math/bits.deBruijn64tab", Rows.laid_math_bits_deBruijn64tab), ("internal/strconv.uint64pow10", Rows.laid_internal_strconv_uint64pow10), ("meridian/civil.ahead", Rows.laid_meridian_civil_ahead), ("meridian/clock.fields", Rows.laid_meridian_clock_fields), ("meridian/clock.letters", Rows.laid_meridian_clock_letters)]
def laid7 : List (String × DataW Unit) := [("math/bits.deBruijn32tab", Rows.laid_math_bits_deBruijn32tab), ("math/bits.deBruijn64tab", Rows.laid_math_bits_deBruijn64tab), ("internal/strconv.uint64pow10", Rows.laid_internal_strconv_uint64pow10), ("meridian/civil.ahead", Rows.laid_meridian_civil_ahead), ("meridian/clock.fields", Rows.laid_meridian_clock_fields), ("meridian/clock.letters", Rows.laid_meridian_clock_letters), ("meridian/clock.marks", Rows.laid_meridian_clock_marks)]

theorem gPow : Tryd.prog.globalNamed "internal/strconv.uint64pow10" = some 4 := by kernel_rfl
theorem gAh : Tryd.prog.globalNamed "meridian/civil.ahead" = some 2 := by kernel_rfl
theorem gFld : Tryd.prog.globalNamed "meridian/clock.fields" = some 3 := by kernel_rfl
theorem gLet : Tryd.prog.globalNamed "meridian/clock.letters" = some 1 := by kernel_rfl
theorem gMark : Tryd.prog.globalNamed "meridian/clock.marks" = some 0 := by kernel_rfl
theorem tPow : (Tryd.prog.globals[4]?).map (·.type) = some 96 := by kernel_rfl
theorem tAh : (Tryd.prog.globals[2]?).map (·.type) = some 80 := by kernel_rfl
theorem tFld : (Tryd.prog.globals[3]?).map (·.type) = some 87 := by kernel_rfl
theorem tLet : (Tryd.prog.globals[1]?).map (·.type) = some 77 := by kernel_rfl
theorem tMark : (Tryd.prog.globals[0]?).map (·.type) = some 65 := by kernel_rfl
def ahTab : List Int := [0, 31, 59, 90, 120, 151, 181, 212, 243, 273, 304, 334, 365]

theorem ahTab_at (m : Int) (h1 : 1 ≤ m) (h2 : m ≤ 13) : ahTab.getD (m.toNat - 1) 0 = ah m := by
  obtain rfl | rfl | rfl | rfl | rfl | rfl | rfl | rfl | rfl | rfl | rfl | rfl | rfl : m = 1 ∨ m = 2 ∨ m = 3 ∨ m = 4 ∨ m = 5 ∨ m = 6 ∨ m = 7 ∨ m = 8 ∨ m = 9 ∨ m = 10 ∨ m = 11 ∨ m = 12 ∨ m = 13 := by omega
  all_goals decide

/-- The row of a listed variable reads as it is listed. -/
def ReadsAs (W : World) (n : String) (t : TypeId) (d : DataW Unit) : Prop := ∃ (cs : Array Value) (f : Nat) (p : List MemPlace), W.var? Tryd.prog n = some cs ∧ DataW.trod (fun _ => ()) Tryd.prog W 0 (fun _ => true) false f t cs.toList = some (d, p)

theorem pow_of {W : World} (h : ReadsAs W "internal/strconv.uint64pow10" 96 Rows.laid_internal_strconv_uint64pow10) : PowAt W := by
  obtain ⟨cs, f, p, hv, hd⟩ := h
  unfold PowAt Lib.TabIs
  rw [hv, ← Lib.cells_of_tab Tryd.underlying96 Tryd.underlying90 (by kernel_rfl) (by kernel_rfl) (show DataW.trod _ _ _ _ _ _ _ _ _ = some (Lib.tabData .u64 Lib.pow10Tab, _) from hd)]
theorem ah_of {W : World} (h : ReadsAs W "meridian/civil.ahead" 80 Rows.laid_meridian_civil_ahead) : AhAt W := by
  obtain ⟨cs, f, p, hv, hd⟩ := h
  have e3 : Lib.TabIs Tryd.prog W "meridian/civil.ahead" .i64 ahTab := by
    unfold Lib.TabIs
    rw [hv, ← Lib.cells_of_tab Tryd.underlying80 Tryd.underlying3 (by kernel_rfl) (by kernel_rfl) (show DataW.trod _ _ _ _ _ _ _ _ _ = some (Lib.tabData .i64 ahTab, _) from hd)]
  intro m h1 h2
  rw [e3.cell gAh (m.toNat - 1) (by show m.toNat - 1 < 13; omega), ahTab_at m h1 h2]
set_option maxRecDepth 100000 in
theorem fld_of {W : World} (h : ReadsAs W "meridian/clock.fields" 87 Rows.laid_meridian_clock_fields) : FldAt W := by
  obtain ⟨cs, f, p, hv, hd⟩ := h
  have key : ∀ (i j : Nat) (z : Int), i < 3 → j < 4 → (∀ (ds : List (DataW Unit)), Rows.laid_meridian_clock_fields = .agg ds → ∃ es, ds[i]? = some (.agg es) ∧ es[j]? = some (.lit (.int .i64 z))) → W.cell? ⟨3, 4 * i + j, none⟩ = some (.int .i64 z) := by
    intro i j z hi hj hz
    obtain ⟨es, h1, h2⟩ := hz _ rfl
    rw [World.var?_cell gFld hv]
    have h3 : ∃ F : Field, (match Tryd.prog.underlying 86 with | some (.struct fs) => fs[j]? | _ => none) = some F ∧ F.type = 3 ∧ F.offset = j := by
      obtain rfl | rfl | rfl | rfl : j = 0 ∨ j = 1 ∨ j = 2 ∨ j = 3 := by omega
      all_goals
        rw [Tryd.underlying86]
        exact ⟨_, rfl, rfl, rfl⟩
    obtain ⟨F, hF, hT, hO⟩ := h3
    rw [Tryd.underlying86] at hF
    have := ast_int Tryd.underlying87 (c := 4) (by kernel_rfl) Tryd.underlying86 hF (by rw [hT]; exact Tryd.underlying3) (by rw [hT]; kernel_rfl) (show DataW.trod _ _ _ _ _ _ _ _ _ = some (.agg _, _) from hd) hi h1 h2
    rw [hO, Nat.mul_comm i 4] at this
    simpa using this
  intro k hk
  obtain rfl | rfl | rfl : k = 0 ∨ k = 1 ∨ k = 2 := by omega
  all_goals
    refine ⟨?_, ?_, ?_, ?_⟩
    · exact key _ 0 _ (by omega) (by omega) fun ds e => by cases e; exact ⟨_, rfl, rfl⟩
    · exact key _ 1 _ (by omega) (by omega) fun ds e => by cases e; exact ⟨_, rfl, rfl⟩
    · exact key _ 2 _ (by omega) (by omega) fun ds e => by cases e; exact ⟨_, rfl, rfl⟩
    · exact key _ 3 _ (by omega) (by omega) fun ds e => by cases e; exact ⟨_, rfl, rfl⟩
theorem let_of {W : World} (h : ReadsAs W "meridian/clock.letters" 77 Rows.laid_meridian_clock_letters) : LetAt W := by
  obtain ⟨cs, f, p, hv, hd⟩ := h
  have kn : ∀ (i : Nat) (z : Int), i < 5 → (∀ (ds : List (DataW Unit)), Rows.laid_meridian_clock_letters = .agg ds → ∃ es, ds[i]? = some (.agg es) ∧ es[1]? = some (.lit (.int .i64 z))) → W.cell? ⟨1, i * 2 + 1, none⟩ = some (.int .i64 z) := by
    intro i z hi hz
    obtain ⟨es, h1, h2⟩ := hz _ rfl
    rw [World.var?_cell gLet hv]
    have := ast_int (j := 1) Tryd.underlying77 (c := 2) (by kernel_rfl) Tryd.underlying76 rfl Tryd.underlying3 (by kernel_rfl) (show DataW.trod _ _ _ _ _ _ _ _ _ = some (.agg _, _) from hd) hi h1 h2
    simpa using this
  have ks : ∀ (i : Nat) (l : List UInt8), i < 5 → (∀ (ds : List (DataW Unit)), Rows.laid_meridian_clock_letters = .agg ds → ∃ es, ds[i]? = some (.agg es) ∧ es[0]? = some (.lit (.string l))) → W.cell? ⟨1, i * 2, none⟩ = some (.string ⟨l.toArray⟩) := by
    intro i z hi hz
    obtain ⟨es, h1, h2⟩ := hz _ rfl
    rw [World.var?_cell gLet hv]
    have := ast_str (j := 0) Tryd.underlying77 (c := 2) (by kernel_rfl) Tryd.underlying76 rfl Tryd.underlying9 (by kernel_rfl) (show DataW.trod _ _ _ _ _ _ _ _ _ = some (.agg _, _) from hd) hi h1 h2
    simpa using this
  exact ⟨ks 0 [119] (by omega) fun ds e => by cases e; exact ⟨_, rfl, rfl⟩, kn 0 0 (by omega) fun ds e => by cases e; exact ⟨_, rfl, rfl⟩,
    ks 1 [115] (by omega) fun ds e => by cases e; exact ⟨_, rfl, rfl⟩, kn 1 1 (by omega) fun ds e => by cases e; exact ⟨_, rfl, rfl⟩,
    ks 2 [117] (by omega) fun ds e => by cases e; exact ⟨_, rfl, rfl⟩, kn 2 2 (by omega) fun ds e => by cases e; exact ⟨_, rfl, rfl⟩,
    ks 3 [103] (by omega) fun ds e => by cases e; exact ⟨_, rfl, rfl⟩, kn 3 2 (by omega) fun ds e => by cases e; exact ⟨_, rfl, rfl⟩,
    ks 4 [122] (by omega) fun ds e => by cases e; exact ⟨_, rfl, rfl⟩, kn 4 2 (by omega) fun ds e => by cases e; exact ⟨_, rfl, rfl⟩⟩
theorem mark_of {W : World} (h : ReadsAs W "meridian/clock.marks" 65 Rows.laid_meridian_clock_marks) : MarkAt W := by
  obtain ⟨cs, f, p, hv, hd⟩ := h
  have ks : ∀ (i : Nat) (l : List UInt8), i < 3 → (∀ (ds : List (DataW Unit)), Rows.laid_meridian_clock_marks = .agg ds → ds[i]? = some (.lit (.string l))) → W.cell? ⟨0, i, none⟩ = some (.string ⟨l.toArray⟩) := by
    intro i z hi hz
    rw [World.var?_cell gMark hv]
    have := ars_str Tryd.underlying65 (by kernel_rfl) Tryd.underlying9 (show DataW.trod _ _ _ _ _ _ _ _ _ = some (.agg _, _) from hd) hi (hz _ rfl)
    simpa using this
  exact ⟨ks 0 [] (by omega) fun ds e => by cases e; rfl, ks 1 [115] (by omega) fun ds e => by cases e; rfl, ks 2 [117] (by omega) fun ds e => by cases e; rfl⟩

theorem max_of {W : World} (h : W.ShapedOpen Tryd.prog) : MaxAt W :=
  cell_of_shapedOpen_int h (by decide +kernel) (zero := #[.int .i64 0]) (t := 3) (by kernel_rfl) rfl (by kernel_rfl) (by kernel_rfl) Tryd.underlying3

theorem of_laid6 {W : World} (h : laidMetH Tryd.prog laid6 W) (hs : W.ShapedOpen Tryd.prog) : Laid3 W := by
  rw [MakeChecks.laidMetH_plain _ _ _ (by kernel_rfl)] at h
  obtain ⟨ps, ⟨_, _, _, _, _, _, _, _, _, _, ⟨_, _, _, _, _, _, _, _, _, _, ⟨g2, t2, cs2, f2, p2, q2, hg2, ht2, hv2, hd2, ⟨g3, t3, cs3, f3, p3, q3, hg3, ht3, hv3, hd3, ⟨g4, t4, cs4, f4, p4, q4, hg4, ht4, hv4, hd4, ⟨g5, t5, cs5, f5, p5, q5, hg5, ht5, hv5, hd5, _, _⟩, _⟩, _⟩, _⟩, _⟩, _⟩, _, _⟩ := h
  obtain rfl := Option.some.inj (gPow.symm.trans hg2)
  obtain rfl := Option.some.inj (gAh.symm.trans hg3)
  obtain rfl := Option.some.inj (gFld.symm.trans hg4)
  obtain rfl := Option.some.inj (gLet.symm.trans hg5)
  obtain rfl := Option.some.inj (tPow.symm.trans ht2)
  obtain rfl := Option.some.inj (tAh.symm.trans ht3)
  obtain rfl := Option.some.inj (tFld.symm.trans ht4)
  obtain rfl := Option.some.inj (tLet.symm.trans ht5)
  exact ⟨ah_of ⟨_, _, _, hv3, hd3⟩, pow_of ⟨_, _, _, hv2, hd2⟩, fld_of ⟨_, _, _, hv4, hd4⟩, let_of ⟨_, _, _, hv5, hd5⟩, max_of hs⟩

/-- The tables, and that of marks. -/
structure Laid4 (w : World) : Prop where
  l3 : Laid3 w
  mark : MarkAt w
theorem Laid4.next {w w' : World} (h : Laid4 w) (k : Below w.heap.size w w') : Laid4 w' := ⟨h.l3.next k, h.mark.next k⟩
theorem of_laid7 {W : World} (h : laidMetH Tryd.prog laid7 W) (hs : W.ShapedOpen Tryd.prog) : Laid4 W := by
  rw [MakeChecks.laidMetH_plain _ _ _ (by kernel_rfl)] at h
  obtain ⟨ps, ⟨_, _, _, _, _, _, _, _, _, _, ⟨_, _, _, _, _, _, _, _, _, _, ⟨g2, t2, cs2, f2, p2, q2, hg2, ht2, hv2, hd2, ⟨g3, t3, cs3, f3, p3, q3, hg3, ht3, hv3, hd3, ⟨g4, t4, cs4, f4, p4, q4, hg4, ht4, hv4, hd4, ⟨g5, t5, cs5, f5, p5, q5, hg5, ht5, hv5, hd5, ⟨g6, t6, cs6, f6, p6, q6, hg6, ht6, hv6, hd6, _, _⟩, _⟩, _⟩, _⟩, _⟩, _⟩, _⟩, _, _⟩ := h
  obtain rfl := Option.some.inj (gPow.symm.trans hg2)
  obtain rfl := Option.some.inj (gAh.symm.trans hg3)
  obtain rfl := Option.some.inj (gFld.symm.trans hg4)
  obtain rfl := Option.some.inj (gLet.symm.trans hg5)
  obtain rfl := Option.some.inj (gMark.symm.trans hg6)
  obtain rfl := Option.some.inj (tPow.symm.trans ht2)
  obtain rfl := Option.some.inj (tAh.symm.trans ht3)
  obtain rfl := Option.some.inj (tFld.symm.trans ht4)
  obtain rfl := Option.some.inj (tLet.symm.trans ht5)
  obtain rfl := Option.some.inj (tMark.symm.trans ht6)
  exact ⟨⟨ah_of ⟨_, _, _, hv3, hd3⟩, pow_of ⟨_, _, _, hv2, hd2⟩, fld_of ⟨_, _, _, hv4, hd4⟩, let_of ⟨_, _, _, hv5, hd5⟩, max_of hs⟩, mark_of ⟨_, _, _, hv6, hd6⟩⟩

set_option maxRecDepth 100000 in
/-- The program's own start leaves a heap in which the tables read so. -/
theorem door_met6 (os : Os) (args : Array Value) : laidMetH Tryd.prog laid6 ((World.doorLaid Tryd.prog 400 os).forCall (fun _ _ => 0) ⟨#[], args, []⟩).memory :=
  laidMetH_of_parts3 (fuel := 8) (laidMet_of_run' 8 (by kernel_rfl) (by kernel_rfl)) (by kernel_rfl) (by kernel_rfl)
set_option maxRecDepth 100000 in
theorem door_met7 (os : Os) (args : Array Value) : laidMetH Tryd.prog laid7 ((World.doorLaid Tryd.prog 400 os).forCall (fun _ _ => 0) ⟨#[], args, []⟩).memory :=
  laidMetH_of_parts3 (fuel := 8) (laidMet_of_run' 8 (by kernel_rfl) (by kernel_rfl)) (by kernel_rfl) (by kernel_rfl)

theorem wf_bd {n : Int} (h : (Lit.int .i64 n).wf = true) : -9223372036854775808 ≤ n ∧ n ≤ 9223372036854775807 := by
  simpa [Lit.wf, IntKind.min, IntKind.max, IntKind.bits, IntKind.signed] using h

theorem date_open3 {H : Type} {enc : TypeId × Value → H} {W : World} {sp : Nat → Bool} {held : Bool} {n : Nat} {v : Value} {y : DataW H × List MemPlace} (h : DataW.trod enc Tryd.prog W 0 sp held n 3 [v] = some y) :
    ∃ a : Int, v = .int .i64 a ∧ y = (.lit (.int .i64 a), []) ∧ (Lit.int .i64 a).wf = true := by
  obtain ⟨a, e1, e2, e3⟩ := DataW.trod_int Tryd.underlying3 h
  exact ⟨a, by simpa using e1, e2, e3⟩

set_option maxRecDepth 100000 in
/-- A date that is handed over by value: its three numbers. -/
theorem open_date {H : Type} {enc : TypeId × Value → H} {W : World} {sp : Nat → Bool} {held : Bool} {b0 : Nat} {v : Value} {d : DataW H} {p : List MemPlace} (hv : Value.okWide Tryd.prog W .any b0 23 v) (h : DataW.Trod enc Tryd.prog W 0 sp held 23 v d p) :
    ∃ y m e : Int, v = .agg #[.int .i64 y, .int .i64 m, .int .i64 e] ∧ d = .agg [.lit (.int .i64 y), .lit (.int .i64 m), .lit (.int .i64 e)] ∧ p = [] ∧ (Lit.int .i64 y).wf = true ∧ (Lit.int .i64 m).wf = true ∧ (Lit.int .i64 e).wf = true := by
  obtain ⟨v0, v1, v2, y0, y1, y2, n, rfl, rfl, rfl, t0, t1, t2⟩ := Joins.open_agg3 Tryd.underlying23 (by kernel_rfl) (by kernel_rfl) hv h
  obtain ⟨a, rfl, rfl, wa⟩ := date_open3 t0
  obtain ⟨b, rfl, rfl, wb⟩ := date_open3 t1
  obtain ⟨c, rfl, rfl, wc⟩ := date_open3 t2
  exact ⟨a, b, c, rfl, rfl, rfl, wa, wb, wc⟩

theorem shut_date {H : Type} {enc : TypeId × Value → H} {W : World} {sp : Nat → Bool} {held : Bool} {y m e : Int} (wa : (Lit.int .i64 y).wf = true) (wb : (Lit.int .i64 m).wf = true) (wc : (Lit.int .i64 e).wf = true) :
    DataW.Trod enc Tryd.prog W 0 sp held 23 (.agg #[.int .i64 y, .int .i64 m, .int .i64 e]) (.agg [.lit (.int .i64 y), .lit (.int .i64 m), .lit (.int .i64 e)]) [] :=
  Joins.shut_agg3 (y0 := (.lit (.int .i64 y), [])) (y1 := (.lit (.int .i64 m), [])) (y2 := (.lit (.int .i64 e), [])) Tryd.underlying23 (by kernel_rfl) (by kernel_rfl) (shut_int Tryd.underlying3 wa) (shut_int Tryd.underlying3 wb) (shut_int Tryd.underlying3 wc)

set_option maxRecDepth 100000 in
/-- A time of a day that is handed over by value: its two numbers. -/
theorem open_clock {H : Type} {enc : TypeId × Value → H} {W : World} {sp : Nat → Bool} {held : Bool} {b0 : Nat} {v : Value} {d : DataW H} {p : List MemPlace} (hv : Value.okWide Tryd.prog W .any b0 44 v) (h : DataW.Trod enc Tryd.prog W 0 sp held 44 v d p) :
    ∃ n k : Int, v = .agg #[.int .i64 n, .int .i64 k] ∧ d = .agg [.lit (.int .i64 n), .lit (.int .i64 k)] ∧ p = [] ∧ (Lit.int .i64 n).wf = true ∧ (Lit.int .i64 k).wf = true := by
  obtain ⟨v0, v1, y0, y1, n, rfl, rfl, rfl, t0, t1⟩ := Joins.open_agg2 Tryd.underlying44 (by kernel_rfl) (by kernel_rfl) hv h
  obtain ⟨a, rfl, rfl, wa⟩ := date_open3 t0
  obtain ⟨b, rfl, rfl, wb⟩ := date_open3 t1
  exact ⟨a, b, rfl, rfl, rfl, wa, wb⟩
theorem shut_clock {H : Type} {enc : TypeId × Value → H} {W : World} {sp : Nat → Bool} {held : Bool} {n k : Int} (wa : (Lit.int .i64 n).wf = true) (wb : (Lit.int .i64 k).wf = true) :
    DataW.Trod enc Tryd.prog W 0 sp held 44 (.agg #[.int .i64 n, .int .i64 k]) (.agg [.lit (.int .i64 n), .lit (.int .i64 k)]) [] :=
  Joins.shut_agg2 (y0 := (.lit (.int .i64 n), [])) (y1 := (.lit (.int .i64 k), [])) Tryd.underlying44 (by kernel_rfl) (by kernel_rfl) (shut_int Tryd.underlying3 wa) (shut_int Tryd.underlying3 wb)
end Go.Proofs.YtjafbopmedbhcaaDoor
