/- What the listed tables give: if the variables read as the rows list them, the tables of days ahead of months and of powers of ten read as they are laid; and the heap that the program's own start leaves meets that condition. -/
import Derived.Test.YtnedpflebkcdoaaDoorRows
import Derived.Test.YtnedpflebkcdoaaDoorAwakeB
import Derived.ProofKit
import Derived.LaidMore
import Derived.OpenShut
import Derived.Stop.Joined
import Derived.Lib.SmallJoins
namespace Go.Proofs.YtnedpflebkcdoaaDoor
open Go.ChangeShapes Go.WideShapes Go.ChangeAt Go.RowKit

theorem own : ownKnob Tryd.prog.godebug = none := by kernel_rfl

def laidAll : List (String × DataW Unit) := [("math/bits.deBruijn32tab", Rows.laid_math_bits_deBruijn32tab), ("math/bits.deBruijn64tab", Rows.laid_math_bits_deBruijn64tab), ("internal/strconv.uint64pow10", Rows.laid_internal_strconv_uint64pow10), ("meridian/civil.ahead", Rows.laid_meridian_civil_ahead)]

theorem gPow : Tryd.prog.globalNamed "internal/strconv.uint64pow10" = some 1 := by kernel_rfl
theorem gAh : Tryd.prog.globalNamed "meridian/civil.ahead" = some 0 := by kernel_rfl
theorem tPow : (Tryd.prog.globals[1]?).map (·.type) = some 64 := by kernel_rfl
theorem tAh : (Tryd.prog.globals[0]?).map (·.type) = some 54 := by kernel_rfl
def ahTab : List Int := [0, 31, 59, 90, 120, 151, 181, 212, 243, 273, 304, 334, 365]

theorem ahTab_at (m : Int) (h1 : 1 ≤ m) (h2 : m ≤ 13) : ahTab.getD (m.toNat - 1) 0 = ah m := by
  obtain rfl | rfl | rfl | rfl | rfl | rfl | rfl | rfl | rfl | rfl | rfl | rfl | rfl : m = 1 ∨ m = 2 ∨ m = 3 ∨ m = 4 ∨ m = 5 ∨ m = 6 ∨ m = 7 ∨ m = 8 ∨ m = 9 ∨ m = 10 ∨ m = 11 ∨ m = 12 ∨ m = 13 := by omega
  all_goals decide

theorem of_laid {W : World} (h : laidMetH Tryd.prog laidAll W) : Laid2 W := by
  rw [MakeChecks.laidMetH_plain _ _ _ (by kernel_rfl)] at h
  obtain ⟨ps, ⟨_, _, _, _, _, _, _, _, _, _, ⟨_, _, _, _, _, _, _, _, _, _, ⟨g2, t2, cs2, f2, p2, q2, hg2, ht2, hv2, hd2, ⟨g3, t3, cs3, f3, p3, q3, hg3, ht3, hv3, hd3, _, _⟩, _⟩, _⟩, _⟩, _, _⟩ := h
  obtain rfl := Option.some.inj (gPow.symm.trans hg2)
  obtain rfl := Option.some.inj (gAh.symm.trans hg3)
  obtain rfl := Option.some.inj (tPow.symm.trans ht2)
  obtain rfl := Option.some.inj (tAh.symm.trans ht3)
  have e2 : Lib.TabIs Tryd.prog W "internal/strconv.uint64pow10" .u64 Lib.pow10Tab := by
    unfold Lib.TabIs
    rw [hv2, ← Lib.cells_of_tab Tryd.underlying64 Tryd.underlying58 (by kernel_rfl) (by kernel_rfl) (show DataW.trod _ _ _ _ _ _ _ _ _ = some (Lib.tabData .u64 Lib.pow10Tab, _) from hd2)]
  have e3 : Lib.TabIs Tryd.prog W "meridian/civil.ahead" .i64 ahTab := by
    unfold Lib.TabIs
    rw [hv3, ← Lib.cells_of_tab Tryd.underlying54 Tryd.underlying3 (by kernel_rfl) (by kernel_rfl) (show DataW.trod _ _ _ _ _ _ _ _ _ = some (Lib.tabData .i64 ahTab, _) from hd3)]
  refine ⟨fun m h1 h2 => ?_, e2⟩
  rw [e3.cell gAh (m.toNat - 1) (by show m.toNat - 1 < 13; omega), ahTab_at m h1 h2]

/-- The program's own start leaves a heap in which the tables read so. -/
theorem door_met (os : Os) (args : Array Value) : laidMetH Tryd.prog laidAll ((World.doorLaid Tryd.prog 400 os).forCall (fun _ _ => 0) ⟨#[], args, []⟩).memory :=
  laidMetH_of_parts3 (fuel := 8) (laidMet_of_run' 8 (by kernel_rfl) (by kernel_rfl)) (by kernel_rfl) (by kernel_rfl)

theorem wf_bd {n : Int} (h : (Lit.int .i64 n).wf = true) : -9223372036854775808 ≤ n ∧ n ≤ 9223372036854775807 := by
  simpa [Lit.wf, IntKind.min, IntKind.max, IntKind.bits, IntKind.signed] using h

theorem date_open3 {H : Type} {enc : TypeId × Value → H} {W : World} {sp : Nat → Bool} {held : Bool} {n : Nat} {v : Value} {y : DataW H × List MemPlace} (h : DataW.trod enc Tryd.prog W 0 sp held n 3 [v] = some y) :
    ∃ a : Int, v = .int .i64 a ∧ y = (.lit (.int .i64 a), []) ∧ (Lit.int .i64 a).wf = true := by
  obtain ⟨a, e1, e2, e3⟩ := DataW.trod_int Tryd.underlying3 h
  exact ⟨a, by simpa using e1, e2, e3⟩

/-- A date that is handed over by value: its three numbers. -/
theorem open_date {H : Type} {enc : TypeId × Value → H} {W : World} {sp : Nat → Bool} {held : Bool} {b0 : Nat} {v : Value} {d : DataW H} {p : List MemPlace} (hv : Value.okWide Tryd.prog W .any b0 23 v) (h : DataW.Trod enc Tryd.prog W 0 sp held 23 v d p) :
    ∃ y m e : Int, v = .agg #[.int .i64 y, .int .i64 m, .int .i64 e] ∧ d = .agg [.lit (.int .i64 y), .lit (.int .i64 m), .lit (.int .i64 e)] ∧ p = [] ∧ (Lit.int .i64 y).wf = true ∧ (Lit.int .i64 m).wf = true ∧ (Lit.int .i64 e).wf = true := by
  obtain ⟨v0, v1, v2, y0, y1, y2, n, rfl, rfl, rfl, t0, t1, t2⟩ := Joins.open_agg3 Tryd.underlying23 (by kernel_rfl) (by kernel_rfl) hv h
  obtain ⟨a, rfl, rfl, wa⟩ := date_open3 t0
  obtain ⟨b, rfl, rfl, wb⟩ := date_open3 t1
  obtain ⟨c, rfl, rfl, wc⟩ := date_open3 t2
  exact ⟨a, b, c, rfl, rfl, rfl, wa, wb, wc⟩

theorem shut_date {H : Type} {enc : TypeId × Value → H} {W : World} {sp : Nat → Bool} {held : Bool} {y m e : Int} (wa : (Lit.int .i64 y).wf = true) (wb : (Lit.int .i64 m).wf = true) (wc : (Lit.int .i64 e).wf = true) :
    DataW.Trod enc Tryd.prog W 0 sp held 23 (.agg #[.int .i64 y, .int .i64 m, .int .i64 e]) (.agg [.lit (.int .i64 y), .lit (.int .i64 m), .lit (.int .i64 e)]) [] :=
  Joins.shut_agg3 (y0 := (.lit (.int .i64 y), [])) (y1 := (.lit (.int .i64 m), [])) (y2 := (.lit (.int .i64 e), [])) Tryd.underlying23 (by kernel_rfl) (by kernel_rfl) (shut_int Tryd.underlying3 wa) (shut_int Tryd.underlying3 wb) (shut_int Tryd.underlying3 wc)
end Go.Proofs.YtnedpflebkcdoaaDoor
