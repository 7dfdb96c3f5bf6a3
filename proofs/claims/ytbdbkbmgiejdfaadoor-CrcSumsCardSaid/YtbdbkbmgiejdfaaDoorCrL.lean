/- What the listed table gives: if crc.fours reads as the rows list it, the table reads as it is laid; and a world is named that meets that condition. -/
import Derived.Test.YtbdbkbmgiejdfaaDoorRows
import Derived.Test.YtbdbkbmgiejdfaaDoorCrA
import Derived.Test.YtbdbkbmgiejdfaaDoorTrd
import Derived.ProofKit
import Derived.LaidMore
import Derived.LaidLaws
import Derived.OpenShut
import Derived.Stop.Joined
import Derived.Lay
namespace Go.Proofs.YtbdbkbmgiejdfaaDoor
open Go.ChangeShapes Go.WideShapes Go.ChangeAt Go.RowKit

theorem own : ownKnob Tryd.prog.godebug = none := by kernel_rfl

def laid1 : List (String × DataW Unit) := [("meridian/crc.fours", Rows.laid_meridian_crc_fours)]
theorem fours_eq : (Rows.laid_meridian_crc_fours : DataW Unit) = .agg (foursL.map fun n : Nat => .lit (.int .i64 (n : Int))) := by kernel_rfl

theorem fo_of_met {W : World} (h : laidMet Tryd.prog laid1 W) : FoAt W := by
  obtain ⟨_, ⟨g, t, cs, f, p, q, h1, h2, h3, h4, _⟩, _⟩ := h
  have hg : Tryd.prog.globalNamed "meridian/crc.fours" = some 0 := by kernel_rfl
  obtain rfl := Option.some.inj (hg.symm.trans h1)
  obtain rfl := Option.some.inj ((show (Tryd.prog.globals[0]?).map (·.type) = some 45 by kernel_rfl).symm.trans h2)
  rw [fours_eq] at h4
  have key : ∀ i, i < 16 → W.cell? ⟨0, i, none⟩ = some (.int .i64 ((foursL.getD i 0 : Nat) : Int)) := by
    intro i hi
    rw [World.var?_cell hg h3]
    have hl : i < foursL.length := hi
    obtain ⟨f1, p1, h5⟩ := arr_at Tryd.underlying45 (by kernel_rfl) h4 i (.lit (.int .i64 ((foursL.getD i 0 : Nat) : Int))) hi (by rw [List.getElem?_map, List.getElem?_eq_getElem hl]; simp [List.getD, List.getElem?_eq_getElem hl])
    have h6 := int_at Tryd.underlying3 h5
    rw [Nat.mul_one] at h6
    simpa using h6
  refine ⟨?_, key⟩
  have h0 := key 0 (by omega)
  rcases Nat.lt_or_ge 0 W.heap.size with hlt | hge
  · exact hlt
  · simp [World.cell?, Array.getElem?_eq_none hge] at h0

theorem of_laid1 {W : World} (h : laidMetH Tryd.prog laid1 W) (_ : W.ShapedOpen Tryd.prog) : FoAt W := by
  rw [MakeChecks.laidMetH_plain _ _ _ (by kernel_rfl)] at h
  exact fo_of_met h

set_option maxRecDepth 100000 in
/-- A world in which the table reads so. -/
theorem met1 (os : Os) (args : Array Value) : laidMetH Tryd.prog laid1 ((World.laidAll Tryd.prog os laid1).forCall (fun _ _ => 0) ⟨#[], args, []⟩).memory := by
  rw [MakeChecks.laidMetH_plain _ _ _ (by kernel_rfl)]
  exact laidMet_laidAll _ (by kernel_rfl) (by kernel_rfl)
theorem shaped1 (os : Os) : (World.laidAll Tryd.prog os laid1).Shaped Tryd.prog := World.shaped_of_ZipB (by kernel_rfl) (by kernel_rfl)
theorem wwf_bd {n : Int} (h : (Lit.int .i64 n).wf = true) : -9223372036854775808 ≤ n ∧ n ≤ 9223372036854775807 := by
  simpa [Lit.wf, IntKind.min, IntKind.max, IntKind.bits, IntKind.signed] using h
end Go.Proofs.YtbdbkbmgiejdfaaDoor
