/- What the listed table gives: if the variable reads as the row lists it, the days ahead of months read as they are laid; a world is named that meets that condition. -/
import Derived.Test.YtblamffdlclomaaDoorRows
import Derived.Test.YtblamffdlclomaaDoorFiL
import Derived.Test.YtblamffdlclomaaDoorOpA
import Derived.Test.YtblamffdlclomaaDoorRdS
import Derived.LaidMore
import Derived.LaidLaws
import Derived.OpenShut
import Derived.Stop.Joined
import Derived.Lay
import Derived.Lib.LaidU8T
import Derived.Test.YtblamffdlclomaaDoorTrd
namespace Go.Proofs.YtblamffdlclomaaDoor
open Go.ChangeShapes Go.WideShapes Go.ChangeAt Go.RowKit

theorem own : ownKnob Tryd.prog.godebug = none := by kernel_rfl
theorem laidOut : laidOutB Tryd.prog = true := by kernel_rfl
def laidA : List (String × DataW Unit) := [("meridian/civil.ahead", Rows.laid_meridian_civil_ahead)]
open Go.Lib
def fahTab : List Int := [0, 31, 59, 90, 120, 151, 181, 212, 243, 273, 304, 334, 365]
theorem fahTab_at (m : Int) (h1 : 1 ≤ m) (h2 : m ≤ 13) : fahTab.getD (m.toNat - 1) 0 = ah m := by
  obtain rfl | rfl | rfl | rfl | rfl | rfl | rfl | rfl | rfl | rfl | rfl | rfl | rfl : m = 1 ∨ m = 2 ∨ m = 3 ∨ m = 4 ∨ m = 5 ∨ m = 6 ∨ m = 7 ∨ m = 8 ∨ m = 9 ∨ m = 10 ∨ m = 11 ∨ m = 12 ∨ m = 13 := by omega
  all_goals decide
theorem fah_of {W : World} (h : VarReads Tryd.prog W "meridian/civil.ahead" Rows.laid_meridian_civil_ahead) : AhAt W := by
  have hg : Tryd.prog.globalNamed "meridian/civil.ahead" = some 0 := by kernel_rfl
  obtain ⟨g, t, cs, f, p, h1, h2, h3, h4⟩ := h
  obtain rfl := Option.some.inj (hg.symm.trans h1)
  obtain rfl := Option.some.inj ((show (Tryd.prog.globals[0]?).map (·.type) = some 93 by kernel_rfl).symm.trans h2)
  have e3 : Lib.TabIs Tryd.prog W "meridian/civil.ahead" .i64 fahTab := by
    unfold Lib.TabIs
    rw [h3, ← Lib.cells_of_tab Tryd.underlying93 Tryd.underlying3 (by kernel_rfl) (by kernel_rfl) (show DataW.trod _ _ _ _ _ _ _ _ _ = some (Lib.tabData .i64 fahTab, _) from h4)]
  intro m m1 m2
  rw [e3.cell hg (m.toNat - 1) (by show m.toNat - 1 < 13; omega), fahTab_at m m1 m2]
open Go.Lib in
theorem of_laidA {W : World} (h : laidMetH Tryd.prog laidA W) (_hs : W.ShapedOpen Tryd.prog) : LaidF W := by
  rw [MakeChecks.laidMetH_plain _ _ _ (by kernel_rfl)] at h
  have r : ∀ n d, (n, d) ∈ laidA → VarReads Tryd.prog W n d := fun n d m => laidMet.reads h m
  exact { ah := fah_of (r _ _ (by simp [laidA])) }
set_option maxRecDepth 100000 in
theorem metA (os : Os) (args : Array Value) : laidMetH Tryd.prog laidA ((World.laidAll Tryd.prog os laidA).forCall (fun _ _ => 0) ⟨#[], args, []⟩).memory := by
  rw [MakeChecks.laidMetH_plain _ _ _ (by kernel_rfl)]
  exact laidMet_laidAll _ (by kernel_rfl) (by kernel_rfl)
set_option maxRecDepth 100000 in
theorem shapedA (os : Os) : (World.laidAll Tryd.prog os laidA).Shaped Tryd.prog := World.shaped_of_ZipB (by kernel_rfl) (by kernel_rfl)

/-- The world's shape is that of its heap. -/
theorem shaped_heap {P : Program} {w w' : World} (hh : w.heap = w'.heap) (h : w.Shaped P) : w'.Shaped P := by
  refine ⟨fun g zero t hg hz => ?_, fun k hk1 hk2 => hh ▸ h.2 k hk1 hk2⟩
  obtain ⟨cs, h1, h2, h3⟩ := h.1 g zero t hg hz
  exact ⟨cs, hh ▸ h1, h2, fun hb => Row.ok_of_shape (fun b x hx => by simpa [World.shape?, ← hh] using hx) (h3 hb)⟩
theorem shaped_call {P : Program} {w : World} {t : Tape} {args : Array Value} (h : w.Shaped P) : (w.forCall t ⟨#[], args, []⟩).Shaped P :=
  shaped_heap (by simp [World.forCall, Input.heap]) h

end Go.Proofs.YtblamffdlclomaaDoor
