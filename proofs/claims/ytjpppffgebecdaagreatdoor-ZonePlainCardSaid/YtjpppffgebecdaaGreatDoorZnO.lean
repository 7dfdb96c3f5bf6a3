/- What the listed tables give: if the variables read as the row lists them, the days ahead of months, and the marks of formats, read as they are laid; a world is named that meets that condition. -/
import Derived.Test.YtjpppffgebecdaaGreatDoorRows
import Derived.Test.YtjpppffgebecdaaGreatDoorFiL
import Derived.Test.YtjpppffgebecdaaGreatDoorAbA
import Derived.Test.YtjpppffgebecdaaGreatDoorOpA
import Derived.Test.YtjpppffgebecdaaGreatDoorRdS
import Derived.Test.YtjpppffgebecdaaGreatDoorTrd
import Derived.ProofKit
import Derived.ChangeMaps5
import Derived.LaidMore
import Derived.LaidLaws
import Derived.OpenShut
import Derived.Stop.Joined
import Derived.Lay
import Derived.Lib.LaidU8T
import Derived.Shelf.Vars
namespace Go.Proofs.YtjpppffgebecdaaGreatDoor
open Go.ChangeShapes Go.WideShapes Go.ChangeAt Go.RowKit

theorem own : ownKnob Tryz.prog.godebug = none := by kernel_rfl
theorem laidOut : laidOutB Tryz.prog = true := by kernel_rfl
structure LaidZ (w : World) : Prop where
  f : LaidF w
  b : LaidB w
theorem LaidZ.next {w w' : World} (h : LaidZ w) (k : Below w.heap.size w w') : LaidZ w' := ⟨h.f.next k, h.b.next k⟩
def laidZ : List (String × DataW Unit) := [("meridian/civil.ahead", Rows.laid_meridian_civil_ahead), ("meridian/abbr.marks", Rows.laid_meridian_abbr_marks)]
open Go.Lib
def fahTab : List Int := [0, 31, 59, 90, 120, 151, 181, 212, 243, 273, 304, 334, 365]
theorem fahTab_at (m : Int) (h1 : 1 ≤ m) (h2 : m ≤ 13) : fahTab.getD (m.toNat - 1) 0 = ah m := by
  obtain rfl | rfl | rfl | rfl | rfl | rfl | rfl | rfl | rfl | rfl | rfl | rfl | rfl : m = 1 ∨ m = 2 ∨ m = 3 ∨ m = 4 ∨ m = 5 ∨ m = 6 ∨ m = 7 ∨ m = 8 ∨ m = 9 ∨ m = 10 ∨ m = 11 ∨ m = 12 ∨ m = 13 := by omega
  all_goals decide
theorem fah_of {W : World} (h : VarReads Tryz.prog W "meridian/civil.ahead" Rows.laid_meridian_civil_ahead) : AhAt W := by
  have hg : Tryz.prog.globalNamed "meridian/civil.ahead" = some 1 := by kernel_rfl
  obtain ⟨g, t, cs, f, p, h1, h2, h3, h4⟩ := h
  obtain rfl := Option.some.inj (hg.symm.trans h1)
  obtain rfl := Option.some.inj ((show (Tryz.prog.globals[1]?).map (·.type) = some 168 by kernel_rfl).symm.trans h2)
  have e3 : Lib.TabIs Tryz.prog W "meridian/civil.ahead" .i64 fahTab := by
    unfold Lib.TabIs
    rw [h3, ← Lib.cells_of_tab Tryz.underlying168 Tryz.underlying3 (by kernel_rfl) (by kernel_rfl) (show DataW.trod _ _ _ _ _ _ _ _ _ = some (Lib.tabData .i64 fahTab, _) from h4)]
  intro m m1 m2
  rw [e3.cell hg (m.toNat - 1) (by show m.toNat - 1 < 13; omega), fahTab_at m m1 m2]
theorem marks_of {W : World} (h : VarReads Tryz.prog W "meridian/abbr.marks" Rows.laid_meridian_abbr_marks) : ListAt 0 marksL W := by
  have hg : Tryz.prog.globalNamed "meridian/abbr.marks" = some 0 := by kernel_rfl
  obtain ⟨g', t', cs, f, p, h1, h2, h3, h4⟩ := h
  obtain rfl := Option.some.inj (hg.symm.trans h1)
  obtain rfl := Option.some.inj ((show (Tryz.prog.globals[0]?).map (·.type) = some 119 by kernel_rfl).symm.trans h2)
  have key : ∀ i q, marksL[i]? = some q → W.cell? ⟨0, i, none⟩ = some (.string ⟨q.toArray⟩) := by
    intro i q hq
    have hi : i < 4 := (List.getElem?_eq_some_iff.1 hq).1
    rw [World.var?_cell hg h3]
    have := ars_str (i := i) (l := q) Tryz.underlying119 (by kernel_rfl) Tryz.underlying9 (show DataW.trod _ _ _ _ _ _ _ _ _ = some (.agg (marksL.map fun p => .lit (.string p)), _) from h4) hi (by rw [List.getElem?_map, hq]; rfl)
    simpa using this
  exact ⟨wcell_lt (key 0 [] rfl), key⟩
theorem max_of {W : World} (h : W.ShapedOpen Tryz.prog) : MaxB W :=
  cell_of_shapedOpen_int h (by decide +kernel) (zero := #[.int .i64 0]) (t := 3) (by kernel_rfl) rfl (by kernel_rfl) (by kernel_rfl) Tryz.underlying3
theorem of_laidZ {W : World} (h : laidMetH Tryz.prog laidZ W) (hs : W.ShapedOpen Tryz.prog) : LaidZ W := by
  rw [MakeChecks.laidMetH_plain _ _ _ (by kernel_rfl)] at h
  have r : ∀ n d, (n, d) ∈ laidZ → VarReads Tryz.prog W n d := fun n d m => laidMet.reads h m
  exact ⟨{ ah := fah_of (r _ _ (by simp [laidZ])) }, ⟨marks_of (r _ _ (by simp [laidZ])), max_of hs⟩⟩
set_option maxRecDepth 100000 in
theorem metZ (os : Os) (args : Array Value) : laidMetH Tryz.prog laidZ ((World.laidAll Tryz.prog os laidZ).forCall (fun _ _ => 0) ⟨#[], args, []⟩).memory := by
  rw [MakeChecks.laidMetH_plain _ _ _ (by kernel_rfl)]
  exact laidMet_laidAll _ (by kernel_rfl) (by kernel_rfl)
set_option maxRecDepth 100000 in
theorem shapedZ (os : Os) : (World.laidAll Tryz.prog os laidZ).Shaped Tryz.prog := World.shaped_of_ZipB (by kernel_rfl) (by kernel_rfl)
/-- The world's shape is that of its heap. -/
theorem shaped_heap {P : Program} {w w' : World} (hh : w.heap = w'.heap) (h : w.Shaped P) : w'.Shaped P := by
  refine ⟨fun g zero t hg hz => ?_, fun k hk1 hk2 => hh ▸ h.2 k hk1 hk2⟩
  obtain ⟨cs, h1, h2, h3⟩ := h.1 g zero t hg hz
  exact ⟨cs, hh ▸ h1, h2, fun hb => Row.ok_of_shape (fun b x hx => by simpa [World.shape?, ← hh] using hx) (h3 hb)⟩
theorem shaped_call {P : Program} {w : World} {t : Tape} {args : Array Value} (h : w.Shaped P) : (w.forCall t ⟨#[], args, []⟩).Shaped P :=
  shaped_heap (by simp [World.forCall, Input.heap]) h
end Go.Proofs.YtjpppffgebecdaaGreatDoor
