/- What the listed table gives: if the variable reads as the row lists it, the marks of formats read as they are laid; a world is named that meets that condition; arguments that are arrays or slices of texts, opened. -/
import Derived.Test.YtcfmmllegaddhaaDoorRows
import Derived.Test.YtcfmmllegaddhaaDoorAbH
import Derived.Test.YtcfmmllegaddhaaDoorOpA
import Derived.Test.YtcfmmllegaddhaaDoorTrd
import Derived.ProofKit
import Derived.ChangeMaps5
import Derived.LaidMore
import Derived.LaidLaws
import Derived.OpenShut
import Derived.Stop.Joined
import Derived.Lay
import Derived.Lib.LaidU8T
import Derived.Shelf.Vars
namespace Go.Proofs.YtcfmmllegaddhaaDoor
open Go.ChangeShapes Go.WideShapes Go.ChangeAt Go.RowKit

theorem own : ownKnob Tryd.prog.godebug = none := by kernel_rfl
theorem laidOut : laidOutB Tryd.prog = true := by kernel_rfl
def laidB : List (String × DataW Unit) := [("meridian/abbr.marks", Rows.laid_meridian_abbr_marks)]
open Go.Lib in
theorem marks_of {W : World} (h : VarReads Tryd.prog W "meridian/abbr.marks" Rows.laid_meridian_abbr_marks) : ListAt 0 marksL W := by
  have hg : Tryd.prog.globalNamed "meridian/abbr.marks" = some 0 := by kernel_rfl
  obtain ⟨g', t', cs, f, p, h1, h2, h3, h4⟩ := h
  obtain rfl := Option.some.inj (hg.symm.trans h1)
  obtain rfl := Option.some.inj ((show (Tryd.prog.globals[0]?).map (·.type) = some 53 by kernel_rfl).symm.trans h2)
  have key : ∀ i q, marksL[i]? = some q → W.cell? ⟨0, i, none⟩ = some (.string ⟨q.toArray⟩) := by
    intro i q hq
    have hi : i < 4 := (List.getElem?_eq_some_iff.1 hq).1
    rw [World.var?_cell hg h3]
    have := ars_str (i := i) (l := q) Tryd.underlying53 (by kernel_rfl) Tryd.underlying9 (show DataW.trod _ _ _ _ _ _ _ _ _ = some (.agg (marksL.map fun p => .lit (.string p)), _) from h4) hi (by rw [List.getElem?_map, hq]; rfl)
    simpa using this
  exact ⟨wcell_lt (key 0 [] rfl), key⟩
theorem max_of {W : World} (h : W.ShapedOpen Tryd.prog) : MaxB W :=
  cell_of_shapedOpen_int h (by decide +kernel) (zero := #[.int .i64 0]) (t := 3) (by kernel_rfl) rfl (by kernel_rfl) (by kernel_rfl) Tryd.underlying3
open Go.Lib in
theorem of_laidB {W : World} (h : laidMetH Tryd.prog laidB W) (hs : W.ShapedOpen Tryd.prog) : LaidB W := by
  rw [MakeChecks.laidMetH_plain _ _ _ (by kernel_rfl)] at h
  have r : ∀ n d, (n, d) ∈ laidB → VarReads Tryd.prog W n d := fun n d m => laidMet.reads h m
  exact ⟨marks_of (r _ _ (by simp [laidB])), max_of hs⟩
open Go.Lib in
set_option maxRecDepth 100000 in
theorem metB (os : Os) (args : Array Value) : laidMetH Tryd.prog laidB ((World.laidAll Tryd.prog os laidB).forCall (fun _ _ => 0) ⟨#[], args, []⟩).memory := by
  rw [MakeChecks.laidMetH_plain _ _ _ (by kernel_rfl)]
  exact laidMet_laidAll _ (by kernel_rfl) (by kernel_rfl)
set_option maxRecDepth 100000 in
theorem shapedB (os : Os) : (World.laidAll Tryd.prog os laidB).Shaped Tryd.prog := World.shaped_of_ZipB (by kernel_rfl) (by kernel_rfl)
/-- The world's shape is that of its heap. -/
theorem shaped_heap {P : Program} {w w' : World} (hh : w.heap = w'.heap) (h : w.Shaped P) : w'.Shaped P := by
  refine ⟨fun g zero t hg hz => ?_, fun k hk1 hk2 => hh ▸ h.2 k hk1 hk2⟩
  obtain ⟨cs, h1, h2, h3⟩ := h.1 g zero t hg hz
  exact ⟨cs, hh ▸ h1, h2, fun hb => Row.ok_of_shape (fun b x hx => by simpa [World.shape?, ← hh] using hx) (h3 hb)⟩
theorem shaped_call {P : Program} {w : World} {t : Tape} {args : Array Value} (h : w.Shaped P) : (w.forCall t ⟨#[], args, []⟩).Shaped P :=
  shaped_heap (by simp [World.forCall, Input.heap]) h

section
variable {H : Type} {enc : TypeId × Value → H} {P : Program} {w : World} {base : Nat} {spare : Nat → Bool} {held : Bool}
/-- An array of texts by value. -/
theorem open_array_strs {r : Reach} {b0 : Nat} {t e : TypeId} {n : Nat} {v : Value} {d : DataW H} {p : List MemPlace} (ht : P.underlying t = some (.array n e)) (he : P.underlying e = some .string) (hce : P.cellsOf e = 1) (hC : P.cellsOf t = n)
    (hv : Value.okWide P w r b0 t v) (h : DataW.Trod enc P w base spare held t v d p) :
    ∃ zs : List (List UInt8), zs.length = n ∧ v = .agg (zs.map (fun z => Value.string ⟨z.toArray⟩)).toArray := by
  unfold Value.okWide at hv
  rw [ht] at hv
  obtain ⟨cs, rfl, hsz, _⟩ := hv
  obtain ⟨fuel, hf⟩ := h
  obtain ⟨xs, m, _, _, _, hxl, hel⟩ := DataW.trod_array ht hf
  rw [hC] at hsz
  have key : ∀ i (hi : i < n), ∃ s : ByteArray, cs.toList[i]? = some (.string s) := by
    intro i hi
    have h1 := hel i hi
    rw [hce, Nat.mul_one] at h1
    have hl : i < cs.toList.length := by simpa using (show i < cs.size by omega)
    have h2 : ((Value.agg cs).cells.toList.drop i).take 1 = [cs.toList[i]] := by
      show (cs.toList.drop i).take 1 = _
      rw [List.drop_eq_getElem_cons hl]; rfl
    have hx : xs[i]? = some (xs[i]'(by omega)) := List.getElem?_eq_getElem (by omega)
    rw [h2, hx] at h1
    obtain ⟨a, e0, _, _⟩ := DataW.trod_string he h1
    refine ⟨a, ?_⟩
    rw [List.getElem?_eq_getElem hl]
    simpa using e0
  refine ⟨cs.toList.map (fun v => match v with | .string s => s.data.toList | _ => []), by simp [hsz], ?_⟩
  congr 1
  apply Array.toList_inj.1
  apply List.ext_getElem?
  intro i
  by_cases hi : i < n
  · obtain ⟨a, ha⟩ := key i hi
    simp [ha]
  · have hl : cs.toList.length ≤ i := by simpa using (show cs.size ≤ i by omega)
    rw [List.getElem?_eq_none hl, List.getElem?_eq_none (by simpa using hl)]
end
section
variable {H : Type} {enc : TypeId × Value → H} {w : World} {base : Nat} {held : Bool}
/-- Texts that an argument holds. -/
def ArgW (a : Option Addr) (l : List (List UInt8)) (w : World) : Prop := ∀ (k : Nat) (q : List UInt8), l[k]? = some q → ∃ b off, a = some ⟨b, off, none⟩ ∧ w.cell? ⟨b, off + k, none⟩ = some (.string ⟨q.toArray⟩)
theorem open_slice_strs {r : Reach} {b0 : Nat} {v : Value} {d : DataW H} {p : List MemPlace}
    (hv : Value.okWide Tryd.prog w r b0 43 v) (h : DataW.Trod enc Tryd.prog w base (fun _ => true) held 43 v d p) :
    ∃ (l : List (List UInt8)) (a : Option Addr) (cap : Nat), v = .slice a l.length cap ∧ l.length ≤ maxLen ∧ l.length ≤ cap ∧ ArgW a l w := by
  obtain ⟨a, len, cap, rfl⟩ := okWide_slice Tryd.underlying43 hv
  obtain ⟨fuel, hf⟩ := h
  rcases open_strings Tryd.underlying43 Tryd.underlying9 (by kernel_rfl) hf with ⟨hcs, _⟩ | ⟨x, l, c, ss, hcs, _, hl, hm, hz, _, hcell, _⟩
  · simp [Value.cells] at hcs
    obtain ⟨rfl, rfl, rfl⟩ := hcs
    exact ⟨[], none, 0, rfl, Nat.zero_le _, Nat.zero_le _, fun i p h => by simp at h⟩
  · simp [Value.cells] at hcs
    obtain ⟨rfl, rfl, rfl⟩ := hcs
    have hz' : ss.length = cap := by simpa using hz
    have hlen : ((ss.take len).map (fun s => s.data.toList)).length = len := by rw [List.length_map, List.length_take]; omega
    refine ⟨(ss.take len).map (fun s => s.data.toList), some x, cap, by rw [hlen], by rw [hlen]; omega, by rw [hlen]; omega, ?_⟩
    intro k q hq
    have hk := (List.getElem?_eq_some_iff.1 hq).1
    rw [hlen] at hk
    have hkz : k < ss.length := by omega
    obtain ⟨b, off, spot⟩ := x
    have h0 := hcell k hkz
    have hspot : spot = none := by simpa [Addr.add] using World.cell?_spot (hcell 0 (by omega))
    subst hspot
    rw [Go.WideShapes.add_plain] at h0
    refine ⟨b, off, rfl, ?_⟩
    rw [h0]
    rw [List.getElem?_map, List.getElem?_take_of_lt hk, List.getElem?_eq_getElem hkz] at hq
    injection hq with hq
    rw [List.getD, List.getElem?_eq_getElem hkz, ← hq]
    rfl
end
end Go.Proofs.YtcfmmllegaddhaaDoor
