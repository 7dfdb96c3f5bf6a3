/- A row of changes that came in, opened. -/
import Derived.Test.YtdmfgechoanmlaaGreatDoorMYF
import Derived.Test.YtdmfgechoanmlaaGreatDoorMZQ
namespace Go.Proofs.YtdmfgechoanmlaaGreatDoor
open Go Go.RowKit Go.ChangeShapes Go.WideShapes Go.ChangeAt

theorem cLoc : Tryz.prog.cellsOf 41 = 3 := by kernel_rfl
/-- The cells of a change. -/
theorem rd_change {H : Type} {enc : TypeId × Value → H} {W : World} {sp : Nat → Bool} {held : Bool} {cs : List Value} (hl : cs.length = 4) (R : Rd enc W sp held 71 cs) : ∃ x : CV, cs = (cC x).toList ∧ in64' x.t := by
  obtain ⟨c0, c1, c2, c3, rfl⟩ : ∃ c0 c1 c2 c3, cs = [c0, c1, c2, c3] := by
    match cs, hl with
    | [c0, c1, c2, c3], _ => exact ⟨c0, c1, c2, c3, rfl⟩
  obtain ⟨t, rfl, h1⟩ := Rd.int (v := c0) (R.sub Tryz.underlying71 0 _ rfl 3 rfl 0 1 rfl cInt)
  have Q : Rd enc W sp held 41 [c1, c2, c3] := R.sub Tryz.underlying71 1 _ rfl 41 rfl 1 3 rfl cLoc
  obtain ⟨of, rfl, -⟩ := Rd.int (v := c1) (Q.sub Tryz.underlying41 0 _ rfl 3 rfl 0 1 rfl cInt)
  obtain ⟨ds, rfl⟩ := Rd.bit (v := c2) (Q.sub Tryz.underlying41 1 _ rfl 4 rfl 1 1 rfl cBool)
  obtain ⟨ab, rfl⟩ := Rd.str (v := c3) (Q.sub Tryz.underlying41 2 _ rfl 9 rfl 2 1 rfl cStr)
  exact ⟨⟨t, of, ds, ab⟩, rfl, h1⟩
set_option maxRecDepth 100000 in
theorem open_changes {H : Type} {enc : TypeId × Value → H} {W : World} {held : Bool} {r : Reach} {b0 : Nat} {v : Value} {d : DataW H} {p : List MemPlace} (hv : Value.okWide Tryz.prog W r b0 65 v) (h : DataW.Trod enc Tryz.prog W 0 (fun _ => true) held 65 v d p) :
    ∃ (l : List CV) (a : Option Addr) (cap : Nat), v = .slice a l.length cap ∧ l.length ≤ cap ∧ cap ≤ maxLen ∧ RowsAt 4 cC a l W ∧ ∀ x ∈ l, in64' x.t :=
  open_structs 4 (by omega) cC (fun x => in64' x.t) Tryz.underlying65 (by kernel_rfl) (fun _ => rfl) (fun n cs y hl hx => rd_change hl ⟨n, y, hx⟩) hv h
end Go.Proofs.YtdmfgechoanmlaaGreatDoor
