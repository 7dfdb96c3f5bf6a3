/- An era: its cells in memory, and one that is handed over, opened. -/
import Derived.Test.YtjpppffgebecdaaGreatDoorRdS
namespace Go.Proofs.YtjpppffgebecdaaGreatDoor
open Go Go.RowKit Go.ChangeShapes Go.WideShapes Go.ChangeAt

structure EV where
  of : Int
  rl : List UInt8
  sv : Int
  fm : List UInt8
  en : Bool
  uy : Int
  um : Int
  dk : Int
  dw : Int
  dn : Int
  sc : Int
  ck : Int
  deriving DecidableEq
def cE (e : EV) : Array Value := #[.int .i64 e.of, .string ⟨e.rl.toArray⟩, .int .i64 e.sv, .string ⟨e.fm.toArray⟩, .bool e.en, .int .i64 e.uy, .int .i64 e.um, .int .i64 e.dk, .int .i64 e.dw, .int .i64 e.dn, .int .i64 e.sc, .int .i64 e.ck]
def evV (e : EV) : Value := .agg (cE e)
def e0V : EV := ⟨0, [], 0, [], false, 0, 0, 0, 0, 0, 0, 0⟩
theorem cells12 {W : World} {g : Nat} {t : TypeId} {v0 v1 v2 v3 v4 v5 v6 v7 v8 v9 v10 v11 : Value} (h : W.heap[g]? = some (.cells #[v0, v1, v2, v3, v4, v5, v6, v7, v8, v9, v10, v11] t (0, 0))) :
    W.cell? ⟨g, 0, none⟩ = some v0 ∧ W.cell? ⟨g, 1, none⟩ = some v1 ∧ W.cell? ⟨g, 2, none⟩ = some v2 ∧ W.cell? ⟨g, 3, none⟩ = some v3 ∧ W.cell? ⟨g, 4, none⟩ = some v4 ∧ W.cell? ⟨g, 5, none⟩ = some v5 ∧ W.cell? ⟨g, 6, none⟩ = some v6 ∧ W.cell? ⟨g, 7, none⟩ = some v7 ∧ W.cell? ⟨g, 8, none⟩ = some v8 ∧ W.cell? ⟨g, 9, none⟩ = some v9 ∧ W.cell? ⟨g, 10, none⟩ = some v10 ∧ W.cell? ⟨g, 11, none⟩ = some v11 :=
  ⟨cell_of_row W g 0 _ _ _ h, cell_of_row W g 1 _ _ _ h, cell_of_row W g 2 _ _ _ h, cell_of_row W g 3 _ _ _ h, cell_of_row W g 4 _ _ _ h, cell_of_row W g 5 _ _ _ h, cell_of_row W g 6 _ _ _ h, cell_of_row W g 7 _ _ _ h, cell_of_row W g 8 _ _ _ h, cell_of_row W g 9 _ _ _ h, cell_of_row W g 10 _ _ _ h, cell_of_row W g 11 _ _ _ h⟩
/-- The cells of an era among others. -/
theorem era_cells {A : Option Addr} {es : List EV} {w : World} {i : Nat} {e : EV} (h : RowsAt 12 cE A es w) (he : es[i]? = some e) : ∃ L off, A = some ⟨L, off, none⟩ ∧ L < w.heap.size ∧
    (w.cell? ⟨L, off + i * 12, none⟩ = some (.int .i64 e.of) ∧ w.cell? ⟨L, off + i * 12 + 1, none⟩ = some (.string ⟨e.rl.toArray⟩) ∧ w.cell? ⟨L, off + i * 12 + 2, none⟩ = some (.int .i64 e.sv) ∧ w.cell? ⟨L, off + i * 12 + 3, none⟩ = some (.string ⟨e.fm.toArray⟩) ∧ w.cell? ⟨L, off + i * 12 + 4, none⟩ = some (.bool e.en) ∧ w.cell? ⟨L, off + i * 12 + 5, none⟩ = some (.int .i64 e.uy) ∧ w.cell? ⟨L, off + i * 12 + 6, none⟩ = some (.int .i64 e.um) ∧ w.cell? ⟨L, off + i * 12 + 7, none⟩ = some (.int .i64 e.dk) ∧ w.cell? ⟨L, off + i * 12 + 8, none⟩ = some (.int .i64 e.dw) ∧ w.cell? ⟨L, off + i * 12 + 9, none⟩ = some (.int .i64 e.dn) ∧ w.cell? ⟨L, off + i * 12 + 10, none⟩ = some (.int .i64 e.sc) ∧ w.cell? ⟨L, off + i * 12 + 11, none⟩ = some (.int .i64 e.ck)) := by
  obtain ⟨L, off, e1, hl, hc⟩ := h i e he
  exact ⟨L, off, e1, hl, hc 0 _ (by omega) rfl, hc 1 _ (by omega) rfl, hc 2 _ (by omega) rfl, hc 3 _ (by omega) rfl, hc 4 _ (by omega) rfl, hc 5 _ (by omega) rfl, hc 6 _ (by omega) rfl, hc 7 _ (by omega) rfl, hc 8 _ (by omega) rfl, hc 9 _ (by omega) rfl, hc 10 _ (by omega) rfl, hc 11 _ (by omega) rfl⟩
theorem cUnt : Tryz.prog.cellsOf 52 = 7 := by kernel_rfl
set_option maxRecDepth 100000 in
/-- The cells of an era. -/
theorem rd_era {H : Type} {enc : TypeId × Value → H} {W : World} {sp : Nat → Bool} {held : Bool} {cs : List Value} (hl : cs.length = 12) (R : Rd enc W sp held 54 cs) : ∃ x : EV, cs = (cE x).toList ∧ in64' x.of ∧ in64' x.sv := by
  obtain ⟨c0, c1, c2, c3, c4, c5, c6, c7, c8, c9, c10, c11, rfl⟩ : ∃ c0 c1 c2 c3 c4 c5 c6 c7 c8 c9 c10 c11, cs = [c0, c1, c2, c3, c4, c5, c6, c7, c8, c9, c10, c11] := by
    match cs, hl with
    | [c0, c1, c2, c3, c4, c5, c6, c7, c8, c9, c10, c11], _ => exact ⟨c0, c1, c2, c3, c4, c5, c6, c7, c8, c9, c10, c11, rfl⟩
  obtain ⟨of, rfl, h1⟩ := Rd.int (v := c0) (R.sub Tryz.underlying54 0 _ rfl 3 rfl 0 1 rfl cInt)
  obtain ⟨rl, rfl⟩ := Rd.str (v := c1) (R.sub Tryz.underlying54 1 _ rfl 9 rfl 1 1 rfl cStr)
  obtain ⟨sv, rfl, h2⟩ := Rd.int (v := c2) (R.sub Tryz.underlying54 2 _ rfl 3 rfl 2 1 rfl cInt)
  obtain ⟨fm, rfl⟩ := Rd.str (v := c3) (R.sub Tryz.underlying54 3 _ rfl 9 rfl 3 1 rfl cStr)
  obtain ⟨en, rfl⟩ := Rd.bit (v := c4) (R.sub Tryz.underlying54 4 _ rfl 4 rfl 4 1 rfl cBool)
  have Q : Rd enc W sp held 52 [c5, c6, c7, c8, c9, c10, c11] := R.sub Tryz.underlying54 5 _ rfl 52 rfl 5 7 rfl cUnt
  obtain ⟨uy, rfl, -⟩ := Rd.int (v := c5) (Q.sub Tryz.underlying52 0 _ rfl 3 rfl 0 1 rfl cInt)
  obtain ⟨um, rfl, -⟩ := Rd.int (v := c6) (Q.sub Tryz.underlying52 1 _ rfl 3 rfl 1 1 rfl cInt)
  obtain ⟨dk, dw, dn, rfl, rfl, rfl⟩ := Rd.day (v0 := c7) (v1 := c8) (v2 := c9) (Q.sub Tryz.underlying52 2 _ rfl 48 rfl 2 3 rfl cDay)
  obtain ⟨sc, ck, rfl, rfl⟩ := Rd.clk (v0 := c10) (v1 := c11) (Q.sub Tryz.underlying52 3 _ rfl 50 rfl 5 2 rfl cClk)
  exact ⟨⟨of, rl, sv, fm, en, uy, um, dk, dw, dn, sc, ck⟩, rfl, h1, h2⟩
set_option maxRecDepth 100000 in
/-- An era that is handed over by value. -/
theorem open_era {H : Type} {enc : TypeId × Value → H} {W : World} {sp : Nat → Bool} {held : Bool} {r : Reach} {b0 : Nat} {v : Value} {d : DataW H} {p : List MemPlace} (hv : Value.okWide Tryz.prog W r b0 54 v) (h : DataW.Trod enc Tryz.prog W 0 sp held 54 v d p) : ∃ x : EV, v = evV x ∧ in64' x.of ∧ in64' x.sv := by
  obtain ⟨cs, rfl, hsz⟩ := okWide_struct Tryz.underlying54 hv
  obtain ⟨fuel, hf⟩ := h
  obtain ⟨x, hx, h1, h2⟩ := rd_era (cs := cs.toList) (by rw [Array.length_toList, hsz]; kernel_rfl) (R := ⟨fuel, _, by simpa [Value.cells] using hf⟩)
  refine ⟨x, ?_, h1, h2⟩
  obtain ⟨l⟩ := cs
  have hx' : l = (cE x).toList := hx
  rw [hx']; rfl
end Go.Proofs.YtjpppffgebecdaaGreatDoor
