/- Rules, eras and links that are handed over by value, opened. Written by wip/tools/gencl.py. -/
import Derived.Test.YtfmehdophoejiaaGreatDoorMQ
import Derived.Test.YtfmehdophoejiaaGreatDoorLnY
import Derived.Lib.SmallJoins
namespace Go.Proofs.YtfmehdophoejiaaGreatDoor
open Go Go.RowKit

open Go.WideShapes
theorem array11 {α : Type} {cs : Array α} (h : cs.size = 11) : ∃ c0 c1 c2 c3 c4 c5 c6 c7 c8 c9 c10, cs = #[c0, c1, c2, c3, c4, c5, c6, c7, c8, c9, c10] := by
  obtain ⟨l⟩ := cs
  match l, h with
  | [c0, c1, c2, c3, c4, c5, c6, c7, c8, c9, c10], _ => exact ⟨c0, c1, c2, c3, c4, c5, c6, c7, c8, c9, c10, rfl⟩
theorem array12 {α : Type} {cs : Array α} (h : cs.size = 12) : ∃ c0 c1 c2 c3 c4 c5 c6 c7 c8 c9 c10 c11, cs = #[c0, c1, c2, c3, c4, c5, c6, c7, c8, c9, c10, c11] := by
  obtain ⟨l⟩ := cs
  match l, h with
  | [c0, c1, c2, c3, c4, c5, c6, c7, c8, c9, c10, c11], _ => exact ⟨c0, c1, c2, c3, c4, c5, c6, c7, c8, c9, c10, c11, rfl⟩
def Rd {H : Type} (enc : TypeId × Value → H) (W : World) (sp : Nat → Bool) (held : Bool) (t : TypeId) (cs : List Value) : Prop := ∃ n y, DataW.trod enc Tryz.prog W 0 sp held n t cs = some y
theorem Rd.sub {H : Type} {enc : TypeId × Value → H} {W : World} {sp : Nat → Bool} {held : Bool} {t : TypeId} {cs : List Value} {fs : Array Field} (h : Rd enc W sp held t cs) (hu : Tryz.prog.underlying t = some (.struct fs)) (i : Nat) (f : Field) (hf : fs[i]? = some f) (u : TypeId) (ht : f.type = u) (o k : Nat) (ho : f.offset = o) (hk : Tryz.prog.cellsOf u = k) : Rd enc W sp held u ((cs.drop o).take k) := by
  obtain ⟨n, y, h⟩ := h
  obtain ⟨xs, m, _, _, _, hlen, k⟩ := DataW.trod_struct hu h
  subst ht ho hk
  have hi : i < xs.length := by rw [hlen]; exact (Array.getElem?_eq_some_iff.1 hf).1
  exact ⟨m, xs[i], (k i f hf).trans (List.getElem?_eq_getElem hi)⟩
theorem Rd.int {H : Type} {enc : TypeId × Value → H} {W : World} {sp : Nat → Bool} {held : Bool} {v : Value} (h : Rd enc W sp held 3 [v]) : ∃ a : Int, v = .int .i64 a ∧ in64' a := by
  obtain ⟨n, y, h⟩ := h
  obtain ⟨a, e1, _, hw⟩ := DataW.trod_int Tryz.underlying3 h
  refine ⟨a, by simpa using e1, ?_⟩
  simp only [Lit.wf, Bool.and_eq_true, decide_eq_true_eq] at hw
  exact ⟨hw.1, hw.2⟩
theorem Rd.str {H : Type} {enc : TypeId × Value → H} {W : World} {sp : Nat → Bool} {held : Bool} {v : Value} (h : Rd enc W sp held 9 [v]) : ∃ l : List UInt8, v = .string ⟨l.toArray⟩ := by
  obtain ⟨n, y, h⟩ := h
  obtain ⟨s, e1, _, _⟩ := DataW.trod_string Tryz.underlying9 h
  exact ⟨s.data.toList, by simpa using e1⟩
theorem Rd.bit {H : Type} {enc : TypeId × Value → H} {W : World} {sp : Nat → Bool} {held : Bool} {v : Value} (h : Rd enc W sp held 4 [v]) : ∃ b : Bool, v = .bool b := by
  obtain ⟨n, y, h⟩ := h
  obtain ⟨b, e1, _⟩ := DataW.trod_bool Tryz.underlying4 h
  exact ⟨b, by simpa using e1⟩
theorem cInt : Tryz.prog.cellsOf 3 = 1 := by kernel_rfl
theorem cStr : Tryz.prog.cellsOf 9 = 1 := by kernel_rfl
theorem cBool : Tryz.prog.cellsOf 4 = 1 := by kernel_rfl
theorem cDay : Tryz.prog.cellsOf 30 = 3 := by kernel_rfl
theorem cClk : Tryz.prog.cellsOf 32 = 2 := by kernel_rfl
theorem cUnt : Tryz.prog.cellsOf 38 = 7 := by kernel_rfl
theorem Rd.day {H : Type} {enc : TypeId × Value → H} {W : World} {sp : Nat → Bool} {held : Bool} {v0 v1 v2 : Value} (h : Rd enc W sp held 30 [v0, v1, v2]) : ∃ a b c : Int, v0 = .int .i64 a ∧ v1 = .int .i64 b ∧ v2 = .int .i64 c := by
  obtain ⟨a, e0, -⟩ := Rd.int (v := v0) (h.sub Tryz.underlying30 0 _ rfl 3 rfl 0 1 rfl cInt)
  obtain ⟨b, e1, -⟩ := Rd.int (v := v1) (h.sub Tryz.underlying30 1 _ rfl 3 rfl 1 1 rfl cInt)
  obtain ⟨c, e2, -⟩ := Rd.int (v := v2) (h.sub Tryz.underlying30 2 _ rfl 3 rfl 2 1 rfl cInt)
  exact ⟨a, b, c, e0, e1, e2⟩
theorem Rd.clk {H : Type} {enc : TypeId × Value → H} {W : World} {sp : Nat → Bool} {held : Bool} {v0 v1 : Value} (h : Rd enc W sp held 32 [v0, v1]) : ∃ a b : Int, v0 = .int .i64 a ∧ v1 = .int .i64 b := by
  obtain ⟨a, e0, -⟩ := Rd.int (v := v0) (h.sub Tryz.underlying32 0 _ rfl 3 rfl 0 1 rfl cInt)
  obtain ⟨b, e1, -⟩ := Rd.int (v := v1) (h.sub Tryz.underlying32 1 _ rfl 3 rfl 1 1 rfl cInt)
  exact ⟨a, b, e0, e1⟩
set_option maxRecDepth 100000 in
/-- A rule that is handed over by value. -/
theorem open_rule {H : Type} {enc : TypeId × Value → H} {W : World} {sp : Nat → Bool} {held : Bool} {r : Reach} {b0 : Nat} {v : Value} {d : DataW H} {p : List MemPlace} (hv : Value.okWide Tryz.prog W r b0 34 v) (h : DataW.Trod enc Tryz.prog W 0 sp held 34 v d p) : ∃ x : RV, v = rvV x ∧ in64' x.fr ∧ in64' x.tl := by
  obtain ⟨cs, rfl, hsz⟩ := okWide_struct Tryz.underlying34 hv
  obtain ⟨c0, c1, c2, c3, c4, c5, c6, c7, c8, c9, c10, rfl⟩ := array11 (hsz.trans (by kernel_rfl : Tryz.prog.cellsOf 34 = 11))
  obtain ⟨fuel, hf⟩ := h
  have R : Rd enc W sp held 34 [c0, c1, c2, c3, c4, c5, c6, c7, c8, c9, c10] := ⟨fuel, _, by simpa [Value.cells] using hf⟩
  clear hf hv
  obtain ⟨nm, rfl⟩ := Rd.str (v := c0) (R.sub Tryz.underlying34 0 _ rfl 9 rfl 0 1 rfl cStr)
  obtain ⟨fr, rfl, h1⟩ := Rd.int (v := c1) (R.sub Tryz.underlying34 1 _ rfl 3 rfl 1 1 rfl cInt)
  obtain ⟨tl, rfl, h2⟩ := Rd.int (v := c2) (R.sub Tryz.underlying34 2 _ rfl 3 rfl 2 1 rfl cInt)
  obtain ⟨mo, rfl, -⟩ := Rd.int (v := c3) (R.sub Tryz.underlying34 3 _ rfl 3 rfl 3 1 rfl cInt)
  obtain ⟨dk, dw, dn, rfl, rfl, rfl⟩ := Rd.day (v0 := c4) (v1 := c5) (v2 := c6) (R.sub Tryz.underlying34 4 _ rfl 30 rfl 4 3 rfl cDay)
  obtain ⟨sc, ck, rfl, rfl⟩ := Rd.clk (v0 := c7) (v1 := c8) (R.sub Tryz.underlying34 5 _ rfl 32 rfl 7 2 rfl cClk)
  obtain ⟨sv, rfl, -⟩ := Rd.int (v := c9) (R.sub Tryz.underlying34 6 _ rfl 3 rfl 9 1 rfl cInt)
  obtain ⟨lt, rfl⟩ := Rd.str (v := c10) (R.sub Tryz.underlying34 7 _ rfl 9 rfl 10 1 rfl cStr)
  exact ⟨⟨nm, fr, tl, mo, dk, dw, dn, sc, ck, sv, lt⟩, rfl, h1, h2⟩
set_option maxRecDepth 100000 in
/-- An era that is handed over by value. -/
theorem open_era {H : Type} {enc : TypeId × Value → H} {W : World} {sp : Nat → Bool} {held : Bool} {r : Reach} {b0 : Nat} {v : Value} {d : DataW H} {p : List MemPlace} (hv : Value.okWide Tryz.prog W r b0 40 v) (h : DataW.Trod enc Tryz.prog W 0 sp held 40 v d p) : ∃ x : EV, v = evV x ∧ in64' x.uy := by
  obtain ⟨cs, rfl, hsz⟩ := okWide_struct Tryz.underlying40 hv
  obtain ⟨c0, c1, c2, c3, c4, c5, c6, c7, c8, c9, c10, c11, rfl⟩ := array12 (hsz.trans (by kernel_rfl : Tryz.prog.cellsOf 40 = 12))
  obtain ⟨fuel, hf⟩ := h
  have R : Rd enc W sp held 40 [c0, c1, c2, c3, c4, c5, c6, c7, c8, c9, c10, c11] := ⟨fuel, _, by simpa [Value.cells] using hf⟩
  clear hf hv
  obtain ⟨of, rfl, -⟩ := Rd.int (v := c0) (R.sub Tryz.underlying40 0 _ rfl 3 rfl 0 1 rfl cInt)
  obtain ⟨rl, rfl⟩ := Rd.str (v := c1) (R.sub Tryz.underlying40 1 _ rfl 9 rfl 1 1 rfl cStr)
  obtain ⟨sv, rfl, -⟩ := Rd.int (v := c2) (R.sub Tryz.underlying40 2 _ rfl 3 rfl 2 1 rfl cInt)
  obtain ⟨fm, rfl⟩ := Rd.str (v := c3) (R.sub Tryz.underlying40 3 _ rfl 9 rfl 3 1 rfl cStr)
  obtain ⟨en, rfl⟩ := Rd.bit (v := c4) (R.sub Tryz.underlying40 4 _ rfl 4 rfl 4 1 rfl cBool)
  have Q : Rd enc W sp held 38 [c5, c6, c7, c8, c9, c10, c11] := R.sub Tryz.underlying40 5 _ rfl 38 rfl 5 7 rfl cUnt
  obtain ⟨uy, rfl, hu⟩ := Rd.int (v := c5) (Q.sub Tryz.underlying38 0 _ rfl 3 rfl 0 1 rfl cInt)
  obtain ⟨um, rfl, -⟩ := Rd.int (v := c6) (Q.sub Tryz.underlying38 1 _ rfl 3 rfl 1 1 rfl cInt)
  obtain ⟨dk, dw, dn, rfl, rfl, rfl⟩ := Rd.day (v0 := c7) (v1 := c8) (v2 := c9) (Q.sub Tryz.underlying38 2 _ rfl 30 rfl 2 3 rfl cDay)
  obtain ⟨sc, ck, rfl, rfl⟩ := Rd.clk (v0 := c10) (v1 := c11) (Q.sub Tryz.underlying38 3 _ rfl 32 rfl 5 2 rfl cClk)
  exact ⟨⟨of, rl, sv, fm, en, uy, um, dk, dw, dn, sc, ck⟩, rfl, hu⟩
set_option maxRecDepth 100000 in
/-- A link that is handed over by value. -/
theorem open_link {H : Type} {enc : TypeId × Value → H} {W : World} {sp : Nat → Bool} {held : Bool} {r : Reach} {b0 : Nat} {v : Value} {d : DataW H} {p : List MemPlace} (hv : Value.okWide Tryz.prog W r b0 46 v) (h : DataW.Trod enc Tryz.prog W 0 sp held 46 v d p) : ∃ a b : List UInt8, v = lvV a b ∧ True := by
  obtain ⟨cs, rfl, hsz⟩ := okWide_struct Tryz.underlying46 hv
  obtain ⟨c0, c1, rfl⟩ := Joins.array2 (hsz.trans (by kernel_rfl : Tryz.prog.cellsOf 46 = 2))
  obtain ⟨fuel, hf⟩ := h
  have R : Rd enc W sp held 46 [c0, c1] := ⟨fuel, _, by simpa [Value.cells] using hf⟩
  clear hf hv
  obtain ⟨a, rfl⟩ := Rd.str (v := c0) (R.sub Tryz.underlying46 0 _ rfl 9 rfl 0 1 rfl cStr)
  obtain ⟨b, rfl⟩ := Rd.str (v := c1) (R.sub Tryz.underlying46 1 _ rfl 9 rfl 1 1 rfl cStr)
  exact ⟨a, b, rfl, trivial⟩
end Go.Proofs.YtfmehdophoejiaaGreatDoor
