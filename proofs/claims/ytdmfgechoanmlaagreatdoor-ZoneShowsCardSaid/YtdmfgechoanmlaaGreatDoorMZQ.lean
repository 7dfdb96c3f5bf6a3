/- Values that came in, read field by field; a slice of structs that came in, opened.
An era: its cells in memory, and one that is handed over, opened.
slices.All over eras: what it hands to whatever loop it is ranged over by.
The contract of zone.firstWrong: what is asked of each era, up to the first one that is wrong. -/
import Derived.Test.YtdmfgechoanmlaaGreatDoorMZE
import Derived.ProofKit
import Derived.OpenShut
import Derived.LaidMore
import Derived.LaidLaws
import Derived.Lib.SmallJoins
import Derived.Test.YtdmfgechoanmlaaGreatDoorMZG
import Derived.LoopNIn
import Derived.LoopIn
import Derived.WalkMore
import Derived.Shelf.Abstract
namespace Go.Proofs.YtdmfgechoanmlaaGreatDoor
open Go Go.RowKit Go.ChangeShapes Go.WideShapes Go.ChangeAt

def in64' (n : Int) : Prop := -9223372036854775808 ≤ n ∧ n ≤ 9223372036854775807
theorem array11 {α : Type} {cs : Array α} (h : cs.size = 11) : ∃ c0 c1 c2 c3 c4 c5 c6 c7 c8 c9 c10, cs = #[c0, c1, c2, c3, c4, c5, c6, c7, c8, c9, c10] := by
  obtain ⟨l⟩ := cs
  match l, h with
  | [c0, c1, c2, c3, c4, c5, c6, c7, c8, c9, c10], _ => exact ⟨c0, c1, c2, c3, c4, c5, c6, c7, c8, c9, c10, rfl⟩
def Rd {H : Type} (enc : TypeId × Value → H) (W : World) (sp : Nat → Bool) (held : Bool) (t : TypeId) (cs : List Value) : Prop := ∃ n y, DataW.trod enc Tryz.prog W 0 sp held n t cs = some y
theorem Rd.sub {H : Type} {enc : TypeId × Value → H} {W : World} {sp : Nat → Bool} {held : Bool} {t : TypeId} {cs : List Value} {fs : Array Field} (h : Rd enc W sp held t cs) (hu : Tryz.prog.underlying t = some (.struct fs)) (i : Nat) (f : Field) (hf : fs[i]? = some f) (u : TypeId) (ht : f.type = u) (o k : Nat) (ho : f.offset = o) (hk : Tryz.prog.cellsOf u = k) : Rd enc W sp held u ((cs.drop o).take k) := by
  obtain ⟨n, y, h⟩ := h
  obtain ⟨xs, m, _, _, _, hlen, k⟩ := DataW.trod_struct hu h
  subst ht ho hk
  have hi : i < xs.length := by rw [hlen]; exact (Array.getElem?_eq_some_iff.1 hf).1
  exact ⟨m, xs[i], (k i f hf).trans (List.getElem?_eq_getElem hi)⟩
theorem Rd.int {H : Type} {enc : TypeId × Value → H} {W : World} {sp : Nat → Bool} {held : Bool} {v : Value} (h : Rd enc W sp held 3 [v]) : ∃ a : Int, v = .int .i64 a ∧ in64' a := by
  obtain ⟨n, y, h⟩ := h
  obtain ⟨a, e1, _, hw⟩ := DataW.trod_int Tryz.underlying3 h
  refine ⟨a, by simpa using e1, ?_⟩
  simp only [Lit.wf, Bool.and_eq_true, decide_eq_true_eq] at hw
  exact ⟨hw.1, hw.2⟩
theorem Rd.str {H : Type} {enc : TypeId × Value → H} {W : World} {sp : Nat → Bool} {held : Bool} {v : Value} (h : Rd enc W sp held 9 [v]) : ∃ l : List UInt8, v = .string ⟨l.toArray⟩ := by
  obtain ⟨n, y, h⟩ := h
  obtain ⟨s, e1, _, _⟩ := DataW.trod_string Tryz.underlying9 h
  exact ⟨s.data.toList, by simpa using e1⟩
theorem Rd.bit {H : Type} {enc : TypeId × Value → H} {W : World} {sp : Nat → Bool} {held : Bool} {v : Value} (h : Rd enc W sp held 4 [v]) : ∃ b : Bool, v = .bool b := by
  obtain ⟨n, y, h⟩ := h
  obtain ⟨b, e1, _⟩ := DataW.trod_bool Tryz.underlying4 h
  exact ⟨b, by simpa using e1⟩
theorem cInt : Tryz.prog.cellsOf 3 = 1 := by kernel_rfl
theorem cStr : Tryz.prog.cellsOf 9 = 1 := by kernel_rfl
theorem cBool : Tryz.prog.cellsOf 4 = 1 := by kernel_rfl
theorem cDay : Tryz.prog.cellsOf 48 = 3 := by kernel_rfl
theorem cClk : Tryz.prog.cellsOf 50 = 2 := by kernel_rfl
theorem Rd.day {H : Type} {enc : TypeId × Value → H} {W : World} {sp : Nat → Bool} {held : Bool} {v0 v1 v2 : Value} (h : Rd enc W sp held 48 [v0, v1, v2]) : ∃ a b c : Int, v0 = .int .i64 a ∧ v1 = .int .i64 b ∧ v2 = .int .i64 c := by
  obtain ⟨a, e0, -⟩ := Rd.int (v := v0) (h.sub Tryz.underlying48 0 _ rfl 3 rfl 0 1 rfl cInt)
  obtain ⟨b, e1, -⟩ := Rd.int (v := v1) (h.sub Tryz.underlying48 1 _ rfl 3 rfl 1 1 rfl cInt)
  obtain ⟨c, e2, -⟩ := Rd.int (v := v2) (h.sub Tryz.underlying48 2 _ rfl 3 rfl 2 1 rfl cInt)
  exact ⟨a, b, c, e0, e1, e2⟩
theorem Rd.clk {H : Type} {enc : TypeId × Value → H} {W : World} {sp : Nat → Bool} {held : Bool} {v0 v1 : Value} (h : Rd enc W sp held 50 [v0, v1]) : ∃ a b : Int, v0 = .int .i64 a ∧ v1 = .int .i64 b := by
  obtain ⟨a, e0, -⟩ := Rd.int (v := v0) (h.sub Tryz.underlying50 0 _ rfl 3 rfl 0 1 rfl cInt)
  obtain ⟨b, e1, -⟩ := Rd.int (v := v1) (h.sub Tryz.underlying50 1 _ rfl 3 rfl 1 1 rfl cInt)
  exact ⟨a, b, e0, e1⟩
/-- The cells of a rule. -/
theorem rd_rule {H : Type} {enc : TypeId × Value → H} {W : World} {sp : Nat → Bool} {held : Bool} {cs : List Value} (hl : cs.length = 11) (R : Rd enc W sp held 112 cs) : ∃ x : RV, cs = (cR x).toList ∧ in64' x.fr ∧ in64' x.tl := by
  obtain ⟨c0, c1, c2, c3, c4, c5, c6, c7, c8, c9, c10, rfl⟩ : ∃ c0 c1 c2 c3 c4 c5 c6 c7 c8 c9 c10, cs = [c0, c1, c2, c3, c4, c5, c6, c7, c8, c9, c10] := by
    match cs, hl with
    | [c0, c1, c2, c3, c4, c5, c6, c7, c8, c9, c10], _ => exact ⟨c0, c1, c2, c3, c4, c5, c6, c7, c8, c9, c10, rfl⟩
  obtain ⟨nm, rfl⟩ := Rd.str (v := c0) (R.sub Tryz.underlying112 0 _ rfl 9 rfl 0 1 rfl cStr)
  obtain ⟨fr, rfl, h1⟩ := Rd.int (v := c1) (R.sub Tryz.underlying112 1 _ rfl 3 rfl 1 1 rfl cInt)
  obtain ⟨tl, rfl, h2⟩ := Rd.int (v := c2) (R.sub Tryz.underlying112 2 _ rfl 3 rfl 2 1 rfl cInt)
  obtain ⟨mo, rfl, -⟩ := Rd.int (v := c3) (R.sub Tryz.underlying112 3 _ rfl 3 rfl 3 1 rfl cInt)
  obtain ⟨dk, dw, dn, rfl, rfl, rfl⟩ := Rd.day (v0 := c4) (v1 := c5) (v2 := c6) (R.sub Tryz.underlying112 4 _ rfl 48 rfl 4 3 rfl cDay)
  obtain ⟨sc, ck, rfl, rfl⟩ := Rd.clk (v0 := c7) (v1 := c8) (R.sub Tryz.underlying112 5 _ rfl 50 rfl 7 2 rfl cClk)
  obtain ⟨sv, rfl, -⟩ := Rd.int (v := c9) (R.sub Tryz.underlying112 6 _ rfl 3 rfl 9 1 rfl cInt)
  obtain ⟨lt, rfl⟩ := Rd.str (v := c10) (R.sub Tryz.underlying112 7 _ rfl 9 rfl 10 1 rfl cStr)
  exact ⟨⟨nm, fr, tl, mo, dk, dw, dn, sc, ck, sv, lt⟩, rfl, h1, h2⟩
set_option maxRecDepth 20000 in
/-- A slice of structs that came in. -/
theorem open_structs {α : Type} {H : Type} {enc : TypeId × Value → H} {W : World} {held : Bool} {r : Reach} {base b0 : Nat} {v : Value} {d : DataW H} {p : List MemPlace} {t e : TypeId} (c : Nat) (hc0 : 0 < c) (f : α → Array Value) (Q : α → Prop) (hu : Tryz.prog.underlying t = some (.slice e)) (hc : Tryz.prog.cellsOf e = c) (hf : ∀ x, (f x).size = c)
    (rd : ∀ n cs y, cs.length = c → DataW.trod enc Tryz.prog W base (fun _ => true) held n e cs = some y → ∃ x : α, cs = (f x).toList ∧ Q x) (hv : Value.okWide Tryz.prog W r b0 t v) (h : DataW.Trod enc Tryz.prog W base (fun _ => true) held t v d p) :
    ∃ (l : List α) (a : Option Addr) (cap : Nat), v = .slice a l.length cap ∧ l.length ≤ cap ∧ cap ≤ maxLen ∧ RowsAt c f a l W ∧ ∀ x ∈ l, Q x := by
  obtain ⟨a, len, cap, rfl⟩ := okWide_slice hu hv
  obtain ⟨fuel, hfu⟩ := h
  rcases DataW.trod_slice hu hfu with ⟨hcs, _⟩ | ⟨x, len', cap', elems, rest, n, _, hcs, _, hb, hl, hm, hlen, hel, _⟩
  · simp [Value.cells] at hcs
    obtain ⟨rfl, rfl, rfl⟩ := hcs
    exact ⟨[], none, 0, rfl, Nat.le_refl _, Nat.zero_le _, fun k y hk => by simp at hk, by simp⟩
  · simp [Value.cells] at hcs
    obtain ⟨rfl, rfl, rfl⟩ := hcs
    have each : ∀ i, i < len → ∃ y : α, (∀ j u, j < c → (f y)[j]? = some u → W.cell? ((x.add (i * c)).add j) = some u) ∧ Q y := by
      intro i hi
      have h1 := hel i hi
      have h2 : i < elems.length := by omega
      rw [List.getElem?_eq_getElem h2, hc, Option.bind_eq_some_iff] at h1
      obtain ⟨cs, hcs, hx⟩ := h1
      have h4 := World.cells?_some hcs
      obtain ⟨y, hy, hq⟩ := rd _ _ _ h4.2.1 hx
      refine ⟨y, fun j u hj hu => ?_, hq⟩
      have := h4.2.2 j (by omega)
      rw [this, hy]
      simpa using hu
    obtain ⟨g, hg⟩ : ∃ g : Nat → Option α, ∀ i, i < len → ∃ y, g i = some y ∧ (∀ j u, j < c → (f y)[j]? = some u → W.cell? ((x.add (i * c)).add j) = some u) ∧ Q y := by
      refine ⟨fun i => if h : i < len then some (Classical.choose (each i h)) else none, fun i hi => ?_⟩
      have := Classical.choose_spec (each i hi)
      simp only [dif_pos hi]
      exact ⟨_, rfl, this⟩
    have hsome : ∀ i, i < len → (g i).isSome = true := fun i hi => by obtain ⟨y, e, -⟩ := hg i hi; rw [e]; rfl
    have hll : ((List.range len).filterMap g).length = len ∧ ∀ i, i < len → ((List.range len).filterMap g)[i]? = g i := by
      have key : ∀ m, m ≤ len → ((List.range m).filterMap g).length = m ∧ ∀ i, i < m → ((List.range m).filterMap g)[i]? = g i := by
        intro m
        induction m with
        | zero => intro _; exact ⟨rfl, fun i hi => by omega⟩
        | succ m ih =>
          intro hm
          obtain ⟨i1, i2⟩ := ih (by omega)
          obtain ⟨y, e, -⟩ := hg m (by omega)
          rw [List.range_succ, List.filterMap_append]
          have e1 : [m].filterMap g = [y] := by simp [e]
          rw [e1]
          refine ⟨by rw [List.length_append, i1]; rfl, fun i hi => ?_⟩
          by_cases h : i < m
          · rw [List.getElem?_append_left (by omega)]; exact i2 i h
          · obtain rfl : i = m := by omega
            rw [List.getElem?_append_right (by omega), i1, Nat.sub_self, e]; rfl
      exact key len (Nat.le_refl _)
    refine ⟨(List.range len).filterMap g, some x, cap, by rw [hll.1], by rw [hll.1]; exact hl, hm, ?_, ?_⟩
    · intro i y hy
      have hi : i < len := by have := (List.getElem?_eq_some_iff.1 hy).1; rwa [hll.1] at this
      rw [hll.2 i hi] at hy
      obtain ⟨y', e, hcell, -⟩ := hg i hi
      rw [e] at hy; injection hy with hy; subst hy
      obtain ⟨u0, hu0⟩ : ∃ u, (f y')[0]? = some u := ⟨_, Array.getElem?_eq_getElem (by rw [hf]; exact hc0)⟩
      have h0 := hcell 0 u0 hc0 hu0
      have hs : x.spot = none := by
        obtain ⟨z, -, hz, -⟩ := hg 0 (by omega)
        obtain ⟨u1, hu1⟩ : ∃ u, (f z)[0]? = some u := ⟨_, Array.getElem?_eq_getElem (by rw [hf]; exact hc0)⟩
        have h1 := hz 0 u1 hc0 hu1
        rw [Nat.zero_mul, show x.add 0 = x by simp [Addr.add], show x.add 0 = x by simp [Addr.add]] at h1
        exact World.cell?_spot h1
      obtain ⟨b, off, spot⟩ := x
      have hs' : spot = none := hs
      subst hs'
      rw [Go.WideShapes.add_plain, Go.WideShapes.add_plain] at h0
      refine ⟨b, off, rfl, cell_lt h0, fun j u hj hu => ?_⟩
      have := hcell j u hj hu
      rwa [Go.WideShapes.add_plain, Go.WideShapes.add_plain] at this
    · intro y hy
      obtain ⟨i, hi, e⟩ := List.mem_iff_getElem.1 hy
      rw [hll.1] at hi
      obtain ⟨y', e', -, hq⟩ := hg i hi
      have := hll.2 i hi
      rw [List.getElem?_eq_getElem (by rw [hll.1]; exact hi), e, e'] at this
      injection this with this; rw [this]; exact hq
set_option maxRecDepth 100000 in
theorem open_rules {H : Type} {enc : TypeId × Value → H} {W : World} {held : Bool} {r : Reach} {b0 : Nat} {v : Value} {d : DataW H} {p : List MemPlace} (hv : Value.okWide Tryz.prog W r b0 80 v) (h : DataW.Trod enc Tryz.prog W 0 (fun _ => true) held 80 v d p) :
    ∃ (l : List RV) (a : Option Addr) (cap : Nat), v = .slice a l.length cap ∧ l.length ≤ cap ∧ cap ≤ maxLen ∧ RowsAt 11 cR a l W ∧ ∀ x ∈ l, in64' x.fr ∧ in64' x.tl :=
  open_structs 11 (by omega) cR (fun x => in64' x.fr ∧ in64' x.tl) Tryz.underlying80 (by kernel_rfl) (fun _ => rfl) (fun n cs y hl hx => rd_rule hl ⟨n, y, hx⟩) hv h
end Go.Proofs.YtdmfgechoanmlaaGreatDoor

namespace Go.Proofs.YtdmfgechoanmlaaGreatDoor
open Go Go.RowKit Go.ChangeShapes Go.WideShapes Go.ChangeAt

structure EV where
  of : Int
  rl : List UInt8
  sv : Int
  fm : List UInt8
  en : Bool
  uy : Int
  um : Int
  dk : Int
  dw : Int
  dn : Int
  sc : Int
  ck : Int
  deriving DecidableEq
def cE (e : EV) : Array Value := #[.int .i64 e.of, .string ⟨e.rl.toArray⟩, .int .i64 e.sv, .string ⟨e.fm.toArray⟩, .bool e.en, .int .i64 e.uy, .int .i64 e.um, .int .i64 e.dk, .int .i64 e.dw, .int .i64 e.dn, .int .i64 e.sc, .int .i64 e.ck]
def evV (e : EV) : Value := .agg (cE e)
def e0V : EV := ⟨0, [], 0, [], false, 0, 0, 0, 0, 0, 0, 0⟩
theorem cells12 {W : World} {g : Nat} {t : TypeId} {v0 v1 v2 v3 v4 v5 v6 v7 v8 v9 v10 v11 : Value} (h : W.heap[g]? = some (.cells #[v0, v1, v2, v3, v4, v5, v6, v7, v8, v9, v10, v11] t (0, 0))) :
    W.cell? ⟨g, 0, none⟩ = some v0 ∧ W.cell? ⟨g, 1, none⟩ = some v1 ∧ W.cell? ⟨g, 2, none⟩ = some v2 ∧ W.cell? ⟨g, 3, none⟩ = some v3 ∧ W.cell? ⟨g, 4, none⟩ = some v4 ∧ W.cell? ⟨g, 5, none⟩ = some v5 ∧ W.cell? ⟨g, 6, none⟩ = some v6 ∧ W.cell? ⟨g, 7, none⟩ = some v7 ∧ W.cell? ⟨g, 8, none⟩ = some v8 ∧ W.cell? ⟨g, 9, none⟩ = some v9 ∧ W.cell? ⟨g, 10, none⟩ = some v10 ∧ W.cell? ⟨g, 11, none⟩ = some v11 :=
  ⟨cell_of_row W g 0 _ _ _ h, cell_of_row W g 1 _ _ _ h, cell_of_row W g 2 _ _ _ h, cell_of_row W g 3 _ _ _ h, cell_of_row W g 4 _ _ _ h, cell_of_row W g 5 _ _ _ h, cell_of_row W g 6 _ _ _ h, cell_of_row W g 7 _ _ _ h, cell_of_row W g 8 _ _ _ h, cell_of_row W g 9 _ _ _ h, cell_of_row W g 10 _ _ _ h, cell_of_row W g 11 _ _ _ h⟩
/-- The cells of an era among others. -/
theorem era_cells {A : Option Addr} {es : List EV} {w : World} {i : Nat} {e : EV} (h : RowsAt 12 cE A es w) (he : es[i]? = some e) : ∃ L off, A = some ⟨L, off, none⟩ ∧ L < w.heap.size ∧
    (w.cell? ⟨L, off + i * 12, none⟩ = some (.int .i64 e.of) ∧ w.cell? ⟨L, off + i * 12 + 1, none⟩ = some (.string ⟨e.rl.toArray⟩) ∧ w.cell? ⟨L, off + i * 12 + 2, none⟩ = some (.int .i64 e.sv) ∧ w.cell? ⟨L, off + i * 12 + 3, none⟩ = some (.string ⟨e.fm.toArray⟩) ∧ w.cell? ⟨L, off + i * 12 + 4, none⟩ = some (.bool e.en) ∧ w.cell? ⟨L, off + i * 12 + 5, none⟩ = some (.int .i64 e.uy) ∧ w.cell? ⟨L, off + i * 12 + 6, none⟩ = some (.int .i64 e.um) ∧ w.cell? ⟨L, off + i * 12 + 7, none⟩ = some (.int .i64 e.dk) ∧ w.cell? ⟨L, off + i * 12 + 8, none⟩ = some (.int .i64 e.dw) ∧ w.cell? ⟨L, off + i * 12 + 9, none⟩ = some (.int .i64 e.dn) ∧ w.cell? ⟨L, off + i * 12 + 10, none⟩ = some (.int .i64 e.sc) ∧ w.cell? ⟨L, off + i * 12 + 11, none⟩ = some (.int .i64 e.ck)) := by
  obtain ⟨L, off, e1, hl, hc⟩ := h i e he
  exact ⟨L, off, e1, hl, hc 0 _ (by omega) rfl, hc 1 _ (by omega) rfl, hc 2 _ (by omega) rfl, hc 3 _ (by omega) rfl, hc 4 _ (by omega) rfl, hc 5 _ (by omega) rfl, hc 6 _ (by omega) rfl, hc 7 _ (by omega) rfl, hc 8 _ (by omega) rfl, hc 9 _ (by omega) rfl, hc 10 _ (by omega) rfl, hc 11 _ (by omega) rfl⟩
theorem cUnt : Tryz.prog.cellsOf 52 = 7 := by kernel_rfl
set_option maxRecDepth 100000 in
/-- The cells of an era. -/
theorem rd_era {H : Type} {enc : TypeId × Value → H} {W : World} {sp : Nat → Bool} {held : Bool} {cs : List Value} (hl : cs.length = 12) (R : Rd enc W sp held 54 cs) : ∃ x : EV, cs = (cE x).toList ∧ in64' x.of ∧ in64' x.sv := by
  obtain ⟨c0, c1, c2, c3, c4, c5, c6, c7, c8, c9, c10, c11, rfl⟩ : ∃ c0 c1 c2 c3 c4 c5 c6 c7 c8 c9 c10 c11, cs = [c0, c1, c2, c3, c4, c5, c6, c7, c8, c9, c10, c11] := by
    match cs, hl with
    | [c0, c1, c2, c3, c4, c5, c6, c7, c8, c9, c10, c11], _ => exact ⟨c0, c1, c2, c3, c4, c5, c6, c7, c8, c9, c10, c11, rfl⟩
  obtain ⟨of, rfl, h1⟩ := Rd.int (v := c0) (R.sub Tryz.underlying54 0 _ rfl 3 rfl 0 1 rfl cInt)
  obtain ⟨rl, rfl⟩ := Rd.str (v := c1) (R.sub Tryz.underlying54 1 _ rfl 9 rfl 1 1 rfl cStr)
  obtain ⟨sv, rfl, h2⟩ := Rd.int (v := c2) (R.sub Tryz.underlying54 2 _ rfl 3 rfl 2 1 rfl cInt)
  obtain ⟨fm, rfl⟩ := Rd.str (v := c3) (R.sub Tryz.underlying54 3 _ rfl 9 rfl 3 1 rfl cStr)
  obtain ⟨en, rfl⟩ := Rd.bit (v := c4) (R.sub Tryz.underlying54 4 _ rfl 4 rfl 4 1 rfl cBool)
  have Q : Rd enc W sp held 52 [c5, c6, c7, c8, c9, c10, c11] := R.sub Tryz.underlying54 5 _ rfl 52 rfl 5 7 rfl cUnt
  obtain ⟨uy, rfl, -⟩ := Rd.int (v := c5) (Q.sub Tryz.underlying52 0 _ rfl 3 rfl 0 1 rfl cInt)
  obtain ⟨um, rfl, -⟩ := Rd.int (v := c6) (Q.sub Tryz.underlying52 1 _ rfl 3 rfl 1 1 rfl cInt)
  obtain ⟨dk, dw, dn, rfl, rfl, rfl⟩ := Rd.day (v0 := c7) (v1 := c8) (v2 := c9) (Q.sub Tryz.underlying52 2 _ rfl 48 rfl 2 3 rfl cDay)
  obtain ⟨sc, ck, rfl, rfl⟩ := Rd.clk (v0 := c10) (v1 := c11) (Q.sub Tryz.underlying52 3 _ rfl 50 rfl 5 2 rfl cClk)
  exact ⟨⟨of, rl, sv, fm, en, uy, um, dk, dw, dn, sc, ck⟩, rfl, h1, h2⟩
set_option maxRecDepth 100000 in
/-- An era that is handed over by value. -/
theorem open_era {H : Type} {enc : TypeId × Value → H} {W : World} {sp : Nat → Bool} {held : Bool} {r : Reach} {b0 : Nat} {v : Value} {d : DataW H} {p : List MemPlace} (hv : Value.okWide Tryz.prog W r b0 54 v) (h : DataW.Trod enc Tryz.prog W 0 sp held 54 v d p) : ∃ x : EV, v = evV x ∧ in64' x.of ∧ in64' x.sv := by
  obtain ⟨cs, rfl, hsz⟩ := okWide_struct Tryz.underlying54 hv
  obtain ⟨fuel, hf⟩ := h
  obtain ⟨x, hx, h1, h2⟩ := rd_era (cs := cs.toList) (by rw [Array.length_toList, hsz]; kernel_rfl) (R := ⟨fuel, _, by simpa [Value.cells] using hf⟩)
  refine ⟨x, ?_, h1, h2⟩
  obtain ⟨l⟩ := cs
  have hx' : l = (cE x).toList := hx
  rw [hx']; rfl
end Go.Proofs.YtdmfgechoanmlaaGreatDoor

namespace Go.Proofs.YtdmfgechoanmlaaGreatDoor
open Go Go.RowKit
attribute [local go_sem] Oper.semAt_some

def encZ (x : Nat × EV) : Array Value := #[.int .i64 (x.1 : Int), evV x.2]
def okZ (es : List EV) (pre : List (Nat × EV)) (x : Nat × EV) : Prop := x.1 = pre.length ∧ es[pre.length]? = some x.2
/-- Eras that lie below n0. -/
def EsAt (n0 : Nat) (A : Option Addr) (es : List EV) (W : World) : Prop := ∀ i e, es[i]? = some e → ∃ L off, A = some ⟨L, off, none⟩ ∧ L < n0 ∧ ∀ j v, (cE e)[j]? = some v → W.cell? ⟨L, off + i * 12 + j, none⟩ = some v
theorem EsAt.below {n0 : Nat} {A : Option Addr} {es : List EV} {W W' : World} (h : EsAt n0 A es W) (k : Below n0 W W') : EsAt n0 A es W' := fun i e he => by
  obtain ⟨L, off, q, hl, hc⟩ := h i e he
  exact ⟨L, off, q, hl, fun j v hv => (k.cell (p := ⟨L, off + i * 12 + j, none⟩) hl).trans (hc j v hv)⟩
theorem EsAt.mono {n0 n1 : Nat} {A : Option Addr} {es : List EV} {W : World} (h : EsAt n0 A es W) (k : n0 ≤ n1) : EsAt n1 A es W := fun i e he => by
  obtain ⟨L, off, q, hl, hc⟩ := h i e he
  exact ⟨L, off, q, by omega, hc⟩
theorem EsAt.of {A : Option Addr} {es : List EV} {w : World} (h : RowsAt 12 cE A es w) : EsAt w.heap.size A es w := fun i e he => by
  obtain ⟨L, off, q, hl, hc⟩ := h i e he
  exact ⟨L, off, q, hl, fun j v hv => hc j v (by have := (Array.getElem?_eq_some_iff.1 hv).1; simpa [cE] using this) hv⟩
theorem EsAt.cells {n0 : Nat} {A : Option Addr} {es : List EV} {w : World} {i : Nat} {e : EV} (h : EsAt n0 A es w) (he : es[i]? = some e) : ∃ L off, A = some ⟨L, off, none⟩ ∧ L < n0 ∧
    (w.cell? ⟨L, off + i * 12, none⟩ = some (.int .i64 e.of) ∧ w.cell? ⟨L, off + i * 12 + 1, none⟩ = some (.string ⟨e.rl.toArray⟩) ∧ w.cell? ⟨L, off + i * 12 + 2, none⟩ = some (.int .i64 e.sv) ∧ w.cell? ⟨L, off + i * 12 + 3, none⟩ = some (.string ⟨e.fm.toArray⟩) ∧ w.cell? ⟨L, off + i * 12 + 4, none⟩ = some (.bool e.en) ∧ w.cell? ⟨L, off + i * 12 + 5, none⟩ = some (.int .i64 e.uy) ∧ w.cell? ⟨L, off + i * 12 + 6, none⟩ = some (.int .i64 e.um) ∧ w.cell? ⟨L, off + i * 12 + 7, none⟩ = some (.int .i64 e.dk) ∧ w.cell? ⟨L, off + i * 12 + 8, none⟩ = some (.int .i64 e.dw) ∧ w.cell? ⟨L, off + i * 12 + 9, none⟩ = some (.int .i64 e.dn) ∧ w.cell? ⟨L, off + i * 12 + 10, none⟩ = some (.int .i64 e.sc) ∧ w.cell? ⟨L, off + i * 12 + 11, none⟩ = some (.int .i64 e.ck)) := by
  obtain ⟨L, off, q, hl, hc⟩ := h i e he
  exact ⟨L, off, q, hl, hc 0 _ rfl, hc 1 _ rfl, hc 2 _ rfl, hc 3 _ rfl, hc 4 _ rfl, hc 5 _ rfl, hc 6 _ rfl, hc 7 _ rfl, hc 8 _ rfl, hc 9 _ rfl, hc 10 _ rfl, hc 11 _ rfl⟩
theorem zgrown {W W1 : World} (h : Below W.heap.size W W1) : W.grownBy W1 none := ⟨h.os, h.tape, h.output, h.size, fun i hi _ => h.block i hi⟩

set_option maxRecDepth 20000 in
set_option maxHeartbeats 2000000 in
theorem eras_seq (n : Nat) (hn : 1 ≤ n) (n0 Bs : Nat) (A : Option Addr) (m c : Nat) (es : List EV) (w : World) (hm : es.length = m) (hm1 : m ≤ 4611686018427387904) (hA : EsAt n0 A es w) (hn0 : n0 ≤ w.heap.size) (hs : w.cell? ⟨Bs, 0, none⟩ = some (.slice A m c)) :
    SeqKp n Tryz.prog 96 #[.pointer (some ⟨Bs, 0, none⟩)] encZ (okZ es) n0 (fun _ _ => True) (fun xs : List (Nat × EV) => xs.length = m) (fun _ : List (Nat × EV) => True) w := by
  intro l J Jx W hW hJ hJx hY h0
  have HM := Lib.hid hm
  have HJ := Lib.hid hJ
  have HY := Lib.hid hY
  have H0 := Lib.hid h0
  have AA := Lib.hid (hA.below (hW.mono hn0))
  have bl : W.cell? ⟨Bs, 0, none⟩ = some (.slice A m c) := by rw [hW.cell (p := ⟨Bs, 0, none⟩) (cell_lt hs)]; exact hs
  have N0 : n0 ≤ W.heap.size := Nat.le_trans hn0 hW.size
  clear hm hJ hJx hY h0 hA hs hW hn0
  refine callsIn_of_wp Tryz.func96 rfl trivial ?_ rfl
  simp only [Tryz.ntmps96, List.size_toArray, List.length_cons, List.length_nil, Nat.reduceAdd, Nat.reduceSub, Array.replicate_succ, Array.replicate_zero, List.push_toArray, List.append_toArray, List.nil_append, List.cons_append]
  gi_wp2
  gi_loopw [7] (fun v wr => ∃ (pre : List (Nat × EV)) (i : Nat), v = .int .i64 (i : Int) ∧ i ≤ m ∧ pre.length = i ∧ EsAt n0 A es wr ∧ W.heap.size ≤ wr.heap.size ∧ J pre wr) (fun v _ => m - (intOf v).toNat)
  case atStart => exact ⟨[], 0, rfl, Nat.zero_le _, rfl, AA.out, Nat.le_refl _, H0.out⟩
  case round =>
    obtain ⟨pre, i, rfl, hi, hp, hA, hs, hJ⟩ := hrel
    have HP := Lib.hid hp
    have AR := Lib.hid hA
    have HJP := Lib.hid hJ
    have HS := Lib.hid hs
    clear hp hA hJ hs AA H0 bl
    by_cases hlt : i < m
    · have hlt' : (i : Int) < (m : Int) := by omega
      obtain ⟨e, he⟩ : ∃ e, es[i]? = some e := ⟨_, List.getElem?_eq_getElem (by rw [HM.out]; exact hlt)⟩
      obtain ⟨L, off, rfl, hL, x0, x1, x2, x3, x4, x5, x6, x7, x8, x9, x10, x11⟩ := AR.out.cells he
      have OK : Hid (okZ es pre (i, e)) := Lib.hid ⟨HP.out.symm, by rw [HP.out]; exact he⟩
      have EN : ∀ W1, Below n0 wr W1 → EsAt n0 (some ⟨L, off, none⟩) es W1 := fun W1 k => AR.out.below k
      have HEN := Lib.hid EN
      obtain ⟨fn, tmps, assign, body, hy, hR⟩ := HY.out pre (i, e) (wr.alloc (.cells #[.int .i64 e.of, .string ⟨e.rl.toArray⟩, .int .i64 e.sv, .string ⟨e.fm.toArray⟩, .bool e.en, .int .i64 e.uy, .int .i64 e.um, .int .i64 e.dk, .int .i64 e.dw, .int .i64 e.dn, .int .i64 e.sc, .int .i64 e.ck] 54)) (HJ.out.alloc _ HJP.out) OK.out (by have := HS.out; simp; omega)
      simp only [encZ, evV, cE] at hy
      have hsz : W.heap.size ≤ wr.heap.size := HS.out
      clear he EN
      gi_wp2
      refine hR.mono ?_
      rintro e1 W3 (⟨rfl, hJ3, hk3, -⟩ | ⟨rfl, hJx3⟩)
      · have HJ3 := Lib.hid hJ3
        have HK3 := Lib.hid (show Below n0 wr W3 from ((Below.refl n0 wr).alloc (by omega) _).trans hk3)
        clear hJ3 hk3 hy hR
        gi_wp2
        go_roundw
        case rel => exact ⟨pre ++ [(i, e)], i + 1, rfl, by omega, by rw [List.length_append, HP.out]; rfl, HEN.out _ HK3.out, Nat.le_trans hsz HK3.out.size, HJ3.out⟩
        case measure => simp [intOf]; omega
      · clear hy hR
        gi_wp2
        exact bodyPost_ret (results_none rfl _ _ _) rfl ⟨⟨_, rfl⟩, .inr ⟨_, trivial, hJx3⟩⟩
    · obtain rfl : i = m := by omega
      have hlt' : ¬ (i : Int) < (i : Int) := by omega
      gi_wp2
      go_end0
      exact ⟨⟨_, rfl⟩, .inl ⟨pre, HP.out, HJP.out⟩⟩
end Go.Proofs.YtdmfgechoanmlaaGreatDoor

namespace Go.Proofs.YtdmfgechoanmlaaGreatDoor
open Go Go.RowKit Go.Shelf
attribute [local go_sem] Oper.semAt_some

/-- What is asked of one era: it keeps what lies below n0, and errors' numbers and the loop's own; what holds behind an era, and where it is wrong. -/
def Asks (g : Nat) (lb : Array Value) (n0 : Nat) (es : List EV) (J : Nat → World → Prop) (Jx : Nat → Int → World → Prop) : Prop :=
  ∀ (i : Nat) (e : EV) (W : World), es[i]? = some e → J i W → Calls Tryz.prog g (#[.int .i64 (i : Int), evV e] ++ lb) W fun x W' =>
    ∃ v, x = .returned (.int .i64 v) ∧ ((v = 0 ∧ J (i + 1) W') ∨ (v ≠ 0 ∧ Jx i v W')) ∧ KeepsOthers W W' ∧ Below n0 W W' ∧ KpT (fun t => t == 31 || t == 118) W W'

theorem all_is (A : Option Addr) (m c : Nat) (w : World) : Calls Tryz.prog 76 #[.slice A m c] w fun e w' => e = .returned (.func (.func 96) #[] #[.pointer (some ⟨w.heap.size, 0, none⟩)]) ∧ w' = w.alloc (.cells #[.slice A m c] 22) := by
  have hmf : ∀ (fn : Fn) (first cap : Array Value) (w : World), (Instr.makeFunc fn first cap).run Tryz.prog w = .ok (.func fn first cap) w := fun _ _ _ _ => rfl
  go_enter Tryz.func76, Tryz.ntmps76
  go_wp2
  go_ret
  exact ⟨rfl, rfl⟩
theorem blk_own {β : Type} (B k : Nat) (cs : Array Value) (t : TypeId) (fz : Nat × Nat) (hk : k < B) : OwnFrom B (fun (_ : β) W => W.heap[k]? = some (.cells cs t fz)) := fun _ W W' row h hg hr =>
  (hg.block k (Array.getElem?_eq_some_iff.1 h).1 (fun e => by have := (hr _ e.symm).1; omega)).trans h
theorem zscope_in {c : Code} {n : Nat} {Q : Exit → Act → World → Prop} {a : Act} {w : World} (h : c.wpIn Fence.wide n Tryz.prog (Exit.noGoto Q) a w) : (Code.scope c).wpIn Fence.wide n Tryz.prog Q a w := wpIn_wide.2 (wp_scope_straight (wpIn_wide.1 h))
/-- What is known abides the turn of a block that is no cells, or is an error's number, and lies at or beyond B. -/
def OwnE {β : Type} (B : Nat) (I : β → World → Prop) : Prop :=
  ∀ s W W' row, I s W → W.grownBy W' row → (∀ r, row = some r → B ≤ r ∧ ∃ o : Obj, W.heap[r]? = some o ∧ (o.isCells = false ∨ ∃ cs fz, o = .cells cs 31 fz)) → I s W'
theorem OwnE.from {β : Type} {B : Nat} {I : β → World → Prop} (h : OwnE B I) : OwnFrom B I := fun s W W' row hs hg hr => h s W W' row hs hg (fun r e => ⟨(hr r e).1, by obtain ⟨o, h1, h2⟩ := (hr r e).2; exact ⟨o, h1, .inl h2⟩⟩)
theorem OwnE.below {β : Type} {B : Nat} {I : β → World → Prop} (h : OwnE B I) {s : β} {W W' : World} (hs : I s W) (k : Below W.heap.size W W') : I s W' := h s W W' none hs (zgrown k) (fun r e => by cases e)
set_option maxRecDepth 20000 in
set_option maxHeartbeats 2000000 in
theorem fwrong_in (N : Nat) (hN : 6 ≤ N) (g : Nat) (lb : Array Value) (eg : ∀ args w, (callFunc g args).run Tryz.prog w = .ok (.enter g args) w) (n0 : Nat) (A : Option Addr) (m c : Nat) (es : List EV) (J : Nat → World → Prop) (Jx : Nat → Int → World → Prop) (w : World) (hm : es.length = m) (hm1 : m ≤ 4611686018427387904) (hA : EsAt n0 A es w) (hn0 : n0 ≤ w.heap.size)
    (hJ : OwnE w.heap.size J) (hJx : ∀ i, OwnE w.heap.size (Jx i)) (hask : Asks g lb n0 es J Jx) (h0 : J 0 w) :
    CallsIn Fence.wide N Tryz.prog 57 #[.slice A m c, .func (.func g) #[] lb] w fun e w' => ∃ v, e = .returned (.int .i64 v) ∧ ((v = 0 ∧ J m w') ∨ (v ≠ 0 ∧ ∃ i, i < m ∧ Jx i v w')) ∧ Below n0 w w' := by
  refine callsIn_of_wp_marks Tryz.func57 rfl trivial ?_ rfl
  simp only [Tryz.ntmps57, List.size_toArray, List.length_cons, List.length_nil, Nat.reduceAdd, Nat.reduceSub, Array.replicate_succ, Array.replicate_zero, List.push_toArray, List.append_toArray, List.nil_append, List.cons_append]
  have hmf : ∀ (fn : Fn) (first cap : Array Value) (w : World), (Instr.makeFunc fn first cap).run Tryz.prog w = .ok (.func fn first cap) w := fun _ _ _ _ => rfl
  have HM := Lib.hid hm
  have HK := Lib.hid hask
  have J0 := Lib.hid h0
  have HJ := Lib.hid hJ
  have HX := Lib.hid hJx
  have HA := Lib.hid hA
  clear hm hask h0 hJ hJx hA
  gi_wp2
  refine zscope_in ?_
  gi_wp2
  refine wpIn_label ?_
  gi_wp2
  refine ⟨trivial, fun _ => by omega, ?_⟩
  refine (callsIn_wide.2 (all_is A m c _)).mono ?_
  rintro e w1 ⟨rfl, rfl⟩
  simp only []
  obtain ⟨B, hB⟩ : ∃ B, w.heap.size = B := ⟨_, rfl⟩
  obtain ⟨V, hV⟩ : ∃ V, ((w.alloc (.cells #[.func (.func g) #[] lb] 118)).alloc (.cells #[.int .i64 0] 31)) = V := ⟨_, rfl⟩
  have kV : Below w.heap.size w V := by rw [← hV]; exact ((Below.refl _ w).alloc (Nat.le_refl _) _).alloc (by simp) _
  have sV : V.heap.size = B + 2 := by rw [← hV, ← hB]; simp
  have v3 : V.heap[B]? = some (.cells #[.func (.func g) #[] lb] 118 (0, 0)) := by rw [← hV, ← hB]; exact (Below.heap_alloc _ _ _ (by simp)).trans (World.alloc_heap_new w _)
  have v5 : V.heap[B + 1]? = some (.cells #[.int .i64 0] 31 (0, 0)) := by
    rw [← hV, ← hB]
    have := World.alloc_heap_new (w.alloc (.cells #[.func (.func g) #[] lb] 118)) (.cells #[.int .i64 0] 31)
    rwa [World.size_alloc] at this
  simp only [hV, sV, hB]
  obtain ⟨V1, hV1⟩ : ∃ V1, V.alloc (.cells #[.slice A m c] 22) = V1 := ⟨_, rfl⟩
  have k1 : Below V.heap.size V V1 := by rw [← hV1]; exact (Below.refl _ _).alloc (Nat.le_refl _) _
  have s1 : V1.heap.size = B + 3 := by rw [← hV1]; simp [sV]
  have c1 : V1.cell? ⟨B + 2, 0, none⟩ = some (.slice A m c) := by rw [← hV1, ← sV]; simp
  have u3 := (k1.block B (by omega)).trans v3
  have u5 := (k1.block (B + 1) (by omega)).trans v5
  have kw : Below w.heap.size w V1 := kV.trans (k1.mono kV.size)
  have jV1 : J 0 V1 := HJ.out _ _ _ none J0.out ⟨kw.os, kw.tape, kw.output, kw.size, fun k hk _ => kw.block k hk⟩ (fun r e => by cases e)
  have EA : EsAt n0 A es V1 := HA.out.below (kw.mono (by omega))
  simp only [hV1]
  have BW := Lib.hid (kw.mono (show n0 ≤ w.heap.size by omega))
  clear hV hV1 kV k1 kw v3 v5 J0 HA
  gi_wp2
  refine range_kp (by omega) (gf := 96) (lb := #[.pointer (some ⟨B + 2, 0, none⟩)]) rfl (enters_of Tryz.func96 (by kernel_rfl) rfl)
    (eras_seq (N - 1) (by omega) n0 (B + 2) A m c es V1 HM.out hm1 EA (by omega) c1) (by omega) (fun _ => rfl) (fun _ _ => trivial) (fun _ _ _ _ _ => trivial)
    (fun pre X => (J pre.length X ∧ X.heap[B]? = some (.cells #[.func (.func g) #[] lb] 118 (0, 0)) ∧ X.heap[B + 1]? = some (.cells #[.int .i64 0] 31 (0, 0))) ∧ Below n0 w X)
    (fun c pre X => ((∃ v i, c = .exit 0 ∧ v ≠ 0 ∧ i < m ∧ Jx i v X ∧ X.heap[B + 1]? = some (.cells #[.int .i64 v] 31 (0, 0)))) ∧ Below n0 w X) ?hI ?hIx ⟨⟨jV1, u3, u5⟩, BW.out⟩ ?round ?done ?stop
  case hI =>
    rw [s1]
    exact OwnFrom.and (fun pre W W' row h hg hr => ⟨HJ.out.from pre.length W W' row h.1 hg (fun r e => ⟨by have := (hr r e).1; omega, (hr r e).2⟩), blk_own (β := Unit) (B + 3) B _ _ _ (by omega) () W W' row h.2.1 hg hr, blk_own (β := Unit) (B + 3) (B + 1) _ _ _ (by omega) () W W' row h.2.2 hg hr⟩) (ownFrom_below (by omega) (by omega))
  case hIx =>
    rw [s1]
    exact fun c => OwnFrom.and (fun pre W W' row ⟨v, i, h1, h2, h3, h4, h5⟩ hg hr => ⟨v, i, h1, h2, h3, (HX.out i).from v W W' row h4 hg (fun r e => ⟨by have := (hr r e).1; omega, (hr r e).2⟩), blk_own (β := Unit) (B + 3) (B + 1) _ _ _ (by omega) () W W' row h5 hg hr⟩) (ownFrom_below (by omega) (by omega))
  case round =>
    rintro l pre ⟨i, e⟩ X ⟨⟨hj, h3, h5⟩, hb⟩ hok hsX
    simp only [encZ, evV, cE]
    have bX : Below X.heap.size X (X.alloc (.cells #[.int .i64 e.of, .string ⟨e.rl.toArray⟩, .int .i64 e.sv, .string ⟨e.fm.toArray⟩, .bool e.en, .int .i64 e.uy, .int .i64 e.um, .int .i64 e.dk, .int .i64 e.dw, .int .i64 e.dn, .int .i64 e.sc, .int .i64 e.ck] 54)) := (Below.refl _ X).alloc (Nat.le_refl _) _
    gi_wp2
    refine ⟨⟨KeepsOthers.alloc X _, bX.mono (by omega), trivial⟩, fun _ Y => ((J pre.length Y ∧ Y.heap[B]? = some (.cells #[.func (.func g) #[] lb] 118 (0, 0)) ∧ Y.heap[B + 1]? = some (.cells #[.int .i64 0] 31 (0, 0))) ∧ Below n0 w Y) ∧ Y.heap[X.heap.size]? = some (.cells #[.int .i64 e.of, .string ⟨e.rl.toArray⟩, .int .i64 e.sv, .string ⟨e.fm.toArray⟩, .bool e.en, .int .i64 e.uy, .int .i64 e.um, .int .i64 e.dk, .int .i64 e.dw, .int .i64 e.dn, .int .i64 e.sc, .int .i64 e.ck] 54 (0, 0)), ?_, ?_, ?_⟩
    · rw [s1]
      refine OwnFrom.and (OwnFrom.and (fun _ W W' row h hg hr => ⟨HJ.out.from pre.length W W' row h.1 hg (fun r e => ⟨by have := (hr r e).1; omega, (hr r e).2⟩), blk_own (β := Unit) (B + 3) B _ _ _ (by omega) () W W' row h.2.1 hg hr, blk_own (β := Unit) (B + 3) (B + 1) _ _ _ (by omega) () W W' row h.2.2 hg hr⟩) (ownFrom_below (by omega) (by omega))) (fun s A B row h hg hr => (hg.block _ (Array.getElem?_eq_some_iff.1 h).1 (fun e => by obtain ⟨-, o, ho, hc⟩ := hr _ e.symm; rw [h] at ho; cases ho; cases hc)).trans h)
    · exact ⟨⟨⟨HJ.out.below hj bX, (bX.block B (by omega)).trans h3, (bX.block (B + 1) (by omega)).trans h5⟩, hb.trans (bX.mono (by omega))⟩, heap_alloc_new X _⟩
    · rintro W2 ⟨⟨⟨j2, p3, p5⟩, b2⟩, pe⟩ hs2
      obtain ⟨x0, x1, x2, x3, x4, x5, x6, x7, x8, x9, x10, x11⟩ := cells12 pe
      have y3 := cel1 p3
      have y5 := cel1 p5
      gi_wp2
      have he := hok.2
      have hil := hok.1
      rw [← hil] at he j2
      have him : i < m := by rw [← HM.out]; exact (Array.getElem?_eq_some_iff.1 (by simpa using he : es.toArray[i]? = some e)).1
      refine ⟨trivial, fun _ => by omega, CallsIn.inRound l (callsIn_wide.2 ((HK.out i e W2 he j2).mono ?_))⟩
      rintro e1 W3 ⟨v, rfl, hv, kO, b3, kp⟩
      have q3 := (kp B _ _ _ p3 (by simp)).trans p3
      have q5 := (kp (B + 1) _ _ _ p5 (by simp)).trans p5
      have z5 := cel1 q5
      have f5 := frz (j := 0) q5
      have hset : W3.grownBy (W3.setCell ⟨B + 1, 0, none⟩ (.int .i64 v)) (some (B + 1)) := grownBy_setCell' W3 (B + 1) (.int .i64 v)
      have hq := blk_set (i := 0) q5 (.int .i64 v)
      have hsz := b3.size
      have hEr : ∀ r, some (B + 1) = some r → w.heap.size ≤ r ∧ ∃ o : Obj, W3.heap[r]? = some o ∧ (o.isCells = false ∨ ∃ cs fz, o = .cells cs 31 fz) := fun r e => by
        injection e with e; subst e
        exact ⟨by omega, _, q5, .inr ⟨_, _, rfl⟩⟩
      have kS : KeepsOthers W3 (W3.setCell ⟨B + 1, 0, none⟩ (.int .i64 v)) := KeepsOthers.setCell W3 _ _
      have bS : Below n0 W3 (W3.setCell ⟨B + 1, 0, none⟩ (.int .i64 v)) := (Below.refl n0 W3).grown hset (by omega) (fun j hj => by injection hj with hj; omega)
      have s3 := (hset.block B (by have := (Array.getElem?_eq_some_iff.1 q3).1; exact this) (fun e => by injection e with e; omega)).trans q3
      obtain ⟨W4, hW4⟩ : ∃ W4, W3.setCell ⟨B + 1, 0, none⟩ (.int .i64 v) = W4 := ⟨_, rfl⟩
      have hq' : W4.heap[B + 1]? = some (.cells #[.int .i64 v] 31 (0, 0)) := by rw [← hW4]; simpa using hq
      rcases hv with ⟨rfl, hv⟩ | ⟨hv0, hv⟩
      · have hJ4 := HJ.out _ _ _ _ hv hset hEr
        rw [hW4] at hJ4 s3 kS bS
        have K1 := Lib.hid (kO.trans kS)
        have K2 := Lib.hid (b3.trans bS)
        have IV := Lib.hid (And.intro hJ4 s3)
        clear hv hset hq hJ4 s3 kS bS kO b3 hEr
        have y6 := cel1 hq'
        gi_wp2
        exact ⟨⟨K1.out, K2.out, trivial⟩, ⟨by rw [List.length_append, ← hil]; exact IV.out.1, IV.out.2, hq'⟩, b2.trans K2.out⟩
      · have hJ4 := (HX.out i) _ _ _ _ hv hset hEr
        rw [hW4] at hJ4 s3 kS bS
        have K1 := Lib.hid (kO.trans kS)
        have K2 := Lib.hid (b3.trans bS)
        have IV := Lib.hid hJ4
        clear hv hset hq hJ4 s3 kS bS kO b3 hEr
        have y6 := cel1 hq'
        have hvb : (v != 0) = true := by simpa using hv0
        gi_wp2
        exact ⟨K1.out, ⟨v, _, rfl, hv0, him, IV.out, hq'⟩, b2.trans K2.out⟩
  case done =>
    rintro D xs X hD hS ⟨⟨hj, h3, h5⟩, hb⟩ hdf
    rw [hS] at hj
    have y5 := cel1 h5
    have hl := (Array.getElem?_eq_some_iff.1 hdf).1
    have JF := Lib.hid (HJ.out _ _ _ _ hj (grownBy_putObj' X D (.deferred none)) (fun r e => by injection e with e; subst e; exact ⟨by omega, _, hdf, .inl rfl⟩))
    have BF := Lib.hid (hb.trans ((Below.refl n0 X).grown (grownBy_putObj' X D (.deferred none)) (by omega) (fun j hj => by injection hj with hj; omega)))
    clear hj hb
    gi_wp2
    rw [Exit.noGoto_ret]
    refine ⟨by simp, .inl ⟨D, _, rfl, run_takeDeferred hdf, ?_⟩⟩
    exact ⟨_, results_tmp rfl _ _ _, 0, rfl, .inl ⟨rfl, JF.out⟩, BF.out⟩
  case stop =>
    rintro D cc pre X hD - ⟨⟨v, i, rfl, hv0, him, hx, h5⟩, hb⟩ hdf
    have y5 := cel1 h5
    have hl := (Array.getElem?_eq_some_iff.1 hdf).1
    have JF := Lib.hid ((HX.out i) _ _ _ _ hx (grownBy_putObj' X D (.deferred none)) (fun r e => by injection e with e; subst e; exact ⟨by omega, _, hdf, .inl rfl⟩))
    have BF := Lib.hid (hb.trans ((Below.refl n0 X).grown (grownBy_putObj' X D (.deferred none)) (by omega) (fun j hj => by injection hj with hj; omega)))
    clear hx hb
    gi_wp2
    rw [Exit.noGoto_ret]
    refine ⟨by simp, .inl ⟨D, _, rfl, run_takeDeferred hdf, ?_⟩⟩
    exact ⟨_, results_tmp rfl _ _ _, v, rfl, .inr ⟨hv0, i, him, JF.out⟩, BF.out⟩
end Go.Proofs.YtdmfgechoanmlaaGreatDoor
