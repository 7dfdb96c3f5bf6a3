/- Values that came in, read field by field; a slice of structs that came in, opened. -/
import Derived.Test.YtjpppffgebecdaaGreatDoorRvD
import Derived.ProofKit
import Derived.OpenShut
import Derived.LaidMore
import Derived.LaidLaws
import Derived.Lib.SmallJoins
namespace Go.Proofs.YtjpppffgebecdaaGreatDoor
open Go Go.RowKit Go.ChangeShapes Go.WideShapes Go.ChangeAt

def in64' (n : Int) : Prop := -9223372036854775808 ≤ n ∧ n ≤ 9223372036854775807
theorem array11 {α : Type} {cs : Array α} (h : cs.size = 11) : ∃ c0 c1 c2 c3 c4 c5 c6 c7 c8 c9 c10, cs = #[c0, c1, c2, c3, c4, c5, c6, c7, c8, c9, c10] := by
  obtain ⟨l⟩ := cs
  match l, h with
  | [c0, c1, c2, c3, c4, c5, c6, c7, c8, c9, c10], _ => exact ⟨c0, c1, c2, c3, c4, c5, c6, c7, c8, c9, c10, rfl⟩
def Rd {H : Type} (enc : TypeId × Value → H) (W : World) (sp : Nat → Bool) (held : Bool) (t : TypeId) (cs : List Value) : Prop := ∃ n y, DataW.trod enc Tryz.prog W 0 sp held n t cs = some y
theorem Rd.sub {H : Type} {enc : TypeId × Value → H} {W : World} {sp : Nat → Bool} {held : Bool} {t : TypeId} {cs : List Value} {fs : Array Field} (h : Rd enc W sp held t cs) (hu : Tryz.prog.underlying t = some (.struct fs)) (i : Nat) (f : Field) (hf : fs[i]? = some f) (u : TypeId) (ht : f.type = u) (o k : Nat) (ho : f.offset = o) (hk : Tryz.prog.cellsOf u = k) : Rd enc W sp held u ((cs.drop o).take k) := by
  obtain ⟨n, y, h⟩ := h
  obtain ⟨xs, m, _, _, _, hlen, k⟩ := DataW.trod_struct hu h
  subst ht ho hk
  have hi : i < xs.length := by rw [hlen]; exact (Array.getElem?_eq_some_iff.1 hf).1
  exact ⟨m, xs[i], (k i f hf).trans (List.getElem?_eq_getElem hi)⟩
theorem Rd.int {H : Type} {enc : TypeId × Value → H} {W : World} {sp : Nat → Bool} {held : Bool} {v : Value} (h : Rd enc W sp held 3 [v]) : ∃ a : Int, v = .int .i64 a ∧ in64' a := by
  obtain ⟨n, y, h⟩ := h
  obtain ⟨a, e1, _, hw⟩ := DataW.trod_int Tryz.underlying3 h
  refine ⟨a, by simpa using e1, ?_⟩
  simp only [Lit.wf, Bool.and_eq_true, decide_eq_true_eq] at hw
  exact ⟨hw.1, hw.2⟩
theorem Rd.str {H : Type} {enc : TypeId × Value → H} {W : World} {sp : Nat → Bool} {held : Bool} {v : Value} (h : Rd enc W sp held 9 [v]) : ∃ l : List UInt8, v = .string ⟨l.toArray⟩ := by
  obtain ⟨n, y, h⟩ := h
  obtain ⟨s, e1, _, _⟩ := DataW.trod_string Tryz.underlying9 h
  exact ⟨s.data.toList, by simpa using e1⟩
theorem Rd.bit {H : Type} {enc : TypeId × Value → H} {W : World} {sp : Nat → Bool} {held : Bool} {v : Value} (h : Rd enc W sp held 4 [v]) : ∃ b : Bool, v = .bool b := by
  obtain ⟨n, y, h⟩ := h
  obtain ⟨b, e1, _⟩ := DataW.trod_bool Tryz.underlying4 h
  exact ⟨b, by simpa using e1⟩
theorem cInt : Tryz.prog.cellsOf 3 = 1 := by kernel_rfl
theorem cStr : Tryz.prog.cellsOf 9 = 1 := by kernel_rfl
theorem cBool : Tryz.prog.cellsOf 4 = 1 := by kernel_rfl
theorem cDay : Tryz.prog.cellsOf 48 = 3 := by kernel_rfl
theorem cClk : Tryz.prog.cellsOf 50 = 2 := by kernel_rfl
theorem Rd.day {H : Type} {enc : TypeId × Value → H} {W : World} {sp : Nat → Bool} {held : Bool} {v0 v1 v2 : Value} (h : Rd enc W sp held 48 [v0, v1, v2]) : ∃ a b c : Int, v0 = .int .i64 a ∧ v1 = .int .i64 b ∧ v2 = .int .i64 c := by
  obtain ⟨a, e0, -⟩ := Rd.int (v := v0) (h.sub Tryz.underlying48 0 _ rfl 3 rfl 0 1 rfl cInt)
  obtain ⟨b, e1, -⟩ := Rd.int (v := v1) (h.sub Tryz.underlying48 1 _ rfl 3 rfl 1 1 rfl cInt)
  obtain ⟨c, e2, -⟩ := Rd.int (v := v2) (h.sub Tryz.underlying48 2 _ rfl 3 rfl 2 1 rfl cInt)
  exact ⟨a, b, c, e0, e1, e2⟩
theorem Rd.clk {H : Type} {enc : TypeId × Value → H} {W : World} {sp : Nat → Bool} {held : Bool} {v0 v1 : Value} (h : Rd enc W sp held 50 [v0, v1]) : ∃ a b : Int, v0 = .int .i64 a ∧ v1 = .int .i64 b := by
  obtain ⟨a, e0, -⟩ := Rd.int (v := v0) (h.sub Tryz.underlying50 0 _ rfl 3 rfl 0 1 rfl cInt)
  obtain ⟨b, e1, -⟩ := Rd.int (v := v1) (h.sub Tryz.underlying50 1 _ rfl 3 rfl 1 1 rfl cInt)
  exact ⟨a, b, e0, e1⟩
/-- The cells of a rule. -/
theorem rd_rule {H : Type} {enc : TypeId × Value → H} {W : World} {sp : Nat → Bool} {held : Bool} {cs : List Value} (hl : cs.length = 11) (R : Rd enc W sp held 81 cs) : ∃ x : RV, cs = (cR x).toList ∧ in64' x.fr ∧ in64' x.tl := by
  obtain ⟨c0, c1, c2, c3, c4, c5, c6, c7, c8, c9, c10, rfl⟩ : ∃ c0 c1 c2 c3 c4 c5 c6 c7 c8 c9 c10, cs = [c0, c1, c2, c3, c4, c5, c6, c7, c8, c9, c10] := by
    match cs, hl with
    | [c0, c1, c2, c3, c4, c5, c6, c7, c8, c9, c10], _ => exact ⟨c0, c1, c2, c3, c4, c5, c6, c7, c8, c9, c10, rfl⟩
  obtain ⟨nm, rfl⟩ := Rd.str (v := c0) (R.sub Tryz.underlying81 0 _ rfl 9 rfl 0 1 rfl cStr)
  obtain ⟨fr, rfl, h1⟩ := Rd.int (v := c1) (R.sub Tryz.underlying81 1 _ rfl 3 rfl 1 1 rfl cInt)
  obtain ⟨tl, rfl, h2⟩ := Rd.int (v := c2) (R.sub Tryz.underlying81 2 _ rfl 3 rfl 2 1 rfl cInt)
  obtain ⟨mo, rfl, -⟩ := Rd.int (v := c3) (R.sub Tryz.underlying81 3 _ rfl 3 rfl 3 1 rfl cInt)
  obtain ⟨dk, dw, dn, rfl, rfl, rfl⟩ := Rd.day (v0 := c4) (v1 := c5) (v2 := c6) (R.sub Tryz.underlying81 4 _ rfl 48 rfl 4 3 rfl cDay)
  obtain ⟨sc, ck, rfl, rfl⟩ := Rd.clk (v0 := c7) (v1 := c8) (R.sub Tryz.underlying81 5 _ rfl 50 rfl 7 2 rfl cClk)
  obtain ⟨sv, rfl, -⟩ := Rd.int (v := c9) (R.sub Tryz.underlying81 6 _ rfl 3 rfl 9 1 rfl cInt)
  obtain ⟨lt, rfl⟩ := Rd.str (v := c10) (R.sub Tryz.underlying81 7 _ rfl 9 rfl 10 1 rfl cStr)
  exact ⟨⟨nm, fr, tl, mo, dk, dw, dn, sc, ck, sv, lt⟩, rfl, h1, h2⟩
set_option maxRecDepth 20000 in
/-- A slice of structs that came in. -/
theorem open_structs {α : Type} {H : Type} {enc : TypeId × Value → H} {W : World} {held : Bool} {r : Reach} {base b0 : Nat} {v : Value} {d : DataW H} {p : List MemPlace} {t e : TypeId} (c : Nat) (hc0 : 0 < c) (f : α → Array Value) (Q : α → Prop) (hu : Tryz.prog.underlying t = some (.slice e)) (hc : Tryz.prog.cellsOf e = c) (hf : ∀ x, (f x).size = c)
    (rd : ∀ n cs y, cs.length = c → DataW.trod enc Tryz.prog W base (fun _ => true) held n e cs = some y → ∃ x : α, cs = (f x).toList ∧ Q x) (hv : Value.okWide Tryz.prog W r b0 t v) (h : DataW.Trod enc Tryz.prog W base (fun _ => true) held t v d p) :
    ∃ (l : List α) (a : Option Addr) (cap : Nat), v = .slice a l.length cap ∧ l.length ≤ cap ∧ cap ≤ maxLen ∧ RowsAt c f a l W ∧ ∀ x ∈ l, Q x := by
  obtain ⟨a, len, cap, rfl⟩ := okWide_slice hu hv
  obtain ⟨fuel, hfu⟩ := h
  rcases DataW.trod_slice hu hfu with ⟨hcs, _⟩ | ⟨x, len', cap', elems, rest, n, _, hcs, _, hb, hl, hm, hlen, hel, _⟩
  · simp [Value.cells] at hcs
    obtain ⟨rfl, rfl, rfl⟩ := hcs
    exact ⟨[], none, 0, rfl, Nat.le_refl _, Nat.zero_le _, fun k y hk => by simp at hk, by simp⟩
  · simp [Value.cells] at hcs
    obtain ⟨rfl, rfl, rfl⟩ := hcs
    have each : ∀ i, i < len → ∃ y : α, (∀ j u, j < c → (f y)[j]? = some u → W.cell? ((x.add (i * c)).add j) = some u) ∧ Q y := by
      intro i hi
      have h1 := hel i hi
      have h2 : i < elems.length := by omega
      rw [List.getElem?_eq_getElem h2, hc, Option.bind_eq_some_iff] at h1
      obtain ⟨cs, hcs, hx⟩ := h1
      have h4 := World.cells?_some hcs
      obtain ⟨y, hy, hq⟩ := rd _ _ _ h4.2.1 hx
      refine ⟨y, fun j u hj hu => ?_, hq⟩
      have := h4.2.2 j (by omega)
      rw [this, hy]
      simpa using hu
    obtain ⟨g, hg⟩ : ∃ g : Nat → Option α, ∀ i, i < len → ∃ y, g i = some y ∧ (∀ j u, j < c → (f y)[j]? = some u → W.cell? ((x.add (i * c)).add j) = some u) ∧ Q y := by
      refine ⟨fun i => if h : i < len then some (Classical.choose (each i h)) else none, fun i hi => ?_⟩
      have := Classical.choose_spec (each i hi)
      simp only [dif_pos hi]
      exact ⟨_, rfl, this⟩
    have hsome : ∀ i, i < len → (g i).isSome = true := fun i hi => by obtain ⟨y, e, -⟩ := hg i hi; rw [e]; rfl
    have hll : ((List.range len).filterMap g).length = len ∧ ∀ i, i < len → ((List.range len).filterMap g)[i]? = g i := by
      have key : ∀ m, m ≤ len → ((List.range m).filterMap g).length = m ∧ ∀ i, i < m → ((List.range m).filterMap g)[i]? = g i := by
        intro m
        induction m with
        | zero => intro _; exact ⟨rfl, fun i hi => by omega⟩
        | succ m ih =>
          intro hm
          obtain ⟨i1, i2⟩ := ih (by omega)
          obtain ⟨y, e, -⟩ := hg m (by omega)
          rw [List.range_succ, List.filterMap_append]
          have e1 : [m].filterMap g = [y] := by simp [e]
          rw [e1]
          refine ⟨by rw [List.length_append, i1]; rfl, fun i hi => ?_⟩
          by_cases h : i < m
          · rw [List.getElem?_append_left (by omega)]; exact i2 i h
          · obtain rfl : i = m := by omega
            rw [List.getElem?_append_right (by omega), i1, Nat.sub_self, e]; rfl
      exact key len (Nat.le_refl _)
    refine ⟨(List.range len).filterMap g, some x, cap, by rw [hll.1], by rw [hll.1]; exact hl, hm, ?_, ?_⟩
    · intro i y hy
      have hi : i < len := by have := (List.getElem?_eq_some_iff.1 hy).1; rwa [hll.1] at this
      rw [hll.2 i hi] at hy
      obtain ⟨y', e, hcell, -⟩ := hg i hi
      rw [e] at hy; injection hy with hy; subst hy
      obtain ⟨u0, hu0⟩ : ∃ u, (f y')[0]? = some u := ⟨_, Array.getElem?_eq_getElem (by rw [hf]; exact hc0)⟩
      have h0 := hcell 0 u0 hc0 hu0
      have hs : x.spot = none := by
        obtain ⟨z, -, hz, -⟩ := hg 0 (by omega)
        obtain ⟨u1, hu1⟩ : ∃ u, (f z)[0]? = some u := ⟨_, Array.getElem?_eq_getElem (by rw [hf]; exact hc0)⟩
        have h1 := hz 0 u1 hc0 hu1
        rw [Nat.zero_mul, show x.add 0 = x by simp [Addr.add], show x.add 0 = x by simp [Addr.add]] at h1
        exact World.cell?_spot h1
      obtain ⟨b, off, spot⟩ := x
      have hs' : spot = none := hs
      subst hs'
      rw [Go.WideShapes.add_plain, Go.WideShapes.add_plain] at h0
      refine ⟨b, off, rfl, cell_lt h0, fun j u hj hu => ?_⟩
      have := hcell j u hj hu
      rwa [Go.WideShapes.add_plain, Go.WideShapes.add_plain] at this
    · intro y hy
      obtain ⟨i, hi, e⟩ := List.mem_iff_getElem.1 hy
      rw [hll.1] at hi
      obtain ⟨y', e', -, hq⟩ := hg i hi
      have := hll.2 i hi
      rw [List.getElem?_eq_getElem (by rw [hll.1]; exact hi), e, e'] at this
      injection this with this; rw [this]; exact hq
set_option maxRecDepth 100000 in
theorem open_rules {H : Type} {enc : TypeId × Value → H} {W : World} {held : Bool} {r : Reach} {b0 : Nat} {v : Value} {d : DataW H} {p : List MemPlace} (hv : Value.okWide Tryz.prog W r b0 60 v) (h : DataW.Trod enc Tryz.prog W 0 (fun _ => true) held 60 v d p) :
    ∃ (l : List RV) (a : Option Addr) (cap : Nat), v = .slice a l.length cap ∧ l.length ≤ cap ∧ cap ≤ maxLen ∧ RowsAt 11 cR a l W ∧ ∀ x ∈ l, in64' x.fr ∧ in64' x.tl :=
  open_structs 11 (by omega) cR (fun x => in64' x.fr ∧ in64' x.tl) Tryz.underlying60 (by kernel_rfl) (fun _ => rfl) (fun n cs y hl hx => rd_rule hl ⟨n, y, hx⟩) hv h
end Go.Proofs.YtjpppffgebecdaaGreatDoor
