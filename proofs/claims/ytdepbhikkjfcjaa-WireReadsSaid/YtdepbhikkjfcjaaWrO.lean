/- Arguments opened: a slice of bytes, a slice of numbers, a call's name and number, a slice of those; what each holds. -/
import Derived.WalkKit
import Derived.ProofKit
import Derived.OpenShut
import Derived.Below
import Derived.Lib.SmallJoins
import Derived.Test.YtdepbhikkjfcjaaWrA
namespace Go.Proofs.Ytdepbhikkjfcjaa
open Go.ChangeShapes Go.WideShapes Go.ChangeAt Go.RowKit

theorem laidOut : laidOutB Try.prog = true := by kernel_rfl
theorem own : ownKnob Try.prog.godebug = none := by kernel_rfl

def in64 (n : Int) : Prop := -9223372036854775808 ≤ n ∧ n ≤ 9223372036854775807
theorem wf_64 {n : Int} (h : (Lit.int .i64 n).wf = true) : in64 n := by
  simpa [in64, Lit.wf, IntKind.min, IntKind.max, IntKind.bits, IntKind.signed] using h
theorem wf_8 {n : Int} (h : (Lit.int .u8 n).wf = true) : 0 ≤ n ∧ n ≤ 255 := by
  simpa [Lit.wf, IntKind.min, IntKind.max, IntKind.bits, IntKind.signed] using h

/-- The numbers zs, of any sign, lie at the address. -/
def Is (w : World) (a : Option Addr) (zs : List Int) : Prop :=
  ∀ k, k < zs.length → ∃ b off, a = some ⟨b, off, none⟩ ∧ b < w.heap.size ∧ w.cell? ⟨b, off + k, none⟩ = some (.int .i64 (zs.getD k 0)) ∧ in64 (zs.getD k 0)
theorem Is.next {w w' : World} {a : Option Addr} {l : List Int} (h : Is w a l) (hb : Below w.heap.size w w') : Is w' a l := fun k hk => by
  obtain ⟨b, off, e, hlt, hc, hi⟩ := h k hk
  exact ⟨b, off, e, Nat.lt_of_lt_of_le hlt hb.size, by rw [hb.cell (p := ⟨b, off + k, none⟩) hlt]; exact hc, hi⟩
/-- The calls l, each a name and a number, lie at the address. -/
def Ops (w : World) (a : Option Addr) (l : List (Int × Int)) : Prop :=
  ∀ k, k < l.length → ∃ b off, a = some ⟨b, off, none⟩ ∧ b < w.heap.size ∧ w.cell? ⟨b, off + 2 * k, none⟩ = some (.int .i64 (l.getD k (0, 0)).1) ∧ w.cell? ⟨b, off + 2 * k + 1, none⟩ = some (.int .i64 (l.getD k (0, 0)).2) ∧ in64 (l.getD k (0, 0)).1 ∧ in64 (l.getD k (0, 0)).2
theorem Ops.next {w w' : World} {a : Option Addr} {l : List (Int × Int)} (h : Ops w a l) (hb : Below w.heap.size w w') : Ops w' a l := fun k hk => by
  obtain ⟨b, off, e, hlt, hc, hd, hi⟩ := h k hk
  exact ⟨b, off, e, Nat.lt_of_lt_of_le hlt hb.size, by rw [hb.cell (p := ⟨b, off + 2 * k, none⟩) hlt]; exact hc, by rw [hb.cell (p := ⟨b, off + 2 * k + 1, none⟩) hlt]; exact hd, hi⟩

section
variable {H : Type} {enc : TypeId × Value → H} {w : World} {base : Nat} {held : Bool}
theorem cell_block {a : Addr} {v : Value} (h : w.cell? a = some v) : a.block < w.heap.size := by
  rcases Nat.lt_or_ge a.block w.heap.size with hlt | hge
  · exact hlt
  · simp [World.cell?, Array.getElem?_eq_none hge] at h

theorem open_slice_u8 {r : Reach} {b0 : Nat} {v : Value} {d : DataW H} {p : List MemPlace}
    (hv : Value.okWide Try.prog w r b0 22 v) (h : DataW.Trod enc Try.prog w base (fun _ => true) held 22 v d p) :
    ∃ (l : List UInt8) (a : Option Addr) (cap : Nat), v = .slice a l.length cap ∧ l.length ≤ cap ∧ cap ≤ maxLen ∧ (a = none → cap = 0) ∧ By w a l := by
  obtain ⟨a, len, cap, rfl⟩ := okWide_slice Try.underlying22 hv
  obtain ⟨fuel, hf⟩ := h
  rcases open_ints Try.underlying22 Try.underlying5 (by kernel_rfl) hf with ⟨hcs, _⟩ | ⟨x, l, c, zs, hcs, _, hl, hm, hz, _, hcell, hwz⟩
  · simp [Value.cells] at hcs
    obtain ⟨rfl, rfl, rfl⟩ := hcs
    exact ⟨[], none, 0, rfl, Nat.le_refl _, Nat.zero_le _, fun _ => rfl, By.nil _ _⟩
  · simp [Value.cells] at hcs
    obtain ⟨rfl, rfl, rfl⟩ := hcs
    have hz' : zs.length = cap := by simpa using hz
    have hlen : ((zs.take len).map (fun z => UInt8.ofNat z.toNat)).length = len := by rw [List.length_map, List.length_take]; omega
    refine ⟨(zs.take len).map (fun z => UInt8.ofNat z.toNat), some x, cap, by rw [hlen], by omega, hm, (fun h => by cases h), ?_⟩
    intro k hk
    rw [hlen] at hk
    obtain ⟨b, off, rfl, hc⟩ := ints_at hcell (by omega)
    have hk2 := hc k (by omega)
    refine ⟨b, off, rfl, cell_block hk2, ?_⟩
    rw [hk2]
    have hkz : k < zs.length := by omega
    have hb8 := wf_8 (hwz (zs.getD k 0) (by simp [List.getD, List.getElem?_eq_getElem hkz]))
    have : ((zs.take len).map (fun z => UInt8.ofNat z.toNat)).getD k 0 = UInt8.ofNat (zs.getD k 0).toNat := by
      simp [List.getD, hk, List.getElem?_eq_getElem hkz]
    rw [this, u8_of _ (by omega)]
    congr 2
    omega

theorem open_slice_i64 {r : Reach} {b0 : Nat} {v : Value} {d : DataW H} {p : List MemPlace}
    (hv : Value.okWide Try.prog w r b0 24 v) (h : DataW.Trod enc Try.prog w base (fun _ => true) held 24 v d p) :
    ∃ (zs : List Int) (a : Option Addr) (cap : Nat), v = .slice a zs.length cap ∧ zs.length ≤ cap ∧ cap ≤ maxLen ∧ Is w a zs := by
  obtain ⟨a, len, cap, rfl⟩ := okWide_slice Try.underlying24 hv
  obtain ⟨fuel, hf⟩ := h
  rcases open_ints Try.underlying24 Try.underlying3 (by kernel_rfl) hf with ⟨hcs, _⟩ | ⟨x, l, c, zs, hcs, _, hl, hm, hz, _, hcell, hwz⟩
  · simp [Value.cells] at hcs
    obtain ⟨rfl, rfl, rfl⟩ := hcs
    exact ⟨[], none, 0, rfl, Nat.le_refl _, Nat.zero_le _, fun k hk => by simp at hk⟩
  · simp [Value.cells] at hcs
    obtain ⟨rfl, rfl, rfl⟩ := hcs
    have hz' : zs.length = cap := by simpa using hz
    have hlen : (zs.take len).length = len := by rw [List.length_take]; omega
    refine ⟨zs.take len, some x, cap, by rw [hlen], by omega, hm, ?_⟩
    intro k hk
    rw [hlen] at hk
    obtain ⟨b, off, rfl, hc⟩ := ints_at hcell (by omega)
    have hk2 := hc k (by omega)
    have hkz : k < zs.length := by omega
    have this : (zs.take len).getD k 0 = zs.getD k 0 := by simp [List.getD, hk]
    refine ⟨b, off, rfl, cell_block hk2, by rw [hk2, this], ?_⟩
    rw [this]
    exact wf_64 (hwz (zs.getD k 0) (by simp [List.getD, List.getElem?_eq_getElem hkz]))

theorem op_two {sp : Nat → Bool} {fuel : Nat} {cs : List Value} {x : DataW H × List MemPlace} (h : DataW.trod enc Try.prog w base sp held fuel 38 cs = some x) :
    ∃ a b : Int, cs = [.int .i64 a, .int .i64 b] ∧ in64 a ∧ in64 b := by
  obtain ⟨y0, y1, n, rfl, hl, h0, h1⟩ := trod_struct2 Try.underlying38 h
  have hc : Try.prog.cellsOf 38 = 2 := by kernel_rfl
  have hi : Try.prog.cellsOf 3 = 1 := by kernel_rfl
  rw [hc] at hl
  match cs, hl with
  | [c0, c1], _ =>
    have h0' : DataW.trod enc Try.prog w base sp held n 3 [c0] = some y0 := by simpa [hi] using h0
    have h1' : DataW.trod enc Try.prog w base sp held n 3 [c1] = some y1 := by simpa [hi] using h1
    obtain ⟨a, e0, _, wa⟩ := DataW.trod_int Try.underlying3 h0'
    obtain ⟨b, e1, _, wb⟩ := DataW.trod_int Try.underlying3 h1'
    simp only [List.cons.injEq, and_true] at e0 e1
    subst e0 e1
    exact ⟨a, b, rfl, wf_64 wa, wf_64 wb⟩
theorem open_op {r : Reach} {b0 : Nat} {sp : Nat → Bool} {v : Value} {d : DataW H} {p : List MemPlace}
    (hv : Value.okWide Try.prog w r b0 38 v) (h : DataW.Trod enc Try.prog w base sp held 38 v d p) :
    ∃ a b : Int, v = .agg #[.int .i64 a, .int .i64 b] ∧ in64 a ∧ in64 b := by
  obtain ⟨cs, rfl, _⟩ := okWide_struct Try.underlying38 hv
  obtain ⟨fuel, hf⟩ := h
  obtain ⟨a, b, e, wa, wb⟩ := op_two hf
  refine ⟨a, b, ?_, wa, wb⟩
  have e' : cs.toList = [.int .i64 a, .int .i64 b] := e
  congr 1
  apply Array.toList_inj.1
  simp [e']
theorem open_slice_ops {r : Reach} {b0 : Nat} {v : Value} {d : DataW H} {p : List MemPlace}
    (hv : Value.okWide Try.prog w r b0 31 v) (h : DataW.Trod enc Try.prog w base (fun _ => true) held 31 v d p) :
    ∃ (l : List (Int × Int)) (a : Option Addr) (cap : Nat), v = .slice a l.length cap ∧ l.length ≤ cap ∧ cap ≤ maxLen ∧ Ops w a l := by
  obtain ⟨a, len, cap, rfl⟩ := okWide_slice Try.underlying31 hv
  obtain ⟨fuel, hf⟩ := h
  have hc : Try.prog.cellsOf 38 = 2 := by kernel_rfl
  rcases DataW.trod_slice Try.underlying31 hf with ⟨hcs, _⟩ | ⟨x, len', cap', elems, rest, n, _, hcs, _, hb, hl, hm, hlen, hel, _⟩
  · simp [Value.cells] at hcs
    obtain ⟨rfl, rfl, rfl⟩ := hcs
    exact ⟨[], none, 0, rfl, Nat.le_refl _, Nat.zero_le _, fun k hk => by simp at hk⟩
  · simp [Value.cells] at hcs
    obtain ⟨rfl, rfl, rfl⟩ := hcs
    have each : ∀ i, i < len → ∃ a b : Int, w.cell? (x.add (i * 2)) = some (.int .i64 a) ∧ w.cell? ((x.add (i * 2)).add 1) = some (.int .i64 b) ∧ in64 a ∧ in64 b := by
      intro i hi
      have h1 := hel i hi
      have h2 : i < elems.length := by omega
      rw [List.getElem?_eq_getElem h2, hc, Option.bind_eq_some_iff] at h1
      obtain ⟨cs, hcs, hx⟩ := h1
      obtain ⟨a, b, rfl, wa, wb⟩ := op_two hx
      have h3 := (World.cells?_some hcs).2.2
      refine ⟨a, b, ?_, ?_, wa, wb⟩
      · have := h3 0 (by omega)
        simpa [Addr.add] using this
      · have := h3 1 (by omega)
        simpa using this
    obtain ⟨f, hf⟩ : ∃ f : Nat → Int × Int, ∀ i, i < len → w.cell? (x.add (i * 2)) = some (.int .i64 (f i).1) ∧ w.cell? ((x.add (i * 2)).add 1) = some (.int .i64 (f i).2) ∧ in64 (f i).1 ∧ in64 (f i).2 := by
      refine ⟨fun i => if h : i < len then (Classical.choose (each i h), Classical.choose (Classical.choose_spec (each i h))) else (0, 0), fun i hi => ?_⟩
      have := Classical.choose_spec (Classical.choose_spec (each i hi))
      simp only [dif_pos hi]
      exact this
    refine ⟨(List.range len).map f, some x, cap, by simp, by simpa using hl, hm, ?_⟩
    intro k hk
    have hk2 : k < len := by simpa using hk
    obtain ⟨h1, h2, h3, h4⟩ := hf k hk2
    have e : ((List.range len).map f).getD k (0, 0) = f k := by simp [List.getD, hk2]
    have hs : x.spot = none := by
      have h0 := (hf 0 (by omega)).1
      rw [Nat.zero_mul, show x.add 0 = x by simp [Addr.add]] at h0
      exact World.cell?_spot h0
    obtain ⟨b, off, spot⟩ := x
    have hs' : spot = none := hs
    subst hs'
    rw [Go.WideShapes.add_plain] at h1 h2
    rw [Go.WideShapes.add_plain] at h2
    rw [e]
    exact ⟨b, off, rfl, cell_block h1, by rw [Nat.mul_comm 2 k]; exact h1, by rw [Nat.mul_comm 2 k]; exact h2, h3, h4⟩
end
end Go.Proofs.Ytdepbhikkjfcjaa
