/- Arguments opened: a slice of bytes, a slice of numbers, a call's name and number, a slice of those; what each holds. -/
import Derived.WalkKit
import Derived.ProofKit
import Derived.OpenShut
import Derived.Below
import Derived.Lib.SmallJoins
import Derived.Test.YtbdbkbmgiejdfaaDoorWrA
namespace Go.Proofs.YtbdbkbmgiejdfaaDoor
open Go.ChangeShapes Go.WideShapes Go.ChangeAt Go.RowKit

theorem laidOut : laidOutB Tryd.prog = true := by kernel_rfl
theorem wknob : ownKnob Tryd.prog.godebug = none := by kernel_rfl

def in64 (n : Int) : Prop := -9223372036854775808 ≤ n ∧ n ≤ 9223372036854775807
theorem wf_64 {n : Int} (h : (Lit.int .i64 n).wf = true) : in64 n := by
  simpa [in64, Lit.wf, IntKind.min, IntKind.max, IntKind.bits, IntKind.signed] using h
theorem wf_8 {n : Int} (h : (Lit.int .u8 n).wf = true) : 0 ≤ n ∧ n ≤ 255 := by
  simpa [Lit.wf, IntKind.min, IntKind.max, IntKind.bits, IntKind.signed] using h

/-- The numbers zs, of any sign, lie at the address. -/
def Is (w : World) (a : Option Addr) (zs : List Int) : Prop :=
  ∀ k, k < zs.length → ∃ b off, a = some ⟨b, off, none⟩ ∧ b < w.heap.size ∧ w.cell? ⟨b, off + k, none⟩ = some (.int .i64 (zs.getD k 0)) ∧ in64 (zs.getD k 0)
theorem Is.next {w w' : World} {a : Option Addr} {l : List Int} (h : Is w a l) (hb : Below w.heap.size w w') : Is w' a l := fun k hk => by
  obtain ⟨b, off, e, hlt, hc, hi⟩ := h k hk
  exact ⟨b, off, e, Nat.lt_of_lt_of_le hlt hb.size, by rw [hb.cell (p := ⟨b, off + k, none⟩) hlt]; exact hc, hi⟩
/-- The calls l, each a name and a number, lie at the address. -/
def Ops (w : World) (a : Option Addr) (l : List (Int × Int)) : Prop :=
  ∀ k, k < l.length → ∃ b off, a = some ⟨b, off, none⟩ ∧ b < w.heap.size ∧ w.cell? ⟨b, off + 2 * k, none⟩ = some (.int .i64 (l.getD k (0, 0)).1) ∧ w.cell? ⟨b, off + 2 * k + 1, none⟩ = some (.int .i64 (l.getD k (0, 0)).2) ∧ in64 (l.getD k (0, 0)).1 ∧ in64 (l.getD k (0, 0)).2
theorem Ops.next {w w' : World} {a : Option Addr} {l : List (Int × Int)} (h : Ops w a l) (hb : Below w.heap.size w w') : Ops w' a l := fun k hk => by
  obtain ⟨b, off, e, hlt, hc, hd, hi⟩ := h k hk
  exact ⟨b, off, e, Nat.lt_of_lt_of_le hlt hb.size, by rw [hb.cell (p := ⟨b, off + 2 * k, none⟩) hlt]; exact hc, by rw [hb.cell (p := ⟨b, off + 2 * k + 1, none⟩) hlt]; exact hd, hi⟩

section
variable {H : Type} {enc : TypeId × Value → H} {w : World} {base : Nat} {held : Bool}
theorem cell_block {a : Addr} {v : Value} (h : w.cell? a = some v) : a.block < w.heap.size := by
  rcases Nat.lt_or_ge a.block w.heap.size with hlt | hge
  · exact hlt
  · simp [World.cell?, Array.getElem?_eq_none hge] at h

theorem open_slice_u8 {r : Reach} {b0 : Nat} {v : Value} {d : DataW H} {p : List MemPlace}
    (hv : Value.okWide Tryd.prog w r b0 22 v) (h : DataW.Trod enc Tryd.prog w base (fun _ => true) held 22 v d p) :
    ∃ (l : List UInt8) (a : Option Addr) (cap : Nat), v = .slice a l.length cap ∧ l.length ≤ cap ∧ cap ≤ maxLen ∧ (a = none → cap = 0) ∧ By w a l := by
  obtain ⟨a, len, cap, rfl⟩ := okWide_slice Tryd.underlying22 hv
  obtain ⟨fuel, hf⟩ := h
  rcases open_ints Tryd.underlying22 Tryd.underlying5 (by kernel_rfl) hf with ⟨hcs, _⟩ | ⟨x, l, c, zs, hcs, _, hl, hm, hz, _, hcell, hwz⟩
  · simp [Value.cells] at hcs
    obtain ⟨rfl, rfl, rfl⟩ := hcs
    exact ⟨[], none, 0, rfl, Nat.le_refl _, Nat.zero_le _, fun _ => rfl, By.nil _ _⟩
  · simp [Value.cells] at hcs
    obtain ⟨rfl, rfl, rfl⟩ := hcs
    have hz' : zs.length = cap := by simpa using hz
    have hlen : ((zs.take len).map (fun z => UInt8.ofNat z.toNat)).length = len := by rw [List.length_map, List.length_take]; omega
    refine ⟨(zs.take len).map (fun z => UInt8.ofNat z.toNat), some x, cap, by rw [hlen], by omega, hm, (fun h => by cases h), ?_⟩
    intro k hk
    rw [hlen] at hk
    obtain ⟨b, off, rfl, hc⟩ := ints_at hcell (by omega)
    have hk2 := hc k (by omega)
    refine ⟨b, off, rfl, cell_block hk2, ?_⟩
    rw [hk2]
    have hkz : k < zs.length := by omega
    have hb8 := wf_8 (hwz (zs.getD k 0) (by simp [List.getD, List.getElem?_eq_getElem hkz]))
    have : ((zs.take len).map (fun z => UInt8.ofNat z.toNat)).getD k 0 = UInt8.ofNat (zs.getD k 0).toNat := by
      simp [List.getD, hk, List.getElem?_eq_getElem hkz]
    rw [this, u8_of _ (by omega)]
    congr 2
    omega

theorem open_slice_i64 {r : Reach} {b0 : Nat} {v : Value} {d : DataW H} {p : List MemPlace}
    (hv : Value.okWide Tryd.prog w r b0 39 v) (h : DataW.Trod enc Tryd.prog w base (fun _ => true) held 39 v d p) :
    ∃ (zs : List Int) (a : Option Addr) (cap : Nat), v = .slice a zs.length cap ∧ zs.length ≤ cap ∧ cap ≤ maxLen ∧ Is w a zs := by
  obtain ⟨a, len, cap, rfl⟩ := okWide_slice Tryd.underlying39 hv
  obtain ⟨fuel, hf⟩ := h
  rcases open_ints Tryd.underlying39 Tryd.underlying3 (by kernel_rfl) hf with ⟨hcs, _⟩ | ⟨x, l, c, zs, hcs, _, hl, hm, hz, _, hcell, hwz⟩
  · simp [Value.cells] at hcs
    obtain ⟨rfl, rfl, rfl⟩ := hcs
    exact ⟨[], none, 0, rfl, Nat.le_refl _, Nat.zero_le _, fun k hk => by simp at hk⟩
  · simp [Value.cells] at hcs
    obtain ⟨rfl, rfl, rfl⟩ := hcs
    have hz' : zs.length = cap := by simpa using hz
    have hlen : (zs.take len).length = len := by rw [List.length_take]; omega
    refine ⟨zs.take len, some x, cap, by rw [hlen], by omega, hm, ?_⟩
    intro k hk
    rw [hlen] at hk
    obtain ⟨b, off, rfl, hc⟩ := ints_at hcell (by omega)
    have hk2 := hc k (by omega)
    have hkz : k < zs.length := by omega
    have this : (zs.take len).getD k 0 = zs.getD k 0 := by simp [List.getD, hk]
    refine ⟨b, off, rfl, cell_block hk2, by rw [hk2, this], ?_⟩
    rw [this]
    exact wf_64 (hwz (zs.getD k 0) (by simp [List.getD, List.getElem?_eq_getElem hkz]))

end
end Go.Proofs.YtbdbkbmgiejdfaaDoor
