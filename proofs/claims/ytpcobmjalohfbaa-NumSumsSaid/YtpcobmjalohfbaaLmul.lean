/- The contracts of the reference's signed and Mul: pieces in their bounds which come to the product of any two numbers of 64 bits; what was in memory stays as it was. -/
import Derived.Test.YtpcobmjalohfbaaLadd
namespace Go.Proofs.Ytpcobmjalohfbaa
open Go.RowKit

theorem sign_parts {y : Nat → Int} {n : Int} (hn : Norm y) (hv : valL y = n) (h1 : -9223372036854775808 ≤ n) (h2 : n ≤ 9223372036854775807) :
    (y 7 < 0 → 0 ≤ y 3 ∧ 32768 ≤ y 3 ∧ y 3 ≤ 65535 ∧ y 0 + y 1 * 65536 + y 2 * 4294967296 + (y 3 - 65536) * 281474976710656 = n) ∧ (¬ y 7 < 0 → 0 ≤ y 3 ∧ y 3 ≤ 32767 ∧ y 0 + y 1 * 65536 + y 2 * 4294967296 + y 3 * 281474976710656 = n) := by
  obtain ⟨a0, a1, a2, a3, a4, a5, a6⟩ := norm_parts hn
  unfold valL at hv
  omega

def cells4 (a : Nat → Int) : Array Value := #[.int .i64 (a 0), .int .i64 (a 1), .int .i64 (a 2), .int .i64 (a 3)]
abbrev FT : TypeId := 54
def FourAt (w : World) (g : Nat) (a : Nat → Int) : Prop := w.heap[g]? = some (.cells (cells4 a) FT (0, 0))
theorem FourAt.lt {w : World} {g : Nat} {a : Nat → Int} (h : FourAt w g a) : g < w.heap.size := by
  rcases Nat.lt_or_ge g w.heap.size with hlt | hge
  · exact hlt
  · unfold FourAt at h; rw [Array.getElem?_eq_none hge] at h; cases h
theorem FourAt.cell {w : World} {g : Nat} {a : Nat → Int} (h : FourAt w g a) (j : Nat) (hj : j < 4) : w.cell? ⟨g, j, none⟩ = some (.int .i64 (a j)) := by
  rw [cell_of_row w g j _ FT (0, 0) h]
  rcases four j hj with rfl | rfl | rfl | rfl <;> rfl
theorem FourAt.far {w : World} {g : Nat} {a : Nat → Int} (h : FourAt w g a) {p : Addr} (hp : g ≠ p.block) (u : Value) : FourAt (w.setCell p u) g a := (heap_setCell_other w p g u hp).trans h
theorem FourAt.alloc {w : World} {g : Nat} {a : Nat → Int} (h : FourAt w g a) (o : Obj) : FourAt (w.alloc o) g a := (Below.heap_alloc w o g h.lt).trans h
theorem FourAt.below {w w' : World} {g : Nat} {a : Nat → Int} {B : Nat} (h : FourAt w g a) (hb : Below B w w') (hg : g < B) : FourAt w' g a := (hb.block g hg).trans h

/-- The four pieces of a number, the last one of which has its sign. -/
def Signed (a : Nat → Int) (n : Int) : Prop := (∀ j, j < 4 → -65536 ≤ a j ∧ a j ≤ 65536) ∧ a 0 + a 1 * 65536 + a 2 * 4294967296 + a 3 * 281474976710656 = n

def pick4 (a b c d : Int) : Nat → Int
  | 0 => a
  | 1 => b
  | 2 => c
  | _ => d

set_option maxHeartbeats 400000 in
theorem lsigned_any (n : Int) (w : World) (h1 : -9223372036854775808 ≤ n) (h2 : n ≤ 9223372036854775807) :
    Calls Try.prog 31 #[.int .i64 n] w fun e w' => (∃ a, e = .returned (.agg (cells4 a)) ∧ Signed a n) ∧ Below w.heap.size w w' := by
  go_enter Try.func31, Try.ntmps31
  go_wp2_with fail
  refine (of_any n _ h1 h2).mono ?_
  rintro e w1 ⟨⟨y, rfl, hy1, hy2⟩, hb⟩
  have hp := sign_parts hy1 hy2 h1 h2
  obtain ⟨n0, n1, n2, n3, _⟩ := norm_parts hy1
  have HP := Lib.hid hp
  clear hy1 hy2 hp h1 h2
  have hz : w.heap.size < w1.heap.size := by have := hb.size; simp at this; omega
  have hB : Below w.heap.size w w1 := below_after ((Below.refl _ _).alloc (Nat.le_refl _) _) hb (by simp)
  obtain ⟨hc, hf⟩ := bcell hb
  unfold cellsL
  generalize y 0 = y0 at *
  generalize y 1 = y1 at *
  generalize y 2 = y2 at *
  generalize y 3 = y3 at *
  generalize y 7 = y7 at *
  by_cases h : y7 < 0
  · go_wp2
    refine bodyPost_ret (v := .agg (cells4 (pick4 y0 y1 y2 (y3 - 65536)))) (by simp [results, Try.results31, go_sem, hc, cells4, pick4, hz]) rfl ⟨⟨_, rfl, ?_⟩, ?_⟩
    · have := HP.out.1 h
      refine ⟨fun j hj => ?_, by simp only [pick4]; omega⟩
      rcases four j hj with rfl | rfl | rfl | rfl <;> simp only [pick4] <;> omega
    · exact (((((hB.setCell (Nat.le_refl _) _).setCell (Nat.le_refl _) _).setCell (Nat.le_refl _) _).setCell (Nat.le_refl _) _).alloc (by simp; omega) _).alloc (by simp; omega) _
  · go_wp2
    refine bodyPost_ret (v := .agg (cells4 (pick4 y0 y1 y2 y3))) (by simp [results, Try.results31, go_sem, hc, cells4, pick4, hz]) rfl ⟨⟨_, rfl, ?_⟩, ?_⟩
    · have := HP.out.2 (by omega)
      refine ⟨fun j hj => ?_, by simp only [pick4]; omega⟩
      rcases four j hj with rfl | rfl | rfl | rfl <;> simp only [pick4] <;> omega
    · exact (((((hB.setCell (Nat.le_refl _) _).setCell (Nat.le_refl _) _).setCell (Nat.le_refl _) _).setCell (Nat.le_refl _) _).alloc (by simp; omega) _).alloc (by simp; omega) _
end Go.Proofs.Ytpcobmjalohfbaa
