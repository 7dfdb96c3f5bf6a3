/- Plain facts on numbers in eight pieces of 16 bits, the document's answer for package num: what they come to, and that pieces in their bounds are the only ones; no program is named. -/
import Derived.Test.YtpcobmjalohfbaaArr
import Derived.Laws.Rows
import Derived.Laws.Tables
namespace Go.Proofs.Ytpcobmjalohfbaa
open Go.RowKit

def valL (x : Nat → Int) : Int := x 0 + x 1 * 65536 + x 2 * 4294967296 + x 3 * 281474976710656 + x 4 * 18446744073709551616 + x 5 * 1208925819614629174706176 + x 6 * 79228162514264337593543950336 + x 7 * 5192296858534827628530496329220096
def Norm (x : Nat → Int) : Prop := ∀ j, j < 7 → 0 ≤ x j ∧ x j < 65536
def upd (x : Nat → Int) (j : Nat) (v : Int) : Nat → Int := fun i => if i = j then v else x i
theorem upd_same (x : Nat → Int) (j : Nat) (v : Int) : upd x j v j = v := if_pos rfl
theorem upd_other (x : Nat → Int) (j i : Nat) (v : Int) (h : i ≠ j) : upd x j v i = x i := if_neg h

theorem eight (j : Nat) (h : j < 8) : j = 0 ∨ j = 1 ∨ j = 2 ∨ j = 3 ∨ j = 4 ∨ j = 5 ∨ j = 6 ∨ j = 7 := by omega
theorem seven (j : Nat) (h : j < 7) : j = 0 ∨ j = 1 ∨ j = 2 ∨ j = 3 ∨ j = 4 ∨ j = 5 ∨ j = 6 := by omega

theorem norm_parts {x : Nat → Int} (h : Norm x) : (0 ≤ x 0 ∧ x 0 < 65536) ∧ (0 ≤ x 1 ∧ x 1 < 65536) ∧ (0 ≤ x 2 ∧ x 2 < 65536) ∧ (0 ≤ x 3 ∧ x 3 < 65536) ∧ (0 ≤ x 4 ∧ x 4 < 65536) ∧ (0 ≤ x 5 ∧ x 5 < 65536) ∧ (0 ≤ x 6 ∧ x 6 < 65536) :=
  ⟨h 0 (by omega), h 1 (by omega), h 2 (by omega), h 3 (by omega), h 4 (by omega), h 5 (by omega), h 6 (by omega)⟩

/-- One step of the comparison: the lowest pieces are the same, and so is the rest. -/
theorem piece (a b c d : Int) (ha : 0 ≤ a ∧ a < 65536) (hc : 0 ≤ c ∧ c < 65536) (h : a + b * 65536 = c + d * 65536) : a = c ∧ b = d := by omega

theorem norm_unique {x y : Nat → Int} (hx : Norm x) (hy : Norm y) (h : valL x = valL y) : ∀ j, j < 8 → x j = y j := by
  obtain ⟨a0, a1, a2, a3, a4, a5, a6⟩ := norm_parts hx
  obtain ⟨b0, b1, b2, b3, b4, b5, b6⟩ := norm_parts hy
  unfold valL at h
  obtain ⟨e0, h⟩ := piece (x 0) (x 1 + x 2 * 65536 + x 3 * 4294967296 + x 4 * 281474976710656 + x 5 * 18446744073709551616 + x 6 * 1208925819614629174706176 + x 7 * 79228162514264337593543950336) (y 0) (y 1 + y 2 * 65536 + y 3 * 4294967296 + y 4 * 281474976710656 + y 5 * 18446744073709551616 + y 6 * 1208925819614629174706176 + y 7 * 79228162514264337593543950336) a0 b0 (by omega)
  obtain ⟨e1, h⟩ := piece (x 1) (x 2 + x 3 * 65536 + x 4 * 4294967296 + x 5 * 281474976710656 + x 6 * 18446744073709551616 + x 7 * 1208925819614629174706176) (y 1) (y 2 + y 3 * 65536 + y 4 * 4294967296 + y 5 * 281474976710656 + y 6 * 18446744073709551616 + y 7 * 1208925819614629174706176) a1 b1 (by omega)
  obtain ⟨e2, h⟩ := piece (x 2) (x 3 + x 4 * 65536 + x 5 * 4294967296 + x 6 * 281474976710656 + x 7 * 18446744073709551616) (y 2) (y 3 + y 4 * 65536 + y 5 * 4294967296 + y 6 * 281474976710656 + y 7 * 18446744073709551616) a2 b2 (by omega)
  obtain ⟨e3, h⟩ := piece (x 3) (x 4 + x 5 * 65536 + x 6 * 4294967296 + x 7 * 281474976710656) (y 3) (y 4 + y 5 * 65536 + y 6 * 4294967296 + y 7 * 281474976710656) a3 b3 (by omega)
  obtain ⟨e4, h⟩ := piece (x 4) (x 5 + x 6 * 65536 + x 7 * 4294967296) (y 4) (y 5 + y 6 * 65536 + y 7 * 4294967296) a4 b4 (by omega)
  obtain ⟨e5, h⟩ := piece (x 5) (x 6 + x 7 * 65536) (y 5) (y 6 + y 7 * 65536) a5 b5 (by omega)
  obtain ⟨e6, e7⟩ := piece (x 6) (x 7) (y 6) (y 7) a6 b6 h
  intro j hj
  rcases eight j hj with rfl | rfl | rfl | rfl | rfl | rfl | rfl | rfl
  · exact e0
  · exact e1
  · exact e2
  · exact e3
  · exact e4
  · exact e5
  · exact e6
  · exact e7

/-- One round of even: the piece k in its bounds, what is above it carried on. -/
def evenTo (x : Nat → Int) (k : Nat) : Nat → Int := upd (upd x (k + 1) (x (k + 1) + x k / 65536)) k (x k % 65536)
theorem evenTo_val (x : Nat → Int) (k : Nat) (h : k < 7) : valL (evenTo x k) = valL x := by
  rcases seven k h with rfl | rfl | rfl | rfl | rfl | rfl | rfl <;> simp [valL, evenTo, upd] <;> omega

def cellsL (x : Nat → Int) : Array Value := #[.int .i64 (x 0), .int .i64 (x 1), .int .i64 (x 2), .int .i64 (x 3), .int .i64 (x 4), .int .i64 (x 5), .int .i64 (x 6), .int .i64 (x 7)]
theorem cellsL_size (x : Nat → Int) : (cellsL x).size = 8 := rfl
theorem cellsL_all (x : Nat → Int) : (cellsL x).all (·.oneCell') = true := by simp [cellsL, Value.oneCell']
theorem cellsL_at (x : Nat → Int) (j : Nat) (h : j < 8) : (cellsL x)[j]? = some (.int .i64 (x j)) := by
  rcases eight j h with rfl | rfl | rfl | rfl | rfl | rfl | rfl | rfl <;> rfl
theorem cellsL_set (x : Nat → Int) (j : Nat) (v : Int) (h : j < 8) : (cellsL x).setIfInBounds j (.int .i64 v) = cellsL (upd x j v) := by
  rcases eight j h with rfl | rfl | rfl | rfl | rfl | rfl | rfl | rfl <;> rfl
theorem cellsL_congr {x y : Nat → Int} (h : ∀ j, j < 8 → x j = y j) : cellsL x = cellsL y := by
  unfold cellsL
  rw [h 0 (by omega), h 1 (by omega), h 2 (by omega), h 3 (by omega), h 4 (by omega), h 5 (by omega), h 6 (by omega), h 7 (by omega)]

/-- Block g of the world is the eight pieces x. -/
def LongAt (t : TypeId) (w : World) (g : Nat) (x : Nat → Int) : Prop := w.heap[g]? = some (.cells (cellsL x) t (0, 0))
section
variable {t : TypeId} {w w' : World} {g : Nat} {x : Nat → Int}
theorem LongAt.lt (h : LongAt t w g x) : g < w.heap.size := by
  rcases Nat.lt_or_ge g w.heap.size with hlt | hge
  · exact hlt
  · unfold LongAt at h; rw [Array.getElem?_eq_none hge] at h; cases h
theorem LongAt.cell (h : LongAt t w g x) (j : Nat) (hj : j < 8) : w.cell? ⟨g, j, none⟩ = some (.int .i64 (x j)) := by
  rw [cell_of_row w g j _ t (0, 0) h, cellsL_at x j hj]
theorem LongAt.frozen (h : LongAt t w g x) (j : Nat) : w.frozen? ⟨g, j, none⟩ = false := frozen_of_row w g j _ t h
theorem LongAt.new (w : World) (t : TypeId) (x : Nat → Int) : LongAt t (w.alloc (.cells (cellsL x) t)) w.heap.size x := heap_alloc_new w _
theorem LongAt.drew (h : LongAt t w g x) : LongAt t w.drew g x := h
theorem LongAt.alloc (h : LongAt t w g x) (o : Obj) : LongAt t (w.alloc o) g x := (Below.heap_alloc w o g h.lt).trans h
theorem LongAt.set (h : LongAt t w g x) (j : Nat) (v : Int) (hj : j < 8) : LongAt t (w.setCell ⟨g, j, none⟩ (.int .i64 v)) g (upd x j v) := by
  unfold LongAt
  rw [heap_setCell_same w g j _ t _ h, cellsL_set x j v hj]
theorem LongAt.far (h : LongAt t w g x) {p : Addr} (hp : g ≠ p.block) (u : Value) : LongAt t (w.setCell p u) g x := (heap_setCell_other w p g u hp).trans h
theorem LongAt.below {B : Nat} (h : LongAt t w g x) (hb : Below B w w') (hg : g < B) : LongAt t w' g x := (hb.block g hg).trans h
theorem LongAt.congr {y : Nat → Int} (h : LongAt t w g x) (e : ∀ j, j < 8 → x j = y j) : LongAt t w g y := by
  unfold LongAt; rw [← cellsL_congr e]; exact h
end
theorem setRow_long {w : World} {g : Nat} {t : TypeId} {old : Array Value} (h : w.heap[g]? = some (.cells old t (0, 0))) (x : Nat → Int) : LongAt t (w.setRow g (cellsL x)) g x := by
  unfold LongAt; simp [World.setRow, Array.getElem?_modify, h]
theorem setRow_far {w : World} {g k : Nat} (h : k ≠ g) (cs : Array Value) : (w.setRow g cs).heap[k]? = w.heap[k]? := by
  simp [World.setRow, Array.getElem?_modify]; intro e; exact absurd e.symm h
theorem below_setRow {B : Nat} {a w : World} (h : Below B a w) {g : Nat} (hg : B ≤ g) (cs : Array Value) : Below B a (w.setRow g cs) :=
  ⟨h.os, h.tape, h.output, by simpa using h.size, fun i hi => (setRow_far (by omega) cs).trans (h.block i hi)⟩
end Go.Proofs.Ytpcobmjalohfbaa
