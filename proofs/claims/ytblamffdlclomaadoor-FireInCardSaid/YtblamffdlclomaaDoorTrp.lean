/- Three numbers in a block that the call itself has made: what is read of them, what is stored; plain facts on memory, no program is named. -/
import Derived.WalkKit
import Derived.Below
import Derived.Lib.Hide
namespace Go.Proofs.YtblamffdlclomaaDoor
open Go Go.RowKit

theorem tset {W : World} {g i : Nat} {cs : Array Value} {t : TypeId} (h : W.heap[g]? = some (.cells cs t (0, 0))) (v : Value) : (W.setCell ⟨g, i, none⟩ v).heap[g]? = some (.cells (cs.setIfInBounds i v) t (0, 0)) := by
  obtain ⟨hlt, hk⟩ := Array.getElem?_eq_some_iff.1 h
  show (W.heap.modify g _)[g]? = _
  rw [Array.getElem?_eq_getElem (by rw [Array.size_modify]; exact hlt), Array.getElem_modify_self, hk]
  simp
/-- Three numbers lie in block g, which is new since w, and nothing that was in w has changed. -/
structure Trp (w : World) (g : Nat) (a b c : Int) (t : TypeId) (W : World) : Prop where
  bel : Below w.heap.size w W
  ge : w.heap.size ≤ g
  blk : W.heap[g]? = some (.cells #[.int .i64 a, .int .i64 b, .int .i64 c] t (0, 0))
theorem Trp.new (w : World) (a b c : Int) (t : TypeId) : Trp w w.heap.size a b c t (w.alloc (.cells #[.int .i64 a, .int .i64 b, .int .i64 c] t)) := ⟨(Below.refl _ _).alloc (Nat.le_refl _) _, Nat.le_refl _, heap_alloc_new w _⟩
theorem Trp.make {w W : World} (h : Below w.heap.size w W) (a b c : Int) (t : TypeId) : Trp w W.heap.size a b c t (W.alloc (.cells #[.int .i64 a, .int .i64 b, .int .i64 c] t)) := ⟨h.alloc h.size _, h.size, heap_alloc_new W _⟩
section
variable {w W W1 : World} {g : Nat} {a b c : Int} {t : TypeId}
theorem Trp.lt (h : Trp w g a b c t W) : g < W.heap.size := (Array.getElem?_eq_some_iff.1 h.blk).1
theorem Trp.next (h : Trp w g a b c t W) (k : Below W.heap.size W W1) : Trp w g a b c t W1 := ⟨h.bel.trans (k.mono h.bel.size), h.ge, (k.block g h.lt).trans h.blk⟩
theorem Trp.more (h : Trp w g a b c t W) (o : Obj) : Trp w g a b c t (W.alloc o) := h.next ((Below.refl _ _).alloc (Nat.le_refl _) _)
theorem Trp.drawn (h : Trp w g a b c t W) : Trp w g a b c t W.drew := h.next (Below.refl _ _).drew
theorem Trp.c0 (h : Trp w g a b c t W) : W.cell? ⟨g, 0, none⟩ = some (.int .i64 a) := cell_of_row W g 0 _ _ (0, 0) h.blk
theorem Trp.c1 (h : Trp w g a b c t W) : W.cell? ⟨g, 1, none⟩ = some (.int .i64 b) := cell_of_row W g 1 _ _ (0, 0) h.blk
theorem Trp.c2 (h : Trp w g a b c t W) : W.cell? ⟨g, 2, none⟩ = some (.int .i64 c) := cell_of_row W g 2 _ _ (0, 0) h.blk
theorem Trp.f0 (h : Trp w g a b c t W) : W.frozen? ⟨g, 0, none⟩ = false := by simp [World.frozen?, h.blk]
theorem Trp.f1 (h : Trp w g a b c t W) : W.frozen? ⟨g, 1, none⟩ = false := by simp [World.frozen?, h.blk]
theorem Trp.f2 (h : Trp w g a b c t W) : W.frozen? ⟨g, 2, none⟩ = false := by simp [World.frozen?, h.blk]
theorem Trp.set0 (h : Trp w g a b c t W) (x : Int) : Trp w g x b c t (W.setCell ⟨g, 0, none⟩ (.int .i64 x)) :=
  ⟨h.bel.setCell (p := ⟨g, 0, none⟩) h.ge _, h.ge, by simpa using tset (i := 0) h.blk (.int .i64 x)⟩
theorem Trp.set1 (h : Trp w g a b c t W) (x : Int) : Trp w g a x c t (W.setCell ⟨g, 1, none⟩ (.int .i64 x)) :=
  ⟨h.bel.setCell (p := ⟨g, 1, none⟩) h.ge _, h.ge, by simpa using tset (i := 1) h.blk (.int .i64 x)⟩
theorem Trp.set2 (h : Trp w g a b c t W) (x : Int) : Trp w g a b x t (W.setCell ⟨g, 2, none⟩ (.int .i64 x)) :=
  ⟨h.bel.setCell (p := ⟨g, 2, none⟩) h.ge _, h.ge, by simpa using tset (i := 2) h.blk (.int .i64 x)⟩
theorem Trp.store (h : Trp w g a b c t W) (x y z : Int) : Trp w g x y z t (((W.setCell ⟨g, 0, none⟩ (.int .i64 x)).setCell ⟨g, 1, none⟩ (.int .i64 y)).setCell ⟨g, 2, none⟩ (.int .i64 z)) := ((h.set0 x).set1 y).set2 z
theorem Trp.ret (h : Trp w g a b c t W) {P : Program} {f : Func} {Q : Ending → World → Prop} {A : Act} (k : ∀ W', Trp w g a b c t W' → bodyPost P f Q Exit.ret A W') : bodyPost P f Q Exit.ret A W := k W h
end
/-- Two numbers lie in block g, which is new since w, and nothing that was in w has changed. -/
structure Duo (w : World) (g : Nat) (a b : Int) (t : TypeId) (W : World) : Prop where
  bel : Below w.heap.size w W
  ge : w.heap.size ≤ g
  blk : W.heap[g]? = some (.cells #[.int .i64 a, .int .i64 b] t (0, 0))
theorem Duo.new (w : World) (a b : Int) (t : TypeId) : Duo w w.heap.size a b t (w.alloc (.cells #[.int .i64 a, .int .i64 b] t)) := ⟨(Below.refl _ _).alloc (Nat.le_refl _) _, Nat.le_refl _, heap_alloc_new w _⟩
section
variable {w W W1 : World} {g : Nat} {a b : Int} {t : TypeId}
theorem Duo.lt (h : Duo w g a b t W) : g < W.heap.size := (Array.getElem?_eq_some_iff.1 h.blk).1
theorem Duo.next (h : Duo w g a b t W) (k : Below W.heap.size W W1) : Duo w g a b t W1 := ⟨h.bel.trans (k.mono h.bel.size), h.ge, (k.block g h.lt).trans h.blk⟩
theorem Duo.more (h : Duo w g a b t W) (o : Obj) : Duo w g a b t (W.alloc o) := h.next ((Below.refl _ _).alloc (Nat.le_refl _) _)
theorem Duo.c0 (h : Duo w g a b t W) : W.cell? ⟨g, 0, none⟩ = some (.int .i64 a) := cell_of_row W g 0 _ _ (0, 0) h.blk
theorem Duo.c1 (h : Duo w g a b t W) : W.cell? ⟨g, 1, none⟩ = some (.int .i64 b) := cell_of_row W g 1 _ _ (0, 0) h.blk
end
end Go.Proofs.YtblamffdlclomaaDoor
