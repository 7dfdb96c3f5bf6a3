/- A block of the call's own, whole. -/
import Derived.Test.YtjpppffgebecdaaGreatDoorClkA
namespace Go.Proofs.YtjpppffgebecdaaGreatDoor
open Go Go.RowKit

/-- A block of the call's own, whole. -/
structure BlkN (w : World) (g : Nat) (C : Array Value) (t : TypeId) (W : World) : Prop where
  bel : Below w.heap.size w W
  ge : w.heap.size ≤ g
  blk : W.heap[g]? = some (.cells C t (0, 0))
section
variable {w W W1 : World} {g : Nat} {C : Array Value} {t : TypeId}
theorem BlkN.make (h : Below w.heap.size w W) (C : Array Value) (t : TypeId) : BlkN w W.heap.size C t (W.alloc (.cells C t)) := ⟨h.alloc h.size _, h.size, heap_alloc_new W _⟩
theorem BlkN.lt (h : BlkN w g C t W) : g < W.heap.size := (Array.getElem?_eq_some_iff.1 h.blk).1
theorem BlkN.next (h : BlkN w g C t W) (k : Below W.heap.size W W1) : BlkN w g C t W1 := ⟨h.bel.trans (k.mono h.bel.size), h.ge, (k.block g h.lt).trans h.blk⟩
theorem BlkN.more (h : BlkN w g C t W) (o : Obj) : BlkN w g C t (W.alloc o) := h.next ((Below.refl _ _).alloc (Nat.le_refl _) _)
theorem BlkN.drew (h : BlkN w g C t W) : BlkN w g C t W.drew := ⟨⟨h.bel.os, h.bel.tape, h.bel.output, h.bel.size, h.bel.block⟩, h.ge, h.blk⟩
theorem BlkN.cell (h : BlkN w g C t W) (j : Nat) : W.cell? ⟨g, j, none⟩ = C[j]? := cell_of_row W g j _ _ (0, 0) h.blk
end
theorem bmk {w W : World} (h : Below w.heap.size w W) (o : Obj) : Below w.heap.size w (W.alloc o) := h.alloc h.size o
theorem bthen {w W W' : World} (h : Below w.heap.size w W) (k : Below W.heap.size W W') : Below w.heap.size w W' := h.trans (k.mono h.size)
theorem bdrew {w W : World} (h : Below w.heap.size w W) : Below w.heap.size w W.drew := ⟨h.os, h.tape, h.output, h.size, h.block⟩
theorem cells11 {W : World} {g : Nat} {t : TypeId} {v0 v1 v2 v3 v4 v5 v6 v7 v8 v9 v10 : Value} (h : W.heap[g]? = some (.cells #[v0, v1, v2, v3, v4, v5, v6, v7, v8, v9, v10] t (0, 0))) :
    W.cell? ⟨g, 0, none⟩ = some v0 ∧ W.cell? ⟨g, 1, none⟩ = some v1 ∧ W.cell? ⟨g, 2, none⟩ = some v2 ∧ W.cell? ⟨g, 3, none⟩ = some v3 ∧ W.cell? ⟨g, 4, none⟩ = some v4 ∧ W.cell? ⟨g, 5, none⟩ = some v5 ∧ W.cell? ⟨g, 6, none⟩ = some v6 ∧ W.cell? ⟨g, 7, none⟩ = some v7 ∧ W.cell? ⟨g, 8, none⟩ = some v8 ∧ W.cell? ⟨g, 9, none⟩ = some v9 ∧ W.cell? ⟨g, 10, none⟩ = some v10 :=
  ⟨cell_of_row W g 0 _ _ _ h, cell_of_row W g 1 _ _ _ h, cell_of_row W g 2 _ _ _ h, cell_of_row W g 3 _ _ _ h, cell_of_row W g 4 _ _ _ h, cell_of_row W g 5 _ _ _ h, cell_of_row W g 6 _ _ _ h, cell_of_row W g 7 _ _ _ h, cell_of_row W g 8 _ _ _ h, cell_of_row W g 9 _ _ _ h, cell_of_row W g 10 _ _ _ h⟩

theorem frz {W : World} {g j : Nat} {C : Array Value} {t : TypeId} (h : W.heap[g]? = some (.cells C t (0, 0))) : W.frozen? ⟨g, j, none⟩ = false := by simp [World.frozen?, h]
theorem cel1 {W : World} {g : Nat} {t : TypeId} {v0 : Value} (h : W.heap[g]? = some (.cells #[v0] t (0, 0))) : W.cell? ⟨g, 0, none⟩ = some v0 := cell_of_row W g 0 _ _ _ h
theorem cel2 {W : World} {g : Nat} {t : TypeId} {v0 v1 : Value} (h : W.heap[g]? = some (.cells #[v0, v1] t (0, 0))) : W.cell? ⟨g, 0, none⟩ = some v0 ∧ W.cell? ⟨g, 1, none⟩ = some v1 := ⟨cell_of_row W g 0 _ _ _ h, cell_of_row W g 1 _ _ _ h⟩
theorem cel3 {W : World} {g : Nat} {t : TypeId} {v0 v1 v2 : Value} (h : W.heap[g]? = some (.cells #[v0, v1, v2] t (0, 0))) : W.cell? ⟨g, 0, none⟩ = some v0 ∧ W.cell? ⟨g, 1, none⟩ = some v1 ∧ W.cell? ⟨g, 2, none⟩ = some v2 := ⟨cell_of_row W g 0 _ _ _ h, cell_of_row W g 1 _ _ _ h, cell_of_row W g 2 _ _ _ h⟩
theorem cel4 {W : World} {g : Nat} {t : TypeId} {v0 v1 v2 v3 : Value} (h : W.heap[g]? = some (.cells #[v0, v1, v2, v3] t (0, 0))) : W.cell? ⟨g, 0, none⟩ = some v0 ∧ W.cell? ⟨g, 1, none⟩ = some v1 ∧ W.cell? ⟨g, 2, none⟩ = some v2 ∧ W.cell? ⟨g, 3, none⟩ = some v3 :=
  ⟨cell_of_row W g 0 _ _ _ h, cell_of_row W g 1 _ _ _ h, cell_of_row W g 2 _ _ _ h, cell_of_row W g 3 _ _ _ h⟩
theorem BlkN.set3 {w W : World} {g : Nat} {t : TypeId} {a b c x y z : Value} (h : BlkN w g #[a, b, c] t W) : BlkN w g #[x, y, z] t (((W.setCell ⟨g, 0, none⟩ x).setCell ⟨g, 1, none⟩ y).setCell ⟨g, 2, none⟩ z) :=
  ⟨((h.bel.setCell (p := ⟨g, 0, none⟩) h.ge _).setCell (p := ⟨g, 1, none⟩) h.ge _).setCell (p := ⟨g, 2, none⟩) h.ge _, h.ge, by
    have := blk_set (i := 2) (blk_set (i := 1) (blk_set (i := 0) h.blk x) y) z
    simpa using this⟩
theorem BlkN.set4 {w W : World} {g : Nat} {t : TypeId} {a b c d x y z u : Value} (h : BlkN w g #[a, b, c, d] t W) : BlkN w g #[x, y, z, u] t ((((W.setCell ⟨g, 0, none⟩ x).setCell ⟨g, 1, none⟩ y).setCell ⟨g, 2, none⟩ z).setCell ⟨g, 3, none⟩ u) :=
  ⟨(((h.bel.setCell (p := ⟨g, 0, none⟩) h.ge _).setCell (p := ⟨g, 1, none⟩) h.ge _).setCell (p := ⟨g, 2, none⟩) h.ge _).setCell (p := ⟨g, 3, none⟩) h.ge _, h.ge, by
    have := blk_set (i := 3) (blk_set (i := 2) (blk_set (i := 1) (blk_set (i := 0) h.blk x) y) z) u
    simpa using this⟩
theorem BlkN.ret {w W : World} {g : Nat} {t : TypeId} {C : Array Value} (h : BlkN w g C t W) {P : Program} {f : Func} {Q : Ending → World → Prop} {A : Act} {x : Exit} (k : ∀ W', BlkN w g C t W' → bodyPost P f Q x A W') : bodyPost P f Q x A W := k W h
theorem BlkN.two (w : World) (o : Obj) (C : Array Value) (t : TypeId) : BlkN w (w.heap.size + 1) C t ((w.alloc o).alloc (.cells C t)) := by
  have := BlkN.make ((Below.refl w.heap.size w).alloc (Nat.le_refl _) o) C t
  rwa [World.size_alloc] at this
/-- Two blocks of the call's own, the first one's cells known. -/
theorem BlkN.fst {w : World} (C : Array Value) (t : TypeId) (o : Obj) : BlkN w w.heap.size C t ((w.alloc (.cells C t)).alloc o) := (BlkN.make (Below.refl w.heap.size w) C t).more o
/-- Two blocks of the call's own: what lies in both, behind whatever call. -/
structure TwoB (w : World) (g1 : Nat) (C1 : Array Value) (t1 : TypeId) (g2 : Nat) (C2 : Array Value) (t2 : TypeId) (W : World) : Prop where
  a : BlkN w g1 C1 t1 W
  b : BlkN w g2 C2 t2 W
theorem TwoB.next {w W W1 : World} {g1 g2 : Nat} {C1 C2 : Array Value} {t1 t2 : TypeId} (h : TwoB w g1 C1 t1 g2 C2 t2 W) (k : Below W.heap.size W W1) : TwoB w g1 C1 t1 g2 C2 t2 W1 := ⟨h.a.next k, h.b.next k⟩
theorem TwoB.more {w W : World} {g1 g2 : Nat} {C1 C2 : Array Value} {t1 t2 : TypeId} (h : TwoB w g1 C1 t1 g2 C2 t2 W) (o : Obj) : TwoB w g1 C1 t1 g2 C2 t2 (W.alloc o) := ⟨h.a.more o, h.b.more o⟩
end Go.Proofs.YtjpppffgebecdaaGreatDoor
