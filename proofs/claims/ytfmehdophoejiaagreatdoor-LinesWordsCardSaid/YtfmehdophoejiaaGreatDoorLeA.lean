/- What the walks of the reference's Era share: three blocks of the call's own, stores into one of them. Written by wip/tools/genlre.py. -/
import Derived.Test.YtfmehdophoejiaaGreatDoorLrQ
namespace Go.Proofs.YtfmehdophoejiaaGreatDoor
open Go Go.RowKit

theorem three_blk (w : World) (C D E : Array Value) (t u x : TypeId) : BlkN w w.heap.size C t (((w.alloc (.cells C t)).alloc (.cells D u)).alloc (.cells E x)) ∧ BlkN w (w.heap.size + 1) D u (((w.alloc (.cells C t)).alloc (.cells D u)).alloc (.cells E x)) ∧ BlkN w (w.heap.size + 1 + 1) E x (((w.alloc (.cells C t)).alloc (.cells D u)).alloc (.cells E x)) := by
  have h := two_blk w C D t u
  refine ⟨h.1.more _, h.2.more _, ?_⟩
  have := BlkN.make h.1.bel E x
  rwa [World.size_alloc, World.size_alloc] at this
theorem BlkN.other {w W : World} {g b o : Nat} {C : Array Value} {t : TypeId} {v : Value} (h : BlkN w g C t W) (hg : g ≠ b) (hb : w.heap.size ≤ b) : BlkN w g C t (W.setCell ⟨b, o, none⟩ v) :=
  ⟨h.bel.setCell (p := ⟨b, o, none⟩) hb v, h.ge, ((grown_set (g := b) (o := o) (v := v) (grown_any (Below.refl _ W) _)).block g h.lt (by intro e; injection e with e; exact hg e)).trans h.blk⟩
theorem BlkN.put {w W : World} {g o : Nat} {C : Array Value} {t : TypeId} {v : Value} (h : BlkN w g C t W) : BlkN w g (C.setIfInBounds o v) t (W.setCell ⟨g, o, none⟩ v) :=
  ⟨h.bel.setCell (p := ⟨g, o, none⟩) h.ge v, h.ge, blk_set h.blk v⟩
theorem BlkN.cast {w W : World} {g : Nat} {C D : Array Value} {t : TypeId} (h : BlkN w g C t W) (e : C = D) : BlkN w g D t W := e ▸ h
/-- A word lies here, whatever comes behind. -/
def CellAt (w : World) (a : Addr) (p : List UInt8) : Prop := Hid (∀ W, Below w.heap.size w W → W.cell? a = some (.string ⟨p.toArray⟩))
theorem CellAt.out {w W : World} {a : Addr} {p : List UInt8} (h : CellAt w a p) (k : Below w.heap.size w W) : W.cell? a = some (.string ⟨p.toArray⟩) := Hid.out h W k
theorem bset {w W : World} {b o : Nat} {v : Value} (h : Below w.heap.size w W) (hb : w.heap.size ≤ b) : Below w.heap.size w (W.setCell ⟨b, o, none⟩ v) := h.setCell (p := ⟨b, o, none⟩) hb v
theorem cells12 {W : World} {g : Nat} {t : TypeId} {v0 v1 v2 v3 v4 v5 v6 v7 v8 v9 v10 v11 : Value} (h : W.heap[g]? = some (.cells #[v0, v1, v2, v3, v4, v5, v6, v7, v8, v9, v10, v11] t (0, 0))) :
    W.cell? ⟨g, 0, none⟩ = some v0 ∧ W.cell? ⟨g, 1, none⟩ = some v1 ∧ W.cell? ⟨g, 2, none⟩ = some v2 ∧ W.cell? ⟨g, 3, none⟩ = some v3 ∧ W.cell? ⟨g, 4, none⟩ = some v4 ∧ W.cell? ⟨g, 5, none⟩ = some v5 ∧ W.cell? ⟨g, 6, none⟩ = some v6 ∧ W.cell? ⟨g, 7, none⟩ = some v7 ∧ W.cell? ⟨g, 8, none⟩ = some v8 ∧ W.cell? ⟨g, 9, none⟩ = some v9 ∧ W.cell? ⟨g, 10, none⟩ = some v10 ∧ W.cell? ⟨g, 11, none⟩ = some v11 :=
  ⟨cell_of_row W g 0 _ _ _ h, cell_of_row W g 1 _ _ _ h, cell_of_row W g 2 _ _ _ h, cell_of_row W g 3 _ _ _ h, cell_of_row W g 4 _ _ _ h, cell_of_row W g 5 _ _ _ h, cell_of_row W g 6 _ _ _ h, cell_of_row W g 7 _ _ _ h, cell_of_row W g 8 _ _ _ h, cell_of_row W g 9 _ _ _ h, cell_of_row W g 10 _ _ _ h, cell_of_row W g 11 _ _ _ h⟩
theorem no_frost {W : World} {g : Nat} {C : Array Value} {t : TypeId} (h : W.heap[g]? = some (.cells C t (0, 0))) (o : Nat) : W.frozen? ⟨g, o, none⟩ = false := row_frozen h
theorem er_fail {ws : List (List UInt8)} {k : Nat} {x : Int} (hn : 3 ≤ ws.length ∧ ws.length ≤ 7) (hk : (erA ws)[k]? = some x) (hkn : k < ws.length) (hx : x ≠ 0) (hp : ∀ e ∈ (erA ws).take k, e = 0) : erX ws = x ∧ erS ws = e0V := by
  have e : erX ws = x := by
    unfold erX; rw [if_pos hn]
    refine first_at _ k x ?_ hx ?_
    · show ((erA ws).take ws.length)[k]? = some x
      rw [List.getElem?_take_of_lt hkn]; exact hk
    · show ∀ e ∈ ((erA ws).take ws.length).take k, e = 0
      rw [List.take_take, Nat.min_eq_left (by omega)]; exact hp
  refine ⟨e, ?_⟩
  unfold erS
  rw [e, if_neg hx]
end Go.Proofs.YtfmehdophoejiaaGreatDoor
