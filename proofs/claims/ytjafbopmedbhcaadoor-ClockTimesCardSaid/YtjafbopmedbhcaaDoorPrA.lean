/- A text that is written piece by piece: a variable in block g holds a slice of bytes that the call made itself; what an append of it and a store leave; the contract of strconv.Itoa in these words. -/
import Derived.Test.YtjafbopmedbhcaaDoorDigR
import Derived.Test.YtjafbopmedbhcaaDoorShelf
import Derived.Lib.AppendStr
import Derived.Lib.AppendIntMem
import Derived.Maps.AppendAt
import Derived.Deep.AppendLies
import Derived.Laws.Rows
namespace Go.Proofs.YtjafbopmedbhcaaDoor
open Go.RowKit

def bcl (l : List UInt8) : List Value := l.map fun b => .int .u8 (b.toNat : Int)
theorem bcl_len (l : List UInt8) : (bcl l).length = l.length := by simp [bcl]
theorem bcl_app (l x : List UInt8) : bcl (l ++ x) = bcl l ++ bcl x := by simp [bcl]
theorem bcl_one (l : List UInt8) : ∀ u ∈ bcl l, u.oneCell' = true := by
  intro u hu
  obtain ⟨b, _, rfl⟩ := List.mem_map.1 hu
  rfl

structure TextAt (g : Nat) (A : Option Addr) (c : Nat) (l : List UInt8) (W : World) : Prop where
  blk : W.heap[g]? = some (.cells #[.slice A l.length c] 58 (0, 0))
  own : W.ownsRow (g + 1) 5 1 (.slice A l.length c) l.length (bcl l)
def TextIs (g : Nat) (l : List UInt8) (W : World) : Prop := ∃ A c, TextAt g A c l W

section
variable {g c : Nat} {A : Option Addr} {l x : List UInt8} {W W1 w' : World} {v' : Value}

theorem TextAt.lt (h : TextAt g A c l W) : g < W.heap.size := by
  rcases Nat.lt_or_ge g W.heap.size with hlt | hge
  · exact hlt
  · have := h.blk; rw [Array.getElem?_eq_none hge] at this; cases this
theorem TextAt.cell (h : TextAt g A c l W) : W.cell? ⟨g, 0, none⟩ = some (.slice A l.length c) := cell_of_row W g 0 _ _ (0, 0) h.blk
theorem TextAt.frozen (h : TextAt g A c l W) : W.frozen? ⟨g, 0, none⟩ = false := by simp [World.frozen?, h.blk]
theorem TextAt.apart (h : TextAt g A c l W) : ∀ k, (Value.slice A l.length c).ownBlock = some k → g + 1 ≤ k := fun k hk => (h.own.lt k hk).1

theorem grownBy_of_below (h : Below W.heap.size W W1) (row : Option Nat) : W.grownBy W1 row := ⟨h.os, h.tape, h.output, h.size, fun i hi _ => h.block i hi⟩
theorem own_keep (h : W.ownsRow (g + 1) 5 1 v' l.length (bcl l)) (k : Below W.heap.size W W1) : W1.ownsRow (g + 1) 5 1 v' l.length (bcl l) :=
  h.kept (grownBy_of_below k none) (by cases v'.ownBlock <;> simp)
theorem TextAt.next (h : TextAt g A c l W) (k : Below W.heap.size W W1) : TextAt g A c l W1 :=
  ⟨(k.block g h.lt).trans h.blk, own_keep h.own k⟩
theorem TextIs.next (h : TextIs g l W) (k : Below W.heap.size W W1) : TextIs g l W1 := by
  obtain ⟨A, c, h⟩ := h; exact ⟨A, c, h.next k⟩
theorem TextIs.drew (h : TextIs g l W) : TextIs g l W.drew := h.next (Below.refl _ _).drew
theorem TextAt.new (W : World) : TextAt W.heap.size none 0 [] (W.alloc (.cells #[.slice none 0 0] 58)) :=
  ⟨heap_alloc_new W _, World.ownsRow_nil _ _ _ _⟩
theorem TextIs.new (W : World) : TextIs W.heap.size [] (W.alloc (.cells #[.slice none 0 0] 58)) := ⟨none, 0, TextAt.new W⟩

theorem own_form {base n : Nat} {e : TypeId} {xs : List Value} (h : W.ownsRow base e 1 v' n xs) : ∃ A c, v' = .slice A n c := by
  rcases h.2 with ⟨rfl, rfl⟩ | ⟨g, cap, cur, rfl, _⟩
  · exact ⟨none, 0, rfl⟩
  · exact ⟨some ⟨g, 0, none⟩, cap, rfl⟩

theorem grown_setCell (u : Value) : w'.grownBy (w'.setCell ⟨g, 0, none⟩ u) (some g) :=
  ⟨rfl, rfl, rfl, by simp [World.setCell], fun i _ hne => Below.heap_setCell w' ⟨g, 0, none⟩ u i (by rintro rfl; exact hne rfl)⟩

/-- What an append behind the variable's value, and the store of what it gives, leave. -/
theorem TextAt.push (h : TextAt g A c l W) (hown : w'.ownsRow (g + 1) 5 1 v' (l ++ x).length (bcl (l ++ x))) (hg : W.grownBy w' (Value.slice A l.length c).ownBlock) :
    TextIs g (l ++ x) (w'.setCell ⟨g, 0, none⟩ v') ∧ Below g W (w'.setCell ⟨g, 0, none⟩ v') ∧ w'.cell? ⟨g, 0, none⟩ = some (.slice A l.length c) ∧ w'.frozen? ⟨g, 0, none⟩ = false := by
  have hb : w'.heap[g]? = some (.cells #[.slice A l.length c] 58 (0, 0)) := (hg.block g h.lt (fun e => by have := h.apart g e.symm; omega)).trans h.blk
  obtain ⟨A', c', rfl⟩ := own_form hown
  refine ⟨⟨A', c', ?_, ?_⟩, ?_, cell_of_row w' g 0 _ _ (0, 0) hb, by simp [World.frozen?, hb]⟩
  · simp [World.setCell, Array.getElem?_modify, hb]
  · refine hown.kept (grown_setCell _) ?_
    cases e : (Value.slice A' (l ++ x).length c').ownBlock with
    | none => exact .inl rfl
    | some k => right; rintro h2; obtain rfl : k = g := by injection h2
                have := (hown.lt k e).1; omega
  · exact ((Below.refl g W).grown hg (by have := h.lt; omega) (fun k hk => by have := h.apart k hk; omega)).setCell (Nat.le_refl _) _
end

abbrev PowAt (w : World) : Prop := Lib.TabIs Tryd.prog w "internal/strconv.uint64pow10" .u64 Lib.pow10Tab
theorem PowAt.next {w w' : World} (h : PowAt w) (k : Below w.heap.size w w') : PowAt w' := Lib.tabBelow_of_tabIs h w' k

theorem itoa_any (n : Nat) (w : World) (h : n < 10000000) (ht : PowAt w) :
    Calls Tryd.prog 33 #[.int .i64 n] w fun e w' => e = .returned (.string ⟨(Lib.decDigits n).toArray⟩) ∧ Below w.heap.size w w' := by
  have := Tryd.strconv_Itoa n (by omega) (by omega) w ht
  rw [itoa_nat] at this
  refine this.mono fun e w' hh => ⟨hh.1, ?_⟩
  obtain ⟨k, os, rfl⟩ := hh.2
  exact Lib.below_grow _ w (Nat.le_refl _) k os
end Go.Proofs.YtjafbopmedbhcaaDoor
