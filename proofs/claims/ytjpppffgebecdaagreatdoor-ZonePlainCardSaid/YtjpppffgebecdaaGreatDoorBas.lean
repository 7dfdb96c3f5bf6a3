/- Small facts on texts and lists of words in memory, at this program. -/
import Derived.Test.YtjpppffgebecdaaGreatDoorChecked
import Derived.Test.YtjpppffgebecdaaGreatDoorWrd
import Derived.WalkKit
import Derived.IntWalk
import Derived.LoopTactic
import Derived.Below
import Derived.Deep.RegionHeld3
import Derived.Deep.QuietTactic
import Derived.BigQuiet
import Derived.Laws.IdiomStrings
import Derived.Laws.Concat
import Derived.Laws.DeepStrings4
import Derived.Laws.Strings3
import Derived.Laws.Cover4
namespace Go.Proofs.YtjpppffgebecdaaGreatDoor
open Go.RowKit

theorem wcell_lt {w : World} {b o : Nat} {v : Value} (h : w.cell? ⟨b, o, none⟩ = some v) : b < w.heap.size := by
  rcases Nat.lt_or_ge b w.heap.size with h1 | h1
  · exact h1
  · have e : w.heap[b]? = none := by simp [h1]
    simp [World.cell?, e] at h

/-- A list of words lies in block L. -/
structure ListAt (L : Nat) (ws : List (List UInt8)) (w : World) : Prop where
  lt : L < w.heap.size
  cell : ∀ i p, ws[i]? = some p → w.cell? ⟨L, i, none⟩ = some (.string ⟨p.toArray⟩)
theorem ListAt.below {L B : Nat} {ws : List (List UInt8)} {w w' : World} (h : ListAt L ws w) (k : Below B w w') (hB : L < B) : ListAt L ws w' :=
  ⟨Nat.lt_of_lt_of_le h.lt k.size, fun i p hp => by rw [k.cell (p := ⟨_, _, none⟩) hB]; exact h.cell i p hp⟩
theorem ListAt.next {L : Nat} {ws : List (List UInt8)} {w w' : World} (h : ListAt L ws w) (k : Below w.heap.size w w') : ListAt L ws w' := h.below k h.lt
/-- A list of words that has just been laid. -/
theorem ListAt.new (w : World) (ws : List (List UInt8)) (t : TypeId) (cs : Array Value) (hc : cs = (ws.map fun p => Value.string ⟨p.toArray⟩).toArray) : ListAt w.heap.size ws (w.alloc (.cells cs t)) :=
  ⟨by simp, fun i p hp => by subst hc; simp [hp]⟩

theorem wbyte_at (p : List UInt8) (i : Nat) (h : i < p.length) (c : UInt8) (hc : p.getD i 0 = c) (w : World) : (Instr.index 9 (.string ⟨p.toArray⟩) (.int .i64 (i : Int))).run Tryz.prog w = .ok (.int .u8 (c.toNat : Int)) w := by
  rw [← hc]
  have hs : (⟨p.toArray⟩ : ByteArray).size = p.length := by simp [ByteArray.size]
  rw [run_index_string w _ _ _ _ Tryz.underlying9, dif_pos ⟨by omega, by omega⟩]
  have : (⟨p.toArray⟩ : ByteArray)[(i : Int).toNat]'(by rw [hs]; simpa using h) = p.getD i 0 := by
    simp [ByteArray.getElem_eq_getElem_data, h]
  rw [this]
theorem wone_byte (W : World) (c : UInt8) : (convert 165 9 (.slice (some ⟨W.heap.size, 0, none⟩) 1 1)).run Tryz.prog (W.alloc (.cells #[.int .u8 (c.toNat : Int)] 5)) = .ok (.string ⟨[c].toArray⟩) (W.alloc (.cells #[.int .u8 (c.toNat : Int)] 5)) :=
  run_convert_bytes_back _ _ _ 5 ⟨W.heap.size, 0, none⟩ 1 [c] Tryz.underlying165 Tryz.underlying5 Tryz.underlying9 (fun j hj => by
    obtain rfl : j = 0 := by simpa using hj
    simp [Addr.add])
theorem wadd_lists (x y : List UInt8) (hx : x.length ≤ 1000) (hy : y.length ≤ 1000) (W : World) : (Op.stringOp .add ⟨x.toArray⟩ ⟨y.toArray⟩).run Tryz.prog W = .ok (.string ⟨(x ++ y).toArray⟩) W :=
  run_string_add_lists W x y (by omega) (by omega)
theorem wsub_run (s : List UInt8) (i : Nat) (p : List UInt8) (hp : s.take i = p) (h2 : i ≤ s.length) (W : World) :
    (Instr.slice 9 (.string ⟨s.toArray⟩) none (some (.int .i64 (i : Int))) none).run Tryz.prog W = .ok (.string ⟨p.toArray⟩) W := by
  have hs : (⟨s.toArray⟩ : ByteArray).size = s.length := by simp [ByteArray.size]
  rw [run_slice_string_h (ht := Tryz.underlying9) (h0 := by omega) (h2 := by rw [hs]; omega)]
  subst hp
  congr 2
  simp [ByteArray.extract_mk]
theorem wsize (s : List UInt8) : (⟨s.toArray⟩ : ByteArray).size = s.length := by simp [ByteArray.size]
end Go.Proofs.YtjpppffgebecdaaGreatDoor
