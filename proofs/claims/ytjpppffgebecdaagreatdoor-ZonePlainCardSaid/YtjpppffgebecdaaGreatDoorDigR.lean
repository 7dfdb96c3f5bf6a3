/- The contracts of the reference's digits and Print: what each call returns; nothing that was in memory changes. -/
import Derived.Test.YtjpppffgebecdaaGreatDoorRefC
import Derived.Test.YtjpppffgebecdaaGreatDoorDig
import Derived.Laws.IdiomStrings
import Derived.Laws.Concat
namespace Go.Proofs.YtjpppffgebecdaaGreatDoor
open Go.RowKit

def dgt (k : Nat) : UInt8 := UInt8.ofNat (48 + k % 10)
theorem digit_u8 (k : Nat) : ((dgt k).toNat : Int) = 48 + (k : Int) % 10 := by
  rw [dgt, UInt8.toNat_ofNat']; omega

theorem one_byte (W : World) (k : Nat) : (convert 165 9 (.slice (some ⟨W.heap.size, 0, none⟩) 1 1)).run Tryz.prog (W.alloc (.cells #[.int .u8 (48 + (k : Int) % 10)] 5)) = .ok (.string ⟨[dgt k].toArray⟩) (W.alloc (.cells #[.int .u8 (48 + (k : Int) % 10)] 5)) :=
  run_convert_bytes_back _ _ _ 5 ⟨W.heap.size, 0, none⟩ 1 [dgt k] Tryz.underlying165 Tryz.underlying5 Tryz.underlying9 (fun j hj => by
    obtain rfl : j = 0 := by simpa using hj
    rw [← digit_u8]; simp [Addr.add])

def strN (v : Value) : Nat := match v with | .string s => s.size | _ => 0
theorem strN_mk (x : List UInt8) : strN (.string ⟨x.toArray⟩) = x.length := by simp [strN, ByteArray.size]

theorem pd_next {l n k : Nat} {x : List UInt8} (h : pd l n = pd (l - x.length) k ++ x) (hk : ¬ (k = 0 ∧ l - x.length = 0)) : pd l n = pd (l - (dgt k :: x).length) (k / 10) ++ (dgt k :: x) := by
  rw [h, pd_step hk, List.append_assoc]
  congr 2

/-- The text of a date. -/
def dateL (y m d : Int) : List UInt8 := (if y < 0 then [45] else []) ++ pd 4 y.natAbs ++ [45] ++ pd 2 m.toNat ++ [45] ++ pd 2 d.toNat

theorem add_lists (x y : List UInt8) (hx : x.length ≤ 100) (hy : y.length ≤ 100) (W : World) : (Op.stringOp .add ⟨x.toArray⟩ ⟨y.toArray⟩).run Tryz.prog W = .ok (.string ⟨(x ++ y).toArray⟩) W :=
  run_string_add_lists W x y (by omega) (by omega)

/-- A date lies in block g, and nothing that was in w has changed. -/
structure Boxed (w : World) (g : Nat) (y m d : Int) (w' : World) : Prop where
  bel : Below w.heap.size w w'
  lt : g < w'.heap.size
  c0 : w'.cell? ⟨g, 0, none⟩ = some (.int .i64 y)
  c1 : w'.cell? ⟨g, 1, none⟩ = some (.int .i64 m)
  c2 : w'.cell? ⟨g, 2, none⟩ = some (.int .i64 d)
theorem Boxed.new (w : World) (y m d : Int) (t : TypeId) : Boxed w w.heap.size y m d (w.alloc (.cells #[.int .i64 y, .int .i64 m, .int .i64 d] t)) :=
  ⟨(Below.refl _ _).alloc (Nat.le_refl _) _, by simp, by simp, by simp, by simp⟩
theorem Boxed.next {w w' w2 : World} {g : Nat} {y m d : Int} (h : Boxed w g y m d w') (k : Below w'.heap.size w' w2) : Boxed w g y m d w2 :=
  ⟨h.bel.trans (k.mono h.bel.size), Nat.lt_of_lt_of_le h.lt k.size, by rw [k.cell h.lt]; exact h.c0, by rw [k.cell h.lt]; exact h.c1, by rw [k.cell h.lt]; exact h.c2⟩
theorem Boxed.drew {w w' : World} {g : Nat} {y m d : Int} (h : Boxed w g y m d w') : Boxed w g y m d w'.drew := ⟨h.bel.drew, h.lt, h.c0, h.c1, h.c2⟩

theorem dateL_nat (Y M D : Nat) : dateL Y M D = ([] : List UInt8) ++ pd 4 Y ++ [45] ++ pd 2 M ++ [45] ++ pd 2 D := by
  unfold dateL; rw [if_neg (by omega)]; simp
theorem dateL_neg (Y M D : Nat) (h : 0 < Y) : dateL (-(Y : Int)) M D = [45] ++ pd 4 Y ++ [45] ++ pd 2 M ++ [45] ++ pd 2 D := by
  unfold dateL; rw [if_pos (by omega)]; simp

end Go.Proofs.YtjpppffgebecdaaGreatDoor
