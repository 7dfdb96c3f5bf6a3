/- What a slice of bytes holds, seen from wherever it lies; the contract of the law's own Bytes: whether two lists of bytes are the same; nothing that was in memory changes. -/
import Derived.WalkKit
import Derived.ProofKit
import Derived.Below
import Derived.LoopTactic
import Derived.LoopN
import Derived.Deep.LoopGhost
import Derived.Laws.AppendOwn
import Derived.Laws.AppendOwnNone
import Derived.Lib.Hide
import Derived.KernelRfl
import Derived.Test.YtjpppffgebecdaaGreatDoorProg
import Derived.Test.YtjpppffgebecdaaGreatDoorWir
namespace Go.Proofs.YtjpppffgebecdaaGreatDoor
open Go.RowKit
attribute [local go_sem] Oper.semAt_some

theorem wu8_info : (Tryz.prog.info? 5).map (fun i => (i.zero, i.size, i.bytes)) = some (some (.int .u8 0), 1, 1) := by kernel_rfl
theorem wint_info : (Tryz.prog.info? 3).map (fun i => (i.zero, i.size, i.bytes)) = some (some (.int .i64 0), 1, 8) := by kernel_rfl

def ubl (l : List UInt8) : List Value := l.map fun b => .int .u8 (b.toNat : Int)
theorem ubl_len (l : List UInt8) : (ubl l).length = l.length := by simp [ubl]
theorem ubl_app (l x : List UInt8) : ubl (l ++ x) = ubl l ++ ubl x := by simp [ubl]
theorem ubl_one (l : List UInt8) : ∀ u ∈ ubl l, u.oneCell' = true := by
  intro u hu
  obtain ⟨b, _, rfl⟩ := List.mem_map.1 hu
  rfl

/-- The bytes l lie at the address: a slice's elements. -/
def By (w : World) (a : Option Addr) (l : List UInt8) : Prop :=
  ∀ k, k < l.length → ∃ b off, a = some ⟨b, off, none⟩ ∧ b < w.heap.size ∧ w.cell? ⟨b, off + k, none⟩ = some (.int .u8 ((l.getD k 0).toNat : Int))
theorem By.nil (w : World) (a : Option Addr) : By w a [] := fun k hk => by simp at hk
theorem By.next {w w' : World} {a : Option Addr} {l : List UInt8} (h : By w a l) (hb : Below w.heap.size w w') : By w' a l := fun k hk => by
  obtain ⟨b, off, e, hlt, hc⟩ := h k hk
  exact ⟨b, off, e, Nat.lt_of_lt_of_le hlt hb.size, by rw [hb.cell (p := ⟨b, off + k, none⟩) hlt]; exact hc⟩
theorem By.below {w w' : World} {B : Nat} {a : Option Addr} {l : List UInt8} (h : By w a l) (hb : Below B w w') (hB : w.heap.size ≤ B) : By w' a l := h.next (hb.mono hB)
theorem By.of_own {w : World} {g : Nat} {A : Option Addr} {n c : Nat} {l : List UInt8} (h : w.ownsRow g 5 1 (.slice A n c) n (ubl l)) : By w A l := fun k hk => by
  have hn : n = l.length := by have := h.1; rw [ubl_len] at this; omega
  rcases h.2 with ⟨_, h0⟩ | ⟨g', cap, cur, hv, hb, hg, h1, h2, h3, h4⟩
  · omega
  · injection hv with e1 e2 e3
    refine ⟨g', 0, e1, (Array.getElem?_eq_some_iff.1 hg).1, ?_⟩
    have hc : cur[0 + k]? = some (.int .u8 ((l.getD k 0).toNat : Int)) := by
      have e5 : (cur.toList.take (n * 1))[k]? = (ubl l)[k]? := by rw [h4]
      rw [List.getElem?_take_of_lt (by omega)] at e5
      rw [Nat.zero_add, ← Array.getElem?_toList, e5, ubl, List.getElem?_map, List.getElem?_eq_getElem hk]
      simp [List.getD, List.getElem?_eq_getElem hk]
    rw [cell_of_row w g' (0 + k) _ _ (0, 0) hg, hc]
/-- A slice made of a literal. -/
theorem By.new (w : World) (l : List UInt8) (cs : Array Value) (hc : cs = (ubl l).toArray) : By (w.alloc (.cells cs 5)) (some ⟨w.heap.size, 0, none⟩) l := fun k hk => by
  refine ⟨_, 0, rfl, by simp, ?_⟩
  subst hc
  rw [cell_of_row _ w.heap.size (0 + k) _ 5 (0, 0) (heap_alloc_new w _)]
  simp [ubl, List.getD, List.getElem?_eq_getElem hk]

/-- The address of a slice's part that begins at k. -/
def sh (a : Option Addr) (c k : Nat) : Option Addr := if c = k then a else a.map (·.add (k * 1))
theorem By.drop {w : World} {a : Option Addr} {l : List UInt8} {c k : Nat} (h : By w a l) (hc : l.length ≤ c) : By w (sh a c k) (l.drop k) := fun j hj => by
  rw [List.length_drop] at hj
  obtain ⟨b, off, e, hlt, hh⟩ := h (k + j) (by omega)
  refine ⟨b, off + k, ?_, hlt, ?_⟩
  · unfold sh
    rw [if_neg (by omega), e]
    simp [Go.WideShapes.add_plain]
  · rw [show off + k + j = off + (k + j) by omega, hh]
    simp [List.getD]
theorem By.take {w : World} {a : Option Addr} {l : List UInt8} (h : By w a l) (k : Nat) : By w a (l.take k) := fun j hj => by
  rw [List.length_take] at hj
  obtain ⟨b, off, e, hlt, hh⟩ := h j (by omega)
  refine ⟨b, off, e, hlt, ?_⟩
  rw [hh]
  simp [List.getD, show j < k by omega]
theorem bdrop_run (a : Option Addr) (n c k : Nat) (h : k ≤ n) (W : World) : (Instr.slice 165 (.slice a n c) (some (.int .i64 (k : Int))) none none).run Tryz.prog W = .ok (.slice (sh a c k) (n - k) (c - k)) W := by
  have e : Tryz.prog.elem 165 = 5 := by kernel_rfl
  have hs : (sizeOf 5).run Tryz.prog W = .ok 1 W := by kernel_rfl
  rw [run_slice_l W 165 a n c (by rw [e]; exact Tryz.underlying165) .i64 k (by omega) (by omega), e, hs]
  simp [Result.andThen, sliced, sh]

theorem bys_ne {l m : List UInt8} {k : Nat} (h : (l.getD k 0).toNat ≠ (m.getD k 0).toNat) : l ≠ m := by rintro rfl; exact h rfl
theorem bys_eq {l m : List UInt8} (hl : l.length = m.length) (h : ∀ k, k < l.length → (l.getD k 0).toNat = (m.getD k 0).toNat) : l = m := by
  apply List.ext_getElem hl
  intro i h1 h2
  have := h i h1
  simp [List.getD, List.getElem?_eq_getElem h1, List.getElem?_eq_getElem h2] at this
  exact UInt8.toNat_inj.1 this

end Go.Proofs.YtjpppffgebecdaaGreatDoor
