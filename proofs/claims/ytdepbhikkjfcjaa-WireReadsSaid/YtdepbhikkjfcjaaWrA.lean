/- What a slice of bytes holds, seen from wherever it lies; the contract of the law's own Bytes: whether two lists of bytes are the same; nothing that was in memory changes. -/
import Derived.WalkKit
import Derived.ProofKit
import Derived.Below
import Derived.LoopTactic
import Derived.LoopN
import Derived.Deep.LoopGhost
import Derived.Laws.AppendOwn
import Derived.Laws.AppendOwnNone
import Derived.Lib.Hide
import Derived.KernelRfl
import Derived.Test.YtdepbhikkjfcjaaProg
import Derived.Test.YtdepbhikkjfcjaaWir
namespace Go.Proofs.Ytdepbhikkjfcjaa
open Go.RowKit
attribute [local go_sem] Oper.semAt_some

theorem uint8_info : (Try.prog.info? 5).map (fun i => (i.zero, i.size, i.bytes)) = some (some (.int .u8 0), 1, 1) := by kernel_rfl
theorem int_info : (Try.prog.info? 3).map (fun i => (i.zero, i.size, i.bytes)) = some (some (.int .i64 0), 1, 8) := by kernel_rfl

def bcl (l : List UInt8) : List Value := l.map fun b => .int .u8 (b.toNat : Int)
theorem bcl_len (l : List UInt8) : (bcl l).length = l.length := by simp [bcl]
theorem bcl_app (l x : List UInt8) : bcl (l ++ x) = bcl l ++ bcl x := by simp [bcl]
theorem bcl_one (l : List UInt8) : ∀ u ∈ bcl l, u.oneCell' = true := by
  intro u hu
  obtain ⟨b, _, rfl⟩ := List.mem_map.1 hu
  rfl

/-- The bytes l lie at the address: a slice's elements. -/
def By (w : World) (a : Option Addr) (l : List UInt8) : Prop :=
  ∀ k, k < l.length → ∃ b off, a = some ⟨b, off, none⟩ ∧ b < w.heap.size ∧ w.cell? ⟨b, off + k, none⟩ = some (.int .u8 ((l.getD k 0).toNat : Int))
theorem By.nil (w : World) (a : Option Addr) : By w a [] := fun k hk => by simp at hk
theorem By.next {w w' : World} {a : Option Addr} {l : List UInt8} (h : By w a l) (hb : Below w.heap.size w w') : By w' a l := fun k hk => by
  obtain ⟨b, off, e, hlt, hc⟩ := h k hk
  exact ⟨b, off, e, Nat.lt_of_lt_of_le hlt hb.size, by rw [hb.cell (p := ⟨b, off + k, none⟩) hlt]; exact hc⟩
theorem By.below {w w' : World} {B : Nat} {a : Option Addr} {l : List UInt8} (h : By w a l) (hb : Below B w w') (hB : w.heap.size ≤ B) : By w' a l := h.next (hb.mono hB)
theorem By.of_own {w : World} {g : Nat} {A : Option Addr} {n c : Nat} {l : List UInt8} (h : w.ownsRow g 5 1 (.slice A n c) n (bcl l)) : By w A l := fun k hk => by
  have hn : n = l.length := by have := h.1; rw [bcl_len] at this; omega
  rcases h.2 with ⟨_, h0⟩ | ⟨g', cap, cur, hv, hb, hg, h1, h2, h3, h4⟩
  · omega
  · injection hv with e1 e2 e3
    refine ⟨g', 0, e1, (Array.getElem?_eq_some_iff.1 hg).1, ?_⟩
    have hc : cur[0 + k]? = some (.int .u8 ((l.getD k 0).toNat : Int)) := by
      have e5 : (cur.toList.take (n * 1))[k]? = (bcl l)[k]? := by rw [h4]
      rw [List.getElem?_take_of_lt (by omega)] at e5
      rw [Nat.zero_add, ← Array.getElem?_toList, e5, bcl, List.getElem?_map, List.getElem?_eq_getElem hk]
      simp [List.getD, List.getElem?_eq_getElem hk]
    rw [cell_of_row w g' (0 + k) _ _ (0, 0) hg, hc]
/-- A slice made of a literal. -/
theorem By.new (w : World) (l : List UInt8) (cs : Array Value) (hc : cs = (bcl l).toArray) : By (w.alloc (.cells cs 5)) (some ⟨w.heap.size, 0, none⟩) l := fun k hk => by
  refine ⟨_, 0, rfl, by simp, ?_⟩
  subst hc
  rw [cell_of_row _ w.heap.size (0 + k) _ 5 (0, 0) (heap_alloc_new w _)]
  simp [bcl, List.getD, List.getElem?_eq_getElem hk]

/-- The address of a slice's part that begins at k. -/
def sh (a : Option Addr) (c k : Nat) : Option Addr := if c = k then a else a.map (·.add (k * 1))
theorem By.drop {w : World} {a : Option Addr} {l : List UInt8} {c k : Nat} (h : By w a l) (hc : l.length ≤ c) : By w (sh a c k) (l.drop k) := fun j hj => by
  rw [List.length_drop] at hj
  obtain ⟨b, off, e, hlt, hh⟩ := h (k + j) (by omega)
  refine ⟨b, off + k, ?_, hlt, ?_⟩
  · unfold sh
    rw [if_neg (by omega), e]
    simp [Go.WideShapes.add_plain]
  · rw [show off + k + j = off + (k + j) by omega, hh]
    simp [List.getD]
theorem By.take {w : World} {a : Option Addr} {l : List UInt8} (h : By w a l) (k : Nat) : By w a (l.take k) := fun j hj => by
  rw [List.length_take] at hj
  obtain ⟨b, off, e, hlt, hh⟩ := h j (by omega)
  refine ⟨b, off, e, hlt, ?_⟩
  rw [hh]
  simp [List.getD, show j < k by omega]
theorem drop_run (a : Option Addr) (n c k : Nat) (h : k ≤ n) (W : World) : (Instr.slice 22 (.slice a n c) (some (.int .i64 (k : Int))) none none).run Try.prog W = .ok (.slice (sh a c k) (n - k) (c - k)) W := by
  have e : Try.prog.elem 22 = 5 := by kernel_rfl
  have hs : (sizeOf 5).run Try.prog W = .ok 1 W := by kernel_rfl
  rw [run_slice_l W 22 a n c (by rw [e]; exact Try.underlying22) .i64 k (by omega) (by omega), e, hs]
  simp [Result.andThen, sliced, sh]

theorem bys_ne {l m : List UInt8} {k : Nat} (h : (l.getD k 0).toNat ≠ (m.getD k 0).toNat) : l ≠ m := by rintro rfl; exact h rfl
theorem bys_eq {l m : List UInt8} (hl : l.length = m.length) (h : ∀ k, k < l.length → (l.getD k 0).toNat = (m.getD k 0).toNat) : l = m := by
  apply List.ext_getElem hl
  intro i h1 h2
  have := h i h1
  simp [List.getD, List.getElem?_eq_getElem h1, List.getElem?_eq_getElem h2] at this
  exact UInt8.toNat_inj.1 this

set_option maxHeartbeats 1000000 in
theorem bytes_any (a b : Option Addr) (ca cb : Nat) (l m : List UInt8) (v : Bool) (w : World) (ha : By w a l) (hb : By w b m) (hl : l.length ≤ 100000) (hv : Hid (decide (l = m) = v)) :
    Calls Try.prog 11 #[.slice a l.length ca, .slice b m.length cb] w fun e w' => e = .returned (.bool v) ∧ Below w.heap.size w w' := by
  have HA := Lib.hid ha
  have HB := Lib.hid hb
  clear ha hb
  by_cases hn : l.length = m.length
  · have HN := Lib.hid hn
    go_enter Try.func11, Try.ntmps11
    rw [← hn]
    clear hn
    go_wp2
    go_loopw [5] (fun i wr => ∃ k : Nat, i = .int .i64 k ∧ k ≤ l.length ∧ (∀ j, j < k → (l.getD j 0).toNat = (m.getD j 0).toNat) ∧ Below w.heap.size w wr) (fun i _ => l.length - (intOf i).toNat)
    case atStart => exact ⟨0, rfl, Nat.zero_le _, fun j hj => by omega, Below.refl _ _⟩
    case round =>
      obtain ⟨k, rfl, hk, hj, hbw⟩ := hrel
      have HJ := Lib.hid hj
      clear hj
      by_cases hlt : k < l.length
      · obtain ⟨b1, o1, rfl, hb1, hc1⟩ := HA.out k hlt
        obtain ⟨b2, o2, rfl, hb2, hc2⟩ := HB.out k (by have := HN.out; omega)
        have h1 : wr.cell? ⟨b1, o1 + k, none⟩ = some (.int .u8 ((l.getD k 0).toNat : Int)) := by rw [hbw.cell (p := ⟨b1, o1 + k, none⟩) hb1]; exact hc1
        have h2 : wr.cell? ⟨b2, o2 + k, none⟩ = some (.int .u8 ((m.getD k 0).toNat : Int)) := by rw [hbw.cell (p := ⟨b2, o2 + k, none⟩) hb2]; exact hc2
        clear hc1 hc2
        have HX := Lib.hid (show (l.getD k 0).toNat = (l.getD k 0).toNat from rfl)
        have hd1 := u8_bd (l.getD k 0)
        have hd2 := u8_bd (m.getD k 0)
        obtain ⟨x, hx⟩ : ∃ x, (l.getD k 0).toNat = x := ⟨_, rfl⟩
        obtain ⟨y, hy⟩ : ∃ y, (m.getD k 0).toNat = y := ⟨_, rfl⟩
        rw [hx] at h1 hd1
        rw [hy] at h2 hd2
        have HXY := Lib.hid (And.intro hx hy)
        clear hx hy HX
        by_cases he : x = y
        · subst he
          have hne : (((x : Int) != (x : Int))) = false := by simp
          go_wp2
          go_region
          go_wp2
          go_round
          case rel => exact ⟨k + 1, by go_num, by omega, fun j hj => (by
            rcases Nat.lt_or_ge j k with h | h
            · exact HJ.out j h
            · obtain rfl : j = k := by omega
              rw [HXY.out.1, HXY.out.2]), by first | exact hbw | exact hbw.drew⟩
          case measure => simp [intOf]; omega
        · have hne : (((x : Int) != (y : Int))) = true := by simp; omega
          go_wp2
          go_region
          go_wp2
          go_ret
          have : l ≠ m := bys_ne (k := k) (by rw [HXY.out.1, HXY.out.2]; exact he)
          have hvf : v = false := by rw [← hv.out]; simp [this]
          rw [hvf]
          exact ⟨rfl, by first | exact hbw | exact hbw.drew⟩
      · have hk2 : k = l.length := by omega
        subst hk2
        have hvt : v = true := by rw [← hv.out]; simp [bys_eq HN.out HJ.out]
        subst hvt
        go_wp2
        go_ret
        exact ⟨rfl, hbw⟩
  · have hvf : v = false := by
      rw [← hv.out]
      have : l ≠ m := fun e => hn (by rw [e])
      simp [this]
    subst hvf
    have hne : (((l.length : Int) != (m.length : Int))) = true := by simp; omega
    go_enter Try.func11, Try.ntmps11
    go_wp2
    go_ret
    exact ⟨rfl, Below.refl _ _⟩
end Go.Proofs.Ytdepbhikkjfcjaa
