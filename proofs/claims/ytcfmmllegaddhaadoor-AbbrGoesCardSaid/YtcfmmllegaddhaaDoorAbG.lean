/- The contract of abbr.All: its iterator's variables, and what it hands to whatever loop it is ranged over by; nothing that was in memory changes. -/
import Derived.Shelf.Slices.Clone
import Derived.Shelf.Abstract
import Derived.LoopNIn
import Derived.LoopIn
import Derived.WalkMore
import Derived.Test.YtcfmmllegaddhaaDoorAbH
import Derived.Test.YtcfmmllegaddhaaDoorRgK
import Derived.Test.YtcfmmllegaddhaaDoorPsh
namespace Go.Proofs.YtcfmmllegaddhaaDoor
open Go.RowKit Go.Shelf
attribute [local go_sem] Oper.semAt_some

/-- Texts that lie below n0. -/
def RowsB (n0 : Nat) (A : Option Addr) (ls : List (List UInt8)) (W : World) : Prop := ∀ (k : Nat) (q : List UInt8), ls[k]? = some q → ∃ b o, A = some ⟨b, o, none⟩ ∧ b < n0 ∧ W.cell? ⟨b, o + k, none⟩ = some (.string ⟨q.toArray⟩)
theorem RowsB.below {n0 : Nat} {A : Option Addr} {ls : List (List UInt8)} {W W' : World} (h : RowsB n0 A ls W) (k : Below n0 W W') : RowsB n0 A ls W' := fun j q hq => by
  obtain ⟨b, o, e, hb, hc⟩ := h j q hq
  exact ⟨b, o, e, hb, by rw [k.cell (p := ⟨_, _, none⟩) hb]; exact hc⟩
theorem RowsB.mono {n0 n1 : Nat} {A : Option Addr} {ls : List (List UInt8)} {W : World} (h : RowsB n0 A ls W) (k : n0 ≤ n1) : RowsB n1 A ls W := fun j q hq => by
  obtain ⟨b, o, e, hb, hc⟩ := h j q hq
  exact ⟨b, o, e, by omega, hc⟩
theorem clone_is (A : Option Addr) (m c : Nat) (ls : List (List UInt8)) (w : World) (hm : ls.length = m) (h10 : m ≤ 10) (hn : A = none → m = 0) (hR : RowsB w.heap.size A ls w) :
    Calls Tryd.prog 27 #[.slice A m c] w fun e w' => ∃ A' c', e = .returned (.slice A' m c') ∧ RowsB w'.heap.size A' ls w' ∧ Below w.heap.size w w' := by
  cases A with
  | none =>
    obtain rfl := hn rfl
    obtain rfl := List.length_eq_zero_iff.1 hm
    refine (Tryd.slices_Clone_string_nil 0 c w).mono ?_
    rintro e w' ⟨rfl, rfl⟩
    exact ⟨none, 0, rfl, fun k q h => by simp at h, Below.refl _ _⟩
  | some a =>
    rcases Nat.eq_zero_or_pos m with rfl | h0
    · obtain rfl := List.length_eq_zero_iff.1 hm
      refine (Tryd.slices_Clone_string_zero a c w).mono ?_
      rintro e w' ⟨v', rfl, h1, -, h2⟩
      obtain ⟨A', c', rfl⟩ := wown_form h1
      exact ⟨A', c', rfl, fun k q h => by simp at h, h2⟩
    · obtain ⟨b, o, e, -, -⟩ := hR 0 _ (List.getElem?_eq_getElem (show 0 < ls.length by omega))
      cases e
      have hz : (ls.map fun q => (⟨q.toArray⟩ : ByteArray)).length = m := by rw [List.length_map]; exact hm
      refine (Tryd.slices_Clone_string b o m c (ls.map fun q => (⟨q.toArray⟩ : ByteArray)) w (by omega) (by omega) (fun j hj => ?_)).mono ?_
      · have hj' : j < ls.length := by omega
        obtain ⟨b', o', e, -, hc⟩ := hR j _ (List.getElem?_eq_getElem hj')
        cases e
        rw [hc]
        simp [List.getD, hj']
      · rintro e w' ⟨v', rfl, h1, -, h2⟩
        obtain ⟨A', c', rfl⟩ := wown_form h1
        refine ⟨A', c', rfl, fun k q hq => ?_, h2⟩
        obtain ⟨g, cap, rfl, rfl, hc⟩ := wown_cells h1 h0
        have hk := (List.getElem?_eq_some_iff.1 hq).1
        have hlt := (h1.lt g rfl).2
        refine ⟨g, 0, rfl, hlt, ?_⟩
        rw [Nat.zero_add]
        refine hc k _ ?_
        rw [List.getElem?_map, List.getElem?_take_of_lt (by omega), List.getElem?_map, hq]
        rfl
abbrev El : Type := Bool × List UInt8
def encE (x : El) : Array Value := #[.bool x.1, .string ⟨x.2.toArray⟩]
/-- What All tells, by its place. -/
def elE (f : List UInt8) (off : Int) (ls : List (List UInt8)) (i : Nat) : El := (decide (i % 2 = 1), shS f off (decide (i % 2 = 1)) (ls.getD (i / 2) []))
def okE (f : List UInt8) (off : Int) (ls : List (List UInt8)) (pre : List El) (x : El) : Prop := shE f off = 0 ∧ pre.length < 2 * ls.length ∧ x = elE f off ls pre.length
def cntE (f : List UInt8) (off : Int) (ls : List (List UInt8)) : Nat := if shE f off = 0 then 2 * ls.length else 0

/-- What the iterator reads. -/
structure AllAt (n0 Bl Bf Bo : Nat) (A : Option Addr) (m c : Nat) (f : List UInt8) (off : Int) (ls : List (List UInt8)) (W : World) : Prop where
  laid : LaidB W
  gm : 0 < n0
  gx : 1 < n0
  sz : n0 ≤ W.heap.size
  bl : Bl < n0
  bf : Bf < n0
  bo : Bo < n0
  cl : W.cell? ⟨Bl, 0, none⟩ = some (.slice A m c)
  cf : W.cell? ⟨Bf, 0, none⟩ = some (.string ⟨f.toArray⟩)
  co : W.cell? ⟨Bo, 0, none⟩ = some (.int .i64 off)
  rows : RowsB n0 A ls W
theorem AllAt.below {n0 Bl Bf Bo : Nat} {A : Option Addr} {m c : Nat} {f : List UInt8} {off : Int} {ls : List (List UInt8)} {W W' : World} (h : AllAt n0 Bl Bf Bo A m c f off ls W) (k : Below n0 W W') : AllAt n0 Bl Bf Bo A m c f off ls W' :=
  ⟨⟨h.laid.mks.below k h.gm, by obtain ⟨x, hx⟩ := h.laid.mx; exact ⟨x, by rw [k.cell (p := ⟨_, _, none⟩) h.gx]; exact hx⟩⟩, h.gm, h.gx, Nat.le_trans h.sz k.size, h.bl, h.bf, h.bo,
    by rw [k.cell (p := ⟨_, _, none⟩) h.bl]; exact h.cl, by rw [k.cell (p := ⟨_, _, none⟩) h.bf]; exact h.cf, by rw [k.cell (p := ⟨_, _, none⟩) h.bo]; exact h.co, h.rows.below k⟩
theorem AllAt.next {n0 Bl Bf Bo : Nat} {A : Option Addr} {m c : Nat} {f : List UInt8} {off : Int} {ls : List (List UInt8)} {W W' : World} (h : AllAt n0 Bl Bf Bo A m c f off ls W) (k : Below W.heap.size W W') : AllAt n0 Bl Bf Bo A m c f off ls W' := h.below (k.mono h.sz)

set_option maxHeartbeats 1600000 in
theorem all_is (A : Option Addr) (m c : Nat) (f : List UInt8) (off : Int) (ls : List (List UInt8)) (w : World) (hm : ls.length = m) (h10 : m ≤ 10) (hn : A = none → m = 0) (hR : RowsB w.heap.size A ls w) (hA : LaidB w) :
    Calls Tryd.prog 19 #[.string ⟨f.toArray⟩, .int .i64 off, .slice A m c] w fun e w' => ∃ Bl A' c', e = .returned (.func (.func 28) #[] #[.pointer (some ⟨Bl, 0, none⟩), .pointer (some ⟨w.heap.size, 0, none⟩), .pointer (some ⟨w.heap.size + 1, 0, none⟩)]) ∧
      AllAt w'.heap.size Bl w.heap.size (w.heap.size + 1) A' m c' f off ls w' ∧ Below w.heap.size w w' := by
  have hmf : ∀ (fn : Fn) (first cap : Array Value) (w : World), (Instr.makeFunc fn first cap).run Tryd.prog w = .ok (.func fn first cap) w := fun _ _ _ _ => rfl
  obtain ⟨W0, hW0⟩ : ∃ W0, (w.alloc (.cells #[.string ⟨f.toArray⟩] 9)).alloc (.cells #[.int .i64 off] 3) = W0 := ⟨_, rfl⟩
  have K0 : Below w.heap.size w W0 := by rw [← hW0]; exact ((Below.refl _ w).alloc (Nat.le_refl _) _).alloc (by simp) _
  have hs0 : W0.heap.size = w.heap.size + 2 := by rw [← hW0]; simp
  have c0 : W0.cell? ⟨w.heap.size, 0, none⟩ = some (.string ⟨f.toArray⟩) := by rw [← hW0]; simp
  have c1 : W0.cell? ⟨w.heap.size + 1, 0, none⟩ = some (.int .i64 off) := by
    rw [← hW0]
    have e : (w.alloc (.cells #[.string ⟨f.toArray⟩] 9)).heap.size = w.heap.size + 1 := by simp
    rw [← e]; simp
  have R0 : RowsB W0.heap.size A ls W0 := (hR.below K0).mono (by omega)
  have HM := Lib.hid hm
  have HN := Lib.hid hn
  have H10 := Lib.hid h10
  have HR0 := Lib.hid R0
  have HC := Lib.hid (And.intro c0 c1)
  have HK0 := Lib.hid K0
  have HS := Lib.hid hs0
  have HA0 := Lib.hid (hA.next K0)
  clear hm hn h10 R0 c0 c1 K0 hs0 hA hR
  go_enter Tryd.func19, Tryd.ntmps19
  go_wp2_with (first
    | (go_at_call 27; refine (clone_is A m c ls _ HM.out H10.out HN.out HR0.out).mono ?_; rintro e w1 ⟨A', c', rfl, r1, k1⟩; simp only []
       have R1 := Lib.hid r1
       have K1 := Lib.hid k1
       clear r1 k1))
  go_ret
  have e1 : Below w1.heap.size w1 (w1.alloc (.cells #[.slice A' m c'] 43)) := (Below.refl _ _).alloc (Nat.le_refl _) _
  have hs1 := K1.out.size
  have hs := HS.out
  have hz : (w1.alloc (.cells #[.slice A' m c'] 43)).heap.size = w1.heap.size + 1 := by simp
  have L2 := (HA0.out.next K1.out).next e1
  refine ⟨w1.heap.size, A', c', rfl, ⟨L2, L2.mks.lt, ?_, Nat.le_refl _, by omega, by omega, by omega, by simp, ?_, ?_, (R1.out.below e1).mono (by omega)⟩, (HK0.out.trans (K1.out.mono HK0.out.size)).trans (e1.mono (by omega))⟩
  · obtain ⟨x, hx⟩ := L2.mx; exact wcell_lt hx
  · rw [e1.cell (p := ⟨_, _, none⟩) (by show w.heap.size < _; omega), K1.out.cell (p := ⟨_, _, none⟩) (by show w.heap.size < _; omega)]; exact HC.out.1
  · rw [e1.cell (p := ⟨_, _, none⟩) (by show w.heap.size + 1 < _; omega), K1.out.cell (p := ⟨_, _, none⟩) (by show w.heap.size + 1 < _; omega)]; exact HC.out.2
end Go.Proofs.YtcfmmllegaddhaaDoor
