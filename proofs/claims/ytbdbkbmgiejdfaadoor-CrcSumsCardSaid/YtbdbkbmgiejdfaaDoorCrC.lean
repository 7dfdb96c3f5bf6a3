/- The contract of crc.Sum of one row of bytes, of two, of none, and of the law's own awake, which is true; nothing that was in memory changes. The table reads as it is laid. -/
import Derived.Lib.SlBytesConst
import Derived.Test.YtbdbkbmgiejdfaaDoorCrB
namespace Go.Proofs.YtbdbkbmgiejdfaaDoor
open Go.RowKit
attribute [local go_sem] Oper.semAt_some

theorem Rows2.new {W : World} (rs : List (List UInt8)) (cs : Array Value) (h : ∀ k, k < rs.length → ∃ A c, cs[k]? = some (.slice A (rs.getD k []).length c) ∧ By W A (rs.getD k [])) :
    Rows2 (W.alloc (.cells cs 22)) (some ⟨W.heap.size, 0, none⟩) rs := fun k hk => by
  obtain ⟨A, c, hc, hy⟩ := h k hk
  refine ⟨_, 0, A, c, rfl, by simp, ?_, hy.next ((Below.refl _ _).alloc (Nat.le_refl _) _)⟩
  rw [cell_of_row _ W.heap.size (0 + k) _ 22 (0, 0) (heap_alloc_new W _), Nat.zero_add]
  exact hc

/-- One row. -/
theorem sum_one (A : Option Addr) (c n v : Nat) (l : List UInt8) (W : World) (g : Nat) (hg : W.heap.size = g) (hT : FoAt W) (hy : By W A l) (h : Hid (l.length = n ∧ n ≤ 100000 ∧ su l = v)) :
    Calls Tryd.prog 11 #[.slice (some ⟨g, 0, none⟩) 1 1] (W.alloc (.cells #[.slice A n c] 22)) fun e w' => e = .returned (.int .i64 (v : Int)) ∧ Below W.heap.size W w' := by
  subst hg
  have ha : Below W.heap.size W (W.alloc (.cells #[.slice A n c] 22)) := (Below.refl _ _).alloc (Nat.le_refl _) _
  refine (sum_any (some ⟨W.heap.size, 0, none⟩) 1 1 v [l] (W.alloc (.cells #[.slice A n c] 22)) (hT.next ha) (Rows2.new [l] _ ?_) rfl (by omega) ?_ ?_).mono fun e w' ⟨he, hb⟩ => ⟨he, ha.trans (hb.mono ha.size)⟩
  · intro k hk
    obtain rfl : k = 0 := by simpa using hk
    exact ⟨A, c, by rw [← h.out.1]; rfl, hy⟩
  · intro r hr
    obtain rfl : r = l := by simpa using hr
    have := h.out; omega
  · exact Lib.hid (by simpa using h.out.2.2)
/-- Two rows. -/
theorem sum_two (A B : Option Addr) (c d n m v : Nat) (l r : List UInt8) (W : World) (g : Nat) (hg : W.heap.size = g) (hT : FoAt W) (hy : By W A l) (hz : By W B r) (h : Hid (l.length = n ∧ r.length = m ∧ n ≤ 100000 ∧ m ≤ 100000 ∧ su (l ++ r) = v)) :
    Calls Tryd.prog 11 #[.slice (some ⟨g, 0, none⟩) 2 2] (W.alloc (.cells #[.slice A n c, .slice B m d] 22)) fun e w' => e = .returned (.int .i64 (v : Int)) ∧ Below W.heap.size W w' := by
  subst hg
  have ha : Below W.heap.size W (W.alloc (.cells #[.slice A n c, .slice B m d] 22)) := (Below.refl _ _).alloc (Nat.le_refl _) _
  refine (sum_any (some ⟨W.heap.size, 0, none⟩) 2 2 v [l, r] (W.alloc (.cells #[.slice A n c, .slice B m d] 22)) (hT.next ha) (Rows2.new [l, r] _ ?_) rfl (by omega) ?_ ?_).mono fun e w' ⟨he, hb⟩ => ⟨he, ha.trans (hb.mono ha.size)⟩
  · intro k hk
    have hk2 : k < 2 := by simpa using hk
    rcases Nat.eq_zero_or_pos k with rfl | h0
    · exact ⟨A, c, by rw [← h.out.1]; rfl, hy⟩
    · obtain rfl : k = 1 := by omega
      exact ⟨B, d, by rw [← h.out.2.1]; rfl, hz⟩
  · intro x hx
    have := h.out
    rcases (by simpa using hx : x = l ∨ x = r) with rfl | rfl <;> omega
  · exact Lib.hid (by simpa using h.out.2.2.2.2)
theorem sum_none (W : World) (hT : FoAt W) :
    Calls Tryd.prog 11 #[.slice none 0 0] W fun e w' => e = .returned (.int .i64 0) ∧ Below W.heap.size W w' :=
  sum_any none 0 0 0 [] W hT (Rows2.nil _ _) rfl (by omega) (by simp) (Lib.hid (by decide +kernel))

/-- A slice made of a constant text's bytes. -/
theorem By.marked (w : World) (l : List UInt8) (cs : Array Value) (fz : Nat × Nat) (hc : cs = (ubl l).toArray) : By (w.alloc (.cells cs 5 fz)) (some ⟨w.heap.size, 0, none⟩) l := fun k hk => by
  refine ⟨_, 0, rfl, by simp, ?_⟩
  subst hc
  rw [cell_of_row _ w.heap.size (0 + k) _ 5 fz (heap_alloc_new w _)]
  simp [ubl, List.getD, List.getElem?_eq_getElem hk]

set_option maxRecDepth 20000 in
set_option maxHeartbeats 1000000 in
theorem cawake_yes (w : World) (hT : FoAt w) : Calls Tryd.prog 9 #[] w fun e w' => e = .returned (.bool true) ∧ Below w.heap.size w w' := by
  have HT := Lib.hid hT
  have N1 : Hid (∀ W : World, By (W.alloc (.cells #[.int .u8 49, .int .u8 50, .int .u8 51, .int .u8 52, .int .u8 53, .int .u8 54, .int .u8 55, .int .u8 56, .int .u8 57] 5 (9, 10))) (some ⟨W.heap.size, 0, none⟩) [49, 50, 51, 52, 53, 54, 55, 56, 57]) := Lib.hid (fun W => By.marked W [49, 50, 51, 52, 53, 54, 55, 56, 57] _ (9, 10) rfl)
  have HS : Hid (([49, 50, 51, 52, 53, 54, 55, 56, 57] : List UInt8).length = 9 ∧ 9 ≤ 100000 ∧ su [49, 50, 51, 52, 53, 54, 55, 56, 57] = 3421780262) := Lib.hid ⟨rfl, by decide, su_digits⟩
  have B0 : Hid (Below w.heap.size w (w.alloc (.cells #[.int .u8 49, .int .u8 50, .int .u8 51, .int .u8 52, .int .u8 53, .int .u8 54, .int .u8 55, .int .u8 56, .int .u8 57] 5 (9, 10)))) := Lib.hid ((Below.refl _ _).alloc (Nat.le_refl _) _)
  have kc := fun (w : World) (C : Array Value) (n c : Nat) => Lib.run_convert_bytes_const (P := Tryd.prog) w 22 5 C n c Tryd.underlying22 Tryd.underlying5
  clear hT
  go_enter Tryd.func9, Tryd.ntmps9
  go_wp2_with (first
    | (go_at_call 11; (with_reducible refine (sum_one (some ⟨w.heap.size, 0, none⟩) 9 9 3421780262 [49, 50, 51, 52, 53, 54, 55, 56, 57] _ _ (by simp) (HT.out.next B0.out) (N1.out w) HS).mono ?_); rintro e w1 ⟨rfl, k1⟩
       have B1 := Lib.hid (B0.out.trans (k1.mono B0.out.size))
       clear k1
       simp only [])
    | (go_at_call 11; (with_reducible refine (sum_none _ (HT.out.next B1.out)).mono ?_); rintro e w2 ⟨rfl, k2⟩
       have B2 := Lib.hid (B1.out.trans (k2.mono B1.out.size))
       clear k2
       simp only []))
  go_ret
  exact ⟨rfl, B2.out⟩
end Go.Proofs.YtbdbkbmgiejdfaaDoor
