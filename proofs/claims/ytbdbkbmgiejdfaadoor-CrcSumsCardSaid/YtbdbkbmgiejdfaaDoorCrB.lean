/- The contracts of crc.Shift and Turn: what each call returns, for every numbers of 64 bits; nothing that was in memory changes. The table reads as it is laid. -/
import Derived.Test.YtbdbkbmgiejdfaaDoorCrA
import Derived.Test.YtbdbkbmgiejdfaaDoorShelf
namespace Go.Proofs.YtbdbkbmgiejdfaaDoor
open Go.RowKit
attribute [local go_sem] Oper.semAt_some

theorem maySum_yes (n : Int) (w : World) (h0 : 0 ≤ n) (h1 : n ≤ 4294967295) : Calls Tryd.prog 20 #[.int .i64 n] w fun e w' => e = .returned (.bool true) ∧ w' = w := by
  go_enter Tryd.func20, Tryd.ntmps20
  go_wp2
  go_ret
  exact ⟨rfl, rfl⟩
theorem maySum_no (n : Int) (w : World) (h : Hid (n < 0 ∨ 4294967295 < n)) : Calls Tryd.prog 20 #[.int .i64 n] w fun e w' => e = .returned (.bool false) ∧ w' = w := by
  by_cases h0 : n < 0
  · have h2 : ¬ (0 ≤ n) := by omega
    go_enter Tryd.func20, Tryd.ntmps20
    go_wp2
    go_ret
    exact ⟨rfl, rfl⟩
  · have h2 : ¬ (n ≤ 4294967295) := by have := h.out; omega
    have h3 : 0 ≤ n := by omega
    go_enter Tryd.func20, Tryd.ntmps20
    go_wp2
    go_ret
    exact ⟨rfl, rfl⟩
theorem maySize_yes (n : Int) (w : World) (h0 : 0 ≤ n) (h1 : n ≤ 1048576) : Calls Tryd.prog 21 #[.int .i64 n] w fun e w' => e = .returned (.bool true) ∧ w' = w := by
  go_enter Tryd.func21, Tryd.ntmps21
  go_wp2
  go_ret
  exact ⟨rfl, rfl⟩
theorem maySize_no (n : Int) (w : World) (h : Hid (n < 0 ∨ 1048576 < n)) : Calls Tryd.prog 21 #[.int .i64 n] w fun e w' => e = .returned (.bool false) ∧ w' = w := by
  by_cases h0 : n < 0
  · have h2 : ¬ (0 ≤ n) := by omega
    go_enter Tryd.func21, Tryd.ntmps21
    go_wp2
    go_ret
    exact ⟨rfl, rfl⟩
  · have h2 : ¬ (n ≤ 1048576) := by have := h.out; omega
    have h3 : 0 ≤ n := by omega
    go_enter Tryd.func21, Tryd.ntmps21
    go_wp2
    go_ret
    exact ⟨rfl, rfl⟩

set_option maxHeartbeats 1000000 in
theorem shift_any (s n v : Nat) (w : World) (hT : FoAt w) (hs : s < 4294967296) (hn : n ≤ 1048576) (hv : Hid (sn (8 * n) s = v)) :
    Calls Tryd.prog 12 #[.int .i64 (s : Int), .int .i64 (n : Int)] w fun e w' => e = .returned (.tuple #[.int .i64 (v : Int), .int .i64 0]) ∧ Below w.heap.size w w' := by
  have CN : Hid (∀ t : Int, t = ((n * 2 : Nat) : Int) → Calls Tryd.prog 19 #[.int .i64 (s : Int), .int .i64 t] w fun e w' => e = .returned (.int .i64 (v : Int)) ∧ Below w.heap.size w w') := Lib.hid fun t ht => by
    subst ht
    exact noughts_any s (n * 2) v w hT (by omega) (by omega) (Lib.hid (by rw [show 4 * (n * 2) = 8 * n by omega]; exact hv.out))
  clear hT hv
  go_enter Tryd.func12, Tryd.ntmps12
  go_wp2_with (first
    | (go_at_call 20; refine (maySum_yes _ _ (by omega) (by omega)).mono ?_; rintro e w' ⟨rfl, rfl⟩)
    | (go_at_call 21; refine (maySize_yes _ _ (by omega) (by omega)).mono ?_; rintro e w' ⟨rfl, rfl⟩)
    | (go_at_call 19; refine (CN.out _ (by omega)).mono ?_; rintro e w1 ⟨rfl, k1⟩))
  go_ret2
  exact ⟨rfl, k1⟩
set_option maxHeartbeats 1000000 in
theorem shift_no (s n : Int) (w : World) (h : Hid (s < 0 ∨ 4294967295 < s ∨ n < 0 ∨ 1048576 < n)) :
    Calls Tryd.prog 12 #[.int .i64 s, .int .i64 n] w fun e w' => e = .returned (.tuple #[.int .i64 0, .int .i64 1]) ∧ w = w' := by
  by_cases hs : 0 ≤ s ∧ s ≤ 4294967295
  · have HN : Hid (n < 0 ∨ 1048576 < n) := Lib.hid (by have := h.out; omega)
    obtain ⟨h1, h2⟩ := hs
    go_enter Tryd.func12, Tryd.ntmps12
    go_wp2_with (first
      | (go_at_call 20; refine (maySum_yes _ _ h1 h2).mono ?_; rintro e w' ⟨rfl, rfl⟩)
      | (go_at_call 21; refine (maySize_no _ _ HN).mono ?_; rintro e w' ⟨rfl, rfl⟩))
    go_ret2
    exact ⟨rfl, rfl⟩
  · have HN : Hid (s < 0 ∨ 4294967295 < s) := Lib.hid (by omega)
    clear hs
    go_enter Tryd.func12, Tryd.ntmps12
    go_wp2_with (first
      | (go_at_call 20; refine (maySum_no _ _ HN).mono ?_; rintro e w' ⟨rfl, rfl⟩))
    go_ret2
    exact ⟨rfl, rfl⟩

theorem len_any (n v : Nat) (w : World) (h : Hid (n < 18446744073709551616 ∧ Lib.bitLen n = v)) :
    Calls Tryd.prog 22 #[.int .u64 (n : Int)] w fun e w' => e = .returned (.int .i64 (v : Int)) ∧ w' = w := by
  have := Tryd.bits_Len (n : Int) w (by omega) (by have := h.out.1; omega)
  rw [Int.toNat_natCast, h.out.2] at this
  exact this

set_option maxHeartbeats 2000000 in
/-- A row that is there. -/
theorem turn_any (n at' row v : Nat) (w : World) (hT : FoAt w) (hn : n ≤ 1048576) (h1 : 1 ≤ row) (h2 : row < 4294967296) (h3 : at' + Lib.bitLen row ≤ 8 * n) (hv : Hid (sn (8 * n - at') row = v)) :
    Calls Tryd.prog 14 #[.int .i64 (n : Int), .int .i64 (at' : Int), .int .i64 (row : Int)] w fun e w' => e = .returned (.tuple #[.int .i64 (v : Int), .int .i64 0]) ∧ Below w.heap.size w w' := by
  have hb1 := long_pos (n := row) (by omega) (by omega)
  have hr8 : at' % 4 < 4 := Nat.mod_lt _ (by omega)
  have hp8 : row * 2 ^ (at' % 4) < 1099511627776 := Nat.lt_of_lt_of_le (Nat.mul_lt_mul_of_pos_right h2 (Nat.two_pow_pos _)) (by
    have : 2 ^ (at' % 4) ≤ 2 ^ 3 := Nat.pow_le_pow_right (by omega) (by omega)
    omega)
  have CN : Hid (∀ t c : Int, c = ((row * 2 ^ (at' % 4) : Nat) : Int) → t = ((2 * n - at' / 4 : Nat) : Int) → Calls Tryd.prog 19 #[.int .i64 c, .int .i64 t] w fun e w' => e = .returned (.int .i64 (v : Int)) ∧ Below w.heap.size w w') := Lib.hid fun t c hc ht => by
    subst ht hc
    exact noughts_any _ _ v w hT hp8 (by omega) (Lib.hid (by rw [turn_steps (by omega)]; exact hv.out))
  obtain ⟨b, hb⟩ : ∃ b, Lib.bitLen row = b := ⟨_, rfl⟩
  have HB : Hid (row < 18446744073709551616 ∧ Lib.bitLen row = b) := Lib.hid ⟨by omega, hb⟩
  rw [hb] at h3 hb1
  have HW : Hid (wrap64 ((row : Int) * 2 ^ (at' % 4)) = ((row * 2 ^ (at' % 4) : Nat) : Int)) := Lib.hid (by
    rw [show ((row : Int) * 2 ^ (at' % 4)) = ((row * 2 ^ (at' % 4) : Nat) : Int) by rw [Int.natCast_mul, Int.natCast_pow]; rfl]
    generalize row * 2 ^ (at' % 4) = m at hp8
    unfold wrap64
    omega)
  have t0 : ((row : Int) == 0) = false := by simp; omega
  have t1 : ¬ ((at' : Int) < 0) := by omega
  have t2 : ¬ ((n : Int) * 8 - (b : Int) < (at' : Int)) := by omega
  have t3 : ¬ (row = 0) := by omega
  clear hT hv hb hp8 hr8
  go_enter Tryd.func14, Tryd.ntmps14
  go_wp2_with (first
    | (go_at_call 20; refine (maySum_yes _ _ (by omega) (by omega)).mono ?_; rintro e w' ⟨rfl, rfl⟩)
    | (go_at_call 21; refine (maySize_yes _ _ (by omega) (by omega)).mono ?_; rintro e w' ⟨rfl, rfl⟩)
    | (go_at_call 22; refine (len_any row b _ HB).mono ?_; rintro e w' ⟨rfl, rfl⟩)
    | (go_at_call 19; refine (CN.out _ _ HW.out (by omega)).mono ?_; rintro e w1 ⟨rfl, k1⟩))
  go_ret2
  exact ⟨rfl, k1⟩
set_option maxHeartbeats 2000000 in
/-- A row, or a size, that may not be. -/
theorem turn_no (n at' row : Int) (w : World) (h : Hid (n < 0 ∨ 1048576 < n ∨ row < 1 ∨ 4294967295 < row)) :
    Calls Tryd.prog 14 #[.int .i64 n, .int .i64 at', .int .i64 row] w fun e w' => e = .returned (.tuple #[.int .i64 0, .int .i64 1]) ∧ w = w' := by
  by_cases hn : 0 ≤ n ∧ n ≤ 1048576
  · obtain ⟨n1, n2⟩ := hn
    by_cases hr : row = 0
    · subst hr
      go_enter Tryd.func14, Tryd.ntmps14
      go_wp2_with (first
        | (go_at_call 20; refine (maySum_yes _ _ (by omega) (by omega)).mono ?_; rintro e w' ⟨rfl, rfl⟩)
        | (go_at_call 21; refine (maySize_yes _ _ (by omega) (by omega)).mono ?_; rintro e w' ⟨rfl, rfl⟩))
      go_ret2
      exact ⟨rfl, rfl⟩
    · have HN : Hid (row < 0 ∨ 4294967295 < row) := Lib.hid (by have := h.out; omega)
      clear hr
      go_enter Tryd.func14, Tryd.ntmps14
      go_wp2_with (first
        | (go_at_call 20; refine (maySum_no _ _ HN).mono ?_; rintro e w' ⟨rfl, rfl⟩)
        | (go_at_call 21; refine (maySize_yes _ _ (by omega) (by omega)).mono ?_; rintro e w' ⟨rfl, rfl⟩))
      go_ret2
      exact ⟨rfl, rfl⟩
  · have HN : Hid (n < 0 ∨ 1048576 < n) := Lib.hid (by omega)
    clear hn
    go_enter Tryd.func14, Tryd.ntmps14
    go_wp2_with (first
      | (go_at_call 21; refine (maySize_no _ _ HN).mono ?_; rintro e w' ⟨rfl, rfl⟩))
    go_ret2
    exact ⟨rfl, rfl⟩
set_option maxHeartbeats 2000000 in
/-- A row that may be, but is not there. -/
theorem turn_out (n row : Nat) (at' : Int) (w : World) (hn : n ≤ 1048576) (h1 : 1 ≤ row) (h2 : row < 4294967296) (h : Hid (at' < 0 ∨ 8 * (n : Int) - (Lib.bitLen row : Nat) < at')) :
    Calls Tryd.prog 14 #[.int .i64 (n : Int), .int .i64 at', .int .i64 (row : Int)] w fun e w' => e = .returned (.tuple #[.int .i64 0, .int .i64 1]) ∧ w = w' := by
  have t0 : ((row : Int) == 0) = false := by simp; omega
  have t3 : ¬ (row = 0) := by omega
  by_cases ha : at' < 0
  · go_enter Tryd.func14, Tryd.ntmps14
    go_wp2_with (first
      | (go_at_call 20; refine (maySum_yes _ _ (by omega) (by omega)).mono ?_; rintro e w' ⟨rfl, rfl⟩)
      | (go_at_call 21; refine (maySize_yes _ _ (by omega) (by omega)).mono ?_; rintro e w' ⟨rfl, rfl⟩))
    go_ret2
    exact ⟨rfl, rfl⟩
  · obtain ⟨b, hb⟩ : ∃ b, Lib.bitLen row = b := ⟨_, rfl⟩
    have HB : Hid (row < 18446744073709551616 ∧ Lib.bitLen row = b) := Lib.hid ⟨by omega, hb⟩
    have hb64 : b ≤ 64 := by rw [← hb]; exact long_le (by omega) (by omega)
    have t4 : (n : Int) * 8 - (b : Int) < at' := by have := h.out; rw [hb] at this; omega
    clear hb h
    go_enter Tryd.func14, Tryd.ntmps14
    go_wp2_with (first
      | (go_at_call 20; refine (maySum_yes _ _ (by omega) (by omega)).mono ?_; rintro e w' ⟨rfl, rfl⟩)
      | (go_at_call 21; refine (maySize_yes _ _ (by omega) (by omega)).mono ?_; rintro e w' ⟨rfl, rfl⟩)
      | (go_at_call 22; refine (len_any row b _ HB).mono ?_; rintro e w' ⟨rfl, rfl⟩))
    go_ret2
    exact ⟨rfl, rfl⟩
end Go.Proofs.YtbdbkbmgiejdfaaDoor
