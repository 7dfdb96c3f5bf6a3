/- The contracts of package civil's inner functions that only compute, and of the reference's: what each call returns, for every number of 64 bits where nothing is said; nothing in memory changes. The table of days ahead of months reads as it is laid. -/
import Derived.Test.YtjpppffgebecdaaGreatDoorChecked
import Derived.Test.YtjpppffgebecdaaGreatDoorCal
import Derived.Test.YtjpppffgebecdaaGreatDoorDiv
import Derived.WalkKit
import Derived.IntWalk
import Derived.Lib.Hide
namespace Go.Proofs.YtjpppffgebecdaaGreatDoor
open Go.RowKit

/-- The table of days ahead of months reads as it is laid. -/
def AhAt (w : World) : Prop := ∀ m : Int, 1 ≤ m → m ≤ 13 → w.cell? ⟨1, m.toNat - 1, none⟩ = some (.int .i64 (ah m))

theorem ret_i {k : IntKind} {a b : Int} (h : a = b) : Ending.returned (.int k a) = .returned (.int k b) := by rw [h]

theorem tmod0 (a : Int) (n : Int) : a.tmod n = 0 ↔ a % n = 0 := by
  rw [← Int.dvd_iff_tmod_eq_zero, ← Int.dvd_iff_emod_eq_zero]

theorem leap_spelt (y : Int) : (lpB y = true) ↔ ((y.tmod 4 = 0 ∧ y.tmod 100 ≠ 0) ∨ y.tmod 400 = 0) := by
  rw [tmod0 y 4, Ne, tmod0 y 100, tmod0 y 400]
  unfold lpB lp
  split <;> simp_all

theorem leap_cases (y : Int) : (lpB y = true ∧ (y.tmod 4 == 0) = true ∧ (y.tmod 100 != 0) = true) ∨ (lpB y = true ∧ (y.tmod 4 == 0) = true ∧ (y.tmod 100 != 0) = false ∧ (y.tmod 400 == 0) = true) ∨ (lpB y = false ∧ (y.tmod 4 == 0) = true ∧ (y.tmod 100 != 0) = false ∧ (y.tmod 400 == 0) = false) ∨ (lpB y = false ∧ (y.tmod 4 == 0) = false ∧ (y.tmod 400 == 0) = false) := by
  have h := leap_spelt y
  have h4 : y.tmod 400 = 0 → y.tmod 4 = 0 := by
    rw [tmod0 y 4, tmod0 y 400]; omega
  by_cases a : y.tmod 4 = 0 <;> by_cases b : y.tmod 100 = 0 <;> by_cases c : y.tmod 400 = 0 <;> simp_all

theorem leap_any (y : Int) (w : World) :
    Calls Tryz.prog 108 #[.int .i64 y] w fun e w' => e = .returned (.bool (lpB y)) ∧ w = w' := by
  rcases leap_cases y with ⟨h, h1, h2⟩ | ⟨h, h1, h2, h3⟩ | ⟨h, h1, h2, h3⟩ | ⟨h, h1, h3⟩
  all_goals
    have H := Lib.hid h
    clear h
    go_enter Tryz.func108, Tryz.ntmps108
    go_wp2
    go_ret
    rw [H.out]
    exact ⟨rfl, rfl⟩

theorem within_any (n a b : Int) (w : World) :
    Calls Tryz.prog 138 #[.int .i64 n, .int .i64 a, .int .i64 b] w fun e w' => e = .returned (.int .i64 (min (max n a) b)) ∧ w = w' := by
  by_cases h1 : n < a
  · by_cases h2 : b < a
    all_goals
      go_enter Tryz.func138, Tryz.ntmps138
      go_wp2
      go_ret
      exact ⟨ret_i (by omega), rfl⟩
  · by_cases h2 : b < n
    all_goals
      go_enter Tryz.func138, Tryz.ntmps138
      go_wp2
      go_ret
      exact ⟨ret_i (by omega), rfl⟩

theorem ahead_any (y m : Int) (w : World) (ht : AhAt w) (h1 : 1 ≤ m) (h2 : m ≤ 13) :
    Calls Tryz.prog 82 #[.int .i64 y, .int .i64 m] w fun e w' => e = .returned (.int .i64 (cum y m)) ∧ w = w' := by
  have hc := ht m h1 h2
  have hb := ah_bd m
  have HC : Hid (cum y m = ah m + if 2 < m then lp y else 0) := rfl
  clear ht
  by_cases hm : 2 < m
  · cases hl : lpB y
    · have hl0 := Lib.hid (lpB_no hl)
      go_enter Tryz.func82, Tryz.ntmps82
      go_wp2_with (go_at_call 108; refine (leap_any _ _).mono ?_; rintro e w' ⟨rfl, rfl⟩)
      go_ret
      rw [HC.out, if_pos hm, hl0.out, Int.add_zero]
      exact ⟨rfl, rfl⟩
    · have hl0 := Lib.hid (lpB_yes hl)
      go_enter Tryz.func82, Tryz.ntmps82
      go_wp2_with (go_at_call 108; refine (leap_any _ _).mono ?_; rintro e w' ⟨rfl, rfl⟩)
      go_ret
      rw [HC.out, if_pos hm, hl0.out]
      exact ⟨rfl, rfl⟩
  · go_enter Tryz.func82, Tryz.ntmps82
    go_wp2_with (go_at_call 108; refine (leap_any _ _).mono ?_; rintro e w' ⟨rfl, rfl⟩)
    go_ret
    rw [HC.out, if_neg (by omega), Int.add_zero]
    exact ⟨rfl, rfl⟩

theorem long_any (y m : Int) (w : World) (ht : AhAt w) (h1 : 1 ≤ m) (h2 : m ≤ 12) :
    Calls Tryz.prog 114 #[.int .i64 y, .int .i64 m] w fun e w' => e = .returned (.int .i64 (dim y m)) ∧ w = w' := by
  have c1 := cum_bd y m
  have c2 := cum_bd y (m + 1)
  go_enter Tryz.func114, Tryz.ntmps114
  go_wp2_with (go_at_call 82; refine (ahead_any _ _ _ ht (by omega) (by omega)).mono ?_; rintro e w' ⟨rfl, rfl⟩)
  go_ret
  exact ⟨rfl, rfl⟩

theorem split_any (n d : Int) (w : World) (h1 : -9223372036854775808 ≤ n) (h2 : n ≤ 9223372036854775807) (h3 : 0 < d) (h4 : d ≤ 1000000) :
    Calls Tryz.prog 107 #[.int .i64 n, .int .i64 d] w fun e w' => e = .returned (.tuple #[.int .i64 (n / d), .int .i64 (n % d)]) ∧ w = w' := by
  have e1 : n.fdiv d = n / d := Int.fdiv_eq_ediv_of_nonneg n (by omega)
  have e2 : n.fmod d = n % d := Int.fmod_eq_emod_of_nonneg n (by omega)
  rw [← e1, ← e2]
  clear e1 e2
  go_enter Tryz.func107, Tryz.ntmps107
  go_wp2_with (first
    | (go_at_call 50; refine (div_any _ _ _ (by omega) (by omega) (by omega) (by omega)).mono ?_; rintro e w1 ⟨rfl, rfl⟩)
    | (go_at_call 51; refine (mod_any _ _ _ (by omega) (by omega) (by omega)).mono ?_; rintro e w1 ⟨rfl, rfl⟩))
  go_ret2
  exact ⟨rfl, rfl⟩

theorem newYear_any (y : Int) (w : World) (h1 : -200000 ≤ y) (h2 : y ≤ 200000) :
    Calls Tryz.prog 79 #[.int .i64 y] w fun e w' => e = .returned (.int .i64 (ny y)) ∧ w = w' := by
  go_enter Tryz.func79, Tryz.ntmps79
  go_wp2_with (go_at_call 107; refine (split_any _ _ _ (by omega) (by omega) (by omega) (by omega)).mono ?_; rintro e w1 ⟨rfl, rfl⟩)
  go_ret
  exact ⟨rfl, rfl⟩

theorem weekday_any (n : Int) (w : World) (h1 : -9223372036854775808 ≤ n) (h2 : n ≤ 9223372036854775807) :
    Calls Tryz.prog 130 #[.int .i64 n] w fun e w' => e = .returned (.int .i64 ((n % 7 + 4) % 7)) ∧ w = w' := by
  go_enter Tryz.func130, Tryz.ntmps130
  go_wp2_with (go_at_call 107; refine (split_any _ _ _ (by omega) (by omega) (by omega) (by omega)).mono ?_; rintro e w1 ⟨rfl, rfl⟩)
  go_ret
  exact ⟨rfl, rfl⟩
end Go.Proofs.YtjpppffgebecdaaGreatDoor
