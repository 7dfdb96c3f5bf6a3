/- The contracts of civil.yearOf and monthOf and of the reference's Long and year: what each call returns, for days that have a date; nothing in memory changes. -/
import Derived.Test.YtddoapenhlkamaaGreatDoorCivA
import Derived.LoopTactic
namespace Go.Proofs.YtddoapenhlkamaaGreatDoor
open Go.RowKit

theorem yearOf_any (n : Int) (w : World) (h1 : -37243778 ≤ n) (h2 : n ≤ 35805087) :
    Calls Tryz.prog 71 #[.int .i64 n] w fun e w' => e = .returned (.int .i64 (yo n)) ∧ w = w' := by
  have hb := yg_bd n h1 h2
  have HO : Hid (yo n = if ny (yg n + 1) ≤ n then yg n + 1 else yg n) := rfl
  have HG : Hid (yg n = (n + 719528) / 146097 * 400 + (n + 719528) % 146097 / 366) := rfl
  unfold yg at hb
  by_cases hc : ny ((n + 719528) / 146097 * 400 + (n + 719528) % 146097 / 366 + 1) ≤ n
  · go_enter Tryz.func71, Tryz.ntmps71
    go_wp2_with (first
      | (go_at_call 70; refine (split_any _ _ _ (by omega) (by omega) (by omega) (by omega)).mono ?_; rintro e w1 ⟨rfl, rfl⟩)
      | (go_at_call 69; refine (newYear_any _ _ (by omega) (by omega)).mono ?_; rintro e w1 ⟨rfl, rfl⟩))
    go_ret
    rw [HO.out, HG.out, if_pos hc]
    exact ⟨rfl, rfl⟩
  · go_enter Tryz.func71, Tryz.ntmps71
    go_wp2_with (first
      | (go_at_call 70; refine (split_any _ _ _ (by omega) (by omega) (by omega) (by omega)).mono ?_; rintro e w1 ⟨rfl, rfl⟩)
      | (go_at_call 69; refine (newYear_any _ _ (by omega) (by omega)).mono ?_; rintro e w1 ⟨rfl, rfl⟩))
    go_ret
    rw [HO.out, HG.out, if_neg (by omega)]
    exact ⟨rfl, rfl⟩

def SomeMonth (y k : Int) (w : World) (e : Ending) (w' : World) : Prop := ∃ m : Int, 1 ≤ m ∧ m ≤ 12 ∧ cum y m ≤ k ∧ k < cum y (m + 1) ∧ e = .returned (.int .i64 m) ∧ w = w'

theorem monthOf_any (y k : Int) (w : World) (ht : AhAt w) (h1 : 0 ≤ k) (h2 : k < 365 + lp y) (h3 : k ≤ 400) :
    Calls Tryz.prog 72 #[.int .i64 y, .int .i64 k] w (SomeMonth y k w) := by
  have h13 : k < cum y (12 + 1) := by have := cum_13 y; show k < cum y 13; omega
  have c1 : cum y 1 ≤ k := by have := cum_1 y; omega
  clear h2
  go_enter Tryz.func72, Tryz.ntmps72
  go_wp2
  go_loop [5] (fun t => ∃ m : Int, 1 ≤ m ∧ m ≤ 12 ∧ t = .int .i64 m ∧ k < cum y (m + 1)) (fun t => (intOf t).toNat)
  case atStart => exact ⟨12, by omega, by omega, rfl, h13⟩
  case round =>
    obtain ⟨m, hm1, hm2, rfl, hm3⟩ := hrel
    have hcb := cum_bd y m
    by_cases hc : cum y m ≤ k
    · go_wp2_with (go_at_call 48; refine (ahead_any _ _ _ ht (by omega) (by omega)).mono ?_; rintro e w' ⟨rfl, rfl⟩)
      go_ret
      exact ⟨m, hm1, hm2, hc, hm3, rfl, rfl⟩
    · have hne : m ≠ 1 := by rintro rfl; omega
      have hlt : k < cum y (m - 1 + 1) := by have e : m - 1 + 1 = m := by omega
                                             rw [e]; omega
      go_wp2_with (go_at_call 48; refine (ahead_any _ _ _ ht (by omega) (by omega)).mono ?_; rintro e w' ⟨rfl, rfl⟩)
      go_round
      case rel => exact ⟨m - 1, by omega, by omega, rfl, hlt⟩
      case measure => simp [intOf]; omega

theorem rlong_any (y m : Int) (w : World) :
    Calls Tryz.prog 27 #[.int .i64 y, .int .i64 m] w fun e w' => e = .returned (.int .i64 (rdim y m)) ∧ w = w' := by
  by_cases h2 : m = 2
  · subst h2
    cases hl : lpB y
    all_goals
      have HR : Hid (rdim y 2 = if lpB y then 29 else 28) := rfl
      go_enter Tryz.func27, Tryz.ntmps27
      go_wp2_with (go_at_call 40; refine (rleap_any _ _).mono ?_; rintro e w' ⟨rfl, rfl⟩)
      go_ret
      rw [HR.out, hl]
      exact ⟨rfl, rfl⟩
  · have e2 : (m == 2) = false := by simp [h2]
    by_cases h4 : m = 4 ∨ m = 6 ∨ m = 9 ∨ m = 11
    · have HR : Hid (rdim y m = 30) := by show rdim y m = 30; unfold rdim; rw [if_neg h2, if_pos h4]
      rcases h4 with rfl | rfl | rfl | rfl
      all_goals
        clear h2 e2
        go_enter Tryz.func27, Tryz.ntmps27
        go_wp2_with (go_at_call 40; refine (rleap_any _ _).mono ?_; rintro e w' ⟨rfl, rfl⟩)
        go_ret
        rw [HR.out]
        exact ⟨rfl, rfl⟩
    · have HR : Hid (rdim y m = 31) := by show rdim y m = 31; unfold rdim; rw [if_neg h2, if_neg h4]
      have e4 : (m == 4) = false := by simp; omega
      have e6 : (m == 6) = false := by simp; omega
      have e9 : (m == 9) = false := by simp; omega
      have e11 : (m == 11) = false := by simp; omega
      clear h2 h4
      go_enter Tryz.func27, Tryz.ntmps27
      go_wp2_with (go_at_call 40; refine (rleap_any _ _).mono ?_; rintro e w' ⟨rfl, rfl⟩)
      go_ret
      rw [HR.out]
      exact ⟨rfl, rfl⟩

theorem ryear_any (y : Int) (w : World) :
    Calls Tryz.prog 29 #[.int .i64 y] w fun e w' => e = .returned (.int .i64 (365 + lp y)) ∧ w = w' := by
  cases hl : lpB y
  · have HR : Hid (lp y = 0) := lpB_no hl
    go_enter Tryz.func29, Tryz.ntmps29
    go_wp2_with (go_at_call 40; refine (rleap_any _ _).mono ?_; rintro e w' ⟨rfl, rfl⟩)
    go_ret
    rw [HR.out]
    exact ⟨rfl, rfl⟩
  · have HR : Hid (lp y = 1) := lpB_yes hl
    go_enter Tryz.func29, Tryz.ntmps29
    go_wp2_with (go_at_call 40; refine (rleap_any _ _).mono ?_; rintro e w' ⟨rfl, rfl⟩)
    go_ret
    rw [HR.out]
    exact ⟨rfl, rfl⟩
end Go.Proofs.YtddoapenhlkamaaGreatDoor
