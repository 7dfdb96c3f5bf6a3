/- The contracts of civil.yearOf and monthOf and of the reference's Long and year: what each call returns, for days that have a date; nothing in memory changes. -/
import Derived.Test.YtjpppffgebecdaaGreatDoorCivA
import Derived.LoopTactic
namespace Go.Proofs.YtjpppffgebecdaaGreatDoor
open Go.RowKit

theorem yearOf_any (n : Int) (w : World) (h1 : -37243778 ≤ n) (h2 : n ≤ 35805087) :
    Calls Tryz.prog 80 #[.int .i64 n] w fun e w' => e = .returned (.int .i64 (yo n)) ∧ w = w' := by
  have hb := yg_bd n h1 h2
  have HO : Hid (yo n = if ny (yg n + 1) ≤ n then yg n + 1 else yg n) := rfl
  have HG : Hid (yg n = (n + 719528) / 146097 * 400 + (n + 719528) % 146097 / 366) := rfl
  unfold yg at hb
  by_cases hc : ny ((n + 719528) / 146097 * 400 + (n + 719528) % 146097 / 366 + 1) ≤ n
  · go_enter Tryz.func80, Tryz.ntmps80
    go_wp2_with (first
      | (go_at_call 107; refine (split_any _ _ _ (by omega) (by omega) (by omega) (by omega)).mono ?_; rintro e w1 ⟨rfl, rfl⟩)
      | (go_at_call 79; refine (newYear_any _ _ (by omega) (by omega)).mono ?_; rintro e w1 ⟨rfl, rfl⟩))
    go_ret
    rw [HO.out, HG.out, if_pos hc]
    exact ⟨rfl, rfl⟩
  · go_enter Tryz.func80, Tryz.ntmps80
    go_wp2_with (first
      | (go_at_call 107; refine (split_any _ _ _ (by omega) (by omega) (by omega) (by omega)).mono ?_; rintro e w1 ⟨rfl, rfl⟩)
      | (go_at_call 79; refine (newYear_any _ _ (by omega) (by omega)).mono ?_; rintro e w1 ⟨rfl, rfl⟩))
    go_ret
    rw [HO.out, HG.out, if_neg (by omega)]
    exact ⟨rfl, rfl⟩

def SomeMonth (y k : Int) (w : World) (e : Ending) (w' : World) : Prop := ∃ m : Int, 1 ≤ m ∧ m ≤ 12 ∧ cum y m ≤ k ∧ k < cum y (m + 1) ∧ e = .returned (.int .i64 m) ∧ w = w'

theorem monthOf_any (y k : Int) (w : World) (ht : AhAt w) (h1 : 0 ≤ k) (h2 : k < 365 + lp y) (h3 : k ≤ 400) :
    Calls Tryz.prog 81 #[.int .i64 y, .int .i64 k] w (SomeMonth y k w) := by
  have h13 : k < cum y (12 + 1) := by have := cum_13 y; show k < cum y 13; omega
  have c1 : cum y 1 ≤ k := by have := cum_1 y; omega
  clear h2
  go_enter Tryz.func81, Tryz.ntmps81
  go_wp2
  go_loop [5] (fun t => ∃ m : Int, 1 ≤ m ∧ m ≤ 12 ∧ t = .int .i64 m ∧ k < cum y (m + 1)) (fun t => (intOf t).toNat)
  case atStart => exact ⟨12, by omega, by omega, rfl, h13⟩
  case round =>
    obtain ⟨m, hm1, hm2, rfl, hm3⟩ := hrel
    have hcb := cum_bd y m
    by_cases hc : cum y m ≤ k
    · go_wp2_with (go_at_call 82; refine (ahead_any _ _ _ ht (by omega) (by omega)).mono ?_; rintro e w' ⟨rfl, rfl⟩)
      go_ret
      exact ⟨m, hm1, hm2, hc, hm3, rfl, rfl⟩
    · have hne : m ≠ 1 := by rintro rfl; omega
      have hlt : k < cum y (m - 1 + 1) := by have e : m - 1 + 1 = m := by omega
                                             rw [e]; omega
      go_wp2_with (go_at_call 82; refine (ahead_any _ _ _ ht (by omega) (by omega)).mono ?_; rintro e w' ⟨rfl, rfl⟩)
      go_round
      case rel => exact ⟨m - 1, by omega, by omega, rfl, hlt⟩
      case measure => simp [intOf]; omega

end Go.Proofs.YtjpppffgebecdaaGreatDoor
