/- The contracts of the reference's Next, Start and Days: what each call returns, for every date that there is; nothing that was in memory changes. -/
import Derived.Test.YtddoapenhlkamaaGreatDoorRefA
namespace Go.Proofs.YtddoapenhlkamaaGreatDoor
open Go.RowKit

theorem lp_bd (y : Int) : 0 ≤ lp y ∧ lp y ≤ 1 := by have := lp_01 y; omega
theorem long_quiet (y m : Int) (w : World) : Calls Tryz.prog 27 #[.int .i64 y, .int .i64 m] w fun e w' => e = .returned (.int .i64 (rdim y m)) ∧ w' = w := (rlong_any y m w).mono fun _ _ h => ⟨h.1, h.2.symm⟩

def NextTo (y m d : Int) (w : World) (e : Ending) (w' : World) : Prop := e = .returned (.agg #[.int .i64 y, .int .i64 m, .int .i64 d]) ∧ Below w.heap.size w w'

set_option maxHeartbeats 800000 in
theorem start_any (y : Int) (w : World) (h1 : -100000 ≤ y) (h2 : y ≤ 100000) :
    Calls Tryz.prog 41 #[.int .i64 y] w fun e w' => e = .returned (.int .i64 (ny y)) ∧ w = w' := by
  have s0 : Value.int .i64 0 = .int .i64 (ny 1970) := congrArg _ (by decide)
  have S0 := Lib.hid s0
  clear s0
  go_enter Tryz.func41, Tryz.ntmps41
  go_wp2
  go_loop [3, 4] (fun n t => ∃ a : Int, 1970 ≤ a ∧ (a ≤ y ∨ a = 1970) ∧ t = .int .i64 a ∧ n = .int .i64 (ny a)) (fun _ t => (y - intOf t).toNat)
  case atStart => exact ⟨1970, by omega, by omega, rfl, S0.out⟩
  case round =>
    obtain ⟨a, a1, a2, rfl, rfl⟩ := hrel
    have nb := ny_bd a (by omega) (by omega)
    by_cases hc : a + 400 ≤ y
    · have HS := Lib.hid (ny_400 a)
      go_wp2
      go_round
      case rel => exact ⟨a + 400, by omega, by omega, rfl, by rw [HS.out]⟩
      case measure => simp [intOf]; omega
    · go_wp2
      go_loop [3, 4] (fun n t => ∃ a : Int, a ≤ 100000 ∧ (y ≤ a ∨ y - 400 < a) ∧ -100000 ≤ a ∧ t = .int .i64 a ∧ n = .int .i64 (ny a)) (fun _ t => (intOf t - y + 400).toNat)
      case atStart => exact ⟨a, by omega, by omega, by omega, rfl, rfl⟩
      case round =>
        clear hc a1 a2 nb
        obtain ⟨a, a1, a2, a3, rfl, rfl⟩ := hrel
        have nb := ny_bd a (by omega) (by omega)
        by_cases hc : y ≤ a - 400
        · have HS := Lib.hid (ny_400 (a - 400))
          go_wp2
          go_round
          case rel => exact ⟨a - 400, by omega, by omega, by omega, rfl, by
            have := HS.out
            rw [show a - 400 + 400 = a by omega] at this
            rw [this]; exact congrArg _ (by omega)⟩
          case measure => simp [intOf]; omega
        · go_wp2
          go_loop [3, 4] (fun n t => ∃ a : Int, -100000 ≤ a ∧ a ≤ 100000 ∧ t = .int .i64 a ∧ n = .int .i64 (ny a)) (fun _ t => (y - intOf t).toNat)
          case atStart => exact ⟨a, by omega, by omega, rfl, rfl⟩
          case round =>
            clear hc a1 a2 a3 nb
            obtain ⟨a, a1, a2, rfl, rfl⟩ := hrel
            have nb := ny_bd a (by omega) (by omega)
            have lb := lp_bd a
            by_cases hc : a < y
            · have HS := Lib.hid (ny_succ a)
              go_wp2_with (go_at_call 29; refine (ryear_any _ _).mono ?_; rintro e w' ⟨rfl, rfl⟩)
              go_round
              case rel => exact ⟨a + 1, by omega, by omega, rfl, by rw [HS.out]; exact congrArg _ (by omega)⟩
              case measure => simp [intOf]; omega
            · go_wp2
              go_loop [3, 4] (fun n t => ∃ a : Int, y ≤ a ∧ a ≤ 100000 ∧ t = .int .i64 a ∧ n = .int .i64 (ny a)) (fun _ t => (intOf t - y).toNat)
              case atStart => exact ⟨a, by omega, by omega, rfl, rfl⟩
              case round =>
                clear hc a1 a2 nb lb
                obtain ⟨a, a1, a2, rfl, rfl⟩ := hrel
                have nb := ny_bd a (by omega) (by omega)
                have lb := lp_bd (a - 1)
                by_cases hc : y < a
                · have HS := Lib.hid (ny_succ (a - 1))
                  go_wp2_with (go_at_call 29; refine (ryear_any _ _).mono ?_; rintro e w' ⟨rfl, rfl⟩)
                  go_round
                  case rel => exact ⟨a - 1, by omega, by omega, rfl, by
                    have := HS.out
                    rw [show a - 1 + 1 = a by omega] at this
                    rw [this]; exact congrArg _ (by omega)⟩
                  case measure => simp [intOf]; omega
                · obtain rfl : a = y := by omega
                  go_wp2
                  go_ret
                  exact ⟨rfl, rfl⟩
end Go.Proofs.YtddoapenhlkamaaGreatDoor
