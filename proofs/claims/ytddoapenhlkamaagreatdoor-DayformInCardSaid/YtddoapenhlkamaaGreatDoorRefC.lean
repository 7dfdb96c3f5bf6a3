/- The contracts of the reference's Days and Of: what each call returns, for every date that there is, and every number; nothing that was in memory changes. -/
import Derived.Test.YtddoapenhlkamaaGreatDoorRefB
namespace Go.Proofs.YtddoapenhlkamaaGreatDoor
open Go.RowKit

set_option maxHeartbeats 800000 in
theorem rdays_any (y m d : Int) (w : World) (h : okD y m d) :
    Calls Tryz.prog 28 #[.agg #[.int .i64 y, .int .i64 m, .int .i64 d]] w fun e w' => e = .returned (.int .i64 (dayN y m d)) ∧ Below w.heap.size w w' := by
  obtain ⟨h1, h2, h3, h4, h5, h6⟩ := h
  have db := dim_bd y m h3 h4
  have HD : Hid (dayN y m d = ny y + cum y m + d - 1) := rfl
  have nb := ny_bd y (by omega) (by omega)
  have C1 := Lib.hid (cum_1 y)
  go_enter Tryz.func28, Tryz.ntmps28
  go_wp2_with (go_at_call 41; refine (start_any _ _ (by omega) (by omega)).mono ?_; rintro e w' ⟨rfl, rfl⟩)
  go_loop [3, 4] (fun n t => ∃ k : Int, 1 ≤ k ∧ k ≤ m ∧ t = .int .i64 k ∧ n = .int .i64 (ny y + cum y k)) (fun _ t => (m - intOf t).toNat)
  case atStart => exact ⟨1, by omega, by omega, rfl, by rw [C1.out, Int.add_zero]⟩
  case round =>
    obtain ⟨k, k1, k2, rfl, rfl⟩ := hrel
    have cb := cum_bd y k
    by_cases hc : k < m
    · have HS := Lib.hid (cum_succ y k)
      have HR := Lib.hid (rdim_dim y k k1 (by omega))
      have rb : 28 ≤ rdim y k ∧ rdim y k ≤ 31 := by rw [HR.out]; exact dim_bd y k k1 (by omega)
      go_wp2_with (go_at_call 27; refine (rlong_any _ _ _).mono ?_; rintro e w' ⟨rfl, rfl⟩)
      go_round
      case rel => exact ⟨k + 1, by omega, by omega, rfl, by rw [HS.out, HR.out, Int.add_assoc]⟩
      case measure => simp [intOf]; omega
    · obtain rfl : k = m := by omega
      go_wp2
      go_ret
      rw [HD.out]
      exact ⟨rfl, (Below.refl _ _).alloc (Nat.le_refl _) _⟩

def SomeRefDate (n : Int) (w : World) (e : Ending) (w' : World) : Prop := ∃ y m d : Int, okD y m d ∧ dayN y m d = n ∧ e = .returned (.tuple #[.agg #[.int .i64 y, .int .i64 m, .int .i64 d], .bool true]) ∧ Below w.heap.size w w'

theorem rof_no (n : Int) (w : World) (h : n < -37243778 ∨ 35805087 < n) :
    Calls Tryz.prog 15 #[.int .i64 n] w fun e w' => e = .returned (.tuple #[.agg #[.int .i64 0, .int .i64 0, .int .i64 0], .bool false]) ∧ Below w.heap.size w w' := by
  rcases h with h | h
  · go_enter Tryz.func15, Tryz.ntmps15
    go_wp2
    exact bodyPost_ret (v := .tuple #[.agg #[.int .i64 0, .int .i64 0, .int .i64 0], .bool false]) (by simp [results, Tryz.results15, go_sem]) rfl ⟨rfl, (Below.refl _ _).alloc (Nat.le_refl _) _⟩
  · have h' : -37243778 ≤ n := by omega
    go_enter Tryz.func15, Tryz.ntmps15
    go_wp2
    exact bodyPost_ret (v := .tuple #[.agg #[.int .i64 0, .int .i64 0, .int .i64 0], .bool false]) (by simp [results, Tryz.results15, go_sem]) rfl ⟨rfl, (Below.refl _ _).alloc (Nat.le_refl _) _⟩

theorem ny_up {y n : Int} (h : ny y ≤ n) (hn : n ≤ 35805087) : y ≤ 100000 := by
  have e2 : ny 100001 = 35805088 := by decide
  by_cases c : y ≤ 100000
  · exact c
  · have := ny_mono 100001 y (by omega); omega
theorem ny_dn {y n : Int} (h : n < ny y + 365 + lp y) (hn : -37243778 ≤ n) : -100000 ≤ y := by
  have e1 : ny (-100000) = -37243778 := by decide
  rw [← ny_succ] at h
  by_cases c : -100000 ≤ y
  · exact c
  · have := ny_mono (y + 1) (-100000) (by omega); omega

set_option maxHeartbeats 1600000 in
theorem rof_yes (n : Int) (w : World) (h1 : -37243778 ≤ n) (h2 : n ≤ 35805087) :
    Calls Tryz.prog 15 #[.int .i64 n] w (SomeRefDate n w) := by
  have N0 : Hid (ny 1970 = 0) := by show ny 1970 = 0; decide
  go_enter Tryz.func15, Tryz.ntmps15
  go_wp2
  go_loop [0, 4] (fun r t => ∃ k a : Int, 1970 ≤ a ∧ a ≤ 200000 ∧ (0 ≤ k ∨ a = 1970) ∧ -40000000 ≤ k ∧ k ≤ 40000000 ∧ (a - 1970) * 146097 + k * 400 = n * 400 ∧ ny a + k = n ∧ r = .int .i64 k ∧ t = .int .i64 a) (fun r _ => (intOf r).toNat)
  case atStart => exact ⟨n, 1970, by omega, by omega, by omega, by omega, by omega, by omega, by rw [N0.out]; omega, rfl, rfl⟩
  case round =>
    obtain ⟨k, a, a1, a2, a3, a4, a5, a6, a7, rfl, rfl⟩ := hrel
    by_cases hc : 146097 ≤ k
    · have HS := Lib.hid (ny_400 a)
      have A7 := Lib.hid a7
      have A6 := Lib.hid a6
      have ab : a ≤ 150000 := by omega
      clear a7 a6
      go_wp2
      go_round
      case rel => exact ⟨k - 146097, a + 400, by omega, by omega, by omega, by omega, by omega, by have := A6.out; omega, by rw [HS.out]; have := A7.out; omega, rfl, rfl⟩
      case measure => simp [intOf]; omega
    · have ab : a ≤ 100400 := by omega
      have A7 := Lib.hid a7
      have A6 := Lib.hid a6
      clear a7 a6
      go_wp2
      go_loop [0, 4] (fun r t => ∃ k a : Int, a ≤ 100400 ∧ -200000 ≤ a ∧ -40000000 ≤ k ∧ k < 146097 ∧ (a - 1970) * 146097 + k * 400 = n * 400 ∧ ny a + k = n ∧ r = .int .i64 k ∧ t = .int .i64 a) (fun r _ => (0 - intOf r).toNat)
      case atStart => exact ⟨k, a, by omega, by omega, by omega, by omega, A6.out, A7.out, rfl, rfl⟩
      case round =>
        clear A6 A7 hc ab a1 a2 a3 a4 a5
        obtain ⟨k, a, a1, a2, a3, a4, a5, a6, rfl, rfl⟩ := hrel
        by_cases hc : k < 0
        · have HS := Lib.hid (ny_400 (a - 400))
          have A6 := Lib.hid a6
          have A5 := Lib.hid a5
          have ab : -150000 ≤ a := by omega
          clear a6 a5
          go_wp2
          go_round
          case rel => exact ⟨k + 146097, a - 400, by omega, by omega, by omega, by omega, by have := A5.out; omega, by
            have h3 := HS.out
            rw [show a - 400 + 400 = a by omega] at h3
            have := A6.out; omega, rfl, rfl⟩
          case measure => simp [intOf]; omega
        · have ab : -101000 ≤ a := by omega
          have A6 := Lib.hid a6
          clear a6 a5
          go_wp2
          go_loop [0, 4] (fun r t => ∃ k a : Int, a ≤ 100000 ∧ -101000 ≤ a ∧ 0 ≤ k ∧ k < 146097 ∧ ny a + k = n ∧ r = .int .i64 k ∧ t = .int .i64 a) (fun r _ => (intOf r).toNat)
          case atStart => exact ⟨k, a, ny_up (n := n) (by have := A6.out; omega) h2, by omega, by omega, by omega, A6.out, rfl, rfl⟩
          case round =>
            clear A6 hc ab a1 a2 a3 a4
            obtain ⟨k, a, a1, a2, a3, a4, a5, rfl, rfl⟩ := hrel
            have lb := lp_bd a
            have A5 := Lib.hid a5
            clear a5
            by_cases hc : 365 + lp a ≤ k
            · have HS := Lib.hid (ny_succ a)
              go_wp2_with (go_at_call 29; refine (ryear_any _ _).mono ?_; rintro e w' ⟨rfl, rfl⟩)
              go_round
              case rel => exact ⟨k - (365 + lp a), a + 1, ny_up (n := n) (by have := A5.out; have := HS.out; omega) h2, by omega, by omega, by omega, by have := A5.out; have := HS.out; omega, rfl, rfl⟩
              case measure => simp [intOf]; omega
            · have yb : -100000 ≤ a := ny_dn (n := n) (by have := A5.out; omega) h1
              have C1 := Lib.hid (cum_1 a)
              have C13 := Lib.hid (cum_13 a)
              go_wp2_with (go_at_call 29; refine (ryear_any _ _).mono ?_; rintro e w' ⟨rfl, rfl⟩)
              go_loop [0, 5] (fun r t => ∃ k m : Int, 1 ≤ m ∧ m ≤ 12 ∧ 0 ≤ k ∧ k ≤ 400 ∧ ny a + cum a m + k = n ∧ n < ny a + cum a 13 ∧ r = .int .i64 k ∧ t = .int .i64 m) (fun _ t => (12 - intOf t).toNat)
              case atStart => exact ⟨k, 1, by omega, by omega, by omega, by omega, by have := A5.out; have := C1.out; omega, by have := A5.out; have := C13.out; omega, rfl, rfl⟩
              case round =>
                clear A5 C13 C1 hc a3 a4
                obtain ⟨k, m, m1, m2, k1, k2, k3, k4, rfl, rfl⟩ := hrel
                have K3 := Lib.hid k3
                have HS := Lib.hid (cum_succ a m)
                have HR := Lib.hid (rdim_dim a m m1 m2)
                have rb : 28 ≤ rdim a m ∧ rdim a m ≤ 31 := by rw [HR.out]; exact dim_bd a m m1 m2
                have M12 : Hid (m = 12 → n < ny a + cum a (m + 1)) := by show m = 12 → _; rintro rfl; exact k4
                clear k3
                by_cases hc : rdim a m ≤ k
                · have hlt : m < 12 := by
                    have h3 := HS.out; have h4 := HR.out; have h5 := K3.out; have h6 := M12.out
                    by_cases hm : m = 12
                    · have := h6 hm; omega
                    · omega
                  have K4 := Lib.hid k4
                  clear k4
                  go_wp2_with (go_at_call 27; refine (rlong_any _ _ _).mono ?_; rintro e w' ⟨rfl, rfl⟩)
                  go_round
                  case rel => exact ⟨k - rdim a m, m + 1, by omega, by omega, by omega, by omega, by have := K3.out; have := HS.out; have := HR.out; omega, K4.out, rfl, rfl⟩
                  case measure => simp [intOf]; omega
                · clear k4
                  go_wp2_with (go_at_call 27; refine (rlong_any _ _ _).mono ?_; rintro e w' ⟨rfl, rfl⟩)
                  have hok : okD a m (k + 1) := ⟨yb, a1, m1, m2, by omega, by rw [← HR.out]; omega⟩
                  have hdn : dayN a m (k + 1) = n := by have := K3.out; unfold dayN; omega
                  exact bodyPost_ret (v := .tuple #[.agg #[.int .i64 a, .int .i64 m, .int .i64 (k + 1)], .bool true]) (by simp [results, Tryz.results15, go_sem]) rfl ⟨a, m, k + 1, hok, hdn, rfl, (Below.refl _ _).alloc (Nat.le_refl _) _⟩
end Go.Proofs.YtddoapenhlkamaaGreatDoor
