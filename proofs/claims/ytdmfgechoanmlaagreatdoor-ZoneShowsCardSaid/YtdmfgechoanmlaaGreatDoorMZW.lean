/- The contracts of the document's answer's leap, Long, week and Days; nothing that was in memory changes.
The contract of the document's answer's Day: the day that a day of a month is, or that there is none; nothing that was in memory changes.
The contract of the document's answer's Letter; nothing that was in memory changes. -/
import Derived.Test.YtdmfgechoanmlaaGreatDoorMZE
import Derived.Test.YtdmfgechoanmlaaGreatDoorMZB
import Derived.Deep.QuietTactic
import Derived.BigQuiet
import Derived.Test.YtdmfgechoanmlaaGreatDoorMZF
namespace Go.Proofs.YtdmfgechoanmlaaGreatDoor
open Go Go.RowKit

theorem xleap_any (y : Int) (w : World) :
    Calls Tryz.prog 89 #[.int .i64 y] w fun e w' => e = .returned (.bool (lpB y)) ∧ w = w' := by
  rcases leap_cases y with ⟨h, h1, h2⟩ | ⟨h, h1, h2, h3⟩ | ⟨h, h1, h2, h3⟩ | ⟨h, h1, h3⟩
  all_goals
    have H := Lib.hid h
    clear h
    go_enter Tryz.func89, Tryz.ntmps89
    go_wp2
    go_ret
    rw [H.out]
    exact ⟨rfl, rfl⟩

theorem wk_t (a : Int) : ∃ t : Int, (a + 4).tmod 7 = t ∧ -6 ≤ t ∧ t ≤ 6 ∧ (t + 7).tmod 7 = wkD a := by
  refine ⟨_, rfl, ?_, ?_, ?_⟩
  · rw [Int.tmod_eq_emod]; split <;> omega
  · rw [Int.tmod_eq_emod]; split <;> omega
  · have h : (a + 4).tmod 7 = (a + 4) % 7 ∨ (a + 4).tmod 7 = (a + 4) % 7 - 7 ∧ (a + 4) % 7 ≠ 0 := by
      rw [Int.tmod_eq_emod]
      split
      · exact .inl (by omega)
      · exact .inr ⟨rfl, by omega⟩
    rw [Int.tmod_eq_emod_of_nonneg (by omega)]
    unfold wkD
    omega
theorem xweek_any (a : Int) (w : World) (h1 : -50000000 ≤ a) (h2 : a ≤ 50000000) :
    Calls Tryz.prog 69 #[.int .i64 a] w fun e w' => e = .returned (.int .i64 (wkD a)) ∧ w = w' := by
  obtain ⟨t, t1, t2, t3, t4⟩ := wk_t a
  go_enter Tryz.func69, Tryz.ntmps69
  go_wp2
  go_ret
  exact ⟨rfl, rfl⟩

set_option maxHeartbeats 1600000 in
theorem xlong_is (y m : Int) (w : World) (h1 : 1 ≤ m) (h2 : m ≤ 12) :
    Calls Tryz.prog 68 #[.int .i64 y, .int .i64 m] w fun e w' => e = .returned (.int .i64 (dim y m)) ∧ Below w.heap.size w w' := by
  rw [← rdim_dim y m h1 h2]
  have X := Lib.hid (BlkN.make (Below.refl w.heap.size w) #[.int .i64 31, .int .i64 28, .int .i64 31, .int .i64 30, .int .i64 31, .int .i64 30, .int .i64 31, .int .i64 31, .int .i64 30, .int .i64 31, .int .i64 30, .int .i64 31] 3)
  have c0 := X.out.cell 0
  have c1 := X.out.cell 1
  have c2 := X.out.cell 2
  have c3 := X.out.cell 3
  have c4 := X.out.cell 4
  have c5 := X.out.cell 5
  have c6 := X.out.cell 6
  have c7 := X.out.cell 7
  have c8 := X.out.cell 8
  have c9 := X.out.cell 9
  have c10 := X.out.cell 10
  have c11 := X.out.cell 11
  obtain rfl | rfl | rfl | rfl | rfl | rfl | rfl | rfl | rfl | rfl | rfl | rfl : m = 1 ∨ m = 2 ∨ m = 3 ∨ m = 4 ∨ m = 5 ∨ m = 6 ∨ m = 7 ∨ m = 8 ∨ m = 9 ∨ m = 10 ∨ m = 11 ∨ m = 12 := by omega
  rotate_left
  · cases hl : lpB y
    all_goals
      have HR : Hid (rdim y 2 = if lpB y then 29 else 28) := rfl
      go_enter Tryz.func68, Tryz.ntmps68
      go_wp2_with (go_at_call 89; refine (xleap_any _ _).mono ?_; rintro e w' ⟨rfl, rfl⟩)
      go_ret
      rw [HR.out, hl]
      exact ⟨rfl, X.out.bel⟩
  all_goals
    go_enter Tryz.func68, Tryz.ntmps68
    go_wp2
    go_ret
    exact ⟨rfl, X.out.bel⟩

theorem ny_70 : ny 1970 = 0 := by decide
set_option maxHeartbeats 1600000 in
theorem xdays_is (y m : Int) (w : World) (hy1 : -90000 ≤ y) (hy2 : y ≤ 90000) (h1 : 1 ≤ m) (h2 : m ≤ 12) :
    Calls Tryz.prog 67 #[.int .i64 y, .int .i64 m] w fun e w' => e = .returned (.int .i64 (ny y + cum y m)) ∧ Below w.heap.size w w' := by
  have C1 := Lib.hid (cum_1 y)
  have N7 := Lib.hid ny_70
  have ynb := ny_bd y (by omega) (by omega)
  go_enter Tryz.func67, Tryz.ntmps67
  go_wp2
  go_loop [5, 6] (fun n t => ∃ a : Int, 1970 ≤ a ∧ (a ≤ y ∨ a = 1970) ∧ t = .int .i64 a ∧ n = .int .i64 (ny a)) (fun _ t => (y - intOf t).toNat)
  case atStart => exact ⟨1970, by omega, by omega, rfl, by rw [N7.out]⟩
  case round =>
    obtain ⟨a, a1, a2, rfl, rfl⟩ := hrel
    have nb := ny_bd a (by omega) (by omega)
    by_cases hc : a < y
    · have HS := Lib.hid (ny_succ a)
      cases hl : lpB a
      · have l0 := Lib.hid (lpB_no hl)
        go_wp2_with (go_at_call 89; refine (xleap_any _ _).mono ?_; rintro e w' ⟨rfl, rfl⟩; rw [hl])
        go_round
        case rel => exact ⟨a + 1, by omega, by omega, rfl, by rw [HS.out, l0.out]; exact congrArg _ (by omega)⟩
        case measure => simp [intOf]; omega
      · have l0 := Lib.hid (lpB_yes hl)
        go_wp2_with (go_at_call 89; refine (xleap_any _ _).mono ?_; rintro e w' ⟨rfl, rfl⟩; rw [hl])
        go_round
        case rel => exact ⟨a + 1, by omega, by omega, rfl, by rw [HS.out, l0.out]⟩
        case measure => simp [intOf]; omega
    · go_wp2
      go_loop [5, 7] (fun n t => ∃ b c : Int, y ≤ b ∧ (b = y ∨ b ≤ 1970) ∧ ((1970 ≤ b ∧ c = ny y) ∨ (b ≤ 1970 ∧ c = ny y - ny b)) ∧ t = .int .i64 b ∧ n = .int .i64 c) (fun _ t => (1970 - intOf t).toNat)
      case atStart => exact ⟨y, ny a, by omega, .inl rfl, by
        have := N7.out
        by_cases h : 1970 ≤ y
        · obtain rfl : a = y := by omega
          exact .inl ⟨h, rfl⟩
        · obtain rfl : a = 1970 := by omega
          exact .inr ⟨by omega, by omega⟩, rfl, rfl⟩
      case round =>
        clear hc a1 a2 nb
        obtain ⟨b, c, b1, b2, b3, rfl, rfl⟩ := hrel
        have nb := ny_bd b (by omega) (by omega)
        by_cases hc : b < 1970
        · have HS := Lib.hid (ny_succ b)
          have hcc : c = ny y - ny b := by omega
          have C := Lib.hid hcc
          have cb : -90000000 ≤ c ∧ c ≤ 90000000 := by omega
          clear hcc b3
          cases hl : lpB b
          · have l0 := Lib.hid (lpB_no hl)
            go_wp2_with (go_at_call 89; refine (xleap_any _ _).mono ?_; rintro e w' ⟨rfl, rfl⟩; rw [hl])
            go_round
            case rel => exact ⟨b + 1, c - 365, by omega, by omega, .inr ⟨by omega, by have := C.out; have := HS.out; have := l0.out; omega⟩, rfl, rfl⟩
            case measure => simp [intOf]; omega
          · have l0 := Lib.hid (lpB_yes hl)
            go_wp2_with (go_at_call 89; refine (xleap_any _ _).mono ?_; rintro e w' ⟨rfl, rfl⟩; rw [hl])
            go_round
            case rel => exact ⟨b + 1, c - 365 - 1, by omega, by omega, .inr ⟨by omega, by have := C.out; have := HS.out; have := l0.out; omega⟩, rfl, rfl⟩
            case measure => simp [intOf]; omega
        · have hcc : c = ny y := by
            rcases b3 with ⟨_, h⟩ | ⟨h0, h⟩
            · exact h
            · obtain rfl : b = 1970 := by omega
              have := N7.out
              omega
          subst hcc
          clear b3 nb
          go_wp2
          go_loopw [5, 8] (fun n t wr => ∃ k : Int, 1 ≤ k ∧ k ≤ m ∧ t = .int .i64 k ∧ n = .int .i64 (ny y + cum y k) ∧ Below w.heap.size w wr) (fun _ t _ => (m - intOf t).toNat)
          case atStart => exact ⟨1, by omega, by omega, rfl, by rw [C1.out, Int.add_zero], Below.refl _ _⟩
          case round =>
            obtain ⟨k, k1, k2, rfl, rfl, kb⟩ := hrel
            have KB := Lib.hid kb
            clear kb
            have cb := cum_bd y k
            by_cases hc2 : k < m
            · have HS := Lib.hid (cum_succ y k)
              have db := dim_bd y k k1 (by omega)
              go_wp2_with (go_at_call 68; refine (xlong_is _ _ _ k1 (by omega)).mono ?_; rintro e w' ⟨rfl, kl⟩)
              go_round
              case rel => exact ⟨k + 1, by omega, by omega, rfl, by rw [HS.out, Int.add_assoc], bthen KB.out kl⟩
              case measure => simp [intOf]; omega
            · obtain rfl : k = m := by omega
              go_wp2
              go_ret
              exact ⟨rfl, KB.out⟩
end Go.Proofs.YtdmfgechoanmlaaGreatDoor

namespace Go.Proofs.YtdmfgechoanmlaaGreatDoor
open Go Go.RowKit

theorem BlkN.drewN {w W : World} {g : Nat} {C : Array Value} {t : TypeId} (h : BlkN w g C t W) (n : Nat) : BlkN w g C t (W.drewN n) := ⟨below_drewN h.bel n, h.ge, h.blk⟩
theorem xweek_quiet (a : Int) (w : World) (h1 : -50000000 ≤ a) (h2 : a ≤ 50000000) : Calls Tryz.prog 69 #[.int .i64 a] w fun e w' => e = .returned (.int .i64 (wkD a)) ∧ w' = w := (xweek_any a w h1 h2).mono fun _ _ h => ⟨h.1, h.2.symm⟩
theorem at_eq (k n y m : Int) : atD k n y m = if k = 1 then ny y + cum y m + dim y m - 1 else ny y + cum y m + n - 1 := by unfold atD dayN; split <;> omega
theorem hit_near {k wk : Int} (a : Int) (hk : k ≠ 0) (h0 : 0 ≤ wk) (h6 : wk ≤ 6) : wkD (hitD k wk a) = wk ∧ (k = 2 → a ≤ hitD k wk a ∧ hitD k wk a ≤ a + 6) ∧ (k ≠ 2 → hitD k wk a ≤ a ∧ a ≤ hitD k wk a + 6) := by
  unfold hitD
  rw [if_neg hk]
  split
  · next h => exact ⟨(up_spec a wk h0 h6).1, fun _ => (up_spec a wk h0 h6).2, fun h' => absurd h h'⟩
  · next h => exact ⟨(dn_spec a wk h0 h6).1, fun h' => absurd h' h, fun _ => (dn_spec a wk h0 h6).2⟩

set_option maxRecDepth 20000 in
set_option maxHeartbeats 2000000 in
/-- There is none. -/
theorem xday_no (k wk n y m : Int) (w : World) (hy1 : -90000 ≤ y) (hy2 : y ≤ 90000) (h1 : 1 ≤ m) (h2 : m ≤ 12) (hd : dfD k wk n) (hn : dim y m < n) :
    Calls Tryz.prog 50 #[.agg #[.int .i64 k, .int .i64 wk, .int .i64 n], .int .i64 y, .int .i64 m] w fun e w' => e = .returned (.tuple #[.int .i64 0, .bool false]) ∧ Below w.heap.size w w' := by
  have X0 := Lib.hid (BlkN.make (Below.refl w.heap.size w) #[.int .i64 k, .int .i64 wk, .int .i64 n] 48)
  have DY := Lib.hid fun W => xdays_is y m W hy1 hy2 h1 h2
  have LG := Lib.hid fun W => xlong_is y m W h1 h2
  have db := dim_bd y m h1 h2
  have hk : (k != 1) = true := by unfold dfD at hd; simp; omega
  have e1 : ¬ n < 1 := by omega
  generalize dim y m = g at *
  have e2 : n > g := hn
  clear hd hn
  go_enter Tryz.func50, Tryz.ntmps50
  repeat (first
    | (go_at_call 67; (with_reducible refine (DY.out _).mono ?_); (rintro e w1 ⟨rfl, k1⟩); have X1 := Lib.hid (X0.out.next k1); clear k1; simp only [])
    | (go_at_call 68; (with_reducible refine (LG.out _).mono ?_); (rintro e w2 ⟨rfl, k2⟩); have X2 := Lib.hid (X1.out.next k2); (obtain ⟨c0, c1, c2⟩ := cel3 X2.out.blk); clear k2; simp only [])
    | go_values | go_skip | go_guarded | go_step | go_upon | go_back)
  go_ret2
  exact ⟨rfl, X2.out.bel⟩

set_option maxRecDepth 20000 in
set_option maxHeartbeats 4000000 in
theorem xday_yes (k wk n y m T : Int) (w : World) (hy1 : -90000 ≤ y) (hy2 : y ≤ 90000) (h1 : 1 ≤ m) (h2 : m ≤ 12) (hd : dfD k wk n) (hn : n ≤ dim y m) (hT : tgtD k wk n y m = T) :
    Calls Tryz.prog 50 #[.agg #[.int .i64 k, .int .i64 wk, .int .i64 n], .int .i64 y, .int .i64 m] w fun e w' => e = .returned (.tuple #[.int .i64 T, .bool true]) ∧ Below w.heap.size w w' := by
  have X0 := Lib.hid (BlkN.make (Below.refl w.heap.size w) #[.int .i64 k, .int .i64 wk, .int .i64 n] 48)
  have DY := Lib.hid fun W => xdays_is y m W hy1 hy2 h1 h2
  have LG := Lib.hid fun W => xlong_is y m W h1 h2
  have db := dim_bd y m h1 h2
  have nb := ny_bd y (by omega) (by omega)
  have cb := cum_bd y m
  unfold tgtD at hT
  rw [at_eq] at hT
  generalize dim y m = g at *
  generalize hF : ny y + cum y m = F at *
  have Fb : -41000000 ≤ F ∧ F ≤ 41000000 := by omega
  clear nb cb hF
  have hw : 0 ≤ wk ∧ wk ≤ 6 := by unfold dfD at hd; omega
  obtain ⟨w0, w6⟩ := hw
  by_cases hk0 : k = 0
  · subst hk0
    have e1 : ¬ n < 1 := by unfold dfD at hd; omega
    have e2 : ¬ n > g := by omega
    rw [hit_zero, if_neg (by decide)] at hT
    subst hT
    clear hd hn
    go_enter Tryz.func50, Tryz.ntmps50
    repeat (first
      | (go_at_call 67; (with_reducible refine (DY.out _).mono ?_); (rintro e w1 ⟨rfl, k1⟩); have X1 := Lib.hid (X0.out.next k1); clear k1; simp only [])
      | (go_at_call 68; (with_reducible refine (LG.out _).mono ?_); (rintro e w2 ⟨rfl, k2⟩); have X2 := Lib.hid (X1.out.next k2); (obtain ⟨c0, c1, c2⟩ := cel3 X2.out.blk); clear k2; simp only [])
      | go_values | go_skip | go_guarded | go_step | go_upon | go_back)
    go_ret2
    exact ⟨rfl, X2.out.bel⟩
  · have HN := Lib.hid (fun a => hit_near (k := k) (wk := wk) a hk0 w0 w6)
    have HX := Lib.hid (fun a s hs hq => hit_next (k := k) (wk := wk) (a := a) (s := s) hk0 w0 w6 hs hq)
    have nb := HN.out (if k = 1 then F + g - 1 else F + n - 1)
    rw [hT] at nb
    have Tb : -42000000 ≤ T ∧ T ≤ 42000000 := by
      unfold dfD at hd
      by_cases h2 : k = 2
      · have := nb.2.1 h2
        rw [if_neg (by omega)] at this
        omega
      · have := nb.2.2 h2
        split at this <;> omega
    have WT := Lib.hid nb.1
    clear nb
    have HT := Lib.hid hT
    clear hT
    have hk3 : (k = 1 ∧ n = 0) ∨ (k = 2 ∧ 1 ≤ n ∧ n ≤ 31) ∨ (k = 3 ∧ 1 ≤ n ∧ n ≤ 31) := by unfold dfD at hd; omega
    clear hd
    rcases hk3 with ⟨rfl, rfl⟩ | ⟨rfl, n1, n2⟩ | ⟨rfl, n1, n2⟩
    · have HS := Lib.hid HT.out
      rw [if_pos rfl] at HS
      clear HT
      go_enter Tryz.func50, Tryz.ntmps50
      repeat (first
        | (go_at_call 67; (with_reducible refine (DY.out _).mono ?_); (rintro e w1 ⟨rfl, k1⟩); have X1 := Lib.hid (X0.out.next k1); clear k1; simp only [])
        | (go_at_call 68; (with_reducible refine (LG.out _).mono ?_); (rintro e w2 ⟨rfl, k2⟩); have X2 := Lib.hid (X1.out.next k2); (obtain ⟨c0, c1, c2⟩ := cel3 X2.out.blk); clear k2; simp only [])
        | go_values | go_skip | go_guarded | go_step | go_upon | go_back)
      clear c0 c1 c2 X0 X1
      go_loopw [10] (fun v wr => ∃ a : Int, v = .int .i64 a ∧ hitD 1 wk a = T ∧ BlkN w w.heap.size #[.int .i64 1, .int .i64 wk, .int .i64 0] 48 wr) (fun v _ => (T - intOf v).natAbs)
      case atStart => exact ⟨F + g - 1, rfl, HS.out, X2.out⟩
      case round =>
        clear X2
        obtain ⟨a, rfl, ha, hX⟩ := hrel
        have HA := Lib.hid ha
        have X := Lib.hid hX
        obtain ⟨c0, c1, c2⟩ := cel3 hX.blk
        have nb := (HN.out a).2.2 (by decide)
        rw [ha] at nb
        clear ha hX
        have a4 : IntKind.i64.wrap (a + 4) = a + 4 := IntWalk.i64_in _ (by omega)
        by_cases hs : wkD a = wk
        · have hq : (wkD a != wk) = false := by simp [hs]
          have HE := Lib.hid ((hit_same (k := 1) hs).symm.trans HA.out)
          clear hs
          go_wp2
          go_quiet ((go_at_call 69; exact Calls.quiet_of_same (xweek_quiet _ _ (by omega) (by omega))))
          go_wp2
          go_ret2
          rw [HE.out]
          exact ⟨rfl, (X.out.drewN _).bel⟩
        · have hq : (wkD a != wk) = true := by simp [hs]
          have HE := Lib.hid ((HX.out a (-1) (by decide) hs).trans HA.out)
          have hne : a ≠ T := fun h => hs (h ▸ WT.out)
          clear hs
          go_wp2
          go_quiet ((go_at_call 69; exact Calls.quiet_of_same (xweek_quiet _ _ (by omega) (by omega))))
          go_wp2
          go_round
          case rel => exact ⟨a - 1, rfl, HE.out, X.out.drewN _⟩
          case measure => simp [intOf]; omega
    · have HS := Lib.hid HT.out
      rw [if_neg (by decide)] at HS
      have e1 : ¬ n < 1 := by omega
      have e2 : ¬ n > g := by omega
      clear HT
      go_enter Tryz.func50, Tryz.ntmps50
      repeat (first
        | (go_at_call 67; (with_reducible refine (DY.out _).mono ?_); (rintro e w1 ⟨rfl, k1⟩); have X1 := Lib.hid (X0.out.next k1); clear k1; simp only [])
        | (go_at_call 68; (with_reducible refine (LG.out _).mono ?_); (rintro e w2 ⟨rfl, k2⟩); have X2 := Lib.hid (X1.out.next k2); (obtain ⟨c0, c1, c2⟩ := cel3 X2.out.blk); clear k2; simp only [])
        | go_values | go_skip | go_guarded | go_step | go_upon | go_back)
      clear c0 c1 c2 X0 X1 e1 e2
      go_loopw [10] (fun v wr => ∃ a : Int, v = .int .i64 a ∧ hitD 2 wk a = T ∧ BlkN w w.heap.size #[.int .i64 2, .int .i64 wk, .int .i64 n] 48 wr) (fun v _ => (T - intOf v).natAbs)
      case atStart => exact ⟨F + n - 1, rfl, HS.out, X2.out⟩
      case round =>
        clear X2
        obtain ⟨a, rfl, ha, hX⟩ := hrel
        have HA := Lib.hid ha
        have X := Lib.hid hX
        obtain ⟨c0, c1, c2⟩ := cel3 hX.blk
        have nb := (HN.out a).2.1 rfl
        rw [ha] at nb
        clear ha hX
        have a4 : IntKind.i64.wrap (a + 4) = a + 4 := IntWalk.i64_in _ (by omega)
        by_cases hs : wkD a = wk
        · have hq : (wkD a != wk) = false := by simp [hs]
          have HE := Lib.hid ((hit_same (k := 2) hs).symm.trans HA.out)
          clear hs
          go_wp2
          go_quiet ((go_at_call 69; exact Calls.quiet_of_same (xweek_quiet _ _ (by omega) (by omega))))
          go_wp2
          go_ret2
          rw [HE.out]
          exact ⟨rfl, (X.out.drewN _).bel⟩
        · have hq : (wkD a != wk) = true := by simp [hs]
          have HE := Lib.hid ((HX.out a (1) (by decide) hs).trans HA.out)
          have hne : a ≠ T := fun h => hs (h ▸ WT.out)
          clear hs
          go_wp2
          go_quiet ((go_at_call 69; exact Calls.quiet_of_same (xweek_quiet _ _ (by omega) (by omega))))
          go_wp2
          go_round
          case rel => exact ⟨a + 1, rfl, HE.out, X.out.drewN _⟩
          case measure => simp [intOf]; omega
    · have HS := Lib.hid HT.out
      rw [if_neg (by decide)] at HS
      have e1 : ¬ n < 1 := by omega
      have e2 : ¬ n > g := by omega
      clear HT
      go_enter Tryz.func50, Tryz.ntmps50
      repeat (first
        | (go_at_call 67; (with_reducible refine (DY.out _).mono ?_); (rintro e w1 ⟨rfl, k1⟩); have X1 := Lib.hid (X0.out.next k1); clear k1; simp only [])
        | (go_at_call 68; (with_reducible refine (LG.out _).mono ?_); (rintro e w2 ⟨rfl, k2⟩); have X2 := Lib.hid (X1.out.next k2); (obtain ⟨c0, c1, c2⟩ := cel3 X2.out.blk); clear k2; simp only [])
        | go_values | go_skip | go_guarded | go_step | go_upon | go_back)
      clear c0 c1 c2 X0 X1 e1 e2
      go_loopw [10] (fun v wr => ∃ a : Int, v = .int .i64 a ∧ hitD 3 wk a = T ∧ BlkN w w.heap.size #[.int .i64 3, .int .i64 wk, .int .i64 n] 48 wr) (fun v _ => (T - intOf v).natAbs)
      case atStart => exact ⟨F + n - 1, rfl, HS.out, X2.out⟩
      case round =>
        clear X2
        obtain ⟨a, rfl, ha, hX⟩ := hrel
        have HA := Lib.hid ha
        have X := Lib.hid hX
        obtain ⟨c0, c1, c2⟩ := cel3 hX.blk
        have nb := (HN.out a).2.2 (by decide)
        rw [ha] at nb
        clear ha hX
        have a4 : IntKind.i64.wrap (a + 4) = a + 4 := IntWalk.i64_in _ (by omega)
        by_cases hs : wkD a = wk
        · have hq : (wkD a != wk) = false := by simp [hs]
          have HE := Lib.hid ((hit_same (k := 3) hs).symm.trans HA.out)
          clear hs
          go_wp2
          go_quiet ((go_at_call 69; exact Calls.quiet_of_same (xweek_quiet _ _ (by omega) (by omega))))
          go_wp2
          go_ret2
          rw [HE.out]
          exact ⟨rfl, (X.out.drewN _).bel⟩
        · have hq : (wkD a != wk) = true := by simp [hs]
          have HE := Lib.hid ((HX.out a (-1) (by decide) hs).trans HA.out)
          have hne : a ≠ T := fun h => hs (h ▸ WT.out)
          clear hs
          go_wp2
          go_quiet ((go_at_call 69; exact Calls.quiet_of_same (xweek_quiet _ _ (by omega) (by omega))))
          go_wp2
          go_round
          case rel => exact ⟨a - 1, rfl, HE.out, X.out.drewN _⟩
          case measure => simp [intOf]; omega
end Go.Proofs.YtdmfgechoanmlaaGreatDoor

namespace Go.Proofs.YtdmfgechoanmlaaGreatDoor
open Go Go.RowKit

def bLt (r q : RV) : Prop := r.fr < q.fr ∨ r.fr = q.fr ∧ r.mo < q.mo
instance (r q : RV) : Decidable (bLt r q) := by unfold bLt; infer_instance
/-- The best rule of the first ones, and its place. -/
def bst (rs : List RV) : Nat → Option (Nat × RV)
  | 0 => none
  | i + 1 => match rs[i]? with
    | none => bst rs i
    | some r => if r.sv = 0 then (match bst rs i with
        | none => some (i, r)
        | some (k, q) => if bLt r q then some (i, r) else some (k, q)) else bst rs i
def ltrL (rs : List RV) (n : Nat) : List UInt8 := match bst rs n with
  | none => []
  | some (_, q) => q.lt
section
variable {rs : List RV} {i k : Nat} {r q : RV}
theorem bst_no (h : rs[i]? = some r) (h0 : r.sv ≠ 0) : bst rs (i + 1) = bst rs i := by rw [bst, h]; simp [h0]
theorem bst_new (h : rs[i]? = some r) (h0 : r.sv = 0) (hb : bst rs i = none) : bst rs (i + 1) = some (i, r) := by rw [bst, h]; simp [h0, hb]
theorem bst_yes (h : rs[i]? = some r) (h0 : r.sv = 0) (hb : bst rs i = some (k, q)) (hl : bLt r q) : bst rs (i + 1) = some (i, r) := by rw [bst, h]; simp [h0, hb, hl]
theorem bst_old (h : rs[i]? = some r) (h0 : r.sv = 0) (hb : bst rs i = some (k, q)) (hl : ¬ bLt r q) : bst rs (i + 1) = some (k, q) := by rw [bst, h]; simp [h0, hb, hl]
end
theorem bst_is {rs : List RV} {n k : Nat} {q : RV} (h : bst rs n = some (k, q)) : k < n ∧ rs[k]? = some q := by
  induction n with
  | zero => cases h
  | succ i ih =>
    have old (h : bst rs i = some (k, q)) : k < i + 1 ∧ rs[k]? = some q := ⟨Nat.lt_succ_of_lt (ih h).1, (ih h).2⟩
    cases hr : rs[i]? with
    | none => exact old (by rw [bst, hr] at h; exact h)
    | some r =>
      by_cases h0 : r.sv = 0
      · cases hb : bst rs i with
        | none => rw [bst_new hr h0 hb] at h; cases h; exact ⟨Nat.lt_succ_self _, hr⟩
        | some p =>
          obtain ⟨k', q'⟩ := p
          by_cases hl : bLt r q'
          · rw [bst_yes hr h0 hb hl] at h; cases h; exact ⟨Nat.lt_succ_self _, hr⟩
          · rw [bst_old hr h0 hb hl] at h; exact old (by rw [hb]; exact h)
      · rw [bst_no hr h0] at h; exact old h
def bstV : Option (Nat × RV) → Value
  | none => .int .i64 (-1)
  | some (k, _) => .int .i64 (k : Int)

set_option maxRecDepth 20000 in
set_option maxHeartbeats 8000000 in
theorem xletter_is (A0 : Option Addr) (n c0 : Nat) (rs : List RV) (w : World) (hR : RowsAt 11 cR A0 rs w) (hn : rs.length = n) (hn1 : n ≤ 1000) :
    Calls Tryz.prog 58 #[.slice A0 n c0] w fun e w' => e = .returned (.string ⟨(ltrL rs n).toArray⟩) ∧ Below w.heap.size w w' := by
  have HR := Lib.hid hR
  have HN := Lib.hid hn
  have X0 := Lib.hid (Below.refl w.heap.size w)
  clear hR hn
  go_enter Tryz.func58, Tryz.ntmps58
  go_wp2
  go_loopw [3, 4] (fun v vi wr => ∃ i : Nat, vi = .int .i64 i ∧ i ≤ n ∧ v = bstV (bst rs i) ∧ Below w.heap.size w wr) (fun _ vi _ => n - (intOf vi).toNat)
  case atStart => exact ⟨0, rfl, Nat.zero_le _, rfl, X0.out⟩
  case round =>
    clear X0
    obtain ⟨i, rfl, i1, rfl, hX⟩ := hrel
    have X := Lib.hid hX
    clear hX
    by_cases hlt : i < n
    · have hii : (i : Int) < (n : Int) := by omega
      obtain ⟨r, hr⟩ : ∃ r, rs[i]? = some r := ⟨_, List.getElem?_eq_getElem (by rw [HN.out]; exact hlt)⟩
      obtain ⟨L, off, rfl, hrul⟩ := rul_at HR.out hr
      obtain ⟨r0, r1, r2, r3, r4, r5, r6, r7, r8, r9, r10⟩ := (hrul.next X.out).cells
      have HRI := Lib.hid hr
      clear hr hrul
      by_cases h0 : r.sv = 0
      · have z0 : (r.sv != 0) = false := by simp [h0]
        have H0 := Lib.hid h0
        clear h0
        cases hb : bst rs i with
        | none =>
          have HB := Lib.hid (bst_new HRI.out H0.out hb)
          clear hb
          unfold bstV
          go_wp2
          go_quiet (fail)
          go_wp2
          go_round
          case rel => exact ⟨i + 1, rfl, by omega, by rw [HB.out], below_drewN X.out _⟩
          case measure => simp [intOf]; omega
        | some p =>
          obtain ⟨k, q⟩ := p
          obtain ⟨hk, hq⟩ := bst_is hb
          obtain ⟨L', off', e, hq2⟩ := rul_at HR.out hq
          cases e
          obtain ⟨q0, q1, q2, q3, q4, q5, q6, q7, q8, q9, q10⟩ := (hq2.next X.out).cells
          have hkk : (k : Int) < (n : Int) := by omega
          have hk0 : decide ((k : Int) < 0) = false := by simp
          have HB0 := Lib.hid hb
          have HY := Lib.hid (bst_yes HRI.out H0.out hb)
          have HO := Lib.hid (bst_old HRI.out H0.out hb)
          clear hb hq hq2
          unfold bstV
          by_cases c1 : r.fr < q.fr
          · have HB := Lib.hid (HY.out (.inl c1))
            go_wp2
            go_quiet (fail)
            go_wp2
            go_round
            case rel => exact ⟨i + 1, rfl, by omega, by rw [HB.out], below_drewN X.out _⟩
            case measure => simp [intOf]; omega
          · have d1 : decide (r.fr < q.fr) = false := by simp; omega
            by_cases c2 : r.fr = q.fr
            · have d2 : (r.fr == q.fr) = true := by simp [c2]
              by_cases c3 : r.mo < q.mo
              · have HB := Lib.hid (HY.out (.inr ⟨c2, c3⟩))
                clear c1 c2
                go_wp2
                go_quiet (fail)
                go_wp2
                go_round
                case rel => exact ⟨i + 1, rfl, by omega, by rw [HB.out], below_drewN X.out _⟩
                case measure => simp [intOf]; omega
              · have d3 : decide (r.mo < q.mo) = false := by simp; omega
                have HB := Lib.hid (HO.out (fun h => by unfold bLt at h; omega))
                clear c1 c2 c3
                go_wp2
                go_quiet (fail)
                go_wp2
                go_round
                case rel => exact ⟨i + 1, rfl, by omega, by rw [HB.out], below_drewN X.out _⟩
                case measure => simp [intOf]; omega
            · have d2 : (r.fr == q.fr) = false := by simp [c2]
              have HB := Lib.hid (HO.out (fun h => by unfold bLt at h; omega))
              clear c1 c2
              go_wp2
              go_quiet (fail)
              go_wp2
              go_round
              case rel => exact ⟨i + 1, rfl, by omega, by rw [HB.out], below_drewN X.out _⟩
              case measure => simp [intOf]; omega
      · have z0 : (r.sv != 0) = true := by simp [h0]
        have HB := Lib.hid (bst_no HRI.out h0)
        clear h0
        go_wp2
        go_round
        case rel => exact ⟨i + 1, rfl, by omega, by rw [HB.out], X.out⟩
        case measure => simp [intOf]; omega
    · obtain rfl : i = n := by omega
      have HL : Hid (ltrL rs i = match bst rs i with | none => [] | some (_, q) => q.lt) := Lib.hid rfl
      cases hb : bst rs i with
      | none =>
        rw [hb] at HL
        unfold bstV
        go_wp2
        go_ret
        rw [HL.out]
        exact ⟨rfl, X.out⟩
      | some p =>
        obtain ⟨k, q⟩ := p
        obtain ⟨hk, hq⟩ := bst_is hb
        obtain ⟨L, off, rfl, hq2⟩ := rul_at HR.out hq
        obtain ⟨q0, q1, q2, q3, q4, q5, q6, q7, q8, q9, q10⟩ := (hq2.next X.out).cells
        have hkk : (k : Int) < (i : Int) := by omega
        have hk0 : decide ((k : Int) < 0) = false := by simp
        rw [hb] at HL
        clear hb hq hq2
        unfold bstV
        go_wp2
        go_ret
        rw [HL.out]
        exact ⟨rfl, X.out⟩
end Go.Proofs.YtdmfgechoanmlaaGreatDoor
