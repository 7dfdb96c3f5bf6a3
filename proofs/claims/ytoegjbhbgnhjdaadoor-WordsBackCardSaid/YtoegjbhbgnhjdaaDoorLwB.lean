/- The walk of the law WordsBack: for every number and year it returns true, and nothing that was in memory changes. Written by wip/tools/genwy.py. -/
import Derived.Test.YtoegjbhbgnhjdaaDoorLwF
namespace Go.Proofs.YtoegjbhbgnhjdaaDoor
open Go.RowKit

theorem back_months : ∀ (k : Nat) (p : List UInt8), monthsL[k]? = some p → findL (low (capL p)) monthsL = some k ∧ (capL p).length = 3 := by
  have h : ∀ k : Fin 12, findL (low (capL (monthsL.getD k.val []))) monthsL = some k.val ∧ (capL (monthsL.getD k.val [])).length = 3 := by decide +kernel
  intro k p hp
  have hk := (List.getElem?_eq_some_iff.1 hp).1
  have := h ⟨k, hk⟩
  rwa [List.getD_eq_getElem?_getD, hp] at this
theorem back_weeks : ∀ (k : Nat) (p : List UInt8), weeksL[k]? = some p → findL (low (capL p)) weeksL = some k ∧ (capL p).length = 3 := by
  have h : ∀ k : Fin 7, findL (low (capL (weeksL.getD k.val []))) weeksL = some k.val ∧ (capL (weeksL.getD k.val [])).length = 3 := by decide +kernel
  intro k p hp
  have hk := (List.getElem?_eq_some_iff.1 hp).1
  have := h ⟨k, hk⟩
  rwa [List.getD_eq_getElem?_getD, hp] at this
theorem year_only {s : List UInt8} (f : Int) (h : findL (low s) endsL = some 0) : yearV s f = f ∧ yearE s = 0 := by
  unfold yearV yearE; rw [h]; exact ⟨rfl, rfl⟩
theorem year_max {s : List UInt8} (f : Int) (h : findL (low s) endsL = some 1) : yearV s f = 1048576 ∧ yearE s = 0 := by
  unfold yearV yearE; rw [h]; exact ⟨rfl, rfl⟩

set_option maxHeartbeats 1600000 in
theorem back_low (n : Int) (f : Int) (w : World) (H : LaidX w) (h : n < 0) :
    Calls Tryd.prog 7 #[.int .i64 n, .int .i64 f] w fun e w' => e = .returned (.bool true) ∧ Below w.heap.size w w' := by
  have S0 := Lib.hid (StX.new H)
  have HM : Hid (mnameL n = [] ∧ mnameE n = 10) := Lib.hid (by rw [mnameL, mnameE, if_neg (by omega), if_neg (by omega)]; exact ⟨rfl, rfl⟩)
  have HW : Hid (wnameL n = [] ∧ wnameE n = 10) := Lib.hid (by rw [wnameL, wnameE, if_neg (by omega), if_neg (by omega)]; exact ⟨rfl, rfl⟩)
  have Y1 : Hid (yearV [111, 110, 108, 121] f = f ∧ yearE [111, 110, 108, 121] = 0) := Lib.hid (year_only f (by decide +kernel))
  have Y2 : Hid (yearV [111] f = f ∧ yearE [111] = 0) := Lib.hid (year_only f (by decide +kernel))
  have Y3 : Hid (yearV [109] f = 1048576 ∧ yearE [109] = 0) := Lib.hid (year_max f (by decide +kernel))
  clear H
  go_enter Tryd.func7, Tryd.ntmps7
  go_wp2_with (first
    | (go_at_call 20; refine (mname_is _ [] 10 _ S0.out.x.l HM).mono ?_; rintro e w1 ⟨rfl, k1⟩; have S1 := Lib.hid (S0.out.next k1); clear k1)
    | (go_at_call 21; refine (wname_is _ [] 10 _ S1.out.x HW).mono ?_; rintro e w2 ⟨rfl, k2⟩; have S2 := Lib.hid (S1.out.next k2); clear k2)
    | (go_at_call 18
       first
         | (with_reducible refine (year_is [111, 110, 108, 121] f f 0 _ (by simp) S2.out.x.l Y1).mono ?_
            rintro e w5 ⟨rfl, k5⟩; have S5 := Lib.hid (S2.out.next k5); clear k5)
         | (with_reducible refine (year_is [111] f f 0 _ (by simp) S5.out.x.l Y2).mono ?_
            rintro e w6 ⟨rfl, k6⟩; have S6 := Lib.hid (S5.out.next k6); clear k6)
         | (with_reducible refine (year_is [109] f 1048576 0 _ (by simp) S6.out.x.l Y3).mono ?_
            rintro e w7 ⟨rfl, k7⟩; have S7 := Lib.hid (S6.out.next k7); clear k7))
    | (go_at_call 9; refine (wawake_any _ S7.out.x.l).mono ?_; rintro e w8 ⟨rfl, k8⟩; have S8 := Lib.hid (S7.out.next k8); clear k8))
  go_ret
  exact ⟨rfl, S8.out.k⟩

set_option maxHeartbeats 1600000 in
theorem back_zero  (f : Int) (w : World) (H : LaidX w)  :
    Calls Tryd.prog 7 #[.int .i64 0, .int .i64 f] w fun e w' => e = .returned (.bool true) ∧ Below w.heap.size w w' := by
  have S0 := Lib.hid (StX.new H)
  have HM : Hid (mnameL 0 = [] ∧ mnameE 0 = 10) := Lib.hid (by rw [mnameL, mnameE, if_neg (by omega), if_neg (by omega)]; exact ⟨rfl, rfl⟩)
  obtain ⟨q, hq⟩ : ∃ q, weeksL[0]? = some q := ⟨_, List.getElem?_eq_getElem (show 0 < weeksL.length from by decide)⟩
  obtain ⟨U, hU⟩ : ∃ U, capL q = U := ⟨_, rfl⟩
  have HQ := Lib.hid hq
  have HW : Hid (wnameL 0 = U ∧ wnameE 0 = 0) := Lib.hid (by rw [wnameL, wnameE, if_pos (by omega), if_pos (by omega), show (0 : Int).toNat = 0 by omega, List.getD_eq_getElem?_getD, hq]; exact ⟨hU, rfl⟩)
  have A2 : Hid ((resN (findL (low U) weeksL) 0 : Int) = 0 ∧ (resE (findL (low U) weeksL) : Int) = 0) := Lib.hid (by rw [← hU, (back_weeks 0 q hq).1]; exact ⟨rfl, rfl⟩)
  have U3 : U.length = 3 := by rw [← hU]; exact (back_weeks 0 q hq).2
  have hz2 := wsize U
  rw [U3] at hz2
  have Y1 : Hid (yearV [111, 110, 108, 121] f = f ∧ yearE [111, 110, 108, 121] = 0) := Lib.hid (year_only f (by decide +kernel))
  have Y2 : Hid (yearV [111] f = f ∧ yearE [111] = 0) := Lib.hid (year_only f (by decide +kernel))
  have Y3 : Hid (yearV [109] f = 1048576 ∧ yearE [109] = 0) := Lib.hid (year_max f (by decide +kernel))
  clear H hq hU HQ
  go_enter Tryd.func7, Tryd.ntmps7
  go_wp2_with (first
    | (go_at_call 20; refine (mname_is _ [] 10 _ S0.out.x.l HM).mono ?_; rintro e w1 ⟨rfl, k1⟩; have S1 := Lib.hid (S0.out.next k1); clear k1)
    | (go_at_call 21; refine (wname_is _ U 0 _ S1.out.x HW).mono ?_; rintro e w2 ⟨rfl, k2⟩; have S2 := Lib.hid (S1.out.next k2); clear k2)
    | (go_at_call 12; refine (week_is U 0 0 _ (by omega) S2.out.x A2).mono ?_; rintro e w4 ⟨rfl, k4⟩; have S4 := Lib.hid (S2.out.next k4); clear k4)
    | (go_at_call 18
       first
         | (with_reducible refine (year_is [111, 110, 108, 121] f f 0 _ (by simp) S4.out.x.l Y1).mono ?_
            rintro e w5 ⟨rfl, k5⟩; have S5 := Lib.hid (S4.out.next k5); clear k5)
         | (with_reducible refine (year_is [111] f f 0 _ (by simp) S5.out.x.l Y2).mono ?_
            rintro e w6 ⟨rfl, k6⟩; have S6 := Lib.hid (S5.out.next k6); clear k6)
         | (with_reducible refine (year_is [109] f 1048576 0 _ (by simp) S6.out.x.l Y3).mono ?_
            rintro e w7 ⟨rfl, k7⟩; have S7 := Lib.hid (S6.out.next k7); clear k7))
    | (go_at_call 9; refine (wawake_any _ S7.out.x.l).mono ?_; rintro e w8 ⟨rfl, k8⟩; have S8 := Lib.hid (S7.out.next k8); clear k8))
  go_ret
  exact ⟨rfl, S8.out.k⟩

set_option maxHeartbeats 1600000 in
theorem back_both (j : Nat) (f : Int) (w : World) (H : LaidX w) (h1 : 1 ≤ j) (h2 : j ≤ 6) :
    Calls Tryd.prog 7 #[.int .i64 (j : Int), .int .i64 f] w fun e w' => e = .returned (.bool true) ∧ Below w.heap.size w w' := by
  have S0 := Lib.hid (StX.new H)
  obtain ⟨k, hk⟩ : ∃ k : Nat, j = k + 1 := ⟨j - 1, by omega⟩
  have hk1 : (j : Int) - 1 = (k : Int) := by omega
  have hk2 : k < 12 := by omega
  obtain ⟨p, hp⟩ : ∃ p, monthsL[k]? = some p := ⟨_, List.getElem?_eq_getElem (show k < monthsL.length from hk2)⟩
  obtain ⟨T, hT⟩ : ∃ T, capL p = T := ⟨_, rfl⟩
  have HP := Lib.hid hp
  have HM : Hid (mnameL (j : Int) = T ∧ mnameE (j : Int) = 0) := Lib.hid (by rw [mnameL, mnameE, if_pos (by omega), if_pos (by omega), show ((j : Int) - 1).toNat = k by omega, List.getD_eq_getElem?_getD, hp]; exact ⟨hT, rfl⟩)
  obtain ⟨q, hq⟩ : ∃ q, weeksL[j]? = some q := ⟨_, List.getElem?_eq_getElem (show j < weeksL.length from by simp [weeksL]; omega)⟩
  obtain ⟨U, hU⟩ : ∃ U, capL q = U := ⟨_, rfl⟩
  have HQ := Lib.hid hq
  have HW : Hid (wnameL (j : Int) = U ∧ wnameE (j : Int) = 0) := Lib.hid (by rw [wnameL, wnameE, if_pos (by omega), if_pos (by omega), show ((j : Int) : Int).toNat = j by omega, List.getD_eq_getElem?_getD, hq]; exact ⟨hU, rfl⟩)
  have A1 : Hid ((resN (findL (low T) monthsL) 1 : Int) = (j : Int) ∧ (resE (findL (low T) monthsL) : Int) = 0) := Lib.hid (by rw [← hT, (back_months k p hp).1]; exact ⟨by show ((k + 1 : Nat) : Int) = _; omega, rfl⟩)
  have T3 : T.length = 3 := by rw [← hT]; exact (back_months k p hp).2
  have hz1 := wsize T
  rw [T3] at hz1
  have A2 : Hid ((resN (findL (low U) weeksL) 0 : Int) = (j : Int) ∧ (resE (findL (low U) weeksL) : Int) = 0) := Lib.hid (by rw [← hU, (back_weeks j q hq).1]; exact ⟨rfl, rfl⟩)
  have U3 : U.length = 3 := by rw [← hU]; exact (back_weeks j q hq).2
  have hz2 := wsize U
  rw [U3] at hz2
  have Y1 : Hid (yearV [111, 110, 108, 121] f = f ∧ yearE [111, 110, 108, 121] = 0) := Lib.hid (year_only f (by decide +kernel))
  have Y2 : Hid (yearV [111] f = f ∧ yearE [111] = 0) := Lib.hid (year_only f (by decide +kernel))
  have Y3 : Hid (yearV [109] f = 1048576 ∧ yearE [109] = 0) := Lib.hid (year_max f (by decide +kernel))
  clear H hp hT hk HP hq hU HQ
  go_enter Tryd.func7, Tryd.ntmps7
  go_wp2_with (first
    | (go_at_call 20; refine (mname_is _ T 0 _ S0.out.x.l HM).mono ?_; rintro e w1 ⟨rfl, k1⟩; have S1 := Lib.hid (S0.out.next k1); clear k1)
    | (go_at_call 21; refine (wname_is _ U 0 _ S1.out.x HW).mono ?_; rintro e w2 ⟨rfl, k2⟩; have S2 := Lib.hid (S1.out.next k2); clear k2)
    | (go_at_call 11; refine (month_is T (j : Int) 0 _ (by omega) S2.out.x.l A1).mono ?_; rintro e w3 ⟨rfl, k3⟩; have S3 := Lib.hid (S2.out.next k3); clear k3)
    | (go_at_call 12; refine (week_is U (j : Int) 0 _ (by omega) S3.out.x A2).mono ?_; rintro e w4 ⟨rfl, k4⟩; have S4 := Lib.hid (S3.out.next k4); clear k4)
    | (go_at_call 18
       first
         | (with_reducible refine (year_is [111, 110, 108, 121] f f 0 _ (by simp) S4.out.x.l Y1).mono ?_
            rintro e w5 ⟨rfl, k5⟩; have S5 := Lib.hid (S4.out.next k5); clear k5)
         | (with_reducible refine (year_is [111] f f 0 _ (by simp) S5.out.x.l Y2).mono ?_
            rintro e w6 ⟨rfl, k6⟩; have S6 := Lib.hid (S5.out.next k6); clear k6)
         | (with_reducible refine (year_is [109] f 1048576 0 _ (by simp) S6.out.x.l Y3).mono ?_
            rintro e w7 ⟨rfl, k7⟩; have S7 := Lib.hid (S6.out.next k7); clear k7))
    | (go_at_call 9; refine (wawake_any _ S7.out.x.l).mono ?_; rintro e w8 ⟨rfl, k8⟩; have S8 := Lib.hid (S7.out.next k8); clear k8))
  go_ret
  exact ⟨rfl, S8.out.k⟩

set_option maxHeartbeats 1600000 in
theorem back_month (j : Nat) (f : Int) (w : World) (H : LaidX w) (h1 : 7 ≤ j) (h2 : j ≤ 12) :
    Calls Tryd.prog 7 #[.int .i64 (j : Int), .int .i64 f] w fun e w' => e = .returned (.bool true) ∧ Below w.heap.size w w' := by
  have S0 := Lib.hid (StX.new H)
  obtain ⟨k, hk⟩ : ∃ k : Nat, j = k + 1 := ⟨j - 1, by omega⟩
  have hk1 : (j : Int) - 1 = (k : Int) := by omega
  have hk2 : k < 12 := by omega
  obtain ⟨p, hp⟩ : ∃ p, monthsL[k]? = some p := ⟨_, List.getElem?_eq_getElem (show k < monthsL.length from hk2)⟩
  obtain ⟨T, hT⟩ : ∃ T, capL p = T := ⟨_, rfl⟩
  have HP := Lib.hid hp
  have HM : Hid (mnameL (j : Int) = T ∧ mnameE (j : Int) = 0) := Lib.hid (by rw [mnameL, mnameE, if_pos (by omega), if_pos (by omega), show ((j : Int) - 1).toNat = k by omega, List.getD_eq_getElem?_getD, hp]; exact ⟨hT, rfl⟩)
  have HW : Hid (wnameL (j : Int) = [] ∧ wnameE (j : Int) = 10) := Lib.hid (by rw [wnameL, wnameE, if_neg (by omega), if_neg (by omega)]; exact ⟨rfl, rfl⟩)
  have A1 : Hid ((resN (findL (low T) monthsL) 1 : Int) = (j : Int) ∧ (resE (findL (low T) monthsL) : Int) = 0) := Lib.hid (by rw [← hT, (back_months k p hp).1]; exact ⟨by show ((k + 1 : Nat) : Int) = _; omega, rfl⟩)
  have T3 : T.length = 3 := by rw [← hT]; exact (back_months k p hp).2
  have hz1 := wsize T
  rw [T3] at hz1
  have Y1 : Hid (yearV [111, 110, 108, 121] f = f ∧ yearE [111, 110, 108, 121] = 0) := Lib.hid (year_only f (by decide +kernel))
  have Y2 : Hid (yearV [111] f = f ∧ yearE [111] = 0) := Lib.hid (year_only f (by decide +kernel))
  have Y3 : Hid (yearV [109] f = 1048576 ∧ yearE [109] = 0) := Lib.hid (year_max f (by decide +kernel))
  clear H hp hT hk HP
  go_enter Tryd.func7, Tryd.ntmps7
  go_wp2_with (first
    | (go_at_call 20; refine (mname_is _ T 0 _ S0.out.x.l HM).mono ?_; rintro e w1 ⟨rfl, k1⟩; have S1 := Lib.hid (S0.out.next k1); clear k1)
    | (go_at_call 21; refine (wname_is _ [] 10 _ S1.out.x HW).mono ?_; rintro e w2 ⟨rfl, k2⟩; have S2 := Lib.hid (S1.out.next k2); clear k2)
    | (go_at_call 11; refine (month_is T (j : Int) 0 _ (by omega) S2.out.x.l A1).mono ?_; rintro e w3 ⟨rfl, k3⟩; have S3 := Lib.hid (S2.out.next k3); clear k3)
    | (go_at_call 18
       first
         | (with_reducible refine (year_is [111, 110, 108, 121] f f 0 _ (by simp) S3.out.x.l Y1).mono ?_
            rintro e w5 ⟨rfl, k5⟩; have S5 := Lib.hid (S3.out.next k5); clear k5)
         | (with_reducible refine (year_is [111] f f 0 _ (by simp) S5.out.x.l Y2).mono ?_
            rintro e w6 ⟨rfl, k6⟩; have S6 := Lib.hid (S5.out.next k6); clear k6)
         | (with_reducible refine (year_is [109] f 1048576 0 _ (by simp) S6.out.x.l Y3).mono ?_
            rintro e w7 ⟨rfl, k7⟩; have S7 := Lib.hid (S6.out.next k7); clear k7))
    | (go_at_call 9; refine (wawake_any _ S7.out.x.l).mono ?_; rintro e w8 ⟨rfl, k8⟩; have S8 := Lib.hid (S7.out.next k8); clear k8))
  go_ret
  exact ⟨rfl, S8.out.k⟩

set_option maxHeartbeats 1600000 in
theorem back_high (n : Int) (f : Int) (w : World) (H : LaidX w) (h : 12 < n) :
    Calls Tryd.prog 7 #[.int .i64 n, .int .i64 f] w fun e w' => e = .returned (.bool true) ∧ Below w.heap.size w w' := by
  have S0 := Lib.hid (StX.new H)
  have HM : Hid (mnameL n = [] ∧ mnameE n = 10) := Lib.hid (by rw [mnameL, mnameE, if_neg (by omega), if_neg (by omega)]; exact ⟨rfl, rfl⟩)
  have HW : Hid (wnameL n = [] ∧ wnameE n = 10) := Lib.hid (by rw [wnameL, wnameE, if_neg (by omega), if_neg (by omega)]; exact ⟨rfl, rfl⟩)
  have Y1 : Hid (yearV [111, 110, 108, 121] f = f ∧ yearE [111, 110, 108, 121] = 0) := Lib.hid (year_only f (by decide +kernel))
  have Y2 : Hid (yearV [111] f = f ∧ yearE [111] = 0) := Lib.hid (year_only f (by decide +kernel))
  have Y3 : Hid (yearV [109] f = 1048576 ∧ yearE [109] = 0) := Lib.hid (year_max f (by decide +kernel))
  clear H
  go_enter Tryd.func7, Tryd.ntmps7
  go_wp2_with (first
    | (go_at_call 20; refine (mname_is _ [] 10 _ S0.out.x.l HM).mono ?_; rintro e w1 ⟨rfl, k1⟩; have S1 := Lib.hid (S0.out.next k1); clear k1)
    | (go_at_call 21; refine (wname_is _ [] 10 _ S1.out.x HW).mono ?_; rintro e w2 ⟨rfl, k2⟩; have S2 := Lib.hid (S1.out.next k2); clear k2)
    | (go_at_call 18
       first
         | (with_reducible refine (year_is [111, 110, 108, 121] f f 0 _ (by simp) S2.out.x.l Y1).mono ?_
            rintro e w5 ⟨rfl, k5⟩; have S5 := Lib.hid (S2.out.next k5); clear k5)
         | (with_reducible refine (year_is [111] f f 0 _ (by simp) S5.out.x.l Y2).mono ?_
            rintro e w6 ⟨rfl, k6⟩; have S6 := Lib.hid (S5.out.next k6); clear k6)
         | (with_reducible refine (year_is [109] f 1048576 0 _ (by simp) S6.out.x.l Y3).mono ?_
            rintro e w7 ⟨rfl, k7⟩; have S7 := Lib.hid (S6.out.next k7); clear k7))
    | (go_at_call 9; refine (wawake_any _ S7.out.x.l).mono ?_; rintro e w8 ⟨rfl, k8⟩; have S8 := Lib.hid (S7.out.next k8); clear k8))
  go_ret
  exact ⟨rfl, S8.out.k⟩

theorem wordsBack_walk (n f : Int) (w : World) (H : LaidX w) (_ : -9223372036854775808 ≤ n) (_ : n ≤ 9223372036854775807) (_ : -9223372036854775808 ≤ f) (_ : f ≤ 9223372036854775807) :
    Calls Tryd.prog 7 #[.int .i64 n, .int .i64 f] w fun e w' => e = .returned (.bool true) ∧ Below w.heap.size w w' := by
  by_cases h0 : n < 0
  · exact back_low n f w H h0
  · by_cases h1 : n = 0
    · subst h1; exact back_zero f w H
    · obtain ⟨j, rfl⟩ : ∃ j : Nat, n = (j : Int) := ⟨n.toNat, by omega⟩
      by_cases h6 : j ≤ 6
      · exact back_both j f w H (by omega) h6
      · by_cases h12 : j ≤ 12
        · exact back_month j f w H (by omega) h12
        · exact back_high (j : Int) f w H (by omega)
end Go.Proofs.YtoegjbhbgnhjdaaDoor
