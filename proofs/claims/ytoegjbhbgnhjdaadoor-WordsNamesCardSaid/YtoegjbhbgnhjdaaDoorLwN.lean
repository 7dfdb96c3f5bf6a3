/- The walk of the law WordsNames: for every number it returns true, and nothing that was in memory changes. Written by wip/tools/genwy.py. -/
import Derived.Test.YtoegjbhbgnhjdaaDoorLwF
namespace Go.Proofs.YtoegjbhbgnhjdaaDoor
open Go.RowKit

set_option maxHeartbeats 1600000 in
theorem names_low (n : Int) (w : World) (H : LaidX w) (h : n < 0) :
    Calls Tryd.prog 5 #[.int .i64 n] w fun e w' => e = .returned (.bool true) ∧ Below w.heap.size w w' := by
  have S0 := Lib.hid (StX.new H)
  have HM : Hid (mnameL n = [] ∧ mnameE n = 10) := Lib.hid (by rw [mnameL, mnameE, if_neg (by omega), if_neg (by omega)]; exact ⟨rfl, rfl⟩)
  have HW : Hid (wnameL n = [] ∧ wnameE n = 10) := Lib.hid (by rw [wnameL, wnameE, if_neg (by omega), if_neg (by omega)]; exact ⟨rfl, rfl⟩)
  clear H
  go_enter Tryd.func5, Tryd.ntmps5
  go_wp2_with (first
    | (go_at_call 20; refine (mname_is _ [] 10 _ S0.out.x.l HM).mono ?_; rintro e w1 ⟨rfl, k1⟩; have S1 := Lib.hid (S0.out.next k1); clear k1)
    | (go_at_call 21; refine (wname_is _ [] 10 _ S1.out.x HW).mono ?_; rintro e w2 ⟨rfl, k2⟩; have S2 := Lib.hid (S1.out.next k2); clear k2)
    | (go_at_call 9; refine (wawake_any _ S2.out.x.l).mono ?_; rintro e w7 ⟨rfl, k7⟩; have S7 := Lib.hid (S2.out.next k7); clear k7))
  go_ret
  exact ⟨rfl, S7.out.k⟩

set_option maxHeartbeats 1600000 in
theorem names_zero  (w : World) (H : LaidX w)  :
    Calls Tryd.prog 5 #[.int .i64 0] w fun e w' => e = .returned (.bool true) ∧ Below w.heap.size w w' := by
  have S0 := Lib.hid (StX.new H)
  have HM : Hid (mnameL 0 = [] ∧ mnameE 0 = 10) := Lib.hid (by rw [mnameL, mnameE, if_neg (by omega), if_neg (by omega)]; exact ⟨rfl, rfl⟩)
  obtain ⟨q, hq⟩ : ∃ q, weeksL[0]? = some q := ⟨_, List.getElem?_eq_getElem (show 0 < weeksL.length from by decide)⟩
  obtain ⟨U, hU⟩ : ∃ U, capL q = U := ⟨_, rfl⟩
  have HQ := Lib.hid hq
  have HW : Hid (wnameL 0 = U ∧ wnameE 0 = 0) := Lib.hid (by rw [wnameL, wnameE, if_pos (by omega), if_pos (by omega), show (0 : Int).toNat = 0 by omega, List.getD_eq_getElem?_getD, hq]; exact ⟨hU, rfl⟩)
  have R2 : Hid (∀ W : World, Calls Tryd.prog 22 #[.string ⟨q.toArray⟩] W fun e w' => e = .returned (.string ⟨U.toArray⟩) ∧ Below W.heap.size W w') := Lib.hid fun W => hU ▸ rname_any q W (weeks_nm q (List.mem_of_getElem? hq))
  clear H hq hU
  go_enter Tryd.func5, Tryd.ntmps5
  go_wp2_with (first
    | (go_at_call 20; refine (mname_is _ [] 10 _ S0.out.x.l HM).mono ?_; rintro e w1 ⟨rfl, k1⟩; have S1 := Lib.hid (S0.out.next k1); clear k1)
    | (go_at_call 21; refine (wname_is _ U 0 _ S1.out.x HW).mono ?_; rintro e w2 ⟨rfl, k2⟩; have S2 := Lib.hid (S1.out.next k2); clear k2)
    | (go_at_call 17; refine (rweeks_any _).mono ?_; rintro e w5 ⟨L2, rfl, _, l2, k5⟩; have S5 := Lib.hid (S2.out.next k5); have hc2 := l2.cell 0 q HQ.out; have hl2 := l2.lt; clear k5 l2)
    | (go_at_call 22
       first
         | (with_reducible refine (R2.out _).mono ?_
            rintro e w6 ⟨rfl, k6⟩; have S6 := Lib.hid (S5.out.next k6); clear k6))
    | (go_at_call 9; refine (wawake_any _ S6.out.x.l).mono ?_; rintro e w7 ⟨rfl, k7⟩; have S7 := Lib.hid (S6.out.next k7); clear k7))
  go_ret
  exact ⟨rfl, S7.out.k⟩

set_option maxHeartbeats 1600000 in
theorem names_both (j : Nat) (w : World) (H : LaidX w) (h1 : 1 ≤ j) (h2 : j ≤ 6) :
    Calls Tryd.prog 5 #[.int .i64 (j : Int)] w fun e w' => e = .returned (.bool true) ∧ Below w.heap.size w w' := by
  have S0 := Lib.hid (StX.new H)
  obtain ⟨k, hk⟩ : ∃ k : Nat, j = k + 1 := ⟨j - 1, by omega⟩
  have hk1 : (j : Int) - 1 = (k : Int) := by omega
  have hk2 : k < 12 := by omega
  obtain ⟨p, hp⟩ : ∃ p, monthsL[k]? = some p := ⟨_, List.getElem?_eq_getElem (show k < monthsL.length from hk2)⟩
  obtain ⟨T, hT⟩ : ∃ T, capL p = T := ⟨_, rfl⟩
  have HP := Lib.hid hp
  have HM : Hid (mnameL (j : Int) = T ∧ mnameE (j : Int) = 0) := Lib.hid (by rw [mnameL, mnameE, if_pos (by omega), if_pos (by omega), show ((j : Int) - 1).toNat = k by omega, List.getD_eq_getElem?_getD, hp]; exact ⟨hT, rfl⟩)
  obtain ⟨q, hq⟩ : ∃ q, weeksL[j]? = some q := ⟨_, List.getElem?_eq_getElem (show j < weeksL.length from by simp [weeksL]; omega)⟩
  obtain ⟨U, hU⟩ : ∃ U, capL q = U := ⟨_, rfl⟩
  have HQ := Lib.hid hq
  have HW : Hid (wnameL (j : Int) = U ∧ wnameE (j : Int) = 0) := Lib.hid (by rw [wnameL, wnameE, if_pos (by omega), if_pos (by omega), show ((j : Int) : Int).toNat = j by omega, List.getD_eq_getElem?_getD, hq]; exact ⟨hU, rfl⟩)
  have R1 : Hid (∀ W : World, Calls Tryd.prog 22 #[.string ⟨p.toArray⟩] W fun e w' => e = .returned (.string ⟨T.toArray⟩) ∧ Below W.heap.size W w') := Lib.hid fun W => hT ▸ rname_any p W (months_nm p (List.mem_of_getElem? hp))
  have R2 : Hid (∀ W : World, Calls Tryd.prog 22 #[.string ⟨q.toArray⟩] W fun e w' => e = .returned (.string ⟨U.toArray⟩) ∧ Below W.heap.size W w') := Lib.hid fun W => hU ▸ rname_any q W (weeks_nm q (List.mem_of_getElem? hq))
  clear H hp hT hk hq hU
  go_enter Tryd.func5, Tryd.ntmps5
  go_wp2_with (first
    | (go_at_call 20; refine (mname_is _ T 0 _ S0.out.x.l HM).mono ?_; rintro e w1 ⟨rfl, k1⟩; have S1 := Lib.hid (S0.out.next k1); clear k1)
    | (go_at_call 21; refine (wname_is _ U 0 _ S1.out.x HW).mono ?_; rintro e w2 ⟨rfl, k2⟩; have S2 := Lib.hid (S1.out.next k2); clear k2)
    | (go_at_call 16; refine (rmonths_any _).mono ?_; rintro e w3 ⟨L1, rfl, _, l1, k3⟩; have S3 := Lib.hid (S2.out.next k3); have hc1 := l1.cell k p HP.out; have hl1 := l1.lt; clear k3 l1)
    | (go_at_call 17; refine (rweeks_any _).mono ?_; rintro e w5 ⟨L2, rfl, _, l2, k5⟩; have S5 := Lib.hid (S4.out.next k5); have hc2 := l2.cell j q HQ.out; have hl2 := l2.lt; clear k5 l2)
    | (go_at_call 22
       first
         | (with_reducible refine (R1.out _).mono ?_
            rintro e w4 ⟨rfl, k4⟩; have S4 := Lib.hid (S3.out.next k4); clear k4)
         | (with_reducible refine (R2.out _).mono ?_
            rintro e w6 ⟨rfl, k6⟩; have S6 := Lib.hid (S5.out.next k6); clear k6))
    | (go_at_call 9; refine (wawake_any _ S6.out.x.l).mono ?_; rintro e w7 ⟨rfl, k7⟩; have S7 := Lib.hid (S6.out.next k7); clear k7))
  go_ret
  exact ⟨rfl, S7.out.k⟩

set_option maxHeartbeats 1600000 in
theorem names_month (j : Nat) (w : World) (H : LaidX w) (h1 : 7 ≤ j) (h2 : j ≤ 12) :
    Calls Tryd.prog 5 #[.int .i64 (j : Int)] w fun e w' => e = .returned (.bool true) ∧ Below w.heap.size w w' := by
  have S0 := Lib.hid (StX.new H)
  obtain ⟨k, hk⟩ : ∃ k : Nat, j = k + 1 := ⟨j - 1, by omega⟩
  have hk1 : (j : Int) - 1 = (k : Int) := by omega
  have hk2 : k < 12 := by omega
  obtain ⟨p, hp⟩ : ∃ p, monthsL[k]? = some p := ⟨_, List.getElem?_eq_getElem (show k < monthsL.length from hk2)⟩
  obtain ⟨T, hT⟩ : ∃ T, capL p = T := ⟨_, rfl⟩
  have HP := Lib.hid hp
  have HM : Hid (mnameL (j : Int) = T ∧ mnameE (j : Int) = 0) := Lib.hid (by rw [mnameL, mnameE, if_pos (by omega), if_pos (by omega), show ((j : Int) - 1).toNat = k by omega, List.getD_eq_getElem?_getD, hp]; exact ⟨hT, rfl⟩)
  have HW : Hid (wnameL (j : Int) = [] ∧ wnameE (j : Int) = 10) := Lib.hid (by rw [wnameL, wnameE, if_neg (by omega), if_neg (by omega)]; exact ⟨rfl, rfl⟩)
  have R1 : Hid (∀ W : World, Calls Tryd.prog 22 #[.string ⟨p.toArray⟩] W fun e w' => e = .returned (.string ⟨T.toArray⟩) ∧ Below W.heap.size W w') := Lib.hid fun W => hT ▸ rname_any p W (months_nm p (List.mem_of_getElem? hp))
  clear H hp hT hk
  go_enter Tryd.func5, Tryd.ntmps5
  go_wp2_with (first
    | (go_at_call 20; refine (mname_is _ T 0 _ S0.out.x.l HM).mono ?_; rintro e w1 ⟨rfl, k1⟩; have S1 := Lib.hid (S0.out.next k1); clear k1)
    | (go_at_call 21; refine (wname_is _ [] 10 _ S1.out.x HW).mono ?_; rintro e w2 ⟨rfl, k2⟩; have S2 := Lib.hid (S1.out.next k2); clear k2)
    | (go_at_call 16; refine (rmonths_any _).mono ?_; rintro e w3 ⟨L1, rfl, _, l1, k3⟩; have S3 := Lib.hid (S2.out.next k3); have hc1 := l1.cell k p HP.out; have hl1 := l1.lt; clear k3 l1)
    | (go_at_call 22
       first
         | (with_reducible refine (R1.out _).mono ?_
            rintro e w4 ⟨rfl, k4⟩; have S4 := Lib.hid (S3.out.next k4); clear k4))
    | (go_at_call 9; refine (wawake_any _ S4.out.x.l).mono ?_; rintro e w7 ⟨rfl, k7⟩; have S7 := Lib.hid (S4.out.next k7); clear k7))
  go_ret
  exact ⟨rfl, S7.out.k⟩

set_option maxHeartbeats 1600000 in
theorem names_high (n : Int) (w : World) (H : LaidX w) (h : 12 < n) :
    Calls Tryd.prog 5 #[.int .i64 n] w fun e w' => e = .returned (.bool true) ∧ Below w.heap.size w w' := by
  have S0 := Lib.hid (StX.new H)
  have HM : Hid (mnameL n = [] ∧ mnameE n = 10) := Lib.hid (by rw [mnameL, mnameE, if_neg (by omega), if_neg (by omega)]; exact ⟨rfl, rfl⟩)
  have HW : Hid (wnameL n = [] ∧ wnameE n = 10) := Lib.hid (by rw [wnameL, wnameE, if_neg (by omega), if_neg (by omega)]; exact ⟨rfl, rfl⟩)
  clear H
  go_enter Tryd.func5, Tryd.ntmps5
  go_wp2_with (first
    | (go_at_call 20; refine (mname_is _ [] 10 _ S0.out.x.l HM).mono ?_; rintro e w1 ⟨rfl, k1⟩; have S1 := Lib.hid (S0.out.next k1); clear k1)
    | (go_at_call 21; refine (wname_is _ [] 10 _ S1.out.x HW).mono ?_; rintro e w2 ⟨rfl, k2⟩; have S2 := Lib.hid (S1.out.next k2); clear k2)
    | (go_at_call 9; refine (wawake_any _ S2.out.x.l).mono ?_; rintro e w7 ⟨rfl, k7⟩; have S7 := Lib.hid (S2.out.next k7); clear k7))
  go_ret
  exact ⟨rfl, S7.out.k⟩

theorem wordsNames_walk (n : Int) (w : World) (H : LaidX w) (_ : -9223372036854775808 ≤ n) (_ : n ≤ 9223372036854775807) :
    Calls Tryd.prog 5 #[.int .i64 n] w fun e w' => e = .returned (.bool true) ∧ Below w.heap.size w w' := by
  by_cases h0 : n < 0
  · exact names_low n w H h0
  · by_cases h1 : n = 0
    · subst h1; exact names_zero w H
    · obtain ⟨j, rfl⟩ : ∃ j : Nat, n = (j : Int) := ⟨n.toNat, by omega⟩
      by_cases h6 : j ≤ 6
      · exact names_both j w H (by omega) h6
      · by_cases h12 : j ≤ 12
        · exact names_month j w H (by omega) h12
        · exact names_high (j : Int) w H (by omega)
end Go.Proofs.YtoegjbhbgnhjdaaDoor
