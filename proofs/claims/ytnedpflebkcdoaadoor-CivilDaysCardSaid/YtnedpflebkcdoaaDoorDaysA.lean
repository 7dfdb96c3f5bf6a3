/- CivilDays' walks: of a date or of none, and of a day that has a date or none. -/
import Derived.Test.YtnedpflebkcdoaaDoorCyclesA
namespace Go.Proofs.YtnedpflebkcdoaaDoor
open Go.RowKit

theorem rdays_is (n y m d : Int) (w : World) (ho : okD y m d) (hd : Hid (dayN y m d = n)) :
    Calls Tryd.prog 17 #[.agg #[.int .i64 y, .int .i64 m, .int .i64 d]] w fun e w' => e = .returned (.int .i64 n) ∧ Below w.heap.size w w' := by
  have := rdays_any y m d w ho
  rwa [hd.out] at this
theorem rof_is (n y m d : Int) (w : World) (ho : okD y m d) (hd : Hid (dayN y m d = n)) :
    Calls Tryd.prog 19 #[.int .i64 n] w fun e w' => e = .returned (.tuple #[.agg #[.int .i64 y, .int .i64 m, .int .i64 d], .bool true]) ∧ Below w.heap.size w w' := by
  have hb := day_bd ho
  have hd' := hd.out
  refine (rof_yes n w (by omega) (by omega)).mono ?_
  rintro e w' ⟨y', m', d', ho', hd2, rfl, k⟩
  obtain ⟨rfl, rfl, rfl⟩ := day_inj ho' ho (hd2.trans hd'.symm)
  exact ⟨rfl, k⟩

set_option maxHeartbeats 1600000 in
theorem days_yy (y m d n k : Int) (y' m' d' : Int) (w : World) (H : Laid2 w) (h : okD y m d) (hk : dayN y m d = k) (h' : okD y' m' d') (hd' : dayN y' m' d' = n) :
    Calls Tryd.prog 4 #[.agg #[.int .i64 y, .int .i64 m, .int .i64 d], .int .i64 n] w fun e w' => e = .returned (.bool true) ∧ Below w.heap.size w w' := by
  have HL := Lib.hid H
  have HO := Lib.hid h
  have HO' := Lib.hid h'
  have HK := Lib.hid hk
  have HD' := Lib.hid hd'
  have D := Lib.hid (Boxed.new w y m d 23)
  clear H h h' hk hd'
  go_enter Tryd.func4, Tryd.ntmps4
  go_wp2_with (first
    | (go_at_call 16; refine (Days_is k _ _ _ _ (HL.out.next D.out.bel).ah HO.out HK).mono ?_; rintro e w1 ⟨rfl, k1⟩
       have D1 := Lib.hid (D.out.next k1)
       have c0 := D1.out.c0
       have c1 := D1.out.c1
       have c2 := D1.out.c2
       clear k1 D)
    | (go_at_call 13; refine (right_yes _ _ _ _ HO.out).mono ?_; rintro e w2 ⟨rfl, k2⟩
       have D2 := Lib.hid (D1.out.next k2)
       clear k2 D1 c0 c1 c2
       have c0 := D2.out.c0
       have c1 := D2.out.c1
       have c2 := D2.out.c2)
    | (go_at_call 17; refine (rdays_is k _ _ _ _ HO.out HK).mono ?_; rintro e w3 ⟨rfl, k3⟩
       have D3 := Lib.hid (D2.out.next k3)
       clear k3 D2 c0 c1 c2
       have D2 := D3
       clear D3)
    | (go_at_call 18; refine (Of_is n y' m' d' _ (HL.out.next D2.out.bel).ah HO'.out HD').mono ?_; rintro e w4 ⟨rfl, k4⟩
       have D4 := Lib.hid (Boxed.make (D2.out.next k4).bel y' m' d' 23)
       clear k4 D2)
    | (go_at_call 19; refine (rof_is n y' m' d' _ HO'.out HD').mono ?_; rintro e w5 ⟨rfl, k5⟩
       have D5 := Lib.hid (D4.out.next k5)
       have lt := D5.out.lt
       have c0 := D5.out.c0
       have c1 := D5.out.c1
       have c2 := D5.out.c2
       have D6 := Lib.hid (D5.out.more (.cells #[.int .i64 y', .int .i64 m', .int .i64 d'] 23))
       clear k5 D4 D5)
    | (go_at_call 14; refine (awake_yes _ (HL.out.next D6.out.bel)).mono ?_; rintro e w6 ⟨rfl, k6⟩
       have D7 := Lib.hid (D6.out.next k6)
       clear k6))
  go_ret
  exact ⟨rfl, D7.out.bel⟩

set_option maxHeartbeats 1600000 in
theorem days_yn (y m d n k : Int) (w : World) (H : Laid2 w) (h : okD y m d) (hk : dayN y m d = k) (h' : n < -37243778 ∨ 35805087 < n) :
    Calls Tryd.prog 4 #[.agg #[.int .i64 y, .int .i64 m, .int .i64 d], .int .i64 n] w fun e w' => e = .returned (.bool true) ∧ Below w.heap.size w w' := by
  have HL := Lib.hid H
  have HO := Lib.hid h
  have HO' := Lib.hid h'
  have HK := Lib.hid hk

  have D := Lib.hid (Boxed.new w y m d 23)
  clear H h h' hk 
  go_enter Tryd.func4, Tryd.ntmps4
  go_wp2_with (first
    | (go_at_call 16; refine (Days_is k _ _ _ _ (HL.out.next D.out.bel).ah HO.out HK).mono ?_; rintro e w1 ⟨rfl, k1⟩
       have D1 := Lib.hid (D.out.next k1)
       have c0 := D1.out.c0
       have c1 := D1.out.c1
       have c2 := D1.out.c2
       clear k1 D)
    | (go_at_call 13; refine (right_yes _ _ _ _ HO.out).mono ?_; rintro e w2 ⟨rfl, k2⟩
       have D2 := Lib.hid (D1.out.next k2)
       clear k2 D1 c0 c1 c2
       have c0 := D2.out.c0
       have c1 := D2.out.c1
       have c2 := D2.out.c2)
    | (go_at_call 17; refine (rdays_is k _ _ _ _ HO.out HK).mono ?_; rintro e w3 ⟨rfl, k3⟩
       have D3 := Lib.hid (D2.out.next k3)
       clear k3 D2 c0 c1 c2
       have D2 := D3
       clear D3)
    | (go_at_call 18; refine (Of_no n _ HO'.out).mono ?_; rintro e w4 ⟨rfl, k4⟩
       have D4 := Lib.hid (Boxed.make (D2.out.next k4).bel 0 0 0 23)
       clear k4 D2)
    | (go_at_call 19; refine (rof_no n _ HO'.out).mono ?_; rintro e w5 ⟨rfl, k5⟩
       have D5 := Lib.hid (D4.out.next k5)
       have lt := D5.out.lt
       have c0 := D5.out.c0
       have c1 := D5.out.c1
       have c2 := D5.out.c2
       have D6 := Lib.hid (D5.out.more (.cells #[.int .i64 0, .int .i64 0, .int .i64 0] 23))
       clear k5 D4 D5)
    | (go_at_call 14; refine (awake_yes _ (HL.out.next D6.out.bel)).mono ?_; rintro e w6 ⟨rfl, k6⟩
       have D7 := Lib.hid (D6.out.next k6)
       clear k6))
  go_ret
  exact ⟨rfl, D7.out.bel⟩

set_option maxHeartbeats 1600000 in
theorem days_ny (y m d n : Int) (y' m' d' : Int) (w : World) (H : Laid2 w) (h : ¬ okD y m d) (h' : okD y' m' d') (hd' : dayN y' m' d' = n) :
    Calls Tryd.prog 4 #[.agg #[.int .i64 y, .int .i64 m, .int .i64 d], .int .i64 n] w fun e w' => e = .returned (.bool true) ∧ Below w.heap.size w w' := by
  have HL := Lib.hid H
  have HO := Lib.hid h
  have HO' := Lib.hid h'

  have HD' := Lib.hid hd'
  have D := Lib.hid (Boxed.new w y m d 23)
  clear H h h'  hd'
  go_enter Tryd.func4, Tryd.ntmps4
  go_wp2_with (first
    | (go_at_call 16; refine (Days_non _ _ _ _ (HL.out.next D.out.bel).ah HO).mono ?_; rintro e w1 ⟨rfl, k1⟩
       have D1 := Lib.hid (D.out.next k1)
       have c0 := D1.out.c0
       have c1 := D1.out.c1
       have c2 := D1.out.c2
       clear k1 D)
    | (go_at_call 13; refine (right_no _ _ _ _ HO.out).mono ?_; rintro e w2 ⟨rfl, k2⟩
       have D2 := Lib.hid (D1.out.next k2)
       clear k2 D1 c0 c1 c2
       have c0 := D2.out.c0
       have c1 := D2.out.c1
       have c2 := D2.out.c2)
    | (go_at_call 18; refine (Of_is n y' m' d' _ (HL.out.next D2.out.bel).ah HO'.out HD').mono ?_; rintro e w4 ⟨rfl, k4⟩
       have D4 := Lib.hid (Boxed.make (D2.out.next k4).bel y' m' d' 23)
       clear k4 D2)
    | (go_at_call 19; refine (rof_is n y' m' d' _ HO'.out HD').mono ?_; rintro e w5 ⟨rfl, k5⟩
       have D5 := Lib.hid (D4.out.next k5)
       have lt := D5.out.lt
       have c0 := D5.out.c0
       have c1 := D5.out.c1
       have c2 := D5.out.c2
       have D6 := Lib.hid (D5.out.more (.cells #[.int .i64 y', .int .i64 m', .int .i64 d'] 23))
       clear k5 D4 D5)
    | (go_at_call 14; refine (awake_yes _ (HL.out.next D6.out.bel)).mono ?_; rintro e w6 ⟨rfl, k6⟩
       have D7 := Lib.hid (D6.out.next k6)
       clear k6))
  go_ret
  exact ⟨rfl, D7.out.bel⟩

set_option maxHeartbeats 1600000 in
theorem days_nn (y m d n : Int) (w : World) (H : Laid2 w) (h : ¬ okD y m d) (h' : n < -37243778 ∨ 35805087 < n) :
    Calls Tryd.prog 4 #[.agg #[.int .i64 y, .int .i64 m, .int .i64 d], .int .i64 n] w fun e w' => e = .returned (.bool true) ∧ Below w.heap.size w w' := by
  have HL := Lib.hid H
  have HO := Lib.hid h
  have HO' := Lib.hid h'


  have D := Lib.hid (Boxed.new w y m d 23)
  clear H h h'  
  go_enter Tryd.func4, Tryd.ntmps4
  go_wp2_with (first
    | (go_at_call 16; refine (Days_non _ _ _ _ (HL.out.next D.out.bel).ah HO).mono ?_; rintro e w1 ⟨rfl, k1⟩
       have D1 := Lib.hid (D.out.next k1)
       have c0 := D1.out.c0
       have c1 := D1.out.c1
       have c2 := D1.out.c2
       clear k1 D)
    | (go_at_call 13; refine (right_no _ _ _ _ HO.out).mono ?_; rintro e w2 ⟨rfl, k2⟩
       have D2 := Lib.hid (D1.out.next k2)
       clear k2 D1 c0 c1 c2
       have c0 := D2.out.c0
       have c1 := D2.out.c1
       have c2 := D2.out.c2)
    | (go_at_call 18; refine (Of_no n _ HO'.out).mono ?_; rintro e w4 ⟨rfl, k4⟩
       have D4 := Lib.hid (Boxed.make (D2.out.next k4).bel 0 0 0 23)
       clear k4 D2)
    | (go_at_call 19; refine (rof_no n _ HO'.out).mono ?_; rintro e w5 ⟨rfl, k5⟩
       have D5 := Lib.hid (D4.out.next k5)
       have lt := D5.out.lt
       have c0 := D5.out.c0
       have c1 := D5.out.c1
       have c2 := D5.out.c2
       have D6 := Lib.hid (D5.out.more (.cells #[.int .i64 0, .int .i64 0, .int .i64 0] 23))
       clear k5 D4 D5)
    | (go_at_call 14; refine (awake_yes _ (HL.out.next D6.out.bel)).mono ?_; rintro e w6 ⟨rfl, k6⟩
       have D7 := Lib.hid (D6.out.next k6)
       clear k6))
  go_ret
  exact ⟨rfl, D7.out.bel⟩

theorem civilDays_walk (y m d n : Int) (w : World) (H : Laid2 w) (_ : -9223372036854775808 ≤ y) (_ : y ≤ 9223372036854775807) (_ : -9223372036854775808 ≤ m) (_ : m ≤ 9223372036854775807) (_ : -9223372036854775808 ≤ d) (_ : d ≤ 9223372036854775807) (_ : -9223372036854775808 ≤ n) (_ : n ≤ 9223372036854775807) :
    Calls Tryd.prog 4 #[.agg #[.int .i64 y, .int .i64 m, .int .i64 d], .int .i64 n] w fun e w' => e = .returned (.bool true) ∧ Below w.heap.size w w' := by
  by_cases h : okD y m d
  · by_cases h' : n < -37243778 ∨ 35805087 < n
    · exact days_yn y m d n _ w H h rfl h'
    · obtain ⟨y', m', d', ho, hd⟩ := date_ex n (by omega) (by omega)
      exact days_yy y m d n _ y' m' d' w H h rfl ho hd
  · by_cases h' : n < -37243778 ∨ 35805087 < n
    · exact days_nn y m d n w H h h'
    · obtain ⟨y', m', d', ho, hd⟩ := date_ex n (by omega) (by omega)
      exact days_ny y m d n y' m' d' w H h ho hd
end Go.Proofs.YtnedpflebkcdoaaDoor
