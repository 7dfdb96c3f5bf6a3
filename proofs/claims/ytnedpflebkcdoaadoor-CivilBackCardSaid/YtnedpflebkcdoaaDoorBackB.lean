/- CivilBack's walks: of the last day, and of any other day that has a date. -/
import Derived.Test.YtnedpflebkcdoaaDoorBackA
namespace Go.Proofs.YtnedpflebkcdoaaDoor
open Go.RowKit

set_option maxHeartbeats 1600000 in
theorem back_last (w : World) (H : Laid2 w) :
    Calls Tryd.prog 6 #[.int .i64 35805087] w fun e w' => e = .returned (.bool true) ∧ Below w.heap.size w w' := by
  have HL := Lib.hid H
  have HO : Hid (okD 100000 12 31) := by show okD 100000 12 31; unfold okD; decide
  have HD : Hid (dayN 100000 12 31 = 35805087) := by show dayN 100000 12 31 = 35805087; decide
  clear H
  go_enter Tryd.func6, Tryd.ntmps6
  go_wp2_with (first
    | (go_at_call 18; ((with_reducible refine (Of_is 35805087 100000 12 31 _ HL.out.ah HO.out HD).mono ?_)); rintro e w1 ⟨rfl, k1⟩
       have D1 := Lib.hid (Boxed.make k1 100000 12 31 23)
       clear k1)
    | (go_at_call 16; refine (Days_is 35805087 _ _ _ _ (HL.out.next D1.out.bel).ah HO.out HD).mono ?_; rintro e w2 ⟨rfl, k2⟩
       have D2 := Lib.hid (D1.out.next k2)
       clear k2 D1)
    | (go_at_call 18; ((with_reducible refine (Of_no 35805088 _ (by omega)).mono ?_)); rintro e w3 ⟨rfl, k3⟩
       have D3 := Lib.hid (D2.out.next k3)
       have lt := D3.out.lt
       have c0 := D3.out.c0
       have c1 := D3.out.c1
       have c2 := D3.out.c2
       have D4 := Lib.hid (D3.out.more (.cells #[.int .i64 0, .int .i64 0, .int .i64 0] 23))
       clear k3 D2 D3)
    | (go_at_call 12; refine (Check_is _ _ _ _ (HL.out.next D4.out.bel).ah HO.out).mono ?_; rintro e w4 ⟨rfl, k4⟩
       have D5 := Lib.hid (D4.out.next k4)
       clear k4 D4 c0 c1 c2
       have c0 := D5.out.c0
       have c1 := D5.out.c1
       have c2 := D5.out.c2)
    | (go_at_call 21; refine (weekday_any _ _ (by omega) (by omega)).mono ?_; rintro e w5 ⟨rfl, rfl⟩)
    | (go_at_call 14; refine (awake_yes _ (HL.out.next D5.out.bel)).mono ?_; rintro e w6 ⟨rfl, k6⟩
       have D6 := Lib.hid (D5.out.next k6)
       clear k6))
  go_ret
  exact ⟨rfl, D6.out.bel⟩

theorem last_ne {y m d : Int} (h : ¬ (y = 100000 ∧ m = 12 ∧ d = 31)) : (y == 100000) = false ∨ ((y == 100000) = true ∧ (m == 12) = false) ∨ ((y == 100000) = true ∧ (m == 12) = true ∧ (d == 31) = false) := by
  by_cases a : y = 100000 <;> by_cases b : m = 12 <;> by_cases c : d = 31 <;> simp_all

set_option maxHeartbeats 3200000 in
theorem back_any (n y m d y' m' d' v v' : Int) (w : World) (H : Laid2 w) (n1 : -37243778 ≤ n) (n2 : n < 35805087) (ho : okD y m d) (hd : dayN y m d = n) (ho' : okD y' m' d') (hd' : dayN y' m' d' = n + 1)
    (hv : (n % 7 + 4) % 7 = v) (hv' : ((n + 1) % 7 + 4) % 7 = v') (hne : ¬ (y = 100000 ∧ m = 12 ∧ d = 31)) :
    Calls Tryd.prog 6 #[.int .i64 n] w fun e w' => e = .returned (.bool true) ∧ Below w.heap.size w w' := by
  have HL := Lib.hid H
  have HO := Lib.hid ho
  have HD := Lib.hid hd
  have HO' := Lib.hid ho'
  have HD' := Lib.hid hd'
  have HV := Lib.hid hv
  have HV' := Lib.hid hv'
  have HN : Hid (dayN y' m' d' = dayN y m d + 1) := by show _ = _; rw [hd, hd']
  have vb : 0 ≤ v ∧ v ≤ 6 := by omega
  have hw : (v' != (v + 1) % 7) = false := by simp; omega
  have hq := last_ne hne
  clear H ho hd ho' hd' hv hv' hne
  rcases hq with q1 | ⟨q1, q2⟩ | ⟨q1, q2, q3⟩
  all_goals
    go_enter Tryd.func6, Tryd.ntmps6
    go_wp2_with (first
      | (go_at_call 18; ((with_reducible refine (Of_is n y m d _ HL.out.ah HO.out HD).mono ?_)); rintro e w1 ⟨rfl, k1⟩
         have D1 := Lib.hid (Boxed.make k1 y m d 23)
         clear k1)
      | (go_at_call 16; refine (Days_is n _ _ _ _ (HL.out.next D1.out.bel).ah HO.out HD).mono ?_; rintro e w2 ⟨rfl, k2⟩
         have D2 := Lib.hid (D1.out.next k2)
         clear k2 D1)
      | (go_at_call 18; ((with_reducible refine (Of_is (n + 1) y' m' d' _ (HL.out.next D2.out.bel).ah HO'.out HD').mono ?_)); rintro e w3 ⟨rfl, k3⟩
         have D3 := Lib.hid (D2.out.next k3)
         have lt := D3.out.lt
         have c0 := D3.out.c0
         have c1 := D3.out.c1
         have c2 := D3.out.c2
         have D4 := Lib.hid (D3.out.more (.cells #[.int .i64 y', .int .i64 m', .int .i64 d'] 23))
         have X4 := Lib.hid (Boxed.make D3.out.bel y' m' d' 23)
         clear k3 D2 D3)
      | (go_at_call 12; refine (Check_is _ _ _ _ (HL.out.next D4.out.bel).ah HO.out).mono ?_; rintro e w4 ⟨rfl, k4⟩
         have D5 := Lib.hid (D4.out.next k4)
         have X5 := Lib.hid (X4.out.next k4)
         clear k4 D4 X4 c0 c1 c2
         have c0 := D5.out.c0
         have c1 := D5.out.c1
         have c2 := D5.out.c2)
      | (go_at_call 21; ((with_reducible refine (week_is (n + 1) v' _ (by omega) (by omega) HV').mono ?_)); rintro e w5 ⟨rfl, rfl⟩)
      | (go_at_call 21; ((with_reducible refine (week_is n v _ (by omega) (by omega) HV).mono ?_)); rintro e w5 ⟨rfl, rfl⟩))
    go_region_held3 (fun w' => w'.cell? ⟨w1.heap.size, 0, none⟩ = some (.int .i64 y) ∧ w'.cell? ⟨w1.heap.size, 1, none⟩ = some (.int .i64 m) ∧ w'.cell? ⟨w1.heap.size, 2, none⟩ = some (.int .i64 d) ∧ w'.cell? ⟨w3.heap.size, 0, none⟩ = some (.int .i64 y') ∧ w'.cell? ⟨w3.heap.size, 1, none⟩ = some (.int .i64 m') ∧ w'.cell? ⟨w3.heap.size, 2, none⟩ = some (.int .i64 d'))
      (first | exact ⟨D5.out.c0, D5.out.c1, D5.out.c2, X5.out.c0, X5.out.c1, X5.out.c2⟩ | exact ⟨D5.out.drew.c0, D5.out.drew.c1, D5.out.drew.c2, X5.out.drew.c0, X5.out.drew.c1, X5.out.drew.c2⟩)
      (first
        | (go_at_call 23; ((with_reducible refine (next_is y m d y' m' d' _ HO.out HO'.out HN.out).mono ?_)); rintro e w6 ⟨rfl, k6⟩
           have D6 : Hid (Boxed w w1.heap.size y m d w6) := by first | exact D5.out.next k6 | exact D5.out.drew.next k6
           have X6 : Hid (Boxed w w3.heap.size y' m' d' w6) := by first | exact X5.out.next k6 | exact X5.out.drew.next k6
           clear k6 D5 X5
           have D5 := D6
           have X5 := X6
           clear D6 X6)
        | (go_at_call 14; refine (awake_yes _ (HL.out.next (by first | exact D5.out.bel | exact D5.out.drew.bel))).mono ?_; rintro e w7 ⟨rfl, k7⟩
           have D6 : Hid (Boxed w w1.heap.size y m d w7) := by first | exact D5.out.next k7 | exact D5.out.drew.next k7
           have X6 : Hid (Boxed w w3.heap.size y' m' d' w7) := by first | exact X5.out.next k7 | exact X5.out.drew.next k7
           clear k7 D5 X5
           have D5 := D6
           have X5 := X6
           clear D6 X6))
    go_wp2
    go_ret
    exact ⟨rfl, D5.out.bel⟩
end Go.Proofs.YtnedpflebkcdoaaDoor
