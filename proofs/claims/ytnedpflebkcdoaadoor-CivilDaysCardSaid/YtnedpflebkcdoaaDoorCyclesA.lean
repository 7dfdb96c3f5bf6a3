/- CivilCycles' walks: of a date that is none, of one whose cycle leads behind the last year, and of any other date. -/
import Derived.Test.YtnedpflebkcdoaaDoorBackA
namespace Go.Proofs.YtnedpflebkcdoaaDoor
open Go.RowKit

theorem Days_non (y m d : Int) (w : World) (ht : AhAt w) (h : Hid (¬ okD y m d)) :
    Calls Tryd.prog 16 #[.agg #[.int .i64 y, .int .i64 m, .int .i64 d]] w fun e w' => e = .returned (.tuple #[.int .i64 0, .int .i64 10]) ∧ Below w.heap.size w w' := Days_no y m d w ht h.out

theorem cycles_no (y m d : Int) (w : World) (H : Laid2 w) (h : ¬ okD y m d) :
    Calls Tryd.prog 7 #[.agg #[.int .i64 y, .int .i64 m, .int .i64 d]] w fun e w' => e = .returned (.bool true) ∧ Below w.heap.size w w' := by
  have HL := Lib.hid H
  have HN := Lib.hid h
  have D := Lib.hid (Boxed.new w y m d 23)
  clear H h
  go_enter Tryd.func7, Tryd.ntmps7
  go_wp2_with (first
    | (go_at_call 16; refine (Days_non _ _ _ _ (HL.out.next D.out.bel).ah HN).mono ?_; rintro e w1 ⟨rfl, k1⟩
       have D1 := Lib.hid (D.out.next k1)
       clear k1 D)
    | (go_at_call 14; refine (awake_yes _ (HL.out.next D1.out.bel)).mono ?_; rintro e w2 ⟨rfl, k2⟩
       have D2 := Lib.hid (D1.out.next k2)
       clear k2))
  go_ret
  exact ⟨rfl, D2.out.bel⟩

set_option maxHeartbeats 800000 in
theorem cycles_far (y m d n : Int) (w : World) (H : Laid2 w) (ho : okD y m d) (hd : dayN y m d = n) (hy : 99600 < y) (hy2 : y ≤ 100000) :
    Calls Tryd.prog 7 #[.agg #[.int .i64 y, .int .i64 m, .int .i64 d]] w fun e w' => e = .returned (.bool true) ∧ Below w.heap.size w w' := by
  have HL := Lib.hid H
  have HO := Lib.hid ho
  have HD := Lib.hid hd
  have HN : Hid (¬ okD (y + 400) m d) := by show ¬ okD (y + 400) m d; unfold okD; omega
  have D := Lib.hid (Boxed.new w y m d 23)
  clear H ho hd
  go_enter Tryd.func7, Tryd.ntmps7
  go_wp2_with (first
    | (go_at_call 16; ((with_reducible refine (Days_is n y m d _ (HL.out.next D.out.bel).ah HO.out HD).mono ?_)); rintro e w1 ⟨rfl, k1⟩
       have D1 := Lib.hid (D.out.next k1)
       have lt := D1.out.lt
       have c0 := D1.out.c0
       have c1 := D1.out.c1
       have c2 := D1.out.c2
       clear k1 D)
    | (go_at_call 16
       have D2 := Lib.hid (D1.out.more (.cells #[.int .i64 (y + 400), .int .i64 m, .int .i64 d] 23))
       ((with_reducible refine (Days_non (y + 400) m d _ (HL.out.next D2.out.bel).ah HN).mono ?_)); rintro e w2 ⟨rfl, k2⟩
       have D3 := Lib.hid (D2.out.next k2)
       clear k2 D2 D1 c0 c1 c2
       have c0 := D3.out.c0)
    | (go_at_call 14; refine (awake_yes _ (HL.out.next D3.out.bel)).mono ?_; rintro e w3 ⟨rfl, k3⟩
       have D4 := Lib.hid (D3.out.next k3)
       clear k3))
  go_ret
  exact ⟨rfl, D4.out.bel⟩

set_option maxHeartbeats 800000 in
theorem cycles_near (y m d n v : Int) (w : World) (H : Laid2 w) (ho : okD y m d) (hd : dayN y m d = n) (hy1 : -100000 ≤ y) (hy : y ≤ 99600) (n1 : -40000000 ≤ n) (n2 : n ≤ 40000000) (hv : (n % 7 + 4) % 7 = v) :
    Calls Tryd.prog 7 #[.agg #[.int .i64 y, .int .i64 m, .int .i64 d]] w fun e w' => e = .returned (.bool true) ∧ Below w.heap.size w w' := by
  have HL := Lib.hid H
  have HO := Lib.hid ho
  have HD := Lib.hid hd
  have HO' : Hid (okD (y + 400) m d) := by
    show okD (y + 400) m d
    obtain ⟨a, b, c, e, f, g⟩ := ho
    refine ⟨by omega, by omega, c, e, f, ?_⟩
    unfold dim at *; rw [cum_400, cum_400]; exact g
  have HD' : Hid (dayN (y + 400) m d = n + 146097) := by
    show dayN (y + 400) m d = n + 146097
    unfold dayN at *; rw [cum_400, ny_400]; omega
  have HV := Lib.hid hv
  have HV' : Hid (((n + 146097) % 7 + 4) % 7 = v) := by show _ = _; omega
  have D := Lib.hid (Boxed.new w y m d 23)
  clear H ho hd hv
  go_enter Tryd.func7, Tryd.ntmps7
  go_wp2_with (first
    | (go_at_call 16; ((with_reducible refine (Days_is n y m d _ (HL.out.next D.out.bel).ah HO.out HD).mono ?_)); rintro e w1 ⟨rfl, k1⟩
       have D1 := Lib.hid (D.out.next k1)
       have lt := D1.out.lt
       have c0 := D1.out.c0
       have c1 := D1.out.c1
       have c2 := D1.out.c2
       clear k1 D)
    | (go_at_call 16
       have D2 := Lib.hid (D1.out.more (.cells #[.int .i64 (y + 400), .int .i64 m, .int .i64 d] 23))
       ((with_reducible refine (Days_is (n + 146097) (y + 400) m d _ (HL.out.next D2.out.bel).ah HO'.out HD').mono ?_)); rintro e w2 ⟨rfl, k2⟩
       have D3 := Lib.hid (D2.out.next k2)
       clear k2 D2 D1 c0 c1 c2
       have c0 := D3.out.c0)
    | (go_at_call 21; ((with_reducible refine (week_is (n + 146097) v _ (by omega) (by omega) HV').mono ?_)); rintro e w5 ⟨rfl, rfl⟩)
    | (go_at_call 21; ((with_reducible refine (week_is n v _ (by omega) (by omega) HV).mono ?_)); rintro e w5 ⟨rfl, rfl⟩)
    | (go_at_call 14; refine (awake_yes _ (HL.out.next D3.out.bel)).mono ?_; rintro e w3 ⟨rfl, k3⟩
       have D4 := Lib.hid (D3.out.next k3)
       clear k3))
  go_ret
  exact ⟨rfl, D4.out.bel⟩

theorem civilCycles_walk (y m d : Int) (w : World) (H : Laid2 w) (_ : -9223372036854775808 ≤ y) (_ : y ≤ 9223372036854775807) (_ : -9223372036854775808 ≤ m) (_ : m ≤ 9223372036854775807) (_ : -9223372036854775808 ≤ d) (_ : d ≤ 9223372036854775807) :
    Calls Tryd.prog 7 #[.agg #[.int .i64 y, .int .i64 m, .int .i64 d]] w fun e w' => e = .returned (.bool true) ∧ Below w.heap.size w w' := by
  by_cases h : okD y m d
  · have hb := day_bd h
    by_cases hy : 99600 < y
    · exact cycles_far y m d _ w H h rfl hy h.2.1
    · exact cycles_near y m d _ _ w H h rfl h.1 (by omega) (by omega) (by omega) rfl
  · exact cycles_no y m d w H h
end Go.Proofs.YtnedpflebkcdoaaDoor
