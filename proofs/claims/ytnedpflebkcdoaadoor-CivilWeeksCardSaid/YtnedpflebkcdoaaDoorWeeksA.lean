/- CivilWeeks' walks: of a date that is none, and of a date. -/
import Derived.Test.YtnedpflebkcdoaaDoorCyclesA
namespace Go.Proofs.YtnedpflebkcdoaaDoor
open Go.RowKit

theorem rem7 (n : Int) : -6 ≤ n.tmod 7 ∧ n.tmod 7 ≤ 6 ∧ (n % 7 + 4) % 7 = (n.tmod 7 + 11) % 7 := by
  rcases Int.le_total 0 n with h | h
  · rw [Int.tmod_eq_emod_of_nonneg h]; omega
  · have e : n.tmod 7 = -((-n) % 7) := by
      rw [← Int.neg_neg n, Int.neg_tmod, Int.tmod_eq_emod_of_nonneg (by omega), Int.neg_neg]
    rw [e]; omega

set_option maxHeartbeats 800000 in
theorem weeks_no (n r v y m d : Int) (w : World) (H : Laid2 w) (h : ¬ okD y m d) (n1 : -9223372036854775808 ≤ n) (n2 : n ≤ 9223372036854775807) (hr : n.tmod 7 = r) (r1 : -6 ≤ r) (r2 : r ≤ 6) (hv : (n % 7 + 4) % 7 = v) (hq : (v != (r + 11) % 7) = false) :
    Calls Tryd.prog 5 #[.int .i64 n, .agg #[.int .i64 y, .int .i64 m, .int .i64 d]] w fun e w' => e = .returned (.bool true) ∧ Below w.heap.size w w' := by
  have HL := Lib.hid H
  have HN := Lib.hid h
  have HV := Lib.hid hv
  have D := Lib.hid (Boxed.new w y m d 23)
  clear H h hv
  go_enter Tryd.func5, Tryd.ntmps5
  go_wp2_with (first
    | (go_at_call 20; refine (Print_no _ _ _ _ (HL.out.next D.out.bel).ah HN.out).mono ?_; rintro e w1 ⟨rfl, k1⟩
       have D1 := Lib.hid (D.out.next k1)
       have c0 := D1.out.c0
       have c1 := D1.out.c1
       have c2 := D1.out.c2
       clear k1 D)
    | (go_at_call 21; ((with_reducible refine (week_is n v _ (by omega) (by omega) HV).mono ?_)); rintro e w5 ⟨rfl, rfl⟩)
    | (go_at_call 13; refine (right_no _ _ _ _ HN.out).mono ?_; rintro e w2 ⟨rfl, k2⟩
       have D2 := Lib.hid (D1.out.next k2)
       clear k2 D1 c0 c1 c2)
    | (go_at_call 14; refine (awake_yes _ (HL.out.next D2.out.bel)).mono ?_; rintro e w3 ⟨rfl, k3⟩
       have D4 := Lib.hid (D2.out.next k3)
       clear k3))
  go_ret
  exact ⟨rfl, D4.out.bel⟩

set_option maxHeartbeats 800000 in
theorem weeks_yes (n r v y m d : Int) (w : World) (H : Laid2 w) (h : okD y m d) (n1 : -9223372036854775808 ≤ n) (n2 : n ≤ 9223372036854775807) (hr : n.tmod 7 = r) (r1 : -6 ≤ r) (r2 : r ≤ 6) (hv : (n % 7 + 4) % 7 = v) (hq : (v != (r + 11) % 7) = false) :
    Calls Tryd.prog 5 #[.int .i64 n, .agg #[.int .i64 y, .int .i64 m, .int .i64 d]] w fun e w' => e = .returned (.bool true) ∧ Below w.heap.size w w' := by
  have HL := Lib.hid H
  have HO := Lib.hid h
  have HV := Lib.hid hv
  have D := Lib.hid (Boxed.new w y m d 23)
  clear H h hv
  go_enter Tryd.func5, Tryd.ntmps5
  go_wp2_with (first
    | (go_at_call 20; refine (Print_yes _ _ _ _ (HL.out.next D.out.bel).ah (HL.out.next D.out.bel).pow HO.out).mono ?_; rintro e w1 ⟨rfl, k1⟩
       have D1 := Lib.hid (D.out.next k1)
       have c0 := D1.out.c0
       have c1 := D1.out.c1
       have c2 := D1.out.c2
       clear k1 D)
    | (go_at_call 21; ((with_reducible refine (week_is n v _ (by omega) (by omega) HV).mono ?_)); rintro e w5 ⟨rfl, rfl⟩)
    | (go_at_call 13; refine (right_yes _ _ _ _ HO.out).mono ?_; rintro e w2 ⟨rfl, k2⟩
       have D2 := Lib.hid (D1.out.next k2)
       clear k2 D1 c0 c1 c2
       have c0 := D2.out.c0
       have c1 := D2.out.c1
       have c2 := D2.out.c2)
    | (go_at_call 22; refine (rprint_any _ _ _ _ HO.out).mono ?_; rintro e w2 ⟨rfl, k2⟩
       have D3 := Lib.hid (D2.out.next k2)
       clear k2 D2 c0 c1 c2)
    | (go_at_call 14; refine (awake_yes _ (HL.out.next D3.out.bel)).mono ?_; rintro e w3 ⟨rfl, k3⟩
       have D4 := Lib.hid (D3.out.next k3)
       clear k3))
  go_ret
  exact ⟨rfl, D4.out.bel⟩

theorem civilWeeks_walk (n y m d : Int) (w : World) (H : Laid2 w) (n1 : -9223372036854775808 ≤ n) (n2 : n ≤ 9223372036854775807) (_ : -9223372036854775808 ≤ y) (_ : y ≤ 9223372036854775807) (_ : -9223372036854775808 ≤ m) (_ : m ≤ 9223372036854775807) (_ : -9223372036854775808 ≤ d) (_ : d ≤ 9223372036854775807) :
    Calls Tryd.prog 5 #[.int .i64 n, .agg #[.int .i64 y, .int .i64 m, .int .i64 d]] w fun e w' => e = .returned (.bool true) ∧ Below w.heap.size w w' := by
  obtain ⟨r1, r2, r3⟩ := rem7 n
  have hq : ((n % 7 + 4) % 7 != (n.tmod 7 + 11) % 7) = false := by simp; omega
  by_cases h : okD y m d
  · exact weeks_yes n _ _ y m d w H h n1 n2 rfl r1 r2 rfl hq
  · exact weeks_no n _ _ y m d w H h n1 n2 rfl r1 r2 rfl hq
end Go.Proofs.YtnedpflebkcdoaaDoor
