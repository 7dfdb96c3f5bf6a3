/- The walk of the law WordsYears: for every word and year it returns true, and nothing that was in memory changes. Written by wip/tools/genwy.py. -/
import Derived.Test.YtoegjbhbgnhjdaaDoorLwF
namespace Go.Proofs.YtoegjbhbgnhjdaaDoor
open Go.RowKit

theorem years_long (l : List UInt8) (f : Int) (w : World) (H : LaidW w) (hs : 40 < l.length) :
    Calls Tryd.prog 4 #[.string ⟨l.toArray⟩, .int .i64 f] w fun e w' => e = .returned (.bool true) ∧ Below w.heap.size w w' := by
  have hz := wsize l
  have HX := Lib.hid H
  clear H
  go_enter Tryd.func4, Tryd.ntmps4
  go_wp2_with (go_at_call 9; refine (wawake_any _ HX.out).mono ?_; rintro e w1 ⟨rfl, k1⟩)
  go_ret
  exact ⟨rfl, k1⟩

set_option maxHeartbeats 1600000 in
theorem years_only (l : List UInt8) (f : Int) (w : World) (H : LaidW w) (hs : l.length ≤ 40) (HV : Hid (yearV l f = f ∧ yearE l = 0)) (F : Hid (wantZ (findL (low l) endsL) = 0)) :
    Calls Tryd.prog 4 #[.string ⟨l.toArray⟩, .int .i64 f] w fun e w' => e = .returned (.bool true) ∧ Below w.heap.size w w' := by
  have hz := wsize l
  have S0 := Lib.hid (StW.new H)
  clear H
  go_enter Tryd.func4, Tryd.ntmps4
  go_wp2_with (first
    | (go_at_call 18; refine (year_is l f f (0) _ (by omega) S0.out.l HV).mono ?_; rintro e w1 ⟨rfl, k1⟩; have S1 := Lib.hid (S0.out.next k1); clear k1)
    | (go_at_call 14; refine (rfind_is l endsL _ 2 (0) _ (by omega) rfl (by omega) ends_len (by exact ListAt.new _ endsL _ _ rfl) F).mono ?_; rintro e w2 ⟨rfl, k2⟩
       have S2 := Lib.hid ((S1.out.next ((Below.refl _ _).alloc (Nat.le_refl _) _)).next k2); clear k2)
    | (go_at_call 9; refine (wawake_any _ S2.out.l).mono ?_; rintro e w3 ⟨rfl, k3⟩; have S3 := Lib.hid (S2.out.next k3); clear k3))
  go_ret
  exact ⟨rfl, S3.out.k⟩

set_option maxHeartbeats 1600000 in
theorem years_max (l : List UInt8) (f : Int) (w : World) (H : LaidW w) (hs : l.length ≤ 40) (HV : Hid (yearV l f = 1048576 ∧ yearE l = 0)) (F : Hid (wantZ (findL (low l) endsL) = 1)) :
    Calls Tryd.prog 4 #[.string ⟨l.toArray⟩, .int .i64 f] w fun e w' => e = .returned (.bool true) ∧ Below w.heap.size w w' := by
  have hz := wsize l
  have S0 := Lib.hid (StW.new H)
  clear H
  go_enter Tryd.func4, Tryd.ntmps4
  go_wp2_with (first
    | (go_at_call 18; refine (year_is l f 1048576 (0) _ (by omega) S0.out.l HV).mono ?_; rintro e w1 ⟨rfl, k1⟩; have S1 := Lib.hid (S0.out.next k1); clear k1)
    | (go_at_call 14; refine (rfind_is l endsL _ 2 (1) _ (by omega) rfl (by omega) ends_len (by exact ListAt.new _ endsL _ _ rfl) F).mono ?_; rintro e w2 ⟨rfl, k2⟩
       have S2 := Lib.hid ((S1.out.next ((Below.refl _ _).alloc (Nat.le_refl _) _)).next k2); clear k2)
    | (go_at_call 9; refine (wawake_any _ S2.out.l).mono ?_; rintro e w3 ⟨rfl, k3⟩; have S3 := Lib.hid (S2.out.next k3); clear k3))
  go_ret
  exact ⟨rfl, S3.out.k⟩

set_option maxHeartbeats 1600000 in
theorem years_none (l : List UInt8) (f : Int) (w : World) (H : LaidW w) (hs : l.length ≤ 40) (HN : Hid (numZ l = 0 ∧ numB l = false)) (HV : Hid (yearV l f = 0 ∧ yearE l = 12)) (F : Hid (wantZ (findL (low l) endsL) = -1)) :
    Calls Tryd.prog 4 #[.string ⟨l.toArray⟩, .int .i64 f] w fun e w' => e = .returned (.bool true) ∧ Below w.heap.size w w' := by
  have hz := wsize l
  have S0 := Lib.hid (StW.new H)
  clear H
  go_enter Tryd.func4, Tryd.ntmps4
  go_wp2_with (first
    | (go_at_call 18; refine (year_is l f 0 (12) _ (by omega) S0.out.l HV).mono ?_; rintro e w1 ⟨rfl, k1⟩; have S1 := Lib.hid (S0.out.next k1); clear k1)
    | (go_at_call 14; refine (rfind_is l endsL _ 2 (-1) _ (by omega) rfl (by omega) ends_len (by exact ListAt.new _ endsL _ _ rfl) F).mono ?_; rintro e w2 ⟨rfl, k2⟩
       have S2 := Lib.hid ((S1.out.next ((Below.refl _ _).alloc (Nat.le_refl _) _)).next k2); clear k2)
    | (go_at_call 19; refine (rnum_is l 0 false _ (by omega) HN).mono ?_; rintro e w4 ⟨rfl, rfl⟩)
    | (go_at_call 9; refine (wawake_any _ S2.out.l).mono ?_; rintro e w3 ⟨rfl, k3⟩; have S3 := Lib.hid (S2.out.next k3); clear k3))
  go_ret
  exact ⟨rfl, S3.out.k⟩

set_option maxHeartbeats 1600000 in
theorem years_low (l : List UInt8) (f n : Int) (w : World) (H : LaidW w) (hs : l.length ≤ 40) (HN : Hid (numZ l = n ∧ numB l = true)) (h1 : n < 1) (HV : Hid (yearV l f = 0 ∧ yearE l = 10)) (F : Hid (wantZ (findL (low l) endsL) = -1)) :
    Calls Tryd.prog 4 #[.string ⟨l.toArray⟩, .int .i64 f] w fun e w' => e = .returned (.bool true) ∧ Below w.heap.size w w' := by
  have hz := wsize l
  have S0 := Lib.hid (StW.new H)
  clear H
  go_enter Tryd.func4, Tryd.ntmps4
  go_wp2_with (first
    | (go_at_call 18; refine (year_is l f 0 (10) _ (by omega) S0.out.l HV).mono ?_; rintro e w1 ⟨rfl, k1⟩; have S1 := Lib.hid (S0.out.next k1); clear k1)
    | (go_at_call 14; refine (rfind_is l endsL _ 2 (-1) _ (by omega) rfl (by omega) ends_len (by exact ListAt.new _ endsL _ _ rfl) F).mono ?_; rintro e w2 ⟨rfl, k2⟩
       have S2 := Lib.hid ((S1.out.next ((Below.refl _ _).alloc (Nat.le_refl _) _)).next k2); clear k2)
    | (go_at_call 19; refine (rnum_is l n true _ (by omega) HN).mono ?_; rintro e w4 ⟨rfl, rfl⟩)
    | (go_at_call 9; refine (wawake_any _ S2.out.l).mono ?_; rintro e w3 ⟨rfl, k3⟩; have S3 := Lib.hid (S2.out.next k3); clear k3))
  go_ret
  exact ⟨rfl, S3.out.k⟩

set_option maxHeartbeats 1600000 in
theorem years_high (l : List UInt8) (f n : Int) (w : World) (H : LaidW w) (hs : l.length ≤ 40) (HN : Hid (numZ l = n ∧ numB l = true)) (h1 : ¬ n < 1) (h2 : 4000 < n) (HV : Hid (yearV l f = 0 ∧ yearE l = 10)) (F : Hid (wantZ (findL (low l) endsL) = -1)) :
    Calls Tryd.prog 4 #[.string ⟨l.toArray⟩, .int .i64 f] w fun e w' => e = .returned (.bool true) ∧ Below w.heap.size w w' := by
  have hz := wsize l
  have S0 := Lib.hid (StW.new H)
  clear H
  go_enter Tryd.func4, Tryd.ntmps4
  go_wp2_with (first
    | (go_at_call 18; refine (year_is l f 0 (10) _ (by omega) S0.out.l HV).mono ?_; rintro e w1 ⟨rfl, k1⟩; have S1 := Lib.hid (S0.out.next k1); clear k1)
    | (go_at_call 14; refine (rfind_is l endsL _ 2 (-1) _ (by omega) rfl (by omega) ends_len (by exact ListAt.new _ endsL _ _ rfl) F).mono ?_; rintro e w2 ⟨rfl, k2⟩
       have S2 := Lib.hid ((S1.out.next ((Below.refl _ _).alloc (Nat.le_refl _) _)).next k2); clear k2)
    | (go_at_call 19; refine (rnum_is l n true _ (by omega) HN).mono ?_; rintro e w4 ⟨rfl, rfl⟩)
    | (go_at_call 9; refine (wawake_any _ S2.out.l).mono ?_; rintro e w3 ⟨rfl, k3⟩; have S3 := Lib.hid (S2.out.next k3); clear k3))
  go_ret
  exact ⟨rfl, S3.out.k⟩

set_option maxHeartbeats 1600000 in
theorem years_ok (l : List UInt8) (f n : Int) (w : World) (H : LaidW w) (hs : l.length ≤ 40) (HN : Hid (numZ l = n ∧ numB l = true)) (h1 : ¬ n < 1) (h2 : ¬ 4000 < n) (HV : Hid (yearV l f = n ∧ yearE l = 0)) (F : Hid (wantZ (findL (low l) endsL) = -1)) :
    Calls Tryd.prog 4 #[.string ⟨l.toArray⟩, .int .i64 f] w fun e w' => e = .returned (.bool true) ∧ Below w.heap.size w w' := by
  have hz := wsize l
  have S0 := Lib.hid (StW.new H)
  clear H
  go_enter Tryd.func4, Tryd.ntmps4
  go_wp2_with (first
    | (go_at_call 18; refine (year_is l f n (0) _ (by omega) S0.out.l HV).mono ?_; rintro e w1 ⟨rfl, k1⟩; have S1 := Lib.hid (S0.out.next k1); clear k1)
    | (go_at_call 14; refine (rfind_is l endsL _ 2 (-1) _ (by omega) rfl (by omega) ends_len (by exact ListAt.new _ endsL _ _ rfl) F).mono ?_; rintro e w2 ⟨rfl, k2⟩
       have S2 := Lib.hid ((S1.out.next ((Below.refl _ _).alloc (Nat.le_refl _) _)).next k2); clear k2)
    | (go_at_call 19; refine (rnum_is l n true _ (by omega) HN).mono ?_; rintro e w4 ⟨rfl, rfl⟩)
    | (go_at_call 9; refine (wawake_any _ S2.out.l).mono ?_; rintro e w3 ⟨rfl, k3⟩; have S3 := Lib.hid (S2.out.next k3); clear k3))
  go_ret
  exact ⟨rfl, S3.out.k⟩

theorem wordsYears_walk (s : ByteArray) (f : Int) (w : World) (H : LaidW w) (_ : s.size ≤ maxLen) (_ : -9223372036854775808 ≤ f) (_ : f ≤ 9223372036854775807) :
    Calls Tryd.prog 4 #[.string s, .int .i64 f] w fun e w' => e = .returned (.bool true) ∧ Below w.heap.size w w' := by
  obtain ⟨l, rfl⟩ : ∃ l : List UInt8, s = ⟨l.toArray⟩ := ⟨s.data.toList, by simp⟩
  by_cases hs : l.length ≤ 40
  · cases ho : findL (low l) endsL with
    | some p =>
      have hp : p < 2 := findL_lt ho
      obtain rfl | rfl : p = 0 ∨ p = 1 := by omega
      · exact years_only l f w H hs (Lib.hid (by unfold yearV yearE; rw [ho]; exact ⟨rfl, rfl⟩)) (Lib.hid (by rw [ho]; rfl))
      · exact years_max l f w H hs (Lib.hid (by unfold yearV yearE; rw [ho]; exact ⟨rfl, rfl⟩)) (Lib.hid (by rw [ho]; rfl))
    | none =>
      have F : Hid (wantZ (findL (low l) endsL) = -1) := Lib.hid (by rw [ho]; rfl)
      cases hb : numB l with
      | false =>
        have h0 : numZ l = 0 := by
          unfold numB at hb
          unfold numZ
          cases h : numR l with
          | none => rfl
          | some v => rw [h] at hb; cases hb
        exact years_none l f w H hs (Lib.hid ⟨h0, hb⟩) (Lib.hid (by unfold yearV yearE; rw [ho]; simp [hb])) F
      | true =>
        by_cases h1 : numZ l < 1
        · exact years_low l f _ w H hs (Lib.hid ⟨rfl, hb⟩) h1 (Lib.hid (by unfold yearV yearE; rw [ho]; simp only [hb]; rw [if_neg (by omega), if_pos trivial, if_neg (by omega)]; exact ⟨rfl, rfl⟩)) F
        · by_cases h2 : 4000 < numZ l
          · exact years_high l f _ w H hs (Lib.hid ⟨rfl, hb⟩) h1 h2 (Lib.hid (by unfold yearV yearE; rw [ho]; simp only [hb]; rw [if_neg (by omega), if_pos trivial, if_neg (by omega)]; exact ⟨rfl, rfl⟩)) F
          · exact years_ok l f _ w H hs (Lib.hid ⟨rfl, hb⟩) h1 h2 (Lib.hid (by unfold yearV yearE; rw [ho]; simp only [hb]; rw [if_pos ⟨trivial, by omega, by omega⟩, if_pos trivial, if_pos ⟨by omega, by omega⟩]; exact ⟨rfl, rfl⟩)) F
  · exact years_long l f w H (by omega)
end Go.Proofs.YtoegjbhbgnhjdaaDoor
