/- CivilMonths' walks: of a date or of none, and of a month or of none. -/
import Derived.Test.YtnedpflebkcdoaaDoorCyclesA
import Derived.Lib.QuietBelow
namespace Go.Proofs.YtnedpflebkcdoaaDoor
open Go.RowKit

theorem Check_non (y m d : Int) (w : World) (ht : AhAt w) (h : Hid (¬ okD y m d)) :
    Calls Tryd.prog 12 #[.agg #[.int .i64 y, .int .i64 m, .int .i64 d]] w fun e w' => e = .returned (.int .i64 10) ∧ Below w.heap.size w w' := by
  have := check_any y m d w ht
  rwa [ckE_no h.out] at this
theorem leap_is (y : Int) (b : Bool) (w : World) (h : Hid (lpB y = b)) :
    Calls Tryd.prog 10 #[.int .i64 y] w fun e w' => e = .returned (.bool b) ∧ w = w' := by
  have := leap_any y w
  rwa [h.out] at this
theorem rleap_is (y : Int) (b : Bool) (w : World) (h : Hid (lpB y = b)) :
    Calls Tryd.prog 11 #[.int .i64 y] w fun e w' => e = .returned (.bool b) ∧ w = w' := by
  have := rleap_any y w
  rwa [h.out] at this
theorem long_is (y m k : Int) (w : World) (ht : AhAt w) (h : lgOk y m) (hk : Hid (dim y m = k)) :
    Calls Tryd.prog 9 #[.int .i64 y, .int .i64 m] w fun e w' => e = .returned (.tuple #[.int .i64 k, .int .i64 0]) ∧ Below w.heap.size w w' := by
  have := Long_yes y m w ht h
  rwa [hk.out] at this
theorem rlong_is (y m k : Int) (w : World) (h : lgOk y m) (hk : Hid (dim y m = k)) :
    Calls Tryd.prog 15 #[.int .i64 y, .int .i64 m] w fun e w' => e = .returned (.int .i64 k) ∧ w = w' := by
  have := rlong_any y m w
  rwa [rdim_dim y m h.2.2.1 h.2.2.2, hk.out] at this

set_option maxHeartbeats 3200000 in
theorem months_yy (Y M k y m d : Int) (w : World) (H : Laid2 w) (h : okD y m d) (h' : lgOk Y M) (hk : dim Y M = k) (g1 : -100000 ≤ Y) (g2 : Y ≤ 100000) (g3 : 1 ≤ M) (g4 : M ≤ 12) :
    Calls Tryd.prog 3 #[.int .i64 Y, .int .i64 M, .agg #[.int .i64 y, .int .i64 m, .int .i64 d]] w fun e w' => e = .returned (.bool true) ∧ Below w.heap.size w w' := by
  have HL := Lib.hid H
  have HO := Lib.hid h
  have HO' := Lib.hid h'
  obtain ⟨b, hb⟩ : ∃ b, lpB Y = b := ⟨_, rfl⟩
  have HB := Lib.hid hb
  have HK := Lib.hid hk
  have D := Lib.hid (Boxed.new w y m d 23)
  clear H h h' hb hk
  have hbb : (b != b) = false := by cases b <;> rfl
  all_goals
    go_enter Tryd.func3, Tryd.ntmps3
    go_wp2_with (first
      | (go_at_call 9; refine (long_is Y M k _ (HL.out.next D.out.bel).ah HO'.out HK).mono ?_; rintro e w1 ⟨rfl, k1⟩
         have D' : Hid (Boxed w w.heap.size y m d w1) := by first | exact D.out.next k1 | exact D.out.drew.next k1
         clear k1 D
         have D := D'
         clear D'))
    have q0 := cell_regrown D.out.c0
    have q1 := cell_regrown D.out.c1
    have q2 := cell_regrown D.out.c2
    have CC := Lib.hid (fun (d' : Nat) (os : Array Obj) => Calls.regrown_of (Check_is y m d (Sort.grow (redrawn w1 d') os) (HL.out.next (D.out.next (below_regrown w1 d' os)).bel).ah HO.out))
    have CR := Lib.hid (fun (d' : Nat) (os : Array Obj) => Calls.regrown_of (right_yes y m d (Sort.grow (redrawn w1 d') os) HO.out))
    have CL := Lib.hid (fun (d' : Nat) (os : Array Obj) => Calls.regrown_of ((leap_is Y b (Sort.grow (redrawn w1 d') os) HB).mono fun _ _ hh => ⟨hh.1, hh.2 ▸ Below.refl _ _⟩))
    have CM := Lib.hid (fun (d' : Nat) (os : Array Obj) => Calls.regrown_of ((rleap_is Y b (Sort.grow (redrawn w1 d') os) HB).mono fun _ _ hh => ⟨hh.1, hh.2 ▸ Below.refl _ _⟩))
    refine wp_region_quiet_below (by kernel_rfl) (by kernel_rfl) ?_
    repeat (quiet_step (first | (go_at_call 10; exact CL.out _ _) | (go_at_call 11; exact CM.out _ _) | (go_at_call 12; exact CC.out _ _) | (go_at_call 13; exact CR.out _ _)))
    refine wpQuiet_nil ?_
    intro _ hw'
    obtain ⟨⟨dq, osq⟩, hw''⟩ := hw'
    have D' := Lib.hid (D.out.next (below_regrown w1 dq osq))
    subst hw''
    clear q0 q1 q2 CC CR CL CM D
    have D := D'
    clear D'
    go_wp2_with (first
      | (go_at_call 15; refine (rlong_is Y M k _ HO'.out HK).mono ?_; rintro e w5 ⟨rfl, rfl⟩)
      | (go_at_call 14; refine (awake_yes _ (HL.out.next (by first | exact D.out.bel | exact D.out.drew.bel))).mono ?_; rintro e w6 ⟨rfl, k6⟩
         have D' : Hid (Boxed w w.heap.size y m d w6) := by first | exact D.out.next k6 | exact D.out.drew.next k6
         clear k6 D
         have D := D'
         clear D'))
    go_ret
    exact ⟨rfl, D.out.bel⟩

set_option maxHeartbeats 3200000 in
theorem months_yn (Y M y m d : Int) (w : World) (H : Laid2 w) (h : okD y m d) (h' : ¬ lgOk Y M) (hc : Y < -100000 ∨ (-100000 ≤ Y ∧ 100000 < Y) ∨ (-100000 ≤ Y ∧ Y ≤ 100000 ∧ M < 1) ∨ (-100000 ≤ Y ∧ Y ≤ 100000 ∧ 1 ≤ M ∧ 12 < M)) :
    Calls Tryd.prog 3 #[.int .i64 Y, .int .i64 M, .agg #[.int .i64 y, .int .i64 m, .int .i64 d]] w fun e w' => e = .returned (.bool true) ∧ Below w.heap.size w w' := by
  have HL := Lib.hid H
  have HO := Lib.hid h
  have HO' := Lib.hid h'
  obtain ⟨b, hb⟩ : ∃ b, lpB Y = b := ⟨_, rfl⟩
  have HB := Lib.hid hb
  have D := Lib.hid (Boxed.new w y m d 23)
  clear H h h' hb 
  have hbb : (b != b) = false := by cases b <;> rfl
  rcases hc with hc | ⟨hc, hc2⟩ | ⟨hc, hc2, hc3⟩ | ⟨hc, hc2, hc3, hc4⟩
  all_goals
    go_enter Tryd.func3, Tryd.ntmps3
    go_wp2_with (first
      | (go_at_call 9; refine (Long_no Y M _ (HL.out.next D.out.bel).ah HO'.out).mono ?_; rintro e w1 ⟨rfl, k1⟩
         have D' : Hid (Boxed w w.heap.size y m d w1) := by first | exact D.out.next k1 | exact D.out.drew.next k1
         clear k1 D
         have D := D'
         clear D'))
    have q0 := cell_regrown D.out.c0
    have q1 := cell_regrown D.out.c1
    have q2 := cell_regrown D.out.c2
    have CC := Lib.hid (fun (d' : Nat) (os : Array Obj) => Calls.regrown_of (Check_is y m d (Sort.grow (redrawn w1 d') os) (HL.out.next (D.out.next (below_regrown w1 d' os)).bel).ah HO.out))
    have CR := Lib.hid (fun (d' : Nat) (os : Array Obj) => Calls.regrown_of (right_yes y m d (Sort.grow (redrawn w1 d') os) HO.out))
    have CL := Lib.hid (fun (d' : Nat) (os : Array Obj) => Calls.regrown_of ((leap_is Y b (Sort.grow (redrawn w1 d') os) HB).mono fun _ _ hh => ⟨hh.1, hh.2 ▸ Below.refl _ _⟩))
    have CM := Lib.hid (fun (d' : Nat) (os : Array Obj) => Calls.regrown_of ((rleap_is Y b (Sort.grow (redrawn w1 d') os) HB).mono fun _ _ hh => ⟨hh.1, hh.2 ▸ Below.refl _ _⟩))
    refine wp_region_quiet_below (by kernel_rfl) (by kernel_rfl) ?_
    repeat (quiet_step (first | (go_at_call 10; exact CL.out _ _) | (go_at_call 11; exact CM.out _ _) | (go_at_call 12; exact CC.out _ _) | (go_at_call 13; exact CR.out _ _)))
    refine wpQuiet_nil ?_
    intro _ hw'
    obtain ⟨⟨dq, osq⟩, hw''⟩ := hw'
    have D' := Lib.hid (D.out.next (below_regrown w1 dq osq))
    subst hw''
    clear q0 q1 q2 CC CR CL CM D
    have D := D'
    clear D'
    go_wp2_with (first
      | (go_at_call 15; refine (rlong_any _ _ _).mono ?_; rintro e w5 ⟨rfl, rfl⟩)
      | (go_at_call 14; refine (awake_yes _ (HL.out.next (by first | exact D.out.bel | exact D.out.drew.bel))).mono ?_; rintro e w6 ⟨rfl, k6⟩
         have D' : Hid (Boxed w w.heap.size y m d w6) := by first | exact D.out.next k6 | exact D.out.drew.next k6
         clear k6 D
         have D := D'
         clear D'))
    go_ret
    exact ⟨rfl, D.out.bel⟩

set_option maxHeartbeats 3200000 in
theorem months_ny (Y M k y m d : Int) (w : World) (H : Laid2 w) (h : ¬ okD y m d) (h' : lgOk Y M) (hk : dim Y M = k) (g1 : -100000 ≤ Y) (g2 : Y ≤ 100000) (g3 : 1 ≤ M) (g4 : M ≤ 12) :
    Calls Tryd.prog 3 #[.int .i64 Y, .int .i64 M, .agg #[.int .i64 y, .int .i64 m, .int .i64 d]] w fun e w' => e = .returned (.bool true) ∧ Below w.heap.size w w' := by
  have HL := Lib.hid H
  have HO := Lib.hid h
  have HO' := Lib.hid h'
  obtain ⟨b, hb⟩ : ∃ b, lpB Y = b := ⟨_, rfl⟩
  have HB := Lib.hid hb
  have HK := Lib.hid hk
  have D := Lib.hid (Boxed.new w y m d 23)
  clear H h h' hb hk
  have hbb : (b != b) = false := by cases b <;> rfl
  all_goals
    go_enter Tryd.func3, Tryd.ntmps3
    go_wp2_with (first
      | (go_at_call 9; refine (long_is Y M k _ (HL.out.next D.out.bel).ah HO'.out HK).mono ?_; rintro e w1 ⟨rfl, k1⟩
         have D' : Hid (Boxed w w.heap.size y m d w1) := by first | exact D.out.next k1 | exact D.out.drew.next k1
         clear k1 D
         have D := D'
         clear D'))
    have q0 := cell_regrown D.out.c0
    have q1 := cell_regrown D.out.c1
    have q2 := cell_regrown D.out.c2
    have CC := Lib.hid (fun (d' : Nat) (os : Array Obj) => Calls.regrown_of (Check_non y m d (Sort.grow (redrawn w1 d') os) (HL.out.next (D.out.next (below_regrown w1 d' os)).bel).ah HO))
    have CR := Lib.hid (fun (d' : Nat) (os : Array Obj) => Calls.regrown_of (right_no y m d (Sort.grow (redrawn w1 d') os) HO.out))
    have CL := Lib.hid (fun (d' : Nat) (os : Array Obj) => Calls.regrown_of ((leap_is Y b (Sort.grow (redrawn w1 d') os) HB).mono fun _ _ hh => ⟨hh.1, hh.2 ▸ Below.refl _ _⟩))
    have CM := Lib.hid (fun (d' : Nat) (os : Array Obj) => Calls.regrown_of ((rleap_is Y b (Sort.grow (redrawn w1 d') os) HB).mono fun _ _ hh => ⟨hh.1, hh.2 ▸ Below.refl _ _⟩))
    refine wp_region_quiet_below (by kernel_rfl) (by kernel_rfl) ?_
    repeat (quiet_step (first | (go_at_call 10; exact CL.out _ _) | (go_at_call 11; exact CM.out _ _) | (go_at_call 12; exact CC.out _ _) | (go_at_call 13; exact CR.out _ _)))
    refine wpQuiet_nil ?_
    intro _ hw'
    obtain ⟨⟨dq, osq⟩, hw''⟩ := hw'
    have D' := Lib.hid (D.out.next (below_regrown w1 dq osq))
    subst hw''
    clear q0 q1 q2 CC CR CL CM D
    have D := D'
    clear D'
    go_wp2_with (first
      | (go_at_call 15; refine (rlong_is Y M k _ HO'.out HK).mono ?_; rintro e w5 ⟨rfl, rfl⟩)
      | (go_at_call 14; refine (awake_yes _ (HL.out.next (by first | exact D.out.bel | exact D.out.drew.bel))).mono ?_; rintro e w6 ⟨rfl, k6⟩
         have D' : Hid (Boxed w w.heap.size y m d w6) := by first | exact D.out.next k6 | exact D.out.drew.next k6
         clear k6 D
         have D := D'
         clear D'))
    go_ret
    exact ⟨rfl, D.out.bel⟩

set_option maxHeartbeats 3200000 in
theorem months_nn (Y M y m d : Int) (w : World) (H : Laid2 w) (h : ¬ okD y m d) (h' : ¬ lgOk Y M) (hc : Y < -100000 ∨ (-100000 ≤ Y ∧ 100000 < Y) ∨ (-100000 ≤ Y ∧ Y ≤ 100000 ∧ M < 1) ∨ (-100000 ≤ Y ∧ Y ≤ 100000 ∧ 1 ≤ M ∧ 12 < M)) :
    Calls Tryd.prog 3 #[.int .i64 Y, .int .i64 M, .agg #[.int .i64 y, .int .i64 m, .int .i64 d]] w fun e w' => e = .returned (.bool true) ∧ Below w.heap.size w w' := by
  have HL := Lib.hid H
  have HO := Lib.hid h
  have HO' := Lib.hid h'
  obtain ⟨b, hb⟩ : ∃ b, lpB Y = b := ⟨_, rfl⟩
  have HB := Lib.hid hb
  have D := Lib.hid (Boxed.new w y m d 23)
  clear H h h' hb 
  have hbb : (b != b) = false := by cases b <;> rfl
  rcases hc with hc | ⟨hc, hc2⟩ | ⟨hc, hc2, hc3⟩ | ⟨hc, hc2, hc3, hc4⟩
  all_goals
    go_enter Tryd.func3, Tryd.ntmps3
    go_wp2_with (first
      | (go_at_call 9; refine (Long_no Y M _ (HL.out.next D.out.bel).ah HO'.out).mono ?_; rintro e w1 ⟨rfl, k1⟩
         have D' : Hid (Boxed w w.heap.size y m d w1) := by first | exact D.out.next k1 | exact D.out.drew.next k1
         clear k1 D
         have D := D'
         clear D'))
    have q0 := cell_regrown D.out.c0
    have q1 := cell_regrown D.out.c1
    have q2 := cell_regrown D.out.c2
    have CC := Lib.hid (fun (d' : Nat) (os : Array Obj) => Calls.regrown_of (Check_non y m d (Sort.grow (redrawn w1 d') os) (HL.out.next (D.out.next (below_regrown w1 d' os)).bel).ah HO))
    have CR := Lib.hid (fun (d' : Nat) (os : Array Obj) => Calls.regrown_of (right_no y m d (Sort.grow (redrawn w1 d') os) HO.out))
    have CL := Lib.hid (fun (d' : Nat) (os : Array Obj) => Calls.regrown_of ((leap_is Y b (Sort.grow (redrawn w1 d') os) HB).mono fun _ _ hh => ⟨hh.1, hh.2 ▸ Below.refl _ _⟩))
    have CM := Lib.hid (fun (d' : Nat) (os : Array Obj) => Calls.regrown_of ((rleap_is Y b (Sort.grow (redrawn w1 d') os) HB).mono fun _ _ hh => ⟨hh.1, hh.2 ▸ Below.refl _ _⟩))
    refine wp_region_quiet_below (by kernel_rfl) (by kernel_rfl) ?_
    repeat (quiet_step (first | (go_at_call 10; exact CL.out _ _) | (go_at_call 11; exact CM.out _ _) | (go_at_call 12; exact CC.out _ _) | (go_at_call 13; exact CR.out _ _)))
    refine wpQuiet_nil ?_
    intro _ hw'
    obtain ⟨⟨dq, osq⟩, hw''⟩ := hw'
    have D' := Lib.hid (D.out.next (below_regrown w1 dq osq))
    subst hw''
    clear q0 q1 q2 CC CR CL CM D
    have D := D'
    clear D'
    go_wp2_with (first
      | (go_at_call 15; refine (rlong_any _ _ _).mono ?_; rintro e w5 ⟨rfl, rfl⟩)
      | (go_at_call 14; refine (awake_yes _ (HL.out.next (by first | exact D.out.bel | exact D.out.drew.bel))).mono ?_; rintro e w6 ⟨rfl, k6⟩
         have D' : Hid (Boxed w w.heap.size y m d w6) := by first | exact D.out.next k6 | exact D.out.drew.next k6
         clear k6 D
         have D := D'
         clear D'))
    go_ret
    exact ⟨rfl, D.out.bel⟩

theorem civilMonths_walk (Y M y m d : Int) (w : World) (H : Laid2 w) (_ : -9223372036854775808 ≤ Y) (_ : Y ≤ 9223372036854775807) (_ : -9223372036854775808 ≤ M) (_ : M ≤ 9223372036854775807) (_ : -9223372036854775808 ≤ y) (_ : y ≤ 9223372036854775807) (_ : -9223372036854775808 ≤ m) (_ : m ≤ 9223372036854775807) (_ : -9223372036854775808 ≤ d) (_ : d ≤ 9223372036854775807) :
    Calls Tryd.prog 3 #[.int .i64 Y, .int .i64 M, .agg #[.int .i64 y, .int .i64 m, .int .i64 d]] w fun e w' => e = .returned (.bool true) ∧ Below w.heap.size w w' := by
  by_cases h' : lgOk Y M
  · obtain ⟨g1, g2, g3, g4⟩ := h'
    by_cases h : okD y m d
    · exact months_yy Y M _ y m d w H h ⟨g1, g2, g3, g4⟩ rfl g1 g2 g3 g4
    · exact months_ny Y M _ y m d w H h ⟨g1, g2, g3, g4⟩ rfl g1 g2 g3 g4
  · have hc : Y < -100000 ∨ (-100000 ≤ Y ∧ 100000 < Y) ∨ (-100000 ≤ Y ∧ Y ≤ 100000 ∧ M < 1) ∨ (-100000 ≤ Y ∧ Y ≤ 100000 ∧ 1 ≤ M ∧ 12 < M) := by unfold lgOk at h'; omega
    by_cases h : okD y m d
    · exact months_yn Y M y m d w H h h' hc
    · exact months_nn Y M y m d w H h h' hc
end Go.Proofs.YtnedpflebkcdoaaDoor
