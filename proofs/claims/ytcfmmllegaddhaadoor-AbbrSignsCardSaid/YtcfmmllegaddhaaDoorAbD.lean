/- For every input the law AbbrSigns returns true, and nothing that was in memory changes. -/
import Derived.Test.YtcfmmllegaddhaaDoorAbH
namespace Go.Proofs.YtcfmmllegaddhaaDoor
open Go.RowKit

theorem byte_zeroz (s : List UInt8) (c : UInt8) (r : List UInt8) (z : Int) (h : s = c :: r) (hz : (c.toNat : Int) = z) (W : World) : (Instr.index 9 (.string ⟨s.toArray⟩) (.int .i64 0)).run Tryd.prog W = .ok (.int .u8 z) W := by
  subst hz
  exact byte_zero s c r h W
theorem tmod_z (off m : Int) : (off.tmod m == 0) = decide (off.natAbs % m.natAbs = 0) := by
  rw [Bool.eq_iff_iff]
  simp only [beq_iff_eq, decide_eq_true_eq]
  rw [← Int.natAbs_eq_zero, Int.natAbs_tmod]
theorem sign_ways (off : Int) (h0 : off ≠ 0) : ∃ (a b : UInt8) (t : List UInt8) (n : Nat), ofT off = a :: t ∧ ofT (-off) = b :: t ∧ t.length + 1 = n ∧ ((0 < off ∧ a = 43 ∧ b = 45) ∨ (off < 0 ∧ a = 45 ∧ b = 43)) ∧
    ((n = 3 ∧ off.natAbs % 3600 = 0 ∧ off.natAbs % 60 = 0) ∨ (n = 5 ∧ off.natAbs % 3600 ≠ 0 ∧ off.natAbs % 60 = 0) ∨ (n = 7 ∧ off.natAbs % 3600 ≠ 0 ∧ off.natAbs % 60 ≠ 0)) := by
  have e : (-off).natAbs = off.natAbs := by omega
  have hl : (ofT off).length = _ := txO_len (if off < 0 then 45 else 43) off.natAbs
  refine ⟨if off < 0 then 45 else 43, if -off < 0 then 45 else 43, (ofT off).drop 1, (ofT off).length, rfl, ?_, ?_, ?_, ?_⟩
  · unfold ofT txO; rw [e]; rfl
  · rw [List.length_drop, hl]; split <;> (try split) <;> rfl
  · by_cases h : off < 0
    · exact .inr ⟨h, by rw [if_pos h], by rw [if_neg (by omega)]⟩
    · exact .inl ⟨by omega, by rw [if_neg h], by rw [if_pos (by omega)]⟩
  · rw [hl]
    by_cases h1 : off.natAbs % 3600 = 0
    · rw [if_pos h1]; exact .inl ⟨rfl, h1, by omega⟩
    · rw [if_neg h1]
      by_cases h2 : off.natAbs % 60 = 0
      · rw [if_pos h2]; exact .inr (.inl ⟨rfl, h1, h2⟩)
      · rw [if_neg h2]; exact .inr (.inr ⟨rfl, h1, h2⟩)
theorem signs_out (off : Int) (w : World) (HA : Hid (LaidB w)) (h : off ≤ -360000 ∨ 360000 ≤ off ∨ off = 0) :
    Calls Tryd.prog 9 #[.int .i64 off] w fun e w' => e = .returned (.bool true) ∧ Below w.heap.size w w' := by
  have V : off ≤ -360000 ∨ (¬ off ≤ -360000 ∧ 360000 ≤ off) ∨ off = 0 := by omega
  rcases V with V | ⟨V, V2⟩ | rfl
  all_goals go_enter Tryd.func9, Tryd.ntmps9
  all_goals go_wp2_with (first | (go_at_call 10; refine (awake_is _ HA).mono ?_; rintro e w1 ⟨rfl, k1⟩; simp only []))
  all_goals go_ret
  all_goals exact ⟨rfl, k1⟩
set_option maxHeartbeats 3200000 in
theorem signs_in (off : Int) (a b : UInt8) (t : List UInt8) (n : Nat) (w : World) (HA : Hid (LaidB w)) (h1 : -360000 < off) (h2 : off < 360000) (h0 : off ≠ 0) (ea : ofT off = a :: t) (eb : ofT (-off) = b :: t) (hn : t.length + 1 = n)
    (hs : (0 < off ∧ a = 43 ∧ b = 45) ∨ (off < 0 ∧ a = 45 ∧ b = 43)) (hm : (n = 3 ∧ off.natAbs % 3600 = 0 ∧ off.natAbs % 60 = 0) ∨ (n = 5 ∧ off.natAbs % 3600 ≠ 0 ∧ off.natAbs % 60 = 0) ∨ (n = 7 ∧ off.natAbs % 3600 ≠ 0 ∧ off.natAbs % 60 ≠ 0)) :
    Calls Tryd.prog 9 #[.int .i64 off] w fun e w' => e = .returned (.bool true) ∧ Below w.heap.size w w' := by
  obtain ⟨s, hs1⟩ : ∃ s, a :: t = s := ⟨_, rfl⟩
  obtain ⟨u, hu1⟩ : ∃ u, b :: t = u := ⟨_, rfl⟩
  have O1 : Hid (ofS off = s ∧ ofE off = 0) := Lib.hid ⟨by unfold ofS; rw [if_neg (by omega), ea, hs1], by unfold ofE; rw [if_neg (by omega)]⟩
  have O2 : Hid (ofS (-off) = u ∧ ofE (-off) = 0) := Lib.hid ⟨by unfold ofS; rw [if_neg (by omega), eb, hu1], by unfold ofE; rw [if_neg (by omega)]⟩
  have d1 := drop_run s t 1 1 rfl (by rw [← hs1]; rfl) (by rw [← hs1]; simp)
  have d2 := drop_run u t 1 1 rfl (by rw [← hu1]; rfl) (by rw [← hu1]; simp)
  have l1 : s.length = n := by rw [← hs1, ← hn]; rfl
  have l2 : u.length = n := by rw [← hu1, ← hn]; rfl
  have m1 := tmod_z off 3600
  have m2 := tmod_z off 60
  have z0 : (off == 0) = false := by simpa using h0
  have g1 : ¬ off ≤ -360000 := by omega
  have g2 : ¬ 360000 ≤ off := by omega
  clear ea eb hn
  rcases hs with ⟨p, rfl, rfl⟩ | ⟨p, rfl, rfl⟩
  · have z1 := byte_zeroz s _ t 43 hs1.symm rfl
    have z2 := byte_zeroz u _ t 45 hu1.symm rfl
    rw [Int.tmod_eq_emod_of_nonneg (by omega)] at m1 m2
    clear hs1 hu1
    rcases hm with ⟨rfl, q1, q2⟩ | ⟨rfl, q1, q2⟩ | ⟨rfl, q1, q2⟩
    · have m1' : (off % 3600 == 0) = true := by rw [m1]; simpa using q1
      have m2' : (off % 60 != 0) = false := by rw [bne, m2]; simpa using q2
      clear m1 m2 q1 q2
      go_enter Tryd.func9, Tryd.ntmps9
      go_wp2_with (first | (go_at_call 13; refine (offset_is off _ _ _ O1).mono ?_; rintro e w1 ⟨rfl, k1⟩; simp only []; have K1 := Lib.hid k1; clear k1 O1) | (go_at_call 13; refine (offset_is (-off) _ _ _ O2).mono ?_; rintro e w2 ⟨rfl, k2⟩; simp only []; have K2 := Lib.hid (K1.out.trans (k2.mono K1.out.size)); clear k2 O2))
      go_quiet (fail)
      go_wp2_with (first | (go_at_call 10; refine (awake_is _ (Lib.hid (HA.out.next (bdrews K2.out nq)))).mono ?_; rintro e w3 ⟨rfl, k3⟩; simp only []))
      go_ret
      exact ⟨rfl, (bdrews K2.out nq).trans (k3.mono (bdrews K2.out nq).size)⟩
    · have m1' : (off % 3600 == 0) = false := by rw [m1]; simpa using q1
      have m2' : (off % 60 != 0) = false := by rw [bne, m2]; simpa using q2
      clear m1 m2 q1 q2
      go_enter Tryd.func9, Tryd.ntmps9
      go_wp2_with (first | (go_at_call 13; refine (offset_is off _ _ _ O1).mono ?_; rintro e w1 ⟨rfl, k1⟩; simp only []; have K1 := Lib.hid k1; clear k1 O1) | (go_at_call 13; refine (offset_is (-off) _ _ _ O2).mono ?_; rintro e w2 ⟨rfl, k2⟩; simp only []; have K2 := Lib.hid (K1.out.trans (k2.mono K1.out.size)); clear k2 O2))
      go_quiet (fail)
      go_wp2_with (first | (go_at_call 10; refine (awake_is _ (Lib.hid (HA.out.next (bdrews K2.out nq)))).mono ?_; rintro e w3 ⟨rfl, k3⟩; simp only []))
      go_ret
      exact ⟨rfl, (bdrews K2.out nq).trans (k3.mono (bdrews K2.out nq).size)⟩
    · have m1' : (off % 3600 == 0) = false := by rw [m1]; simpa using q1
      have m2' : (off % 60 != 0) = true := by rw [bne, m2]; simpa using q2
      clear m1 m2 q1 q2
      go_enter Tryd.func9, Tryd.ntmps9
      go_wp2_with (first | (go_at_call 13; refine (offset_is off _ _ _ O1).mono ?_; rintro e w1 ⟨rfl, k1⟩; simp only []; have K1 := Lib.hid k1; clear k1 O1) | (go_at_call 13; refine (offset_is (-off) _ _ _ O2).mono ?_; rintro e w2 ⟨rfl, k2⟩; simp only []; have K2 := Lib.hid (K1.out.trans (k2.mono K1.out.size)); clear k2 O2))
      go_quiet (fail)
      go_wp2_with (first | (go_at_call 10; refine (awake_is _ (Lib.hid (HA.out.next (bdrews K2.out nq)))).mono ?_; rintro e w3 ⟨rfl, k3⟩; simp only []))
      go_ret
      exact ⟨rfl, (bdrews K2.out nq).trans (k3.mono (bdrews K2.out nq).size)⟩
  · have z1 := byte_zeroz s _ t 45 hs1.symm rfl
    have z2 := byte_zeroz u _ t 43 hu1.symm rfl
    clear hs1 hu1
    rcases hm with ⟨rfl, q1, q2⟩ | ⟨rfl, q1, q2⟩ | ⟨rfl, q1, q2⟩
    · have m1' : (off.tmod 3600 == 0) = true := by rw [m1]; simpa using q1
      have m2' : (off.tmod 60 != 0) = false := by rw [bne, m2]; simpa using q2
      clear m1 m2 q1 q2
      go_enter Tryd.func9, Tryd.ntmps9
      go_wp2_with (first | (go_at_call 13; refine (offset_is off _ _ _ O1).mono ?_; rintro e w1 ⟨rfl, k1⟩; simp only []; have K1 := Lib.hid k1; clear k1 O1) | (go_at_call 13; refine (offset_is (-off) _ _ _ O2).mono ?_; rintro e w2 ⟨rfl, k2⟩; simp only []; have K2 := Lib.hid (K1.out.trans (k2.mono K1.out.size)); clear k2 O2))
      go_quiet (fail)
      go_wp2_with (first | (go_at_call 10; refine (awake_is _ (Lib.hid (HA.out.next (bdrews K2.out nq)))).mono ?_; rintro e w3 ⟨rfl, k3⟩; simp only []))
      go_ret
      exact ⟨rfl, (bdrews K2.out nq).trans (k3.mono (bdrews K2.out nq).size)⟩
    · have m1' : (off.tmod 3600 == 0) = false := by rw [m1]; simpa using q1
      have m2' : (off.tmod 60 != 0) = false := by rw [bne, m2]; simpa using q2
      clear m1 m2 q1 q2
      go_enter Tryd.func9, Tryd.ntmps9
      go_wp2_with (first | (go_at_call 13; refine (offset_is off _ _ _ O1).mono ?_; rintro e w1 ⟨rfl, k1⟩; simp only []; have K1 := Lib.hid k1; clear k1 O1) | (go_at_call 13; refine (offset_is (-off) _ _ _ O2).mono ?_; rintro e w2 ⟨rfl, k2⟩; simp only []; have K2 := Lib.hid (K1.out.trans (k2.mono K1.out.size)); clear k2 O2))
      go_quiet (fail)
      go_wp2_with (first | (go_at_call 10; refine (awake_is _ (Lib.hid (HA.out.next (bdrews K2.out nq)))).mono ?_; rintro e w3 ⟨rfl, k3⟩; simp only []))
      go_ret
      exact ⟨rfl, (bdrews K2.out nq).trans (k3.mono (bdrews K2.out nq).size)⟩
    · have m1' : (off.tmod 3600 == 0) = false := by rw [m1]; simpa using q1
      have m2' : (off.tmod 60 != 0) = true := by rw [bne, m2]; simpa using q2
      clear m1 m2 q1 q2
      go_enter Tryd.func9, Tryd.ntmps9
      go_wp2_with (first | (go_at_call 13; refine (offset_is off _ _ _ O1).mono ?_; rintro e w1 ⟨rfl, k1⟩; simp only []; have K1 := Lib.hid k1; clear k1 O1) | (go_at_call 13; refine (offset_is (-off) _ _ _ O2).mono ?_; rintro e w2 ⟨rfl, k2⟩; simp only []; have K2 := Lib.hid (K1.out.trans (k2.mono K1.out.size)); clear k2 O2))
      go_quiet (fail)
      go_wp2_with (first | (go_at_call 10; refine (awake_is _ (Lib.hid (HA.out.next (bdrews K2.out nq)))).mono ?_; rintro e w3 ⟨rfl, k3⟩; simp only []))
      go_ret
      exact ⟨rfl, (bdrews K2.out nq).trans (k3.mono (bdrews K2.out nq).size)⟩
theorem abbrSigns_walk (off : Int) (w : World) (hA : LaidB w) :
    Calls Tryd.prog 9 #[.int .i64 off] w fun e w' => e = .returned (.bool true) ∧ Below w.heap.size w w' := by
  have HA := Lib.hid hA
  by_cases h : off ≤ -360000 ∨ 360000 ≤ off ∨ off = 0
  · exact signs_out off w HA h
  · obtain ⟨a, b, t, n, e1, e2, e3, e4, e5⟩ := sign_ways off (by omega)
    exact signs_in off a b t n w HA (by omega) (by omega) (by omega) e1 e2 e3 e4 e5
end Go.Proofs.YtcfmmllegaddhaaDoor
