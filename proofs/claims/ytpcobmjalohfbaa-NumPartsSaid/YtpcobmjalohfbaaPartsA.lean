/- For every two numbers a and b of 64 bits the law NumParts returns true, and nothing that was in memory changes: there are no other conditions. -/
import Derived.Test.YtpcobmjalohfbaaRows
import Derived.WalkKit
import Derived.ProofKit
import Derived.OpenShut
import Derived.Below
import Derived.Test.YtpcobmjalohfbaaRound
import Derived.Test.YtpcobmjalohfbaaLprod
namespace Go.Proofs.Ytpcobmjalohfbaa
open Go.RowKit

theorem equal_long (x : Nat → Int) (w : World) : (Op.equalIn 10000 25 (.agg (cellsL x)) (.agg (cellsL x))).run Try.prog w = .ok true w := by
  have h := equalIn_ints (P := Try.prog) w 9998 25 3 8 Try.underlying25 Try.underlying3 size_int [x 0, x 1, x 2, x 3, x 4, x 5, x 6, x 7] [x 0, x 1, x 2, x 3, x 4, x 5, x 6, x 7] rfl rfl
  rw [beq_self_eq_true] at h
  exact h

/-- What a rest is, on the divisor's side. -/
theorem fmod_side (a b : Int) (hb : b ≠ 0) : a.fmod b = 0 ∨ (0 < b ∧ 0 < a.fmod b ∧ a.fmod b < b) ∨ (b < 0 ∧ a.fmod b < 0 ∧ b < a.fmod b) := by
  have ht : (a.tmod b).natAbs < b.natAbs := by rw [Int.natAbs_tmod]; exact Nat.mod_lt _ (by omega)
  by_cases hc : a.tmod b ≠ 0 ∧ ¬ (a.tmod b < 0 ↔ b < 0)
  · have := (cross_yes a b hb hc.1 hc.2).2; omega
  · have := (cross_no a b (by omega)).2; omega

namespace numParts
open Go.ChangeShapes Go.WideShapes Go.ChangeAt Go.RowKit

theorem own : ownKnob Try.prog.godebug = none := by kernel_rfl

theorem walk_zero (a : Int) (w : World) (ha1 : -9223372036854775808 ≤ a) (ha2 : a ≤ 9223372036854775807) :
    Calls Try.prog 4 #[.int .i64 a, .int .i64 0] w fun e w' => e = .returned (.bool true) ∧ Below w.heap.size w w' := by
  have e1 : divE a 0 = 1 := by unfold divE; rw [if_pos rfl]
  have e2 : modE 0 = 1 := by unfold modE; rw [if_pos rfl]
  have e3 : divV a 0 = 0 := by unfold divV; rw [if_pos rfl]
  have e4 : modV a 0 = 0 := by unfold modV; rw [if_pos rfl]
  go_enter Try.func4, Try.ntmps4
  go_wp2_with (first
    | (go_at_call 19; refine (div_all _ _ _ (by omega) (by omega)).mono ?_; rintro e w1 ⟨rfl, rfl⟩)
    | (go_at_call 20; refine (mod_all _ _ _ (by omega) (by omega)).mono ?_; rintro e w1 ⟨rfl, rfl⟩)
    | (go_at_call 8; refine (awake_yes _).mono ?_; rintro e w1 ⟨rfl, rfl⟩))
  go_ret
  exact ⟨rfl, Below.refl _ _⟩

theorem walk_over (w : World) :
    Calls Try.prog 4 #[.int .i64 (-9223372036854775808), .int .i64 (-1)] w fun e w' => e = .returned (.bool true) ∧ Below w.heap.size w w' := by
  have e1 : divE (-9223372036854775808) (-1) = 11 := by decide
  have e2 : modE (-1) = 0 := by decide
  have e3 : divV (-9223372036854775808) (-1) = 0 := by decide
  have e4 : modV (-9223372036854775808) (-1) = 0 := by decide +kernel
  go_enter Try.func4, Try.ntmps4
  go_wp2_with (first
    | (go_at_call 19; refine (div_all _ _ _ (by omega) (by omega)).mono ?_; rintro e w1 ⟨rfl, rfl⟩)
    | (go_at_call 20; refine (mod_all _ _ _ (by omega) (by omega)).mono ?_; rintro e w1 ⟨rfl, rfl⟩)
    | (go_at_call 8; refine (awake_yes _).mono ?_; rintro e w1 ⟨rfl, rfl⟩))
  go_ret
  exact ⟨rfl, Below.refl _ _⟩

set_option maxHeartbeats 1000000 in
theorem walk_main (a b q r : Int) (w : World) (ha1 : -9223372036854775808 ≤ a) (ha2 : a ≤ 9223372036854775807) (hb1 : -9223372036854775808 ≤ b) (hb2 : b ≤ 9223372036854775807)
    (hq1 : -9223372036854775808 ≤ q) (hq2 : q ≤ 9223372036854775807) (hr1 : -9223372036854775808 ≤ r) (hr2 : r ≤ 9223372036854775807)
    (hb0 : (b == 0) = false) (e1 : divE a b = 0) (e2 : modE b = 0) (e3 : divV a b = q) (e4 : modV a b = r) (HS : Hid (q * b + r = a))
    (hside : r = 0 ∨ (0 < b ∧ 0 < r ∧ r < b) ∨ (b < 0 ∧ r < 0 ∧ b < r)) :
    Calls Try.prog 4 #[.int .i64 a, .int .i64 b] w fun e w' => e = .returned (.bool true) ∧ Below w.heap.size w w' := by
  have heq := equal_long
  have HP : Hid (∀ (x : Nat → Int) (v : Int), Norm x → valL x = v → -170141183460469231731687303715884105728 ≤ v → v ≤ 170141183460469231731687303715884105728 → ∀ j, j < 8 → -2305843009213693952 ≤ x j ∧ x j ≤ 2305843009213693952) := by
    intro x v h1 h2 h3 h4
    exact norm_bd h1 (by omega) (by omega)
  have HM : Hid (-85070591730234615865843651857942052864 ≤ q * b ∧ q * b ≤ 85070591730234615865843651857942052864) := by
    have h : (q * b).natAbs ≤ 9223372036854775808 * 9223372036854775808 := by
      rw [Int.natAbs_mul]
      exact Nat.mul_le_mul (by omega) (by omega)
    show _ ∧ _
    omega
  have hcase : ((r != 0) = false) ∨ ((r != 0) = true ∧ 0 < b ∧ 0 < r ∧ r < b) ∨ ((r != 0) = true ∧ b < 0 ∧ r < 0 ∧ b < r) := by
    rcases hside with h | h | h
    · left; simp [h]
    · right; left; exact ⟨by simp; omega, h⟩
    · right; right; exact ⟨by simp; omega, h⟩
  clear hside
  rcases hcase with h0 | ⟨h0, h1, h2, h3⟩ | ⟨h0, h1, h2, h3⟩
  all_goals
    go_enter Try.func4, Try.ntmps4
    go_wp2_with (first
      | (go_at_call 19; refine (div_all _ _ _ (by omega) (by omega)).mono ?_; rintro e w1 ⟨rfl, rfl⟩)
      | (go_at_call 20; refine (mod_all _ _ _ (by omega) (by omega)).mono ?_; rintro e w1 ⟨rfl, rfl⟩))
    refine (lmul_any q b _ hq1 hq2 hb1 hb2).mono ?_
    rintro e w1 ⟨⟨z1, rfl, n1, v1⟩, k1⟩
    have N1 := Lib.hid n1
    have V1 := Lib.hid v1
    clear n1 v1
    go_wp2_with fail
    refine (of_any r _ hr1 hr2).mono ?_
    rintro e w2 ⟨⟨z2, rfl, n2, v2⟩, k2⟩
    have N2 := Lib.hid n2
    have V2 := Lib.hid v2
    clear n2 v2
    go_wp2_with fail
    refine (ladd_any z1 z2 _ (HP.out z1 _ N1.out V1.out (by have := HM.out; omega) (by have := HM.out; omega)) (HP.out z2 _ N2.out V2.out (by omega) (by omega))).mono ?_
    rintro e w3 ⟨⟨z3, rfl, n3, v3⟩, k3⟩
    have N3 := Lib.hid n3
    have V3 : Hid (valL z3 = a) := by show _ = _; rw [v3, V1.out, V2.out]; exact HS.out
    clear n3 v3
    go_wp2_with fail
    refine (of_any a _ ha1 ha2).mono ?_
    rintro e w4 ⟨⟨z4, rfl, n4, v4⟩, k4⟩
    rw [cellsL_congr (norm_unique n4 N3.out (v4.trans V3.out.symm))]
    clear n4 v4
    go_wp2_with (go_at_call 8; refine (awake_yes _).mono ?_; rintro e w1 ⟨rfl, rfl⟩)
    go_ret
    exact ⟨rfl, below_after (below_after (below_after k1 k2 k1.size) k3 (Nat.le_trans k1.size k2.size)) k4 (Nat.le_trans (Nat.le_trans k1.size k2.size) k3.size)⟩
end numParts
end Go.Proofs.Ytpcobmjalohfbaa
