/- For every two numbers a and b of 64 bits the law NumRound returns true, and nothing that was in memory changes: there are no other conditions. -/
import Derived.Test.YtpcobmjalohfbaaRows
import Derived.WalkKit
import Derived.ProofKit
import Derived.OpenShut
import Derived.Below
import Derived.Test.YtpcobmjalohfbaaDiv
import Derived.Test.YtpcobmjalohfbaaProd
namespace Go.Proofs.Ytpcobmjalohfbaa.numRound
open Go.ChangeShapes Go.WideShapes Go.ChangeAt Go.RowKit
set_option linter.unusedVariables false

theorem own : ownKnob Try.prog.godebug = none := by kernel_rfl

theorem walk_zero (a : Int) (w : World) (ha1 : -9223372036854775808 ≤ a) (ha2 : a ≤ 9223372036854775807) :
    Calls Try.prog 6 #[.int .i64 a, .int .i64 0] w fun e w' => e = .returned (.bool true) ∧ Below w.heap.size w w' := by
  have e1 : divE a 0 = 1 := by unfold divE; rw [if_pos rfl]
  have e2 : modE 0 = 1 := by unfold modE; rw [if_pos rfl]
  go_enter Try.func6, Try.ntmps6
  go_wp2_with (first
    | (go_at_call 19; refine (div_all _ _ _ (by omega) (by omega)).mono ?_; rintro e w1 ⟨rfl, rfl⟩)
    | (go_at_call 20; refine (mod_all _ _ _ (by omega) (by omega)).mono ?_; rintro e w1 ⟨rfl, rfl⟩)
    | (go_at_call 10; refine (add_any _ _ _ (by omega) (by omega) (by omega) (by omega)).mono ?_; rintro e w1 ⟨rfl, hb⟩)
    | (go_at_call 12; refine (mul_any _ _ _ (by omega) (by omega) (by omega) (by omega)).mono ?_; rintro e w2 ⟨rfl, hc⟩)
    | (go_at_call 8; refine (awake_yes _).mono ?_; rintro e w1 ⟨rfl, rfl⟩))
  go_ret
  exact ⟨rfl, hb⟩

set_option maxHeartbeats 400000 in
theorem walk_ny (a b q q1 r n m : Int) (w : World) (ha1 : -9223372036854775808 ≤ a) (ha2 : a ≤ 9223372036854775807) (hb1 : -9223372036854775808 ≤ b) (hb2 : b ≤ 9223372036854775807) (hb0 : (b == 0) = false) (m1e : modE b = 0) (f1e : fitE (a + b) = 11) (f3e : fitE (a * b) = 0) (m1 : modV a b = r) (f3 : fitV (a * b) = m) (hm1 : -9223372036854775808 ≤ m) (hm2 : m ≤ 9223372036854775807) (d4 : divV m b = a) (d4e : divE m b = 0) (m4 : modV m b = 0) :
    Calls Try.prog 6 #[.int .i64 a, .int .i64 b] w fun e w' => e = .returned (.bool true) ∧ Below w.heap.size w w' := by
  go_enter Try.func6, Try.ntmps6
  go_wp2_with (first
    | (go_at_call 19; refine (div_all _ _ _ (by omega) (by omega)).mono ?_; rintro e w1 ⟨rfl, rfl⟩)
    | (go_at_call 20; refine (mod_all _ _ _ (by omega) (by omega)).mono ?_; rintro e w1 ⟨rfl, rfl⟩)
    | (go_at_call 10; refine (add_any _ _ _ (by omega) (by omega) (by omega) (by omega)).mono ?_; rintro e w1 ⟨rfl, hb⟩)
    | (go_at_call 12; refine (mul_any _ _ _ (by omega) (by omega) (by omega) (by omega)).mono ?_; rintro e w2 ⟨rfl, hc⟩)
    | (go_at_call 8; refine (awake_yes _).mono ?_; rintro e w1 ⟨rfl, rfl⟩))
  go_ret
  exact ⟨rfl, below_after hb hc hb.size⟩

set_option maxHeartbeats 400000 in
theorem walk_nn (a b q q1 r n m : Int) (w : World) (ha1 : -9223372036854775808 ≤ a) (ha2 : a ≤ 9223372036854775807) (hb1 : -9223372036854775808 ≤ b) (hb2 : b ≤ 9223372036854775807) (hb0 : (b == 0) = false) (m1e : modE b = 0) (f1e : fitE (a + b) = 11) (f3e : fitE (a * b) = 11) (m1 : modV a b = r) :
    Calls Try.prog 6 #[.int .i64 a, .int .i64 b] w fun e w' => e = .returned (.bool true) ∧ Below w.heap.size w w' := by
  go_enter Try.func6, Try.ntmps6
  go_wp2_with (first
    | (go_at_call 19; refine (div_all _ _ _ (by omega) (by omega)).mono ?_; rintro e w1 ⟨rfl, rfl⟩)
    | (go_at_call 20; refine (mod_all _ _ _ (by omega) (by omega)).mono ?_; rintro e w1 ⟨rfl, rfl⟩)
    | (go_at_call 10; refine (add_any _ _ _ (by omega) (by omega) (by omega) (by omega)).mono ?_; rintro e w1 ⟨rfl, hb⟩)
    | (go_at_call 12; refine (mul_any _ _ _ (by omega) (by omega) (by omega) (by omega)).mono ?_; rintro e w2 ⟨rfl, hc⟩)
    | (go_at_call 8; refine (awake_yes _).mono ?_; rintro e w1 ⟨rfl, rfl⟩))
  go_ret
  exact ⟨rfl, below_after hb hc hb.size⟩

set_option maxHeartbeats 400000 in
theorem walk_yy (a b q q1 r n m : Int) (w : World) (ha1 : -9223372036854775808 ≤ a) (ha2 : a ≤ 9223372036854775807) (hb1 : -9223372036854775808 ≤ b) (hb2 : b ≤ 9223372036854775807) (hb0 : (b == 0) = false) (m1e : modE b = 0) (f1e : fitE (a + b) = 0) (f3e : fitE (a * b) = 0) (m1 : modV a b = r) (f1 : fitV (a + b) = n) (hn1 : -9223372036854775808 ≤ n) (hn2 : n ≤ 9223372036854775807) (d1 : divV a b = q) (d1e : divE a b = 0) (d2e : divE n b = 0) (m2 : modV n b = r) (d2 : divV n b = q1) (hq : wrap64 (q + 1) = q1) (f3 : fitV (a * b) = m) (hm1 : -9223372036854775808 ≤ m) (hm2 : m ≤ 9223372036854775807) (d4 : divV m b = a) (d4e : divE m b = 0) (m4 : modV m b = 0) :
    Calls Try.prog 6 #[.int .i64 a, .int .i64 b] w fun e w' => e = .returned (.bool true) ∧ Below w.heap.size w w' := by
  go_enter Try.func6, Try.ntmps6
  go_wp2_with (first
    | (go_at_call 19; refine (div_all _ _ _ (by omega) (by omega)).mono ?_; rintro e w1 ⟨rfl, rfl⟩)
    | (go_at_call 20; refine (mod_all _ _ _ (by omega) (by omega)).mono ?_; rintro e w1 ⟨rfl, rfl⟩)
    | (go_at_call 10; refine (add_any _ _ _ (by omega) (by omega) (by omega) (by omega)).mono ?_; rintro e w1 ⟨rfl, hb⟩)
    | (go_at_call 12; refine (mul_any _ _ _ (by omega) (by omega) (by omega) (by omega)).mono ?_; rintro e w2 ⟨rfl, hc⟩)
    | (go_at_call 8; refine (awake_yes _).mono ?_; rintro e w1 ⟨rfl, rfl⟩))
  go_ret
  exact ⟨rfl, below_after hb hc hb.size⟩

set_option maxHeartbeats 400000 in
theorem walk_yn (a b q q1 r n m : Int) (w : World) (ha1 : -9223372036854775808 ≤ a) (ha2 : a ≤ 9223372036854775807) (hb1 : -9223372036854775808 ≤ b) (hb2 : b ≤ 9223372036854775807) (hb0 : (b == 0) = false) (m1e : modE b = 0) (f1e : fitE (a + b) = 0) (f3e : fitE (a * b) = 11) (m1 : modV a b = r) (f1 : fitV (a + b) = n) (hn1 : -9223372036854775808 ≤ n) (hn2 : n ≤ 9223372036854775807) (d1 : divV a b = q) (d1e : divE a b = 0) (d2e : divE n b = 0) (m2 : modV n b = r) (d2 : divV n b = q1) (hq : wrap64 (q + 1) = q1) :
    Calls Try.prog 6 #[.int .i64 a, .int .i64 b] w fun e w' => e = .returned (.bool true) ∧ Below w.heap.size w w' := by
  go_enter Try.func6, Try.ntmps6
  go_wp2_with (first
    | (go_at_call 19; refine (div_all _ _ _ (by omega) (by omega)).mono ?_; rintro e w1 ⟨rfl, rfl⟩)
    | (go_at_call 20; refine (mod_all _ _ _ (by omega) (by omega)).mono ?_; rintro e w1 ⟨rfl, rfl⟩)
    | (go_at_call 10; refine (add_any _ _ _ (by omega) (by omega) (by omega) (by omega)).mono ?_; rintro e w1 ⟨rfl, hb⟩)
    | (go_at_call 12; refine (mul_any _ _ _ (by omega) (by omega) (by omega) (by omega)).mono ?_; rintro e w2 ⟨rfl, hc⟩)
    | (go_at_call 8; refine (awake_yes _).mono ?_; rintro e w1 ⟨rfl, rfl⟩))
  go_ret
  exact ⟨rfl, below_after hb hc hb.size⟩

set_option maxHeartbeats 400000 in
theorem walk_zy (a b q q1 r n m : Int) (w : World) (ha1 : -9223372036854775808 ≤ a) (ha2 : a ≤ 9223372036854775807) (hb1 : -9223372036854775808 ≤ b) (hb2 : b ≤ 9223372036854775807) (hb0 : (b == 0) = false) (m1e : modE b = 0) (f1e : fitE (a + b) = 0) (f3e : fitE (a * b) = 0) (m1 : modV a b = r) (f1 : fitV (a + b) = n) (hn1 : -9223372036854775808 ≤ n) (hn2 : n ≤ 9223372036854775807) (d1 : divV a b = q) (d1e : divE a b = 0) (d2e : divE n b = 11) (m2 : modV n b = r) (f3 : fitV (a * b) = m) (hm1 : -9223372036854775808 ≤ m) (hm2 : m ≤ 9223372036854775807) (d4 : divV m b = a) (d4e : divE m b = 0) (m4 : modV m b = 0) :
    Calls Try.prog 6 #[.int .i64 a, .int .i64 b] w fun e w' => e = .returned (.bool true) ∧ Below w.heap.size w w' := by
  go_enter Try.func6, Try.ntmps6
  go_wp2_with (first
    | (go_at_call 19; refine (div_all _ _ _ (by omega) (by omega)).mono ?_; rintro e w1 ⟨rfl, rfl⟩)
    | (go_at_call 20; refine (mod_all _ _ _ (by omega) (by omega)).mono ?_; rintro e w1 ⟨rfl, rfl⟩)
    | (go_at_call 10; refine (add_any _ _ _ (by omega) (by omega) (by omega) (by omega)).mono ?_; rintro e w1 ⟨rfl, hb⟩)
    | (go_at_call 12; refine (mul_any _ _ _ (by omega) (by omega) (by omega) (by omega)).mono ?_; rintro e w2 ⟨rfl, hc⟩)
    | (go_at_call 8; refine (awake_yes _).mono ?_; rintro e w1 ⟨rfl, rfl⟩))
  go_ret
  exact ⟨rfl, below_after hb hc hb.size⟩

set_option maxHeartbeats 400000 in
theorem walk_zn (a b q q1 r n m : Int) (w : World) (ha1 : -9223372036854775808 ≤ a) (ha2 : a ≤ 9223372036854775807) (hb1 : -9223372036854775808 ≤ b) (hb2 : b ≤ 9223372036854775807) (hb0 : (b == 0) = false) (m1e : modE b = 0) (f1e : fitE (a + b) = 0) (f3e : fitE (a * b) = 11) (m1 : modV a b = r) (f1 : fitV (a + b) = n) (hn1 : -9223372036854775808 ≤ n) (hn2 : n ≤ 9223372036854775807) (d1 : divV a b = q) (d1e : divE a b = 0) (d2e : divE n b = 11) (m2 : modV n b = r) :
    Calls Try.prog 6 #[.int .i64 a, .int .i64 b] w fun e w' => e = .returned (.bool true) ∧ Below w.heap.size w w' := by
  go_enter Try.func6, Try.ntmps6
  go_wp2_with (first
    | (go_at_call 19; refine (div_all _ _ _ (by omega) (by omega)).mono ?_; rintro e w1 ⟨rfl, rfl⟩)
    | (go_at_call 20; refine (mod_all _ _ _ (by omega) (by omega)).mono ?_; rintro e w1 ⟨rfl, rfl⟩)
    | (go_at_call 10; refine (add_any _ _ _ (by omega) (by omega) (by omega) (by omega)).mono ?_; rintro e w1 ⟨rfl, hb⟩)
    | (go_at_call 12; refine (mul_any _ _ _ (by omega) (by omega) (by omega) (by omega)).mono ?_; rintro e w2 ⟨rfl, hc⟩)
    | (go_at_call 8; refine (awake_yes _).mono ?_; rintro e w1 ⟨rfl, rfl⟩))
  go_ret
  exact ⟨rfl, below_after hb hc hb.size⟩

end Go.Proofs.Ytpcobmjalohfbaa.numRound
