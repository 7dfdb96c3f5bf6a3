/- The contract of num.Mul, out of those of its parts: a product of any two numbers of 64 bits, or 0 and the error 11 if it does not fit; what was in memory stays as it was. -/
import Derived.Test.YtpcobmjalohfbaaMul
namespace Go.Proofs.Ytpcobmjalohfbaa
open Go.RowKit

theorem and_low_u (a : Int) (h1 : 0 ≤ a) (h2 : a < 18446744073709551616) : bits .and .u64 a 4294967295 = a % 4294967296 := by
  rw [u64_and a 4294967295 h1 h2 (by omega) (by omega)]
  have e : (4294967295 : Int).toNat = 4294967295 := by decide
  rw [e, nat_mask32]
  omega

theorem mul_bd (x y : Int) (hx1 : 0 ≤ x) (hx2 : x < 4294967296) (hy1 : 0 ≤ y) (hy2 : y < 4294967296) : 0 ≤ x * y ∧ x * y < 18446744073709551616 := by
  have h1 : 0 ≤ x * y := Int.mul_nonneg hx1 hy1
  have h2 : x * y ≤ 4294967295 * y := Int.mul_le_mul_of_nonneg_right (by omega) hy1
  omega

theorem mul_parts (a b : Int) : a * b = a % 4294967296 * (b % 4294967296) + a % 4294967296 * (b / 4294967296) * 4294967296 + a / 4294967296 * (b % 4294967296) * 4294967296 + a / 4294967296 * (b / 4294967296) * 18446744073709551616 := by
  have ha : a = a % 4294967296 + a / 4294967296 * 4294967296 := by omega
  have hb : b = b % 4294967296 + b / 4294967296 * 4294967296 := by omega
  generalize a % 4294967296 = a0 at *
  generalize a / 4294967296 = a1 at *
  generalize b % 4294967296 = b0 at *
  generalize b / 4294967296 = b1 at *
  subst ha hb
  rw [Int.add_mul, Int.mul_add, Int.mul_add]
  have e1 : a0 * (b1 * 4294967296) = a0 * b1 * 4294967296 := (Int.mul_assoc _ _ _).symm
  have e2 : a1 * 4294967296 * b0 = a1 * b0 * 4294967296 := by rw [Int.mul_assoc, Int.mul_comm 4294967296 b0, ← Int.mul_assoc]
  have e3 : a1 * 4294967296 * (b1 * 4294967296) = a1 * b1 * 18446744073709551616 := by
    rw [Int.mul_assoc, Int.mul_comm 4294967296 (b1 * 4294967296), Int.mul_assoc b1, ← Int.mul_assoc]; rfl
  rw [e1, e2, e3]
  omega

theorem times_yes (a b : Int) (w : World) (ha1 : 0 ≤ a) (ha2 : a < 18446744073709551616) (hb1 : 0 ≤ b) (hb2 : b < 18446744073709551616) (h : a * b < 18446744073709551616) :
    Calls Try.prog 26 #[.int .u64 a, .int .u64 b] w fun e w' => e = .returned (.tuple #[.int .u64 (a * b), .bool true]) ∧ Below w.heap.size w w' := by
  have hp := mul_parts a b
  have k1 := mul_bd (a % 4294967296) (b % 4294967296) (by omega) (by omega) (by omega) (by omega)
  have k2 := mul_bd (a % 4294967296) (b / 4294967296) (by omega) (by omega) (by omega) (by omega)
  have k3 := mul_bd (a / 4294967296) (b % 4294967296) (by omega) (by omega) (by omega) (by omega)
  have k4 := mul_bd (a / 4294967296) (b / 4294967296) (by omega) (by omega) (by omega) (by omega)
  have hz : a / 4294967296 * (b / 4294967296) = 0 := by omega
  have := times_fits a b w (a % 4294967296) (a / 4294967296) (b % 4294967296) (b / 4294967296) (a % 4294967296 * (b % 4294967296)) (a % 4294967296 * (b / 4294967296)) (a / 4294967296 * (b % 4294967296))
    (and_low_u a ha1 ha2) rfl (and_low_u b hb1 hb2) rfl (by rw [u64w]; omega) (by rw [u64w]; omega) (by rw [u64w]; omega) (by rw [u64w, hz]; rfl) k1.1 k2.1 k3.1 (by omega)
  have e : a % 4294967296 * (b % 4294967296) + a % 4294967296 * (b / 4294967296) * 4294967296 + a / 4294967296 * (b % 4294967296) * 4294967296 = a * b := by omega
  rw [e] at this
  exact this

theorem times_no (a b : Int) (w : World) (ha1 : 0 ≤ a) (ha2 : a < 18446744073709551616) (hb1 : 0 ≤ b) (hb2 : b < 18446744073709551616) (h : 18446744073709551616 ≤ a * b) :
    Calls Try.prog 26 #[.int .u64 a, .int .u64 b] w fun e w' => e = .returned (.tuple #[.int .u64 0, .bool false]) ∧ Below w.heap.size w w' := by
  have hp := mul_parts a b
  have k1 := mul_bd (a % 4294967296) (b % 4294967296) (by omega) (by omega) (by omega) (by omega)
  have k2 := mul_bd (a % 4294967296) (b / 4294967296) (by omega) (by omega) (by omega) (by omega)
  have k3 := mul_bd (a / 4294967296) (b % 4294967296) (by omega) (by omega) (by omega) (by omega)
  have k4 := mul_bd (a / 4294967296) (b / 4294967296) (by omega) (by omega) (by omega) (by omega)
  by_cases h2 : 18446744073709551616 ≤ a % 4294967296 * (b % 4294967296) + a % 4294967296 * (b / 4294967296) * 4294967296
  · exact times_over2 a b w _ _ _ _ _ _ _ _ (and_low_u a ha1 ha2) rfl (and_low_u b hb1 hb2) rfl (by rw [u64w]; omega) (by rw [u64w]; omega) (by rw [u64w]; omega) rfl k1.1 k1.2 k2.1 k2.2 k3.1 k3.2 h2
  · by_cases h3 : 18446744073709551616 ≤ a % 4294967296 * (b % 4294967296) + a % 4294967296 * (b / 4294967296) * 4294967296 + a / 4294967296 * (b % 4294967296) * 4294967296
    · exact times_over3 a b w _ _ _ _ _ _ _ _ (and_low_u a ha1 ha2) rfl (and_low_u b hb1 hb2) rfl (by rw [u64w]; omega) (by rw [u64w]; omega) (by rw [u64w]; omega) rfl k1.1 k1.2 k2.1 k2.2 k3.1 k3.2 (by omega) h3
    · exact times_over4 a b w _ _ _ _ _ _ _ (a / 4294967296 * (b / 4294967296)) (and_low_u a ha1 ha2) rfl (and_low_u b hb1 hb2) rfl (by rw [u64w]; omega) (by rw [u64w]; omega) (by rw [u64w]; omega) (by rw [u64w]; omega) k1.1 k1.2 k2.1 k2.2 k3.1 k3.2 (by omega) (by omega)

def absI (n : Int) : Int := if n < 0 then -n else n
theorem abs_bd (n : Int) (h1 : -9223372036854775808 ≤ n) (h2 : n ≤ 9223372036854775807) : 0 ≤ absI n ∧ absI n < 18446744073709551616 := by unfold absI; split <;> omega
theorem size_abs (n : Int) (w : World) (h1 : -9223372036854775808 ≤ n) (h2 : n ≤ 9223372036854775807) :
    Calls Try.prog 27 #[.int .i64 n] w fun e w' => e = .returned (.int .u64 (absI n)) ∧ w = w' := size_any n w h1 h2
theorem abs_mul (a b : Int) : (if (a < 0 ↔ b < 0) then absI a * absI b else -(absI a * absI b)) = a * b := by
  unfold absI
  by_cases ha : a < 0 <;> by_cases hb : b < 0 <;> simp [ha, hb, Int.neg_mul, Int.mul_neg]

theorem sign_same (a b : Int) (hs : a < 0 ↔ b < 0) : (!(decide (a < 0) == decide (b < 0))) = false := by
  by_cases h1 : a < 0
  · have h2 := hs.1 h1; simp [h1, h2]
  · have h2 : ¬ b < 0 := fun h => h1 (hs.2 h)
    simp [h1, h2]
theorem sign_other (a b : Int) (hs : ¬ (a < 0 ↔ b < 0)) : (!(decide (a < 0) == decide (b < 0))) = true := by
  by_cases h1 : a < 0
  · have h2 : ¬ b < 0 := fun h => hs ⟨fun _ => h, fun _ => h1⟩
    simp [h1, h2]
  · have h2 : b < 0 := by
      by_cases h : b < 0
      · exact h
      · exact absurd ⟨fun x => absurd x h1, fun x => absurd x h⟩ hs
    simp [h1, h2]
theorem far_out (a b : Int) (h : ¬ absI a * absI b < 18446744073709551616) : ¬ (-9223372036854775808 ≤ a * b ∧ a * b ≤ 9223372036854775807) := by
  have := abs_mul a b
  by_cases hs : (a < 0 ↔ b < 0)
  · rw [if_pos hs] at this; omega
  · rw [if_neg hs] at this; omega

set_option maxHeartbeats 400000 in
theorem mul_any (a b : Int) (w : World) (ha1 : -9223372036854775808 ≤ a) (ha2 : a ≤ 9223372036854775807) (hb1 : -9223372036854775808 ≤ b) (hb2 : b ≤ 9223372036854775807) :
    Calls Try.prog 12 #[.int .i64 a, .int .i64 b] w fun e w' => e = .returned (.tuple #[.int .i64 (fitV (a * b)), .int .i64 (fitE (a * b))]) ∧ Below w.heap.size w w' := by
  have ka := abs_bd a ha1 ha2
  have kb := abs_bd b hb1 hb2
  have hn : 0 ≤ absI a * absI b := Int.mul_nonneg ka.1 kb.1
  by_cases h : absI a * absI b < 18446744073709551616
  · by_cases hs : (a < 0 ↔ b < 0)
    · have HE : absI a * absI b = a * b := by have := abs_mul a b; rw [if_pos hs] at this; exact this
      rw [← HE]
      clear HE
      have hd := sign_same a b hs
      clear hs
      go_enter Try.func12, Try.ntmps12
      go_wp2_with fail
      refine (size_abs a _ ha1 ha2).mono ?_
      rintro e w1 ⟨rfl, rfl⟩
      go_wp2_with fail
      refine (size_abs b _ hb1 hb2).mono ?_
      rintro e w1 ⟨rfl, rfl⟩
      go_wp2_with fail
      refine (times_yes (absI a) (absI b) _ ka.1 ka.2 kb.1 kb.2 h).mono ?_
      rintro e w1 ⟨rfl, hb⟩
      go_wp2_with fail
      refine (signed_pos _ _ hn).mono ?_
      rintro e w2 ⟨rfl, rfl⟩
      go_wp2_with fail
      go_ret2
      exact ⟨rfl, hb⟩
    · have HE : -(absI a * absI b) = a * b := by have := abs_mul a b; rw [if_neg hs] at this; exact this
      rw [← HE]
      clear HE
      have hd := sign_other a b hs
      clear hs
      go_enter Try.func12, Try.ntmps12
      go_wp2_with fail
      refine (size_abs a _ ha1 ha2).mono ?_
      rintro e w1 ⟨rfl, rfl⟩
      go_wp2_with fail
      refine (size_abs b _ hb1 hb2).mono ?_
      rintro e w1 ⟨rfl, rfl⟩
      go_wp2_with fail
      refine (times_yes (absI a) (absI b) _ ka.1 ka.2 kb.1 kb.2 h).mono ?_
      rintro e w1 ⟨rfl, hb⟩
      go_wp2_with fail
      refine (signed_neg _ _ hn (by omega)).mono ?_
      rintro e w2 ⟨rfl, rfl⟩
      go_wp2_with fail
      go_ret2
      exact ⟨rfl, hb⟩
  · rw [fitV_out (far_out a b h), fitE_out (far_out a b h)]
    go_enter Try.func12, Try.ntmps12
    go_wp2_with fail
    refine (size_abs a _ ha1 ha2).mono ?_
    rintro e w1 ⟨rfl, rfl⟩
    go_wp2_with fail
    refine (size_abs b _ hb1 hb2).mono ?_
    rintro e w1 ⟨rfl, rfl⟩
    go_wp2_with fail
    refine (times_no (absI a) (absI b) _ ka.1 ka.2 kb.1 kb.2 (by omega)).mono ?_
    rintro e w1 ⟨rfl, hb⟩
    go_wp2_with fail
    go_ret2
    exact ⟨rfl, hb⟩
end Go.Proofs.Ytpcobmjalohfbaa
