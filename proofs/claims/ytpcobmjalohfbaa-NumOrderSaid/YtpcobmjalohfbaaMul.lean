/- The contract of num.Mul: a product of any two numbers of 64 bits, or 0 and the error 11 if it does not fit; what was in memory stays as it was. -/
import Derived.Test.YtpcobmjalohfbaaSum
namespace Go.Proofs.Ytpcobmjalohfbaa
open Go.RowKit

theorem ret_i {k : IntKind} {a b : Int} (h : a = b) : Ending.returned (.int k a) = .returned (.int k b) := by rw [h]
theorem ret_ii {k l : IntKind} {a b c d : Int} (h : a = b) (h2 : c = d) : Ending.returned (.tuple #[.int k a, .int l c]) = .returned (.tuple #[.int k b, .int l d]) := by rw [h, h2]

theorem u64w (n : Int) : IntKind.u64.wrap n = n % 18446744073709551616 := by simp [IntKind.wrap, IntKind.bits, IntKind.signed]

theorem size_any (n : Int) (w : World) (h1 : -9223372036854775808 ≤ n) (h2 : n ≤ 9223372036854775807) :
    Calls Try.prog 27 #[.int .i64 n] w fun e w' => e = .returned (.int .u64 (if n < 0 then -n else n)) ∧ w = w' := by
  by_cases h : n < 0
  · rw [if_pos h]
    have HE : Hid (IntKind.u64.wrap (-IntKind.u64.wrap n) = -n) := by show _ = _; rw [u64w, u64w]; omega
    go_enter Try.func27, Try.ntmps27
    go_wp2
    go_ret
    exact ⟨ret_i HE.out, rfl⟩
  · rw [if_neg h]
    go_enter Try.func27, Try.ntmps27
    go_wp2
    go_ret
    exact ⟨rfl, rfl⟩

theorem signed_neg (n : Int) (w : World) (h1 : 0 ≤ n) (h2 : n ≤ 18446744073709551615) :
    Calls Try.prog 28 #[.int .u64 n, .bool true] w fun e w' => e = .returned (.tuple #[.int .i64 (fitV (-n)), .int .i64 (fitE (-n))]) ∧ w = w' := by
  by_cases h : n ≤ 9223372036854775808
  · rw [fitV_in (by omega) (by omega), fitE_in (by omega) (by omega)]
    have HE : Hid (wrap64 (IntKind.u64.wrap (-n)) = -n) := by show _ = _; rw [u64w]; unfold wrap64; omega
    go_enter Try.func28, Try.ntmps28
    go_wp2
    go_ret2
    exact ⟨ret_ii HE.out rfl, rfl⟩
  · rw [fitV_out (by omega), fitE_out (by omega)]
    go_enter Try.func28, Try.ntmps28
    go_wp2
    go_ret2
    exact ⟨rfl, rfl⟩

theorem signed_pos (n : Int) (w : World) (h1 : 0 ≤ n) :
    Calls Try.prog 28 #[.int .u64 n, .bool false] w fun e w' => e = .returned (.tuple #[.int .i64 (fitV n), .int .i64 (fitE n)]) ∧ w = w' := by
  by_cases h : n ≤ 9223372036854775807
  · rw [fitV_in (by omega) (by omega), fitE_in (by omega) (by omega)]
    go_enter Try.func28, Try.ntmps28
    go_wp2
    go_ret2
    exact ⟨rfl, rfl⟩
  · rw [fitV_out (by omega), fitE_out (by omega)]
    go_enter Try.func28, Try.ntmps28
    go_wp2
    go_ret2
    exact ⟨rfl, rfl⟩

/-- The world with the product's cell set. -/
def Put (w : World) (g : Nat) (w' : World) : Prop := ∃ u : Int, w' = w.setCell ⟨g, 0, none⟩ (.int .u64 u)

theorem over0_no (p x : Int) (g : Nat) (w : World) (hc : w.cell? ⟨g, 0, none⟩ = some (.int .u64 p)) (hf : w.frozen? ⟨g, 0, none⟩ = false) (hp : 0 ≤ p) (hx : 0 ≤ x) (hs : p + x < 18446744073709551616) :
    Calls Try.prog 34 #[.int .u64 x, .int .i64 0, .pointer (some ⟨g, 0, none⟩)] w fun e w' => e = .returned (.bool false) ∧ w.setCell ⟨g, 0, none⟩ (.int .u64 (p + x)) = w' := by
  have e1 : IntKind.u64.wrap x = x := by rw [u64w]; omega
  have e2 : IntKind.u64.wrap (p + x) = p + x := by rw [u64w]; omega
  have e3 : decide (p + x < x) = false := by simp; omega
  go_enter Try.func34, Try.ntmps34
  go_wp2
  go_ret
  exact ⟨rfl, rfl⟩

theorem over0_yes (p x : Int) (g : Nat) (w : World) (hc : w.cell? ⟨g, 0, none⟩ = some (.int .u64 p)) (hf : w.frozen? ⟨g, 0, none⟩ = false) (hp : 0 ≤ p) (hp2 : p < 18446744073709551616) (hx : 0 ≤ x) (hx2 : x < 18446744073709551616) (hs : 18446744073709551616 ≤ p + x) :
    Calls Try.prog 34 #[.int .u64 x, .int .i64 0, .pointer (some ⟨g, 0, none⟩)] w fun e w' => e = .returned (.bool true) ∧ Put w g w' := by
  have e1 : IntKind.u64.wrap x = x := by rw [u64w]; omega
  have e3 : decide (IntKind.u64.wrap (p + x) < x) = true := by rw [u64w]; simp; omega
  clear hs
  go_enter Try.func34, Try.ntmps34
  go_wp2
  go_ret
  exact ⟨rfl, _, rfl⟩

theorem over32_no (p x : Int) (g : Nat) (w : World) (hc : w.cell? ⟨g, 0, none⟩ = some (.int .u64 p)) (hf : w.frozen? ⟨g, 0, none⟩ = false) (hp : 0 ≤ p) (hx : 0 ≤ x) (hs : p + x * 4294967296 < 18446744073709551616) :
    Calls Try.prog 34 #[.int .u64 x, .int .i64 32, .pointer (some ⟨g, 0, none⟩)] w fun e w' => e = .returned (.bool false) ∧ w.setCell ⟨g, 0, none⟩ (.int .u64 (p + x * 4294967296)) = w' := by
  have e3 : decide (p + x * 4294967296 < x * 4294967296) = false := by simp; omega
  go_enter Try.func34, Try.ntmps34
  go_wp2
  go_ret
  exact ⟨rfl, rfl⟩

theorem over32_yes (p x : Int) (g : Nat) (w : World) (hc : w.cell? ⟨g, 0, none⟩ = some (.int .u64 p)) (hf : w.frozen? ⟨g, 0, none⟩ = false) (hp : 0 ≤ p) (hp2 : p < 18446744073709551616) (hx : 0 ≤ x) (hx2 : x < 18446744073709551616) (hs : 18446744073709551616 ≤ p + x * 4294967296) :
    Calls Try.prog 34 #[.int .u64 x, .int .i64 32, .pointer (some ⟨g, 0, none⟩)] w fun e w' => e = .returned (.bool true) ∧ Put w g w' := by
  by_cases h : x < 4294967296
  · have e3 : decide (IntKind.u64.wrap (p + x * 4294967296) < x * 4294967296) = true := by rw [u64w]; simp; omega
    clear hs
    go_enter Try.func34, Try.ntmps34
    go_wp2
    go_ret
    exact ⟨rfl, _, rfl⟩
  · have e3 : (IntKind.u64.wrap (x * 4294967296) / 4294967296 != x) = true := by rw [u64w]; simp; omega
    clear hs hx2 h
    go_enter Try.func34, Try.ntmps34
    go_wp2
    go_ret
    exact ⟨rfl, _, rfl⟩

theorem over64_no (p : Int) (g : Nat) (w : World) (hc : w.cell? ⟨g, 0, none⟩ = some (.int .u64 p)) (hf : w.frozen? ⟨g, 0, none⟩ = false) (hp : 0 ≤ p) (hp2 : p < 18446744073709551616) :
    Calls Try.prog 34 #[.int .u64 0, .int .i64 64, .pointer (some ⟨g, 0, none⟩)] w fun e w' => e = .returned (.bool false) ∧ w.setCell ⟨g, 0, none⟩ (.int .u64 p) = w' := by
  have e1 : IntKind.u64.wrap p = p := by rw [u64w]; omega
  have e3 : decide (p < 0) = false := by simp; omega
  go_enter Try.func34, Try.ntmps34
  go_wp2
  go_ret
  exact ⟨rfl, rfl⟩

theorem over64_yes (p x : Int) (g : Nat) (w : World) (hc : w.cell? ⟨g, 0, none⟩ = some (.int .u64 p)) (hf : w.frozen? ⟨g, 0, none⟩ = false) (hx : 0 < x) :
    Calls Try.prog 34 #[.int .u64 x, .int .i64 64, .pointer (some ⟨g, 0, none⟩)] w fun e w' => e = .returned (.bool true) ∧ Put w g w' := by
  have e3 : (IntKind.u64.wrap (x * 18446744073709551616) / 18446744073709551616 != x) = true := by rw [u64w]; simp; omega
  clear hx
  go_enter Try.func34, Try.ntmps34
  go_wp2
  go_ret
  exact ⟨rfl, _, rfl⟩

theorem index0 (x y : Value) (w : World) : (Instr.index 59 (.agg #[x, y]) (.int .i64 0)).run Try.prog w = .ok x w := by kernel_rfl
theorem index1 (x y : Value) (w : World) : (Instr.index 59 (.agg #[x, y]) (.int .i64 1)).run Try.prog w = .ok y w := by kernel_rfl

theorem times_fits (a b : Int) (w : World) (a0 a1 b0 b1 m00 m01 m10 : Int) (e1 : bits .and .u64 a 4294967295 = a0) (e2 : a / 4294967296 = a1) (e3 : bits .and .u64 b 4294967295 = b0) (e4 : b / 4294967296 = b1)
    (e5 : IntKind.u64.wrap (a0 * b0) = m00) (e6 : IntKind.u64.wrap (a0 * b1) = m01) (e7 : IntKind.u64.wrap (a1 * b0) = m10) (e8 : IntKind.u64.wrap (a1 * b1) = 0)
    (h0 : 0 ≤ m00) (h1 : 0 ≤ m01) (h2 : 0 ≤ m10) (ht : m00 + m01 * 4294967296 + m10 * 4294967296 < 18446744073709551616) :
    Calls Try.prog 26 #[.int .u64 a, .int .u64 b] w fun e w' => e = .returned (.tuple #[.int .u64 (m00 + m01 * 4294967296 + m10 * 4294967296), .bool true]) ∧ Below w.heap.size w w' := by
  have i0 := index0
  have i1 := index1
  go_enter Try.func26, Try.ntmps26
  go_wp2_with fail
  go_step3
  go_wp2_with fail
  go_step3
  go_wp2_with fail
  refine wp_loop_rounds 3 ?_
  rw [rounds_succ]
  go_wp2_with fail
  refine wp_loop_rounds 3 ?_
  rw [rounds_succ]
  go_wp2_with fail
  refine (over0_no 0 m00 _ _ (by simp [go_sem]) (by simp [go_sem]) (by omega) (by omega) (by omega)).mono ?_
  rintro e w1 ⟨rfl, rfl⟩
  go_wp2_with fail
  rw [rounds_succ]
  go_wp2_with fail
  refine (over32_no m00 m01 _ _ (by simp [go_sem]) (by simp [go_sem]) (by omega) (by omega) (by omega)).mono ?_
  rintro e w1 ⟨rfl, rfl⟩
  go_wp2_with fail
  rw [rounds_succ]
  go_wp2_with fail
  rw [rounds_succ]
  go_wp2_with fail
  refine wp_loop_rounds 3 ?_
  rw [rounds_succ]
  go_wp2_with fail
  refine (over32_no (m00 + m01 * 4294967296) m10 _ _ (by simp [go_sem]) (by simp [go_sem]) (by omega) (by omega) (by omega)).mono ?_
  rintro e w1 ⟨rfl, rfl⟩
  go_wp2_with fail
  rw [rounds_succ]
  go_wp2_with fail
  refine (over64_no (m00 + m01 * 4294967296 + m10 * 4294967296) _ _ (by simp [go_sem]) (by simp [go_sem]) (by omega) (by omega)).mono ?_
  rintro e w1 ⟨rfl, rfl⟩
  go_wp2_with fail
  rw [rounds_succ]
  go_wp2_with fail
  rw [rounds_succ]
  go_wp2_with fail
  rw [Exit.noGoto_ret]
  go_ret2
  exact ⟨rfl, by repeat (first | exact Below.refl _ _ | refine Below.setCell ?_ (by simp <;> omega) _ | refine Below.alloc ?_ (by simp <;> omega) _)⟩
set_option linter.unusedVariables false
theorem times_over2 (a b : Int) (w : World) (a0 a1 b0 b1 m00 m01 m10 m11 : Int) (e1 : bits .and .u64 a 4294967295 = a0) (e2 : a / 4294967296 = a1) (e3 : bits .and .u64 b 4294967295 = b0) (e4 : b / 4294967296 = b1)
    (e5 : IntKind.u64.wrap (a0 * b0) = m00) (e6 : IntKind.u64.wrap (a0 * b1) = m01) (e7 : IntKind.u64.wrap (a1 * b0) = m10) (e8 : IntKind.u64.wrap (a1 * b1) = m11)
    (h0 : 0 ≤ m00) (h0' : m00 < 18446744073709551616) (h1 : 0 ≤ m01) (h1' : m01 < 18446744073709551616) (h2 : 0 ≤ m10) (h2' : m10 < 18446744073709551616) (ht : 18446744073709551616 ≤ m00 + m01 * 4294967296) :
    Calls Try.prog 26 #[.int .u64 a, .int .u64 b] w fun e w' => e = .returned (.tuple #[.int .u64 0, .bool false]) ∧ Below w.heap.size w w' := by
  have i0 := index0
  have i1 := index1
  go_enter Try.func26, Try.ntmps26
  go_wp2_with fail
  go_step3
  go_wp2_with fail
  go_step3
  go_wp2_with fail
  refine wp_loop_rounds 3 ?_
  rw [rounds_succ]
  go_wp2_with fail
  refine wp_loop_rounds 3 ?_
  rw [rounds_succ]
  go_wp2_with fail
  refine (over0_no 0 m00 _ _ (by simp [go_sem]) (by simp [go_sem]) (by omega) (by omega) (by omega)).mono ?_
  rintro e w1 ⟨rfl, rfl⟩
  go_wp2_with fail
  rw [rounds_succ]
  go_wp2_with fail
  refine (over32_yes m00 m01 _ _ (by simp [go_sem]) (by simp [go_sem]) (by omega) (by omega) (by omega) (by omega) (by omega)).mono ?_
  rintro e w1 ⟨rfl, u, rfl⟩
  go_wp2_with fail
  rw [Exit.noGoto_ret]
  go_ret2
  exact ⟨rfl, by repeat (first | exact Below.refl _ _ | refine Below.setCell ?_ (by simp <;> omega) _ | refine Below.alloc ?_ (by simp <;> omega) _)⟩

theorem times_over3 (a b : Int) (w : World) (a0 a1 b0 b1 m00 m01 m10 m11 : Int) (e1 : bits .and .u64 a 4294967295 = a0) (e2 : a / 4294967296 = a1) (e3 : bits .and .u64 b 4294967295 = b0) (e4 : b / 4294967296 = b1)
    (e5 : IntKind.u64.wrap (a0 * b0) = m00) (e6 : IntKind.u64.wrap (a0 * b1) = m01) (e7 : IntKind.u64.wrap (a1 * b0) = m10) (e8 : IntKind.u64.wrap (a1 * b1) = m11)
    (h0 : 0 ≤ m00) (h0' : m00 < 18446744073709551616) (h1 : 0 ≤ m01) (h1' : m01 < 18446744073709551616) (h2 : 0 ≤ m10) (h2' : m10 < 18446744073709551616) (ht0 : m00 + m01 * 4294967296 < 18446744073709551616) (ht : 18446744073709551616 ≤ m00 + m01 * 4294967296 + m10 * 4294967296) :
    Calls Try.prog 26 #[.int .u64 a, .int .u64 b] w fun e w' => e = .returned (.tuple #[.int .u64 0, .bool false]) ∧ Below w.heap.size w w' := by
  have i0 := index0
  have i1 := index1
  go_enter Try.func26, Try.ntmps26
  go_wp2_with fail
  go_step3
  go_wp2_with fail
  go_step3
  go_wp2_with fail
  refine wp_loop_rounds 3 ?_
  rw [rounds_succ]
  go_wp2_with fail
  refine wp_loop_rounds 3 ?_
  rw [rounds_succ]
  go_wp2_with fail
  refine (over0_no 0 m00 _ _ (by simp [go_sem]) (by simp [go_sem]) (by omega) (by omega) (by omega)).mono ?_
  rintro e w1 ⟨rfl, rfl⟩
  go_wp2_with fail
  rw [rounds_succ]
  go_wp2_with fail
  refine (over32_no m00 m01 _ _ (by simp [go_sem]) (by simp [go_sem]) (by omega) (by omega) (by omega)).mono ?_
  rintro e w1 ⟨rfl, rfl⟩
  go_wp2_with fail
  rw [rounds_succ]
  go_wp2_with fail
  rw [rounds_succ]
  go_wp2_with fail
  refine wp_loop_rounds 3 ?_
  rw [rounds_succ]
  go_wp2_with fail
  refine (over32_yes (m00 + m01 * 4294967296) m10 _ _ (by simp [go_sem]) (by simp [go_sem]) (by omega) (by omega) (by omega) (by omega) (by omega)).mono ?_
  rintro e w1 ⟨rfl, u, rfl⟩
  go_wp2_with fail
  rw [Exit.noGoto_ret]
  go_ret2
  exact ⟨rfl, by repeat (first | exact Below.refl _ _ | refine Below.setCell ?_ (by simp <;> omega) _ | refine Below.alloc ?_ (by simp <;> omega) _)⟩

theorem times_over4 (a b : Int) (w : World) (a0 a1 b0 b1 m00 m01 m10 m11 : Int) (e1 : bits .and .u64 a 4294967295 = a0) (e2 : a / 4294967296 = a1) (e3 : bits .and .u64 b 4294967295 = b0) (e4 : b / 4294967296 = b1)
    (e5 : IntKind.u64.wrap (a0 * b0) = m00) (e6 : IntKind.u64.wrap (a0 * b1) = m01) (e7 : IntKind.u64.wrap (a1 * b0) = m10) (e8 : IntKind.u64.wrap (a1 * b1) = m11)
    (h0 : 0 ≤ m00) (h0' : m00 < 18446744073709551616) (h1 : 0 ≤ m01) (h1' : m01 < 18446744073709551616) (h2 : 0 ≤ m10) (h2' : m10 < 18446744073709551616) (ht : m00 + m01 * 4294967296 + m10 * 4294967296 < 18446744073709551616) (h3 : 0 < m11) :
    Calls Try.prog 26 #[.int .u64 a, .int .u64 b] w fun e w' => e = .returned (.tuple #[.int .u64 0, .bool false]) ∧ Below w.heap.size w w' := by
  have i0 := index0
  have i1 := index1
  go_enter Try.func26, Try.ntmps26
  go_wp2_with fail
  go_step3
  go_wp2_with fail
  go_step3
  go_wp2_with fail
  refine wp_loop_rounds 3 ?_
  rw [rounds_succ]
  go_wp2_with fail
  refine wp_loop_rounds 3 ?_
  rw [rounds_succ]
  go_wp2_with fail
  refine (over0_no 0 m00 _ _ (by simp [go_sem]) (by simp [go_sem]) (by omega) (by omega) (by omega)).mono ?_
  rintro e w1 ⟨rfl, rfl⟩
  go_wp2_with fail
  rw [rounds_succ]
  go_wp2_with fail
  refine (over32_no m00 m01 _ _ (by simp [go_sem]) (by simp [go_sem]) (by omega) (by omega) (by omega)).mono ?_
  rintro e w1 ⟨rfl, rfl⟩
  go_wp2_with fail
  rw [rounds_succ]
  go_wp2_with fail
  rw [rounds_succ]
  go_wp2_with fail
  refine wp_loop_rounds 3 ?_
  rw [rounds_succ]
  go_wp2_with fail
  refine (over32_no (m00 + m01 * 4294967296) m10 _ _ (by simp [go_sem]) (by simp [go_sem]) (by omega) (by omega) (by omega)).mono ?_
  rintro e w1 ⟨rfl, rfl⟩
  go_wp2_with fail
  rw [rounds_succ]
  go_wp2_with fail
  refine (over64_yes (m00 + m01 * 4294967296 + m10 * 4294967296) m11 _ _ (by simp [go_sem]) (by simp [go_sem]) (by omega)).mono ?_
  rintro e w1 ⟨rfl, u, rfl⟩
  go_wp2_with fail
  rw [Exit.noGoto_ret]
  go_ret2
  exact ⟨rfl, by repeat (first | exact Below.refl _ _ | refine Below.setCell ?_ (by simp <;> omega) _ | refine Below.alloc ?_ (by simp <;> omega) _)⟩

end Go.Proofs.Ytpcobmjalohfbaa
