/- The contracts of the reference's Int and Sum, and of the law's fits: the number that pieces in their bounds come to, if it fits 64 bits, or none; pieces which come to the sum of a slice's numbers; what was in memory stays as it was. -/
import Derived.Test.YtpcobmjalohfbaaLprod
import Derived.Test.YtpcobmjalohfbaaSum
namespace Go.Proofs.Ytpcobmjalohfbaa
open Go.RowKit

theorem ret_ib {k : IntKind} {a b : Int} {c : Bool} (h : a = b) : Ending.returned (.tuple #[.int k a, .bool c]) = .returned (.tuple #[.int k b, .bool c]) := by rw [h]

theorem int_in {x0 x1 x2 x3 x4 x5 x6 x7 v : Int} (a0 : 0 ≤ x0 ∧ x0 < 65536) (a1 : 0 ≤ x1 ∧ x1 < 65536) (a2 : 0 ≤ x2 ∧ x2 < 65536) (a3 : 0 ≤ x3 ∧ x3 < 65536) (a4 : 0 ≤ x4 ∧ x4 < 65536) (a5 : 0 ≤ x5 ∧ x5 < 65536) (a6 : 0 ≤ x6 ∧ x6 < 65536)
    (hv : x0 + x1 * 65536 + x2 * 4294967296 + x3 * 281474976710656 + x4 * 18446744073709551616 + x5 * 1208925819614629174706176 + x6 * 79228162514264337593543950336 + x7 * 5192296858534827628530496329220096 = v)
    (h1 : -9223372036854775808 ≤ v) (h2 : v ≤ 9223372036854775807) :
    (32768 ≤ x3 ∧ x4 = 65535 ∧ x5 = 65535 ∧ x6 = 65535 ∧ x7 = -1) ∨ (x3 < 32768 ∧ x4 = 0 ∧ x5 = 0 ∧ x6 = 0 ∧ x7 = 0) := by
  omega

theorem int_out {x0 x1 x2 x3 x4 x5 x6 x7 v : Int} (a0 : 0 ≤ x0 ∧ x0 < 65536) (a1 : 0 ≤ x1 ∧ x1 < 65536) (a2 : 0 ≤ x2 ∧ x2 < 65536) (a3 : 0 ≤ x3 ∧ x3 < 65536)
    (hv : x0 + x1 * 65536 + x2 * 4294967296 + x3 * 281474976710656 + x4 * 18446744073709551616 + x5 * 1208925819614629174706176 + x6 * 79228162514264337593543950336 + x7 * 5192296858534827628530496329220096 = v)
    (h : ¬ (-9223372036854775808 ≤ v ∧ v ≤ 9223372036854775807)) :
    ∃ hi : Int, ((32768 ≤ x3 ∧ hi = 65535) ∨ (x3 < 32768 ∧ hi = 0)) ∧ (x4 ≠ hi ∨ (x4 = hi ∧ x5 ≠ hi) ∨ (x4 = hi ∧ x5 = hi ∧ x6 ≠ hi) ∨ (x4 = hi ∧ x5 = hi ∧ x6 = hi ∧ ((hi = 65535 ∧ x7 ≠ -1) ∨ (hi = 0 ∧ x7 ≠ 0)))) := by
  by_cases h3 : 32768 ≤ x3
  · refine ⟨65535, .inl ⟨h3, rfl⟩, ?_⟩
    omega
  · refine ⟨0, .inr ⟨by omega, rfl⟩, ?_⟩
    omega

set_option maxHeartbeats 1000000 in
theorem lint_in (x0 x1 x2 x3 x4 x5 x6 x7 v : Int) (w : World) (a0 : 0 ≤ x0 ∧ x0 < 65536) (a1 : 0 ≤ x1 ∧ x1 < 65536) (a2 : 0 ≤ x2 ∧ x2 < 65536) (a3 : 0 ≤ x3 ∧ x3 < 65536) (a4 : 0 ≤ x4 ∧ x4 < 65536) (a5 : 0 ≤ x5 ∧ x5 < 65536) (a6 : 0 ≤ x6 ∧ x6 < 65536)
    (hv : x0 + x1 * 65536 + x2 * 4294967296 + x3 * 281474976710656 + x4 * 18446744073709551616 + x5 * 1208925819614629174706176 + x6 * 79228162514264337593543950336 + x7 * 5192296858534827628530496329220096 = v)
    (h1 : -9223372036854775808 ≤ v) (h2 : v ≤ 9223372036854775807) :
    Calls Try.prog 30 #[.agg #[.int .i64 x0, .int .i64 x1, .int .i64 x2, .int .i64 x3, .int .i64 x4, .int .i64 x5, .int .i64 x6, .int .i64 x7]] w fun e w' => e = .returned (.tuple #[.int .i64 v, .bool true]) ∧ Below w.heap.size w w' := by
  have HV := Lib.hid hv
  rcases int_in a0 a1 a2 a3 a4 a5 a6 hv h1 h2 with ⟨b3, rfl, rfl, rfl, rfl⟩ | ⟨b3, rfl, rfl, rfl, rfl⟩
  · clear hv h1 h2 a4 a5 a6
    go_enter Try.func30, Try.ntmps30
    go_wp2
    refine wp_loop_rounds 5 ?_
    rw [rounds_succ]
    go_wp2
    rw [rounds_succ]
    go_wp2
    rw [rounds_succ]
    go_wp2
    rw [rounds_succ]
    go_wp2
    go_ret2
    exact ⟨ret_ib (by have := HV.out; omega), (Below.refl _ _).alloc (Nat.le_refl _) _⟩
  · clear hv h1 h2 a4 a5 a6
    go_enter Try.func30, Try.ntmps30
    go_wp2
    refine wp_loop_rounds 5 ?_
    rw [rounds_succ]
    go_wp2
    rw [rounds_succ]
    go_wp2
    rw [rounds_succ]
    go_wp2
    rw [rounds_succ]
    go_wp2
    go_ret2
    exact ⟨ret_ib (by have := HV.out; omega), (Below.refl _ _).alloc (Nat.le_refl _) _⟩

set_option maxHeartbeats 1000000 in
theorem lint_out (x0 x1 x2 x3 x4 x5 x6 x7 v : Int) (w : World) (a0 : 0 ≤ x0 ∧ x0 < 65536) (a1 : 0 ≤ x1 ∧ x1 < 65536) (a2 : 0 ≤ x2 ∧ x2 < 65536) (a3 : 0 ≤ x3 ∧ x3 < 65536)
    (hv : x0 + x1 * 65536 + x2 * 4294967296 + x3 * 281474976710656 + x4 * 18446744073709551616 + x5 * 1208925819614629174706176 + x6 * 79228162514264337593543950336 + x7 * 5192296858534827628530496329220096 = v)
    (h : ¬ (-9223372036854775808 ≤ v ∧ v ≤ 9223372036854775807)) :
    Calls Try.prog 30 #[.agg #[.int .i64 x0, .int .i64 x1, .int .i64 x2, .int .i64 x3, .int .i64 x4, .int .i64 x5, .int .i64 x6, .int .i64 x7]] w fun e w' => e = .returned (.tuple #[.int .i64 0, .bool false]) ∧ Below w.heap.size w w' := by
  obtain ⟨hi, h3, hc⟩ := int_out a0 a1 a2 a3 hv h
  clear hv h
  rcases h3 with ⟨b3, rfl⟩ | ⟨b3, rfl⟩
  · rcases hc with c4 | ⟨rfl, c5⟩ | ⟨rfl, rfl, c6⟩ | ⟨rfl, rfl, rfl, c7⟩
    · have b : (x4 != 65535) = true := by simp; exact c4
      clear c4
      go_enter Try.func30, Try.ntmps30
      go_wp2
      refine wp_loop_rounds 5 ?_
      rw [rounds_succ]
      go_wp2
      go_ret2
      exact ⟨rfl, (Below.refl _ _).alloc (Nat.le_refl _) _⟩
    · have b : (x5 != 65535) = true := by simp; exact c5
      clear c5
      go_enter Try.func30, Try.ntmps30
      go_wp2
      refine wp_loop_rounds 5 ?_
      rw [rounds_succ]
      go_wp2
      rw [rounds_succ]
      go_wp2
      go_ret2
      exact ⟨rfl, (Below.refl _ _).alloc (Nat.le_refl _) _⟩
    · have b : (x6 != 65535) = true := by simp; exact c6
      clear c6
      go_enter Try.func30, Try.ntmps30
      go_wp2
      refine wp_loop_rounds 5 ?_
      rw [rounds_succ]
      go_wp2
      rw [rounds_succ]
      go_wp2
      rw [rounds_succ]
      go_wp2
      go_ret2
      exact ⟨rfl, (Below.refl _ _).alloc (Nat.le_refl _) _⟩
    · have b : (x7 != -1) = true := by simp; omega
      clear c7
      go_enter Try.func30, Try.ntmps30
      go_wp2
      refine wp_loop_rounds 5 ?_
      rw [rounds_succ]
      go_wp2
      rw [rounds_succ]
      go_wp2
      rw [rounds_succ]
      go_wp2
      rw [rounds_succ]
      go_wp2
      go_ret2
      exact ⟨rfl, (Below.refl _ _).alloc (Nat.le_refl _) _⟩
  · rcases hc with c4 | ⟨rfl, c5⟩ | ⟨rfl, rfl, c6⟩ | ⟨rfl, rfl, rfl, c7⟩
    · have b : (x4 != 0) = true := by simp; exact c4
      clear c4
      go_enter Try.func30, Try.ntmps30
      go_wp2
      refine wp_loop_rounds 5 ?_
      rw [rounds_succ]
      go_wp2
      go_ret2
      exact ⟨rfl, (Below.refl _ _).alloc (Nat.le_refl _) _⟩
    · have b : (x5 != 0) = true := by simp; exact c5
      clear c5
      go_enter Try.func30, Try.ntmps30
      go_wp2
      refine wp_loop_rounds 5 ?_
      rw [rounds_succ]
      go_wp2
      rw [rounds_succ]
      go_wp2
      go_ret2
      exact ⟨rfl, (Below.refl _ _).alloc (Nat.le_refl _) _⟩
    · have b : (x6 != 0) = true := by simp; exact c6
      clear c6
      go_enter Try.func30, Try.ntmps30
      go_wp2
      refine wp_loop_rounds 5 ?_
      rw [rounds_succ]
      go_wp2
      rw [rounds_succ]
      go_wp2
      rw [rounds_succ]
      go_wp2
      go_ret2
      exact ⟨rfl, (Below.refl _ _).alloc (Nat.le_refl _) _⟩
    · have b : (x7 != 0) = true := by simp; omega
      clear c7
      go_enter Try.func30, Try.ntmps30
      go_wp2
      refine wp_loop_rounds 5 ?_
      rw [rounds_succ]
      go_wp2
      rw [rounds_succ]
      go_wp2
      rw [rounds_succ]
      go_wp2
      rw [rounds_succ]
      go_wp2
      go_ret2
      exact ⟨rfl, (Below.refl _ _).alloc (Nat.le_refl _) _⟩

theorem lint_all_in (x : Nat → Int) (w : World) (hn : Norm x) (h1 : -9223372036854775808 ≤ valL x) (h2 : valL x ≤ 9223372036854775807) :
    Calls Try.prog 30 #[.agg (cellsL x)] w fun e w' => e = .returned (.tuple #[.int .i64 (valL x), .bool true]) ∧ Below w.heap.size w w' := by
  obtain ⟨a0, a1, a2, a3, a4, a5, a6⟩ := norm_parts hn
  exact lint_in _ _ _ _ _ _ _ _ (valL x) w a0 a1 a2 a3 a4 a5 a6 rfl h1 h2
theorem lint_all_out (x : Nat → Int) (w : World) (hn : Norm x) (h : ¬ (-9223372036854775808 ≤ valL x ∧ valL x ≤ 9223372036854775807)) :
    Calls Try.prog 30 #[.agg (cellsL x)] w fun e w' => e = .returned (.tuple #[.int .i64 0, .bool false]) ∧ Below w.heap.size w w' := by
  obtain ⟨a0, a1, a2, a3, a4, a5, a6⟩ := norm_parts hn
  exact lint_out _ _ _ _ _ _ _ _ (valL x) w a0 a1 a2 a3 rfl h

theorem fits_yes (x : Nat → Int) (v : Int) (w : World) (hn : Norm x) (hv : valL x = v) :
    Calls Try.prog 14 #[.int .i64 (fitV v), .int .i64 (fitE v), .agg (cellsL x)] w fun e w' => e = .returned (.bool true) ∧ Below w.heap.size w w' := by
  subst hv
  have HN := Lib.hid hn
  clear hn
  have H0 : Hid (LongAt LT (w.alloc (.cells (cellsL x) LT)) w.heap.size x) := LongAt.new w LT x
  by_cases h : -9223372036854775808 ≤ valL x ∧ valL x ≤ 9223372036854775807
  · have e1 : fitV (valL x) = valL x := fitV_in h.1 h.2
    have e2 : fitE (valL x) = 0 := fitE_in h.1 h.2
    rw [e1, e2]
    clear e1 e2
    have HL := fun w => Lib.hid (lint_all_in x w HN.out h.1 h.2)
    clear h
    generalize valL x = v at *
    go_enter Try.func14, Try.ntmps14
    go_wp2_with (first
      | (refine wpList_load_row rfl LT (.tmp 5) rfl w.heap.size rfl LT _ (0, 0) _ H0.out Try.underlying25 rfl info_long ?_)
      | (go_at_call 30; refine ((HL _).out).mono ?_; rintro e w1 ⟨rfl, k1⟩))
    go_ret
    exact ⟨rfl, below_after ((Below.refl _ _).alloc (Nat.le_refl _) _) k1 (by simp)⟩
  · rw [fitV_out h, fitE_out h]
    have HL := fun w => Lib.hid (lint_all_out x w HN.out h)
    clear h
    go_enter Try.func14, Try.ntmps14
    go_wp2_with (first
      | (refine wpList_load_row rfl LT (.tmp 5) rfl w.heap.size rfl LT _ (0, 0) _ H0.out Try.underlying25 rfl info_long ?_)
      | (go_at_call 30; refine ((HL _).out).mono ?_; rintro e w1 ⟨rfl, k1⟩))
    go_ret
    exact ⟨rfl, below_after ((Below.refl _ _).alloc (Nat.le_refl _) _) k1 (by simp)⟩
end Go.Proofs.Ytpcobmjalohfbaa
