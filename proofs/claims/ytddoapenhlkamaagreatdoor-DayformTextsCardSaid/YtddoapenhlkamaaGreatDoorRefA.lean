/- The contracts of the reference's Right and Next: what each call returns, for every date; nothing that was in memory changes. -/
import Derived.Test.YtddoapenhlkamaaGreatDoorCivD
namespace Go.Proofs.YtddoapenhlkamaaGreatDoor
open Go.RowKit

theorem below_drewN {B : Nat} {a w : World} (h : Below B a w) (n : Nat) : Below B a (w.drewN n) := ⟨h.os, h.tape, h.output, h.size, h.block⟩

theorem right_0 (y m d : Int) (w : World) (a0 : decide (-100000 ≤ y) = false) :
    Calls Tryz.prog 26 #[.agg #[.int .i64 y, .int .i64 m, .int .i64 d]] w fun e w' => e = .returned (.bool false) ∧ Below w.heap.size w w' := by
  go_enter Tryz.func26, Tryz.ntmps26
  go_wp2
  go_quiet (fail)
  go_wp2
  go_ret
  exact ⟨rfl, below_drewN ((Below.refl _ _).alloc (Nat.le_refl _) _) _⟩

theorem right_1 (y m d : Int) (w : World) (a0 : decide (-100000 ≤ y) = true) (a1 : decide (y ≤ 100000) = false) :
    Calls Tryz.prog 26 #[.agg #[.int .i64 y, .int .i64 m, .int .i64 d]] w fun e w' => e = .returned (.bool false) ∧ Below w.heap.size w w' := by
  go_enter Tryz.func26, Tryz.ntmps26
  go_wp2
  go_quiet (fail)
  go_wp2
  go_ret
  exact ⟨rfl, below_drewN ((Below.refl _ _).alloc (Nat.le_refl _) _) _⟩

theorem right_2 (y m d : Int) (w : World) (a0 : decide (-100000 ≤ y) = true) (a1 : decide (y ≤ 100000) = true) (a2 : decide (1 ≤ m) = false) :
    Calls Tryz.prog 26 #[.agg #[.int .i64 y, .int .i64 m, .int .i64 d]] w fun e w' => e = .returned (.bool false) ∧ Below w.heap.size w w' := by
  go_enter Tryz.func26, Tryz.ntmps26
  go_wp2
  go_quiet (fail)
  go_wp2
  go_ret
  exact ⟨rfl, below_drewN ((Below.refl _ _).alloc (Nat.le_refl _) _) _⟩

theorem right_3 (y m d : Int) (w : World) (a0 : decide (-100000 ≤ y) = true) (a1 : decide (y ≤ 100000) = true) (a2 : decide (1 ≤ m) = true) (a3 : decide (m ≤ 12) = false) :
    Calls Tryz.prog 26 #[.agg #[.int .i64 y, .int .i64 m, .int .i64 d]] w fun e w' => e = .returned (.bool false) ∧ Below w.heap.size w w' := by
  go_enter Tryz.func26, Tryz.ntmps26
  go_wp2
  go_quiet (fail)
  go_wp2
  go_ret
  exact ⟨rfl, below_drewN ((Below.refl _ _).alloc (Nat.le_refl _) _) _⟩

theorem right_4 (y m d : Int) (w : World) (a0 : decide (-100000 ≤ y) = true) (a1 : decide (y ≤ 100000) = true) (a2 : decide (1 ≤ m) = true) (a3 : decide (m ≤ 12) = true) (a4 : decide (1 ≤ d) = false) :
    Calls Tryz.prog 26 #[.agg #[.int .i64 y, .int .i64 m, .int .i64 d]] w fun e w' => e = .returned (.bool false) ∧ Below w.heap.size w w' := by
  go_enter Tryz.func26, Tryz.ntmps26
  go_wp2
  go_quiet (fail)
  go_wp2
  go_ret
  exact ⟨rfl, below_drewN ((Below.refl _ _).alloc (Nat.le_refl _) _) _⟩

theorem right_5 (y m d : Int) (w : World) (a0 : decide (-100000 ≤ y) = true) (a1 : decide (y ≤ 100000) = true) (a2 : decide (1 ≤ m) = true) (a3 : decide (m ≤ 12) = true) (a4 : decide (1 ≤ d) = true) (a5 : decide (d ≤ rdim y m) = false) :
    Calls Tryz.prog 26 #[.agg #[.int .i64 y, .int .i64 m, .int .i64 d]] w fun e w' => e = .returned (.bool false) ∧ Below w.heap.size w w' := by
  go_enter Tryz.func26, Tryz.ntmps26
  go_wp2
  go_quiet ((go_at_call 27; exact Calls.quiet_of_same ((rlong_any _ _ _).mono fun _ _ h => ⟨h.1, h.2.symm⟩)))
  go_wp2
  go_ret
  exact ⟨rfl, below_drewN ((Below.refl _ _).alloc (Nat.le_refl _) _) _⟩

theorem right_6 (y m d : Int) (w : World) (a0 : decide (-100000 ≤ y) = true) (a1 : decide (y ≤ 100000) = true) (a2 : decide (1 ≤ m) = true) (a3 : decide (m ≤ 12) = true) (a4 : decide (1 ≤ d) = true) (a5 : decide (d ≤ rdim y m) = true) :
    Calls Tryz.prog 26 #[.agg #[.int .i64 y, .int .i64 m, .int .i64 d]] w fun e w' => e = .returned (.bool true) ∧ Below w.heap.size w w' := by
  go_enter Tryz.func26, Tryz.ntmps26
  go_wp2
  go_quiet ((go_at_call 27; exact Calls.quiet_of_same ((rlong_any _ _ _).mono fun _ _ h => ⟨h.1, h.2.symm⟩)))
  go_wp2
  go_ret
  exact ⟨rfl, below_drewN ((Below.refl _ _).alloc (Nat.le_refl _) _) _⟩

theorem right_any (y m d : Int) (w : World) :
    Calls Tryz.prog 26 #[.agg #[.int .i64 y, .int .i64 m, .int .i64 d]] w fun e w' => e = .returned (.bool (okB y m d)) ∧ Below w.heap.size w w' := by
  by_cases h0 : -100000 ≤ y
  · by_cases h1 : y ≤ 100000
    · by_cases h2 : 1 ≤ m
      · by_cases h3 : m ≤ 12
        · have e := rdim_dim y m h2 h3
          by_cases h4 : 1 ≤ d
          · by_cases h5 : d ≤ rdim y m
            · have hb : okB y m d = true := (okB_iff y m d).2 ⟨h0, h1, h2, h3, h4, by omega⟩
              rw [hb]; exact right_6 y m d w (decide_eq_true h0) (decide_eq_true h1) (decide_eq_true h2) (decide_eq_true h3) (decide_eq_true h4) (decide_eq_true h5)
            · have hb : okB y m d = false := by rw [← Bool.not_eq_true, okB_iff]; unfold okD; omega
              rw [hb]; exact right_5 y m d w (decide_eq_true h0) (decide_eq_true h1) (decide_eq_true h2) (decide_eq_true h3) (decide_eq_true h4) (decide_eq_false h5)
          · have hb : okB y m d = false := by rw [← Bool.not_eq_true, okB_iff]; unfold okD; omega
            rw [hb]; exact right_4 y m d w (decide_eq_true h0) (decide_eq_true h1) (decide_eq_true h2) (decide_eq_true h3) (decide_eq_false h4)
        · have hb : okB y m d = false := by rw [← Bool.not_eq_true, okB_iff]; unfold okD; omega
          rw [hb]; exact right_3 y m d w (decide_eq_true h0) (decide_eq_true h1) (decide_eq_true h2) (decide_eq_false h3)
      · have hb : okB y m d = false := by rw [← Bool.not_eq_true, okB_iff]; unfold okD; omega
        rw [hb]; exact right_2 y m d w (decide_eq_true h0) (decide_eq_true h1) (decide_eq_false h2)
    · have hb : okB y m d = false := by rw [← Bool.not_eq_true, okB_iff]; unfold okD; omega
      rw [hb]; exact right_1 y m d w (decide_eq_true h0) (decide_eq_false h1)
  · have hb : okB y m d = false := by rw [← Bool.not_eq_true, okB_iff]; unfold okD; omega
    rw [hb]; exact right_0 y m d w (decide_eq_false h0)

theorem right_yes (y m d : Int) (w : World) (h : okD y m d) :
    Calls Tryz.prog 26 #[.agg #[.int .i64 y, .int .i64 m, .int .i64 d]] w fun e w' => e = .returned (.bool true) ∧ Below w.heap.size w w' := by
  have := right_any y m d w
  rw [(okB_iff y m d).2 h] at this; exact this
theorem right_no (y m d : Int) (w : World) (h : ¬ okD y m d) :
    Calls Tryz.prog 26 #[.agg #[.int .i64 y, .int .i64 m, .int .i64 d]] w fun e w' => e = .returned (.bool false) ∧ Below w.heap.size w w' := by
  have := right_any y m d w
  rw [show okB y m d = false by rw [← Bool.not_eq_true, okB_iff]; exact h] at this; exact this
end Go.Proofs.YtddoapenhlkamaaGreatDoor
