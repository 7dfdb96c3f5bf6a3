/- Every day between the first and the last has a date; the contracts of Split and of the reference's Of, the date named. -/
import Derived.Test.YtjafbopmedbhcaaDoorRfA
import Derived.Test.YtjafbopmedbhcaaDoorAwkC
import Derived.Test.YtjafbopmedbhcaaDoorCRiA
namespace Go.Proofs.YtjafbopmedbhcaaDoor
open Go.RowKit

theorem month_ex (y k : Int) (h0 : 0 ≤ k) (h1 : k < 365 + lp y) : ∃ m, 1 ≤ m ∧ m ≤ 12 ∧ cum y m ≤ k ∧ k < cum y (m + 1) := by
  have e1 := cum_1 y
  have e13 := cum_13 y
  have h : ∀ n : Nat, n ≤ 12 → k < cum y (1 + (n : Int)) → ∃ m, 1 ≤ m ∧ m ≤ 12 ∧ cum y m ≤ k ∧ k < cum y (m + 1) := by
    intro n
    induction n with
    | zero => intro _ hk; simp at hk; omega
    | succ n ih =>
      intro hn hk
      by_cases c : k < cum y (1 + (n : Int))
      · exact ih (by omega) c
      · exact ⟨1 + (n : Int), by omega, by omega, by omega, by
          rw [show (1 + (n : Int)) + 1 = 1 + ((n + 1 : Nat) : Int) by omega]; exact hk⟩
  exact h 12 (by omega) (by show k < cum y 13; omega)

theorem date_ex (n : Int) (h1 : -37243778 ≤ n) (h2 : n ≤ 35805087) : ∃ y m d, okD y m d ∧ dayN y m d = n := by
  have a := yo_spec n
  have b := yo_bd n h1 h2
  rw [ny_succ] at a
  obtain ⟨m, m1, m2, m3, m4⟩ := month_ex (yo n) (n - ny (yo n)) (by omega) (by omega)
  have D := date_of b.1 b.2 m1 m2 m3 m4
  exact ⟨_, _, _, D.1, D.2⟩


theorem Boxed.make {w W : World} (h : Below w.heap.size w W) (y m d : Int) (t : TypeId) : Boxed w W.heap.size y m d (W.alloc (.cells #[.int .i64 y, .int .i64 m, .int .i64 d] t)) :=
  ⟨h.alloc h.size _, by simp, by simp, by simp, by simp⟩
theorem Boxed.more {w W : World} {g : Nat} {y m d : Int} (h : Boxed w g y m d W) (o : Obj) : Boxed w g y m d (W.alloc o) := h.next ((Below.refl _ _).alloc (Nat.le_refl _) _)

theorem rof_is (n y m d : Int) (w : World) (ho : okD y m d) (hd : Hid (dayN y m d = n)) :
    Calls Tryd.prog 15 #[.int .i64 n] w fun e w' => e = .returned (.tuple #[.agg #[.int .i64 y, .int .i64 m, .int .i64 d], .bool true]) ∧ Below w.heap.size w w' := by
  have hb := day_bd ho
  have hd' := hd.out
  refine (rof_yes n w (by omega) (by omega)).mono ?_
  rintro e w' ⟨y', m', d', ho', hd2, rfl, k⟩
  obtain ⟨rfl, rfl, rfl⟩ := day_inj ho' ho (hd2.trans hd'.symm)
  exact ⟨rfl, k⟩
theorem Split_is (n q r y m d : Int) (w : World) (ht : AhAt w) (h1 : -9223372036854775808 ≤ n) (h2 : n ≤ 9223372036854775807) (hq : Hid (n / 86400 = q)) (hr : Hid (n % 86400 = r)) (ho : okD y m d) (hd : Hid (dayN y m d = q)) :
    Calls Tryd.prog 13 #[.int .i64 n] w fun e w' => e = .returned (.tuple #[.agg #[.int .i64 y, .int .i64 m, .int .i64 d], .int .i64 r, .int .i64 0]) ∧ Below w.heap.size w w' := by
  have hb := day_bd ho
  have hd' := hd.out
  refine (Split_yes n q r w ht h1 h2 hq hr (by omega) (by omega)).mono ?_
  rintro e w' ⟨y', m', d', ho', hd2, rfl, k⟩
  obtain ⟨rfl, rfl, rfl⟩ := day_inj ho' ho (hd2.trans hd'.symm)
  exact ⟨rfl, k⟩
theorem rjoin_is (y m d n v : Int) (w : World) (h : Hid (okD y m d ∧ inB n ∧ dayN y m d * 86400 + n = v)) :
    Calls Tryd.prog 12 #[.agg #[.int .i64 y, .int .i64 m, .int .i64 d], .int .i64 n] w fun e w' => e = .returned (.int .i64 v) ∧ Below w.heap.size w w' := by
  have := rjoin_any y m d n w h.out.1 h.out.2.1.1 h.out.2.1.2
  rwa [h.out.2.2] at this
theorem far_no (n : Int) (w : World) (h : inB n) :
    Calls Tryd.prog 11 #[.int .i64 n] w fun e w' => e = .returned (.bool false) ∧ w = w' := by
  have := far_any n w
  rwa [show farB n = false by simp [farB]; unfold inB at h; omega] at this
theorem far_yes (n : Int) (w : World) (h : ¬ inB n) :
    Calls Tryd.prog 11 #[.int .i64 n] w fun e w' => e = .returned (.bool true) ∧ w = w' := by
  have := far_any n w
  rwa [show farB n = true by simp [farB]; unfold inB at h; omega] at this
end Go.Proofs.YtjafbopmedbhcaaDoor
