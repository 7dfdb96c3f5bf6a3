/- CivilBack's walks: of a day without a date, of the last day, and of any other day. The contracts of Of, Days and Next where the dates are known. -/
import Derived.Test.YtnedpflebkcdoaaDoorAwakeB
namespace Go.Proofs.YtnedpflebkcdoaaDoor
open Go.RowKit

theorem month_ex (y k : Int) (h0 : 0 ≤ k) (h1 : k < 365 + lp y) : ∃ m, 1 ≤ m ∧ m ≤ 12 ∧ cum y m ≤ k ∧ k < cum y (m + 1) := by
  have e1 := cum_1 y
  have e13 := cum_13 y
  have h : ∀ n : Nat, n ≤ 12 → k < cum y (1 + (n : Int)) → ∃ m, 1 ≤ m ∧ m ≤ 12 ∧ cum y m ≤ k ∧ k < cum y (m + 1) := by
    intro n
    induction n with
    | zero => intro _ hk; simp at hk; omega
    | succ n ih =>
      intro hn hk
      by_cases c : k < cum y (1 + (n : Int))
      · exact ih (by omega) c
      · exact ⟨1 + (n : Int), by omega, by omega, by omega, by
          rw [show (1 + (n : Int)) + 1 = 1 + ((n + 1 : Nat) : Int) by omega]; exact hk⟩
  exact h 12 (by omega) (by show k < cum y 13; omega)

theorem date_ex (n : Int) (h1 : -37243778 ≤ n) (h2 : n ≤ 35805087) : ∃ y m d, okD y m d ∧ dayN y m d = n := by
  have a := yo_spec n
  have b := yo_bd n h1 h2
  rw [ny_succ] at a
  obtain ⟨m, m1, m2, m3, m4⟩ := month_ex (yo n) (n - ny (yo n)) (by omega) (by omega)
  have D := date_of b.1 b.2 m1 m2 m3 m4
  exact ⟨_, _, _, D.1, D.2⟩

theorem Of_is (n y m d : Int) (w : World) (ht : AhAt w) (ho : okD y m d) (hd : Hid (dayN y m d = n)) :
    Calls Tryd.prog 18 #[.int .i64 n] w fun e w' => e = .returned (.tuple #[.agg #[.int .i64 y, .int .i64 m, .int .i64 d], .int .i64 0]) ∧ Below w.heap.size w w' := by
  have hb := day_bd ho
  have hd' := hd.out
  refine (Of_yes n w ht (by omega) (by omega)).mono ?_
  rintro e w' ⟨y', m', d', ho', hd2, rfl, k⟩
  obtain ⟨rfl, rfl, rfl⟩ := day_inj ho' ho (hd2.trans hd'.symm)
  exact ⟨rfl, k⟩
theorem Days_is (n y m d : Int) (w : World) (ht : AhAt w) (ho : okD y m d) (hd : Hid (dayN y m d = n)) :
    Calls Tryd.prog 16 #[.agg #[.int .i64 y, .int .i64 m, .int .i64 d]] w fun e w' => e = .returned (.tuple #[.int .i64 n, .int .i64 0]) ∧ Below w.heap.size w w' := by
  have := Days_yes y m d w ht ho
  rwa [hd.out] at this
theorem Check_is (y m d : Int) (w : World) (ht : AhAt w) (ho : okD y m d) :
    Calls Tryd.prog 12 #[.agg #[.int .i64 y, .int .i64 m, .int .i64 d]] w fun e w' => e = .returned (.int .i64 0) ∧ Below w.heap.size w w' := by
  have := check_any y m d w ht
  rwa [ckE_yes ho] at this
theorem week_is (n v : Int) (w : World) (h1 : -9223372036854775808 ≤ n) (h2 : n ≤ 9223372036854775807) (h : Hid ((n % 7 + 4) % 7 = v)) :
    Calls Tryd.prog 21 #[.int .i64 n] w fun e w' => e = .returned (.int .i64 v) ∧ w = w' := by
  have := weekday_any n w h1 h2
  rwa [h.out] at this

theorem next_is (y m d y' m' d' : Int) (w : World) (ho : okD y m d) (ho' : okD y' m' d') (hd : dayN y' m' d' = dayN y m d + 1) :
    Calls Tryd.prog 23 #[.agg #[.int .i64 y, .int .i64 m, .int .i64 d]] w (NextTo y' m' d' w) := by
  have ho2 := ho
  obtain ⟨h1, h2, h3, h4, h5, h6⟩ := ho2
  have hr := rdim_dim y m h3 h4
  have db := dim_bd y m h3 h4
  by_cases a : d + 1 ≤ dim y m
  · have on : okD y m (d + 1) := ⟨h1, h2, h3, h4, by omega, a⟩
    obtain ⟨rfl, rfl, rfl⟩ := day_inj ho' on (by rw [hd]; unfold dayN; omega)
    exact next_1 _ _ d w h3 h4 h5 (by omega) (by omega)
  · by_cases b : m < 12
    · have db2 := dim_bd y (m + 1) (by omega) (by omega)
      have on : okD y (m + 1) 1 := ⟨h1, h2, by omega, by omega, by omega, by omega⟩
      have s := cum_succ y m
      obtain ⟨rfl, rfl, rfl⟩ := day_inj ho' on (by rw [hd]; unfold dayN; omega)
      exact next_2 _ _ d w h3 b h5 (by omega) (by omega)
    · obtain rfl : m = 12 := by omega
      have s := cum_succ y 12
      have e13 := cum_13 y
      have e1 := cum_1 (y + 1)
      rw [show (12 : Int) + 1 = 13 by omega] at s
      have sy := ny_succ y
      have hlast : y < 100000 := by
        have hb := (day_bd ho').2
        by_cases c : y < 100000
        · exact c
        · obtain rfl : y = 100000 := by omega
          have e2 : ny 100001 = 35805088 := by decide
          rw [hd] at hb
          unfold dayN at hb
          rw [show (100000 : Int) + 1 = 100001 by omega] at sy
          omega
      have db2 := dim_bd (y + 1) 1 (by omega) (by omega)
      have on : okD (y + 1) 1 1 := ⟨by omega, by omega, by omega, by omega, by omega, by omega⟩
      obtain ⟨rfl, rfl, rfl⟩ := day_inj ho' on (by rw [hd]; unfold dayN; omega)
      exact next_3 y 12 d w (by omega) (by omega) (by omega) (by omega) h5 (by omega) (by omega)

theorem Boxed.make {w W : World} (h : Below w.heap.size w W) (y m d : Int) (t : TypeId) : Boxed w W.heap.size y m d (W.alloc (.cells #[.int .i64 y, .int .i64 m, .int .i64 d] t)) :=
  ⟨h.alloc h.size _, by simp, by simp, by simp, by simp⟩
theorem Boxed.more {w W : World} {g : Nat} {y m d : Int} (h : Boxed w g y m d W) (o : Obj) : Boxed w g y m d (W.alloc o) := h.next ((Below.refl _ _).alloc (Nat.le_refl _) _)

theorem back_no (n : Int) (w : World) (H : Laid2 w) (h : n < -37243778 ∨ 35805087 < n) :
    Calls Tryd.prog 6 #[.int .i64 n] w fun e w' => e = .returned (.bool true) ∧ Below w.heap.size w w' := by
  have HL := Lib.hid H
  have HH := Lib.hid h
  clear H h
  go_enter Tryd.func6, Tryd.ntmps6
  go_wp2_with (first
    | (go_at_call 18; refine (Of_no _ _ HH.out).mono ?_; rintro e w1 ⟨rfl, k1⟩
       have D := Lib.hid (Boxed.make k1 0 0 0 23)
       clear k1)
    | (go_at_call 14; refine (awake_yes _ (HL.out.next D.out.bel)).mono ?_; rintro e w2 ⟨rfl, k2⟩
       have D2 := Lib.hid (D.out.next k2)
       clear k2))
  go_ret
  exact ⟨rfl, D2.out.bel⟩
end Go.Proofs.YtnedpflebkcdoaaDoor
