/- The contracts of civil.Days and Of: what each call returns, for every date and every number of 64 bits; nothing that was in memory changes. The table of days ahead of months reads as it is laid. -/
import Derived.Test.YtjpppffgebecdaaGreatDoorCivC
namespace Go.Proofs.YtjpppffgebecdaaGreatDoor
open Go.RowKit

theorem Days_no (y m d : Int) (w : World) (ht : AhAt w) (h : ¬ okD y m d) :
    Calls Tryz.prog 95 #[.agg #[.int .i64 y, .int .i64 m, .int .i64 d]] w fun e w' => e = .returned (.tuple #[.int .i64 0, .int .i64 10]) ∧ Below w.heap.size w w' := by
  have HT := Lib.hid ht
  have hk : ckE y m d = 10 := ckE_no h
  clear ht h
  go_enter Tryz.func95, Tryz.ntmps95
  have T : Hid (Below w.heap.size w (w.alloc (.cells #[.int .i64 y, .int .i64 m, .int .i64 d] 83))) := (Below.refl _ _).alloc (Nat.le_refl _) _
  go_wp2_with (first
    | (go_at_call 113; refine (check_any _ _ _ _ (HT.out.next T.out)).mono ?_; rintro e w1 ⟨rfl, k1⟩))
  go_ret2
  exact ⟨rfl, T.out.trans (k1.mono (by simp))⟩

theorem w64 {n : Int} (h1 : -9223372036854775808 ≤ n) (h2 : n ≤ 9223372036854775807) : IntKind.i64.wrap n = n := IntWalk.i64_in n (by omega)

set_option maxHeartbeats 400000 in
theorem Days_yes (y m d : Int) (w : World) (ht : AhAt w) (h : okD y m d) :
    Calls Tryz.prog 95 #[.agg #[.int .i64 y, .int .i64 m, .int .i64 d]] w fun e w' => e = .returned (.tuple #[.int .i64 (dayN y m d), .int .i64 0]) ∧ Below w.heap.size w w' := by
  have HT := Lib.hid ht
  have hk : ckE y m d = 0 := ckE_yes h
  obtain ⟨h1, h2, h3, h4, h5, h6⟩ := h
  have nb := ny_bd y (by omega) (by omega)
  have cb := cum_bd y m
  have db := dim_bd y m h3 h4
  have HD : Hid (dayN y m d = ny y + cum y m + d - 1) := rfl
  clear ht
  go_enter Tryz.func95, Tryz.ntmps95
  have T : Hid (Below w.heap.size w (w.alloc (.cells #[.int .i64 y, .int .i64 m, .int .i64 d] 83))) := (Below.refl _ _).alloc (Nat.le_refl _) _
  go_wp2_with (first
    | (go_at_call 113; refine (check_any _ _ _ _ (HT.out.next T.out)).mono ?_; rintro e w1 ⟨rfl, k1⟩))
  have HT1 := Lib.hid ((HT.out.next T.out).next k1)
  have B1 := Lib.hid (T.out.trans (k1.mono (by simp)))
  have g0 : w1.cell? ⟨w.heap.size, 0, none⟩ = some (.int .i64 y) := by rw [k1.cell (by simp)]; simp
  have g1 : w1.cell? ⟨w.heap.size, 1, none⟩ = some (.int .i64 m) := by rw [k1.cell (by simp)]; simp
  have g2 : w1.cell? ⟨w.heap.size, 2, none⟩ = some (.int .i64 d) := by rw [k1.cell (by simp)]; simp
  have e1 : IntKind.i64.wrap (ny y + cum y m) = ny y + cum y m := w64 (by omega) (by omega)
  have e2 : IntKind.i64.wrap (ny y + cum y m + d) = ny y + cum y m + d := w64 (by omega) (by omega)
  have e3 : IntKind.i64.wrap (ny y + cum y m + d - 1) = ny y + cum y m + d - 1 := w64 (by omega) (by omega)
  clear k1 T HT nb cb db
  go_region_held3 (fun w' => w'.cell? ⟨w.heap.size, 0, none⟩ = some (.int .i64 y) ∧ w'.cell? ⟨w.heap.size, 1, none⟩ = some (.int .i64 m) ∧ w'.cell? ⟨w.heap.size, 2, none⟩ = some (.int .i64 d)) (first | exact ⟨g0, g1, g2⟩ | go_keep)
    (first
      | (go_at_call 79; refine (newYear_any _ _ (by omega) (by omega)).mono ?_; rintro e w2 ⟨rfl, rfl⟩)
      | (go_at_call 82; refine (ahead_any _ _ _ (by first | exact HT1.out | exact HT1.out.drew) (by omega) (by omega)).mono ?_; rintro e w2 ⟨rfl, rfl⟩))
  go_wp2
  go_ret2
  rw [HD.out]
  exact ⟨rfl, B1.out.drew⟩

theorem Of_no (n : Int) (w : World) (h : n < -37243778 ∨ 35805087 < n) :
    Calls Tryz.prog 52 #[.int .i64 n] w fun e w' => e = .returned (.tuple #[.agg #[.int .i64 0, .int .i64 0, .int .i64 0], .int .i64 10]) ∧ Below w.heap.size w w' := by
  have e1 : ny (-100000) = -37243778 := by decide
  have e2 : ny 100001 = 35805088 := by decide
  rcases h with h | h
  · go_enter Tryz.func52, Tryz.ntmps52
    go_wp2_with (go_at_call 79; refine (newYear_any _ _ (by omega) (by omega)).mono ?_; rintro e w1 ⟨rfl, rfl⟩)
    exact bodyPost_ret (v := .tuple #[.agg #[.int .i64 0, .int .i64 0, .int .i64 0], .int .i64 10]) (by simp [results, Tryz.results52, go_sem]) rfl ⟨rfl, (Below.refl _ _).alloc (Nat.le_refl _) _⟩
  · have h' : -37243778 ≤ n := by omega
    go_enter Tryz.func52, Tryz.ntmps52
    go_wp2_with (go_at_call 79; refine (newYear_any _ _ (by omega) (by omega)).mono ?_; rintro e w1 ⟨rfl, rfl⟩)
    exact bodyPost_ret (v := .tuple #[.agg #[.int .i64 0, .int .i64 0, .int .i64 0], .int .i64 10]) (by simp [results, Tryz.results52, go_sem]) rfl ⟨rfl, (Below.refl _ _).alloc (Nat.le_refl _) _⟩

def SomeDate (n : Int) (w : World) (e : Ending) (w' : World) : Prop := ∃ y m d : Int, okD y m d ∧ dayN y m d = n ∧ e = .returned (.tuple #[.agg #[.int .i64 y, .int .i64 m, .int .i64 d], .int .i64 0]) ∧ Below w.heap.size w w'
def SomeYear (n : Int) (w : World) (e : Ending) (w' : World) : Prop := ∃ y : Int, -100000 ≤ y ∧ y ≤ 100000 ∧ ny y ≤ n ∧ n < ny y + 365 + lp y ∧ e = .returned (.int .i64 y) ∧ w = w'

theorem yearOf_some (n : Int) (w : World) (h1 : -37243778 ≤ n) (h2 : n ≤ 35805087) : Calls Tryz.prog 80 #[.int .i64 n] w (SomeYear n w) :=
  (yearOf_any n w h1 h2).mono fun _ _ ⟨he, hw⟩ => ⟨yo n, (yo_bd n h1 h2).1, (yo_bd n h1 h2).2, (yo_spec n).1, by rw [← ny_succ]; exact (yo_spec n).2, he, hw⟩

theorem date_of {n y m : Int} (a : -100000 ≤ y) (b : y ≤ 100000) (c : 1 ≤ m) (d : m ≤ 12) (e : cum y m ≤ n - ny y) (f : n - ny y < cum y (m + 1)) : okD y m (n - ny y - cum y m + 1) ∧ dayN y m (n - ny y - cum y m + 1) = n := by
  have := cum_succ y m
  unfold okD dayN
  omega

set_option maxHeartbeats 400000 in
theorem Of_yes (n : Int) (w : World) (ht : AhAt w) (h1 : -37243778 ≤ n) (h2 : n ≤ 35805087) :
    Calls Tryz.prog 52 #[.int .i64 n] w (SomeDate n w) := by
  have e1 : ny (-100000) = -37243778 := by decide
  have e2 : ny 100001 = 35805088 := by decide
  have HT := Lib.hid (ht.next ((Below.refl _ _).alloc (Nat.le_refl _) (.cells #[.int .i64 0, .int .i64 0, .int .i64 0] 83)))
  clear ht
  go_enter Tryz.func52, Tryz.ntmps52
  go_wp2_with (go_at_call 79; refine (newYear_any _ _ (by omega) (by omega)).mono ?_; rintro e w1 ⟨rfl, rfl⟩)
  clear e1 e2
  refine (yearOf_some n _ h1 h2).mono ?_
  rintro e w1 ⟨y, y1, y2, y3, y4, rfl, rfl⟩
  have nb := ny_bd y (by omega) (by omega)
  have lb := lp_01 y
  go_wp2_with (go_at_call 79; refine (newYear_any _ _ (by omega) (by omega)).mono ?_; rintro e w1 ⟨rfl, rfl⟩)
  refine (monthOf_any y (n - ny y) _ HT.out (by omega) (by omega) (by omega)).mono ?_
  rintro e w1 ⟨m, m1, m2, m3, m4, rfl, rfl⟩
  have cb := cum_bd y m
  go_wp2_with (go_at_call 82; refine (ahead_any _ _ _ HT.out (by omega) (by omega)).mono ?_; rintro e w1 ⟨rfl, rfl⟩)
  have D := date_of y1 y2 m1 m2 m3 m4
  exact bodyPost_ret (v := .tuple #[.agg #[.int .i64 y, .int .i64 m, .int .i64 (n - ny y - cum y m + 1)], .int .i64 0]) (by simp [results, Tryz.results52, go_sem]) rfl ⟨y, m, _, D.1, D.2, rfl, (Below.refl _ _).alloc (Nat.le_refl _) _⟩
end Go.Proofs.YtjpppffgebecdaaGreatDoor
