/- The contracts of dayform.Check and dayform.start: whether a day of a month may be, and where the search for its date begins; nothing that was in memory changes. -/
import Derived.Test.YtblamffdlclomaaDoorCivD
import Derived.Test.YtblamffdlclomaaDoorDfp
namespace Go.Proofs.YtblamffdlclomaaDoor
open Go.RowKit

def dfE (k wk n : Int) : Int := if dfB k wk n then 0 else 10
theorem dfE_yes {k wk n : Int} (h : dfD k wk n) : dfE k wk n = 0 := by unfold dfE; rw [if_pos (dfB_iff.2 h)]
theorem dfE_no {k wk n : Int} (h : ¬ dfD k wk n) : dfE k wk n = 10 := by unfold dfE; rw [if_neg (fun c => h (dfB_iff.1 c))]

theorem dcases (a lo hi : Int) : (decide (lo ≤ a) = false ∧ Hid (¬ lo ≤ a)) ∨ (decide (lo ≤ a) = true ∧ decide (a ≤ hi) = false ∧ Hid (¬ a ≤ hi)) ∨ (decide (lo ≤ a) = true ∧ decide (a ≤ hi) = true ∧ Hid (lo ≤ a ∧ a ≤ hi)) := by
  by_cases h1 : lo ≤ a
  · by_cases h2 : a ≤ hi
    · exact .inr (.inr ⟨decide_eq_true h1, decide_eq_true h2, Lib.hid ⟨h1, h2⟩⟩)
    · exact .inr (.inl ⟨decide_eq_true h1, decide_eq_false h2, Lib.hid h2⟩)
  · exact .inl ⟨decide_eq_false h1, Lib.hid h1⟩

theorem dcheck_0 (wk n v : Int) (w : World) (HV : Hid (dfE 0 wk n = v)) :
    Calls Tryd.prog 13 #[.agg #[.int .i64 0, .int .i64 wk, .int .i64 n]] w fun e w' => e = .returned (.int .i64 v) ∧ Below w.heap.size w w' := by
  by_cases hz : wk = 0
  · subst hz
    rcases dcases n 1 31 with ⟨c1, H2⟩ | ⟨c1, c2, H2⟩ | ⟨c1, c2, H2⟩
    · obtain rfl : v = 10 := by rw [← HV.out]; exact dfE_no (by have := H2.out; unfold dfD; omega)
      go_enter Tryd.func13, Tryd.ntmps13
      go_wp2
      go_ret
      exact ⟨rfl, (Below.refl _ _).alloc (Nat.le_refl _) _⟩
    · obtain rfl : v = 10 := by rw [← HV.out]; exact dfE_no (by have := H2.out; unfold dfD; omega)
      go_enter Tryd.func13, Tryd.ntmps13
      go_wp2
      go_ret
      exact ⟨rfl, (Below.refl _ _).alloc (Nat.le_refl _) _⟩
    · obtain rfl : v = 0 := by rw [← HV.out]; exact dfE_yes (by have := H2.out; unfold dfD; omega)
      go_enter Tryd.func13, Tryd.ntmps13
      go_wp2
      go_ret
      exact ⟨rfl, (Below.refl _ _).alloc (Nat.le_refl _) _⟩
  · have hz' : (wk == 0) = false := by simpa using hz
    obtain rfl : v = 10 := by rw [← HV.out]; exact dfE_no (by unfold dfD; omega)
    clear hz
    rcases dcases wk 0 6 with ⟨b1, _⟩ | ⟨b1, b2, _⟩ | ⟨b1, b2, _⟩ <;> rcases dcases n 1 31 with ⟨c1, _⟩ | ⟨c1, c2, _⟩ | ⟨c1, c2, _⟩
    all_goals
      go_enter Tryd.func13, Tryd.ntmps13
      go_wp2
      go_ret
      exact ⟨rfl, (Below.refl _ _).alloc (Nat.le_refl _) _⟩

theorem dcheck_1 (wk n v : Int) (w : World) (HV : Hid (dfE 1 wk n = v)) :
    Calls Tryd.prog 13 #[.agg #[.int .i64 1, .int .i64 wk, .int .i64 n]] w fun e w' => e = .returned (.int .i64 v) ∧ Below w.heap.size w w' := by
  rcases dcases wk 0 6 with ⟨b1, H1⟩ | ⟨b1, b2, H1⟩ | ⟨b1, b2, H1⟩
  · obtain rfl : v = 10 := by rw [← HV.out]; exact dfE_no (by have := H1.out; unfold dfD; omega)
    rcases dcases n 1 31 with ⟨c1, _⟩ | ⟨c1, c2, _⟩ | ⟨c1, c2, _⟩
    all_goals
      go_enter Tryd.func13, Tryd.ntmps13
      go_wp2
      go_ret
      exact ⟨rfl, (Below.refl _ _).alloc (Nat.le_refl _) _⟩
  · obtain rfl : v = 10 := by rw [← HV.out]; exact dfE_no (by have := H1.out; unfold dfD; omega)
    rcases dcases n 1 31 with ⟨c1, _⟩ | ⟨c1, c2, _⟩ | ⟨c1, c2, _⟩
    all_goals
      go_enter Tryd.func13, Tryd.ntmps13
      go_wp2
      go_ret
      exact ⟨rfl, (Below.refl _ _).alloc (Nat.le_refl _) _⟩
  · by_cases hz : n = 0
    · subst hz
      obtain rfl : v = 0 := by rw [← HV.out]; exact dfE_yes (by have := H1.out; unfold dfD; omega)
      go_enter Tryd.func13, Tryd.ntmps13
      go_wp2
      go_ret
      exact ⟨rfl, (Below.refl _ _).alloc (Nat.le_refl _) _⟩
    · have hz' : (n == 0) = false := by simpa using hz
      obtain rfl : v = 10 := by rw [← HV.out]; exact dfE_no (by unfold dfD; omega)
      clear hz
      rcases dcases n 1 31 with ⟨c1, _⟩ | ⟨c1, c2, _⟩ | ⟨c1, c2, _⟩
      all_goals
        go_enter Tryd.func13, Tryd.ntmps13
        go_wp2
        go_ret
        exact ⟨rfl, (Below.refl _ _).alloc (Nat.le_refl _) _⟩

theorem dcheck_23 (k wk n v : Int) (w : World) (hk : k = 2 ∨ k = 3) (HV : Hid (dfE k wk n = v)) :
    Calls Tryd.prog 13 #[.agg #[.int .i64 k, .int .i64 wk, .int .i64 n]] w fun e w' => e = .returned (.int .i64 v) ∧ Below w.heap.size w w' := by
  rcases dcases wk 0 6 with ⟨b1, H1⟩ | ⟨b1, b2, H1⟩ | ⟨b1, b2, H1⟩
  · obtain rfl : v = 10 := by rw [← HV.out]; exact dfE_no (by have := H1.out; unfold dfD; omega)
    rcases hk with rfl | rfl <;> rcases dcases n 1 31 with ⟨c1, _⟩ | ⟨c1, c2, _⟩ | ⟨c1, c2, _⟩
    all_goals
      go_enter Tryd.func13, Tryd.ntmps13
      go_wp2
      go_ret
      exact ⟨rfl, (Below.refl _ _).alloc (Nat.le_refl _) _⟩
  · obtain rfl : v = 10 := by rw [← HV.out]; exact dfE_no (by have := H1.out; unfold dfD; omega)
    rcases hk with rfl | rfl <;> rcases dcases n 1 31 with ⟨c1, _⟩ | ⟨c1, c2, _⟩ | ⟨c1, c2, _⟩
    all_goals
      go_enter Tryd.func13, Tryd.ntmps13
      go_wp2
      go_ret
      exact ⟨rfl, (Below.refl _ _).alloc (Nat.le_refl _) _⟩
  · rcases dcases n 1 31 with ⟨c1, H2⟩ | ⟨c1, c2, H2⟩ | ⟨c1, c2, H2⟩
    · obtain rfl : v = 10 := by rw [← HV.out]; exact dfE_no (by have := H2.out; unfold dfD; omega)
      rcases hk with rfl | rfl
      all_goals
        go_enter Tryd.func13, Tryd.ntmps13
        go_wp2
        go_ret
        exact ⟨rfl, (Below.refl _ _).alloc (Nat.le_refl _) _⟩
    · obtain rfl : v = 10 := by rw [← HV.out]; exact dfE_no (by have := H2.out; unfold dfD; omega)
      rcases hk with rfl | rfl
      all_goals
        go_enter Tryd.func13, Tryd.ntmps13
        go_wp2
        go_ret
        exact ⟨rfl, (Below.refl _ _).alloc (Nat.le_refl _) _⟩
    · obtain rfl : v = 0 := by rw [← HV.out]; exact dfE_yes (by have := H1.out; have := H2.out; unfold dfD; omega)
      rcases hk with rfl | rfl
      all_goals
        go_enter Tryd.func13, Tryd.ntmps13
        go_wp2
        go_ret
        exact ⟨rfl, (Below.refl _ _).alloc (Nat.le_refl _) _⟩

theorem dcheck_x (k wk n : Int) (w : World) (h0 : k ≠ 0) (h1 : k ≠ 1) (h2 : k ≠ 2) (h3 : k ≠ 3) :
    Calls Tryd.prog 13 #[.agg #[.int .i64 k, .int .i64 wk, .int .i64 n]] w fun e w' => e = .returned (.int .i64 10) ∧ Below w.heap.size w w' := by
  have k0 : (k == 0) = false := by simpa using h0
  have k1 : (k == 1) = false := by simpa using h1
  have k2 : (k == 2) = false := by simpa using h2
  have k3 : (k == 3) = false := by simpa using h3
  clear h0 h1 h2 h3
  rcases dcases wk 0 6 with ⟨b1, _⟩ | ⟨b1, b2, _⟩ | ⟨b1, b2, _⟩ <;> rcases dcases n 1 31 with ⟨c1, _⟩ | ⟨c1, c2, _⟩ | ⟨c1, c2, _⟩
  all_goals
      go_enter Tryd.func13, Tryd.ntmps13
      go_wp2
      go_ret
      exact ⟨rfl, (Below.refl _ _).alloc (Nat.le_refl _) _⟩

/-- Check, at every day of a month. -/
theorem dcheck_is (k wk n v : Int) (w : World) (HV : Hid (dfE k wk n = v)) :
    Calls Tryd.prog 13 #[.agg #[.int .i64 k, .int .i64 wk, .int .i64 n]] w fun e w' => e = .returned (.int .i64 v) ∧ Below w.heap.size w w' := by
  by_cases h0 : k = 0
  · subst h0; exact dcheck_0 wk n v w HV
  · by_cases h1 : k = 1
    · subst h1; exact dcheck_1 wk n v w HV
    · by_cases h2 : k = 2 ∨ k = 3
      · exact dcheck_23 k wk n v w h2 HV
      · obtain rfl : v = 10 := by rw [← HV.out]; exact dfE_no (by unfold dfD; omega)
        exact dcheck_x k wk n w h0 h1 (fun h => h2 (.inl h)) (fun h => h2 (.inr h))

/-- Where the search begins, and how it goes on. -/
def fstD (k n long : Int) : Int := if k = 1 then long else n
def stpD (k : Int) : Int := if k = 1 ∨ k = 3 then -1 else 1
theorem dstart_is (k wk n long f s : Int) (w : World) (HV : Hid (fstD k n long = f ∧ stpD k = s)) :
    Calls Tryd.prog 30 #[.agg #[.int .i64 k, .int .i64 wk, .int .i64 n], .int .i64 long] w fun e w' => e = .returned (.tuple #[.int .i64 f, .int .i64 s]) ∧ Below w.heap.size w w' := by
  obtain ⟨rfl, rfl⟩ := HV.out
  clear HV
  by_cases h1 : k = 1
  · subst h1
    show Calls _ _ _ w fun e w' => e = .returned (.tuple #[.int .i64 long, .int .i64 (-1)]) ∧ Below w.heap.size w w'
    go_enter Tryd.func30, Tryd.ntmps30
    go_wp2
    go_ret2
    exact ⟨rfl, (Below.refl _ _).alloc (Nat.le_refl _) _⟩
  · have k1 : (k == 1) = false := by simpa using h1
    by_cases h3 : k = 3
    · subst h3
      show Calls _ _ _ w fun e w' => e = .returned (.tuple #[.int .i64 n, .int .i64 (-1)]) ∧ Below w.heap.size w w'
      go_enter Tryd.func30, Tryd.ntmps30
      go_wp2
      go_ret2
      exact ⟨rfl, (Below.refl _ _).alloc (Nat.le_refl _) _⟩
    · have k3 : (k == 3) = false := by simpa using h3
      have e1 : fstD k n long = n := if_neg h1
      have e2 : stpD k = 1 := if_neg (by omega)
      rw [e1, e2]
      clear h1 h3 e1 e2
      go_enter Tryd.func30, Tryd.ntmps30
      go_wp2
      go_ret2
      exact ⟨rfl, (Below.refl _ _).alloc (Nat.le_refl _) _⟩
end Go.Proofs.YtblamffdlclomaaDoor
