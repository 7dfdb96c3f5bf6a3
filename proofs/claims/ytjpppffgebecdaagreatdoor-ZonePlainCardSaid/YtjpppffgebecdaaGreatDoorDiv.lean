/- The contracts of num.crosses, num.Div and num.Mod: what each call returns, for every number of 64 bits; nothing in memory changes. -/
import Derived.Test.YtjpppffgebecdaaGreatDoorChecked
import Derived.Test.YtjpppffgebecdaaGreatDoorPlain
import Derived.WalkKit
import Derived.IntWalk
import Derived.Lib.Hide
namespace Go.Proofs.YtjpppffgebecdaaGreatDoor
open Go.RowKit

theorem crosses_yes (r b : Int) (w : World) (h0 : r ≠ 0) (hs : ¬ (r < 0 ↔ b < 0)) :
    Calls Tryz.prog 78 #[.int .i64 r, .int .i64 b] w fun e w' => e = .returned (.bool true) ∧ w = w' := by
  have h0' : (r != 0) = true := by simp [h0]
  by_cases h1 : r < 0
  · have h2 : ¬ b < 0 := by omega
    go_enter Tryz.func78, Tryz.ntmps78
    go_wp2
    go_ret
    exact ⟨by simp, rfl⟩
  · have h2 : b < 0 := by omega
    go_enter Tryz.func78, Tryz.ntmps78
    go_wp2
    go_ret
    exact ⟨by simp, rfl⟩

theorem crosses_no (r b : Int) (w : World) (h : r = 0 ∨ (r < 0 ↔ b < 0)) :
    Calls Tryz.prog 78 #[.int .i64 r, .int .i64 b] w fun e w' => e = .returned (.bool false) ∧ w = w' := by
  by_cases h0 : r = 0
  · subst h0
    go_enter Tryz.func78, Tryz.ntmps78
    go_wp2
    go_ret
    exact ⟨rfl, rfl⟩
  · have h0' : (r != 0) = true := by simp [h0]
    by_cases h1 : r < 0
    · have h2 : b < 0 := by omega
      go_enter Tryz.func78, Tryz.ntmps78
      go_wp2
      go_ret
      exact ⟨by simp, rfl⟩
    · have h2 : ¬ b < 0 := by omega
      go_enter Tryz.func78, Tryz.ntmps78
      go_wp2
      go_ret
      exact ⟨by simp, rfl⟩

theorem div_zero (a : Int) (w : World) :
    Calls Tryz.prog 50 #[.int .i64 a, .int .i64 0] w fun e w' => e = .returned (.tuple #[.int .i64 0, .int .i64 1]) ∧ w = w' := by
  go_enter Tryz.func50, Tryz.ntmps50
  go_wp2
  go_ret2
  exact ⟨rfl, rfl⟩

theorem div_over (w : World) :
    Calls Tryz.prog 50 #[.int .i64 (-9223372036854775808), .int .i64 (-1)] w fun e w' => e = .returned (.tuple #[.int .i64 0, .int .i64 11]) ∧ w = w' := by
  go_enter Tryz.func50, Tryz.ntmps50
  go_wp2
  go_ret2
  exact ⟨rfl, rfl⟩

theorem div_case (a b : Int) (ho : ¬ (a = -9223372036854775808 ∧ b = -1)) : ((a == -9223372036854775808) = true ∧ (b == -1) = false) ∨ (a == -9223372036854775808) = false := by
  by_cases h : a = -9223372036854775808
  · left; simp [h]; omega
  · right; simp [h]

theorem div_any (a b : Int) (w : World) (hb : b ≠ 0) (ha1 : -9223372036854775808 ≤ a) (ha2 : a ≤ 9223372036854775807) (ho : ¬ (a = -9223372036854775808 ∧ b = -1)) :
    Calls Tryz.prog 50 #[.int .i64 a, .int .i64 b] w fun e w' => e = .returned (.tuple #[.int .i64 (a.fdiv b), .int .i64 0]) ∧ w = w' := by
  have hb' : (b == 0) = false := by simp [hb]
  by_cases hc : a.tmod b ≠ 0 ∧ ¬ (a.tmod b < 0 ↔ b < 0)
  · have HE : Hid (wrap64 (wrap64 (a.tdiv b) - 1) = a.fdiv b) := by
      have h1 := tdiv_bd2 a b ha1 ha2 hb hc.1
      rw [wrap64_in (a.tdiv b) (by omega) (by omega), wrap64_in _ (by omega) (by omega)]
      exact (cross_yes a b hb hc.1 hc.2).1.symm
    have HC : Hid (a.tmod b ≠ 0 ∧ ¬ (a.tmod b < 0 ↔ b < 0)) := hc
    clear hc ha1 ha2
    rcases div_case a b ho with ⟨e1, e2⟩ | e1 <;> clear ho
    all_goals
     go_enter Tryz.func50, Tryz.ntmps50
     go_wp2_with (go_at_call 78; refine (crosses_yes _ _ _ HC.out.1 HC.out.2).mono ?_; rintro e w' ⟨rfl, rfl⟩)
     go_ret2
     refine ⟨?_, rfl⟩
     simp only [← HE.out]
     rfl
  · have HE : Hid (wrap64 (a.tdiv b) = a.fdiv b) := by
      have h1 := tdiv_bd a b ha1 ha2 hb ho
      rw [wrap64_in (a.tdiv b) (by omega) (by omega)]
      exact (cross_no a b (by omega)).1.symm
    have HC : Hid (a.tmod b = 0 ∨ (a.tmod b < 0 ↔ b < 0)) := by show _ ∨ _; omega
    clear hc ha1 ha2
    rcases div_case a b ho with ⟨e1, e2⟩ | e1 <;> clear ho
    all_goals
     go_enter Tryz.func50, Tryz.ntmps50
     go_wp2_with (go_at_call 78; refine (crosses_no _ _ _ HC.out).mono ?_; rintro e w' ⟨rfl, rfl⟩)
     go_ret2
     refine ⟨?_, rfl⟩
     simp only [← HE.out]
     rfl

theorem mod_zero (a : Int) (w : World) :
    Calls Tryz.prog 51 #[.int .i64 a, .int .i64 0] w fun e w' => e = .returned (.tuple #[.int .i64 0, .int .i64 1]) ∧ w = w' := by
  go_enter Tryz.func51, Tryz.ntmps51
  go_wp2
  go_ret2
  exact ⟨rfl, rfl⟩

theorem mod_any (a b : Int) (w : World) (hb : b ≠ 0) (hb1 : -9223372036854775808 ≤ b) (hb2 : b ≤ 9223372036854775807) :
    Calls Tryz.prog 51 #[.int .i64 a, .int .i64 b] w fun e w' => e = .returned (.tuple #[.int .i64 (a.fmod b), .int .i64 0]) ∧ w = w' := by
  have hb' : (b == 0) = false := by simp [hb]
  by_cases hc : a.tmod b ≠ 0 ∧ ¬ (a.tmod b < 0 ↔ b < 0)
  · have HE : Hid (wrap64 (a.tmod b + b) = a.fmod b) := by
      have h1 := tmod_bd a b hb1 hb2 hb
      rw [wrap64_in _ (by omega) (by omega)]
      exact (cross_yes a b hb hc.1 hc.2).2.symm
    have HC : Hid (a.tmod b ≠ 0 ∧ ¬ (a.tmod b < 0 ↔ b < 0)) := hc
    clear hc hb1 hb2
    go_enter Tryz.func51, Tryz.ntmps51
    go_wp2_with (go_at_call 78; refine (crosses_yes _ _ _ HC.out.1 HC.out.2).mono ?_; rintro e w' ⟨rfl, rfl⟩)
    all_goals
      go_ret2
      refine ⟨?_, rfl⟩
      simp only [← HE.out]
      rfl
  · have HE : Hid (a.tmod b = a.fmod b) := (cross_no a b (by omega)).2.symm
    have HC : Hid (a.tmod b = 0 ∨ (a.tmod b < 0 ↔ b < 0)) := by show _ ∨ _; omega
    clear hc hb1 hb2
    go_enter Tryz.func51, Tryz.ntmps51
    go_wp2_with (go_at_call 78; refine (crosses_no _ _ _ HC.out).mono ?_; rintro e w' ⟨rfl, rfl⟩)
    all_goals
      go_ret2
      refine ⟨?_, rfl⟩
      simp only [← HE.out]
      rfl

def divV (a b : Int) : Int := if b = 0 then 0 else if a = -9223372036854775808 ∧ b = -1 then 0 else a.fdiv b
def divE (a b : Int) : Int := if b = 0 then 1 else if a = -9223372036854775808 ∧ b = -1 then 11 else 0
def modV (a b : Int) : Int := if b = 0 then 0 else a.fmod b
def modE (b : Int) : Int := if b = 0 then 1 else 0

theorem div_all (a b : Int) (w : World) (ha1 : -9223372036854775808 ≤ a) (ha2 : a ≤ 9223372036854775807) :
    Calls Tryz.prog 50 #[.int .i64 a, .int .i64 b] w fun e w' => e = .returned (.tuple #[.int .i64 (divV a b), .int .i64 (divE a b)]) ∧ w = w' := by
  unfold divV divE
  by_cases hb : b = 0
  · subst hb; rw [if_pos rfl, if_pos rfl]; exact div_zero a w
  · rw [if_neg hb, if_neg hb]
    by_cases ho : a = -9223372036854775808 ∧ b = -1
    · rw [if_pos ho, if_pos ho]
      obtain ⟨rfl, rfl⟩ := ho
      exact div_over w
    · rw [if_neg ho, if_neg ho]
      exact div_any a b w hb ha1 ha2 ho

theorem mod_all (a b : Int) (w : World) (hb1 : -9223372036854775808 ≤ b) (hb2 : b ≤ 9223372036854775807) :
    Calls Tryz.prog 51 #[.int .i64 a, .int .i64 b] w fun e w' => e = .returned (.tuple #[.int .i64 (modV a b), .int .i64 (modE b)]) ∧ w = w' := by
  unfold modV modE
  by_cases hb : b = 0
  · subst hb; rw [if_pos rfl, if_pos rfl]; exact mod_zero a w
  · rw [if_neg hb, if_neg hb]
    exact mod_any a b w hb hb1 hb2
end Go.Proofs.YtjpppffgebecdaaGreatDoor
