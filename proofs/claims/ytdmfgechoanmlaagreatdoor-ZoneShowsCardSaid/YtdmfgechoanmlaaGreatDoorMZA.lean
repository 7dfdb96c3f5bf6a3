/- Plain facts on whole numbers that the contracts of package num lean on: quotients rounded down, and what fits 64 bits; no program is named.
Plain facts on the calendar that the contracts of package civil lean on: leap years, days ahead of months and of years, and that of two dates the later one is the later day; no program is named.
The contracts of num.crosses, num.Div and num.Mod: what each call returns, for every number of 64 bits; nothing in memory changes.
The contracts of package civil's inner functions that only compute, and of the reference's: what each call returns, for every number of 64 bits where nothing is said; nothing in memory changes. The table of days ahead of months reads as it is laid.
The contracts of civil.yearOf and monthOf and of the reference's Long and year: what each call returns, for days that have a date; nothing in memory changes.
The contracts of civil.nearest, Check and Long: what each call returns, for every date; nothing that was in memory changes. The table of days ahead of months reads as it is laid.
The contracts of civil.Days and Of: what each call returns, for every date and every number of 64 bits; nothing that was in memory changes. The table of days ahead of months reads as it is laid. -/
import Derived.IntWalk
import Derived.RowKit
import Derived.Laws.BitsAllLaws
import Derived.Laws.BitsLemmas
import Derived.Test.YtdmfgechoanmlaaGreatDoorChecked
import Derived.WalkKit
import Derived.Lib.Hide
import Derived.LoopTactic
import Derived.Below
import Derived.Deep.RegionHeld3
import Derived.Deep.QuietTactic
import Derived.BigQuiet
namespace Go.Proofs.YtdmfgechoanmlaaGreatDoor
open Go.RowKit

theorem cross_yes (a b : Int) (hb : b ≠ 0) (h : a.tmod b ≠ 0) (hs : ¬ (a.tmod b < 0 ↔ b < 0)) : a.fdiv b = a.tdiv b - 1 ∧ a.fmod b = a.tmod b + b := by
  have hd : ¬ b ∣ a := fun hd => h (Int.dvd_iff_tmod_eq_zero.1 hd)
  rw [Int.fdiv_eq_tdiv, Int.fmod_eq_tmod, if_neg hd, if_neg hd]
  by_cases ha : 0 ≤ a
  · have := Int.tmod_nonneg b ha
    rw [if_pos ha, if_pos ha]
    by_cases hb0 : 0 ≤ b
    · omega
    · rw [if_neg hb0, if_neg hb0]; omega
  · have h2 : a.tmod b ≤ 0 := by
      have := Int.tmod_nonneg b (a := -a) (by omega)
      rw [Int.neg_tmod] at this; omega
    rw [if_neg ha, if_neg ha]
    by_cases hb0 : 0 ≤ b
    · rw [if_pos hb0, if_pos hb0, Int.sign_eq_one_of_pos (by omega)]; omega
    · omega

theorem cross_no (a b : Int) (h : a.tmod b = 0 ∨ (a.tmod b < 0 ↔ b < 0)) : a.fdiv b = a.tdiv b ∧ a.fmod b = a.tmod b := by
  by_cases hd : b ∣ a
  · rw [Int.fdiv_eq_tdiv, Int.fmod_eq_tmod, if_pos hd, if_pos hd]; omega
  · have h0 : a.tmod b ≠ 0 := fun e => hd (Int.dvd_iff_tmod_eq_zero.2 e)
    rw [Int.fdiv_eq_tdiv, Int.fmod_eq_tmod, if_neg hd, if_neg hd]
    by_cases ha : 0 ≤ a
    · have := Int.tmod_nonneg b ha
      rw [if_pos ha, if_pos ha]
      by_cases hb0 : 0 ≤ b
      · rw [if_pos hb0, if_pos hb0]; omega
      · omega
    · have h2 : a.tmod b ≤ 0 := by
        have := Int.tmod_nonneg b (a := -a) (by omega)
        rw [Int.neg_tmod] at this; omega
      rw [if_neg ha, if_neg ha]
      by_cases hb0 : 0 ≤ b
      · omega
      · rw [if_neg hb0, if_neg hb0, Int.sign_eq_neg_one_of_neg (by omega)]; omega

theorem wrap64_in (n : Int) (h1 : -9223372036854775808 ≤ n) (h2 : n ≤ 9223372036854775807) : wrap64 n = n := by
  unfold wrap64; omega

theorem tdiv_bd (a b : Int) (ha1 : -9223372036854775808 ≤ a) (ha2 : a ≤ 9223372036854775807) (hb : b ≠ 0) (ho : ¬ (a = -9223372036854775808 ∧ b = -1)) :
    -9223372036854775808 ≤ a.tdiv b ∧ a.tdiv b ≤ 9223372036854775807 := by
  by_cases h1 : b = 1
  · subst h1; rw [Int.tdiv_one]; omega
  · by_cases h2 : b = -1
    · subst h2; rw [Int.tdiv_neg, Int.tdiv_one]; omega
    · have hn := Int.natAbs_tdiv a b
      have h3 : a.natAbs / b.natAbs ≤ a.natAbs / 2 := Nat.div_le_div_left (by omega) (by omega)
      have h4 : a.natAbs.div b.natAbs = a.natAbs / b.natAbs := rfl
      omega

theorem tdiv_bd2 (a b : Int) (ha1 : -9223372036854775808 ≤ a) (ha2 : a ≤ 9223372036854775807) (hb : b ≠ 0) (h : a.tmod b ≠ 0) :
    -9223372036854775807 ≤ a.tdiv b ∧ a.tdiv b ≤ 9223372036854775807 := by
  by_cases h1 : b = 1
  · subst h1; rw [Int.tmod_one] at h; omega
  · by_cases h2 : b = -1
    · subst h2; rw [Int.tmod_neg, Int.tmod_one] at h; omega
    · have hn := Int.natAbs_tdiv a b
      have h3 : a.natAbs / b.natAbs ≤ a.natAbs / 2 := Nat.div_le_div_left (by omega) (by omega)
      have h4 : a.natAbs.div b.natAbs = a.natAbs / b.natAbs := rfl
      omega

theorem tmod_bd (a b : Int) (hb1 : -9223372036854775808 ≤ b) (hb2 : b ≤ 9223372036854775807) (hb : b ≠ 0) :
    -9223372036854775808 < a.tmod b ∧ a.tmod b < 9223372036854775808 ∧ (0 < b → a.tmod b < b ∧ - b < a.tmod b) ∧ (b < 0 → a.tmod b < - b ∧ b < a.tmod b) := by
  have h : (a.tmod b).natAbs < b.natAbs := by
    rw [Int.natAbs_tmod]; exact Nat.mod_lt _ (by omega)
  omega

theorem toNat_ofInt64 (n : Int) : (BitVec.ofInt 64 n).toNat = (n % 18446744073709551616).toNat := by
  rw [BitVec.toNat_ofInt]; rfl

theorem and_low (n : Int) : bits .and .i64 n 4294967295 = n % 4294967296 := by
  show IntKind.i64.wrap ((BitVec.ofInt 64 n &&& BitVec.ofInt 64 (4294967295 : Int)).toNat : Int) = _
  rw [BitVec.toNat_and, toNat_ofInt64, toNat_ofInt64]
  have e : (4294967295 % 18446744073709551616 : Int).toNat = 4294967295 := by decide
  rw [e, nat_mask32, IntKind.wrap_i64]
  omega

theorem or_low (m x : Int) (hm1 : -9223372036854775808 ≤ m) (hm2 : m ≤ 9223372036854775807) (hm : m % 4294967296 = 0) (hx1 : 0 ≤ x) (hx2 : x < 4294967296) : bits .or .i64 m x = m + x := by
  show IntKind.i64.wrap ((BitVec.ofInt 64 m ||| BitVec.ofInt 64 x).toNat : Int) = _
  rw [BitVec.toNat_or, toNat_ofInt64, toNat_ofInt64]
  rw [nat_join 32 _ _ (by show _ % 4294967296 = 0; omega) (by show _ < 4294967296; omega), IntKind.wrap_i64]
  omega

end Go.Proofs.YtdmfgechoanmlaaGreatDoor

namespace Go.Proofs.YtdmfgechoanmlaaGreatDoor
open Go.RowKit

def lp (y : Int) : Int := if (y % 4 = 0 ∧ y % 100 ≠ 0) ∨ y % 400 = 0 then 1 else 0
def lpB (y : Int) : Bool := decide (lp y = 1)
def ah (m : Int) : Int := if m ≤ 1 then 0 else if m = 2 then 31 else if m = 3 then 59 else if m = 4 then 90 else if m = 5 then 120 else if m = 6 then 151 else if m = 7 then 181 else if m = 8 then 212 else if m = 9 then 243 else if m = 10 then 273 else if m = 11 then 304 else if m = 12 then 334 else 365
def cum (y m : Int) : Int := ah m + if 2 < m then lp y else 0
def dim (y m : Int) : Int := cum y (m + 1) - cum y m
def ny (y : Int) : Int := y / 400 * 146097 + y % 400 * 365 + ((y % 400 + 3) / 4 - (y % 400 + 99) / 100 + (y % 400 + 399) / 400) - 719528
def dayN (y m d : Int) : Int := ny y + cum y m + d - 1
def okD (y m d : Int) : Prop := -100000 ≤ y ∧ y ≤ 100000 ∧ 1 ≤ m ∧ m ≤ 12 ∧ 1 ≤ d ∧ d ≤ dim y m
def okB (y m d : Int) : Bool := decide (-100000 ≤ y ∧ y ≤ 100000 ∧ 1 ≤ m ∧ m ≤ 12 ∧ 1 ≤ d ∧ d ≤ dim y m)

theorem okB_iff (y m d : Int) : okB y m d = true ↔ okD y m d := by unfold okB okD; simp
theorem lp_01 (y : Int) : lp y = 0 ∨ lp y = 1 := by unfold lp; split <;> simp
theorem lpB_yes {y : Int} (h : lpB y = true) : lp y = 1 := by simpa [lpB] using h
theorem lpB_no {y : Int} (h : lpB y = false) : lp y = 0 := by
  rcases lp_01 y with h1 | h1
  · exact h1
  · simp [lpB, h1] at h
theorem lpB_if (y : Int) : (if lpB y = true then (1 : Int) else 0) = lp y := by
  rcases lp_01 y with h | h <;> simp [lpB, h]

theorem ny_succ (y : Int) : ny (y + 1) = ny y + 365 + lp y := by
  unfold ny lp; split <;> omega

theorem ny_400 (y : Int) : ny (y + 400) = ny y + 146097 := by
  unfold ny; omega

theorem lp_400 (y : Int) : lp (y + 400) = lp y := by
  unfold lp; congr 1; apply propext; omega

theorem cum_400 (y m : Int) : cum (y + 400) m = cum y m := by unfold cum; rw [lp_400]

theorem ny_le (a : Int) (n : Nat) : ny a + 365 * n ≤ ny (a + n) := by
  induction n with
  | zero => simp
  | succ n ih =>
    have h := ny_succ (a + n)
    have := lp_01 (a + n)
    have e : a + ((n + 1 : Nat) : Int) = a + n + 1 := by omega
    rw [e]; omega

theorem ny_mono (a b : Int) (h : a ≤ b) : ny a + 365 * (b - a) ≤ ny b := by
  have := ny_le a (b - a).toNat
  have e : a + ((b - a).toNat : Int) = b := by omega
  rw [e] at this; omega

theorem ny_bd (y : Int) (h0 : -100001 ≤ y) (h1 : y ≤ 100002) : -40000000 ≤ ny y ∧ ny y ≤ 40000000 := by
  unfold ny; omega

theorem ah_mono (m : Int) (h1 : 1 ≤ m) (h2 : m ≤ 12) : ah m + 28 ≤ ah (m + 1) ∧ ah (m + 1) ≤ ah m + 31 := by
  obtain rfl | rfl | rfl | rfl | rfl | rfl | rfl | rfl | rfl | rfl | rfl | rfl : m = 1 ∨ m = 2 ∨ m = 3 ∨ m = 4 ∨ m = 5 ∨ m = 6 ∨ m = 7 ∨ m = 8 ∨ m = 9 ∨ m = 10 ∨ m = 11 ∨ m = 12 := by omega
  all_goals decide

theorem ah_bd (m : Int) : 0 ≤ ah m ∧ ah m ≤ 365 := by unfold ah; omega
theorem cum_bd (y m : Int) : 0 ≤ cum y m ∧ cum y m ≤ 366 := by
  have := ah_bd m; have := lp_01 y; unfold cum; split <;> omega
theorem cum_13 (y : Int) : cum y 13 = 365 + lp y := by unfold cum ah; simp
theorem cum_1 (y : Int) : cum y 1 = 0 := by unfold cum ah; simp
theorem dim_bd (y m : Int) (h1 : 1 ≤ m) (h2 : m ≤ 12) : 28 ≤ dim y m ∧ dim y m ≤ 31 := by
  have h := lp_01 y
  obtain rfl | rfl | rfl | rfl | rfl | rfl | rfl | rfl | rfl | rfl | rfl | rfl : m = 1 ∨ m = 2 ∨ m = 3 ∨ m = 4 ∨ m = 5 ∨ m = 6 ∨ m = 7 ∨ m = 8 ∨ m = 9 ∨ m = 10 ∨ m = 11 ∨ m = 12 := by omega
  all_goals (simp [dim, cum, ah]; try omega)
theorem cum_succ (y m : Int) : cum y (m + 1) = cum y m + dim y m := by unfold dim; omega

theorem cum_le (y m : Int) (h1 : 1 ≤ m) (n : Nat) (h2 : m + n ≤ 13) : cum y m ≤ cum y (m + n) := by
  induction n with
  | zero => simp
  | succ n ih =>
    have := ih (by omega)
    have e : m + ((n + 1 : Nat) : Int) = m + n + 1 := by omega
    have := cum_succ y (m + n)
    have := dim_bd y (m + n) (by omega) (by omega)
    rw [e]; omega

theorem cum_mono (y a b : Int) (h1 : 1 ≤ a) (h : a ≤ b) (h2 : b ≤ 13) : cum y a ≤ cum y b := by
  have := cum_le y a h1 (b - a).toNat (by omega)
  have e : a + ((b - a).toNat : Int) = b := by omega
  rw [e] at this; exact this

def later (y m d y' m' d' : Int) : Prop := y > y' ∨ y = y' ∧ (m > m' ∨ m = m' ∧ d > d')

theorem day_later {y m d y' m' d' : Int} (a : okD y m d) (b : okD y' m' d') (h : later y m d y' m' d') : dayN y' m' d' < dayN y m d := by
  obtain ⟨a1, a2, a3, a4, a5, a6⟩ := a
  obtain ⟨b1, b2, b3, b4, b5, b6⟩ := b
  unfold dayN
  have s' := cum_succ y' m'
  rcases h with h | ⟨rfl, h | ⟨rfl, h⟩⟩
  · have h1 := ny_mono (y' + 1) y (by omega)
    have h2 := ny_succ y'
    have h3 := cum_mono y' (m' + 1) 13 (by omega) (by omega) (by omega)
    have h4 := cum_13 y'
    have h5 := cum_bd y m
    omega
  · have h3 := cum_mono y (m' + 1) m (by omega) (by omega) (by omega)
    omega
  · omega

theorem later_or (y m d y' m' d' : Int) : later y m d y' m' d' ∨ later y' m' d' y m d ∨ (y = y' ∧ m = m' ∧ d = d') := by unfold later; omega

theorem day_inj {y m d y' m' d' : Int} (a : okD y m d) (b : okD y' m' d') (h : dayN y m d = dayN y' m' d') : y = y' ∧ m = m' ∧ d = d' := by
  rcases later_or y m d y' m' d' with h1 | h1 | h1
  · have := day_later a b h1; omega
  · have := day_later b a h1; omega
  · exact h1

theorem day_gt {y m d y' m' d' : Int} (a : okD y m d) (b : okD y' m' d') : (dayN y' m' d' < dayN y m d) ↔ later y m d y' m' d' := by
  refine ⟨fun h => ?_, day_later a b⟩
  rcases later_or y m d y' m' d' with h1 | h1 | ⟨rfl, rfl, rfl⟩
  · exact h1
  · have := day_later b a h1; omega
  · omega

theorem day_bd {y m d : Int} (a : okD y m d) : -37243778 ≤ dayN y m d ∧ dayN y m d ≤ 35805087 := by
  obtain ⟨a1, a2, a3, a4, a5, a6⟩ := a
  have h1 := ny_mono (-100000) y a1
  have h2 := ny_mono (y + 1) 100001 (by omega)
  have e1 : ny (-100000) = -37243778 := by decide
  have e2 : ny 100001 = 35805088 := by decide
  have s := ny_succ y
  have h3 := cum_mono y (m + 1) 13 (by omega) (by omega) (by omega)
  have h4 := cum_13 y
  have h5 := cum_bd y m
  have h6 := cum_succ y m
  unfold dayN; omega

/-- The year of a day: what is a cycle's, and the guess of the year in it, which is at most one too early. -/
def yg (n : Int) : Int := (n + 719528) / 146097 * 400 + (n + 719528) % 146097 / 366
theorem yg_le (n : Int) : ny (yg n) ≤ n := by
  have h : ∀ q r : Int, 0 ≤ r → r < 146097 → ny (q * 400 + r / 366) = q * 146097 + ny (r / 366) := by
    intro q r h1 h2; unfold ny; omega
  unfold yg
  rw [h _ _ (by omega) (by omega)]
  have h2 : ∀ r : Int, 0 ≤ r → r < 146097 → ny (r / 366) ≤ r - 719528 := by
    intro r h1 h2; unfold ny; omega
  have := h2 ((n + 719528) % 146097) (by omega) (by omega)
  omega
theorem yg_lt (n : Int) : n < ny (yg n + 2) := by
  have h : ∀ q r : Int, 0 ≤ r → r < 146097 → ny (q * 400 + r / 366 + 2) = q * 146097 + ny (r / 366 + 2) := by
    intro q r h1 h2; unfold ny; omega
  unfold yg
  rw [h _ _ (by omega) (by omega)]
  have h2 : ∀ r : Int, 0 ≤ r → r < 146097 → r - 719528 < ny (r / 366 + 2) := by
    intro r h1 h2; unfold ny; omega
  have := h2 ((n + 719528) % 146097) (by omega) (by omega)
  omega

def yo (n : Int) : Int := if ny (yg n + 1) ≤ n then yg n + 1 else yg n
theorem yo_spec (n : Int) : ny (yo n) ≤ n ∧ n < ny (yo n + 1) := by
  have h1 := yg_le n
  have h2 := yg_lt n
  unfold yo
  split
  · have e : yg n + 1 + 1 = yg n + 2 := by omega
    rw [e]; omega
  · omega
theorem yo_bd (n : Int) (h1 : -37243778 ≤ n) (h2 : n ≤ 35805087) : -100000 ≤ yo n ∧ yo n ≤ 100000 := by
  have h := yo_spec n
  have e1 : ny (-100000) = -37243778 := by decide
  have e2 : ny 100001 = 35805088 := by decide
  constructor
  · by_cases c : -100000 ≤ yo n
    · exact c
    · have := ny_mono (yo n + 1) (-100000) (by omega); omega
  · by_cases c : yo n ≤ 100000
    · exact c
    · have := ny_mono 100001 (yo n) (by omega); omega
theorem yg_bd (n : Int) (h1 : -37243778 ≤ n) (h2 : n ≤ 35805087) : -100100 ≤ yg n ∧ yg n ≤ 100100 := by unfold yg; omega

/-- The days of a month, as the reference tells them. -/
def rdim (y m : Int) : Int := if m = 2 then (if lpB y then 29 else 28) else if m = 4 ∨ m = 6 ∨ m = 9 ∨ m = 11 then 30 else 31
theorem rdim_dim (y m : Int) (h1 : 1 ≤ m) (h2 : m ≤ 12) : rdim y m = dim y m := by
  have h := lpB_if y
  cases hl : lpB y
  all_goals
    rw [hl] at h
    simp only [if_true, reduceCtorEq, if_false] at h
    obtain rfl | rfl | rfl | rfl | rfl | rfl | rfl | rfl | rfl | rfl | rfl | rfl : m = 1 ∨ m = 2 ∨ m = 3 ∨ m = 4 ∨ m = 5 ∨ m = 6 ∨ m = 7 ∨ m = 8 ∨ m = 9 ∨ m = 10 ∨ m = 11 ∨ m = 12 := by omega
    all_goals (simp [rdim, dim, cum, ah, hl]; try omega)

/-- A date that is its own nearest one is there, and no other. -/
def wi (n a b : Int) : Int := min (max n a) b
theorem near_iff (y m d : Int) : okD y m d ↔ (wi y (-100000) 100000 = y ∧ wi m 1 12 = m ∧ wi d 1 (dim (wi y (-100000) 100000) (wi m 1 12)) = d) := by
  unfold okD wi
  constructor
  · rintro ⟨a1, a2, a3, a4, a5, a6⟩
    have e1 : min (max y (-100000)) 100000 = y := by omega
    have e2 : min (max m 1) 12 = m := by omega
    rw [e1, e2]; omega
  · rintro ⟨e1, e2, e3⟩
    rw [e1, e2] at e3
    have := dim_bd y m (by omega) (by omega)
    omega
end Go.Proofs.YtdmfgechoanmlaaGreatDoor

namespace Go.Proofs.YtdmfgechoanmlaaGreatDoor
open Go.RowKit

theorem crosses_yes (r b : Int) (w : World) (h0 : r ≠ 0) (hs : ¬ (r < 0 ↔ b < 0)) :
    Calls Tryz.prog 167 #[.int .i64 r, .int .i64 b] w fun e w' => e = .returned (.bool true) ∧ w = w' := by
  have h0' : (r != 0) = true := by simp [h0]
  by_cases h1 : r < 0
  · have h2 : ¬ b < 0 := by omega
    go_enter Tryz.func167, Tryz.ntmps167
    go_wp2
    go_ret
    exact ⟨by simp, rfl⟩
  · have h2 : b < 0 := by omega
    go_enter Tryz.func167, Tryz.ntmps167
    go_wp2
    go_ret
    exact ⟨by simp, rfl⟩

theorem crosses_no (r b : Int) (w : World) (h : r = 0 ∨ (r < 0 ↔ b < 0)) :
    Calls Tryz.prog 167 #[.int .i64 r, .int .i64 b] w fun e w' => e = .returned (.bool false) ∧ w = w' := by
  by_cases h0 : r = 0
  · subst h0
    go_enter Tryz.func167, Tryz.ntmps167
    go_wp2
    go_ret
    exact ⟨rfl, rfl⟩
  · have h0' : (r != 0) = true := by simp [h0]
    by_cases h1 : r < 0
    · have h2 : b < 0 := by omega
      go_enter Tryz.func167, Tryz.ntmps167
      go_wp2
      go_ret
      exact ⟨by simp, rfl⟩
    · have h2 : ¬ b < 0 := by omega
      go_enter Tryz.func167, Tryz.ntmps167
      go_wp2
      go_ret
      exact ⟨by simp, rfl⟩

theorem div_zero (a : Int) (w : World) :
    Calls Tryz.prog 157 #[.int .i64 a, .int .i64 0] w fun e w' => e = .returned (.tuple #[.int .i64 0, .int .i64 1]) ∧ w = w' := by
  go_enter Tryz.func157, Tryz.ntmps157
  go_wp2
  go_ret2
  exact ⟨rfl, rfl⟩

theorem div_over (w : World) :
    Calls Tryz.prog 157 #[.int .i64 (-9223372036854775808), .int .i64 (-1)] w fun e w' => e = .returned (.tuple #[.int .i64 0, .int .i64 11]) ∧ w = w' := by
  go_enter Tryz.func157, Tryz.ntmps157
  go_wp2
  go_ret2
  exact ⟨rfl, rfl⟩

theorem div_case (a b : Int) (ho : ¬ (a = -9223372036854775808 ∧ b = -1)) : ((a == -9223372036854775808) = true ∧ (b == -1) = false) ∨ (a == -9223372036854775808) = false := by
  by_cases h : a = -9223372036854775808
  · left; simp [h]; omega
  · right; simp [h]

theorem div_any (a b : Int) (w : World) (hb : b ≠ 0) (ha1 : -9223372036854775808 ≤ a) (ha2 : a ≤ 9223372036854775807) (ho : ¬ (a = -9223372036854775808 ∧ b = -1)) :
    Calls Tryz.prog 157 #[.int .i64 a, .int .i64 b] w fun e w' => e = .returned (.tuple #[.int .i64 (a.fdiv b), .int .i64 0]) ∧ w = w' := by
  have hb' : (b == 0) = false := by simp [hb]
  by_cases hc : a.tmod b ≠ 0 ∧ ¬ (a.tmod b < 0 ↔ b < 0)
  · have HE : Hid (wrap64 (wrap64 (a.tdiv b) - 1) = a.fdiv b) := by
      have h1 := tdiv_bd2 a b ha1 ha2 hb hc.1
      rw [wrap64_in (a.tdiv b) (by omega) (by omega), wrap64_in _ (by omega) (by omega)]
      exact (cross_yes a b hb hc.1 hc.2).1.symm
    have HC : Hid (a.tmod b ≠ 0 ∧ ¬ (a.tmod b < 0 ↔ b < 0)) := hc
    clear hc ha1 ha2
    rcases div_case a b ho with ⟨e1, e2⟩ | e1 <;> clear ho
    all_goals
     go_enter Tryz.func157, Tryz.ntmps157
     go_wp2_with (go_at_call 167; refine (crosses_yes _ _ _ HC.out.1 HC.out.2).mono ?_; rintro e w' ⟨rfl, rfl⟩)
     go_ret2
     refine ⟨?_, rfl⟩
     simp only [← HE.out]
     rfl
  · have HE : Hid (wrap64 (a.tdiv b) = a.fdiv b) := by
      have h1 := tdiv_bd a b ha1 ha2 hb ho
      rw [wrap64_in (a.tdiv b) (by omega) (by omega)]
      exact (cross_no a b (by omega)).1.symm
    have HC : Hid (a.tmod b = 0 ∨ (a.tmod b < 0 ↔ b < 0)) := by show _ ∨ _; omega
    clear hc ha1 ha2
    rcases div_case a b ho with ⟨e1, e2⟩ | e1 <;> clear ho
    all_goals
     go_enter Tryz.func157, Tryz.ntmps157
     go_wp2_with (go_at_call 167; refine (crosses_no _ _ _ HC.out).mono ?_; rintro e w' ⟨rfl, rfl⟩)
     go_ret2
     refine ⟨?_, rfl⟩
     simp only [← HE.out]
     rfl

theorem mod_zero (a : Int) (w : World) :
    Calls Tryz.prog 158 #[.int .i64 a, .int .i64 0] w fun e w' => e = .returned (.tuple #[.int .i64 0, .int .i64 1]) ∧ w = w' := by
  go_enter Tryz.func158, Tryz.ntmps158
  go_wp2
  go_ret2
  exact ⟨rfl, rfl⟩

theorem mod_any (a b : Int) (w : World) (hb : b ≠ 0) (hb1 : -9223372036854775808 ≤ b) (hb2 : b ≤ 9223372036854775807) :
    Calls Tryz.prog 158 #[.int .i64 a, .int .i64 b] w fun e w' => e = .returned (.tuple #[.int .i64 (a.fmod b), .int .i64 0]) ∧ w = w' := by
  have hb' : (b == 0) = false := by simp [hb]
  by_cases hc : a.tmod b ≠ 0 ∧ ¬ (a.tmod b < 0 ↔ b < 0)
  · have HE : Hid (wrap64 (a.tmod b + b) = a.fmod b) := by
      have h1 := tmod_bd a b hb1 hb2 hb
      rw [wrap64_in _ (by omega) (by omega)]
      exact (cross_yes a b hb hc.1 hc.2).2.symm
    have HC : Hid (a.tmod b ≠ 0 ∧ ¬ (a.tmod b < 0 ↔ b < 0)) := hc
    clear hc hb1 hb2
    go_enter Tryz.func158, Tryz.ntmps158
    go_wp2_with (go_at_call 167; refine (crosses_yes _ _ _ HC.out.1 HC.out.2).mono ?_; rintro e w' ⟨rfl, rfl⟩)
    all_goals
      go_ret2
      refine ⟨?_, rfl⟩
      simp only [← HE.out]
      rfl
  · have HE : Hid (a.tmod b = a.fmod b) := (cross_no a b (by omega)).2.symm
    have HC : Hid (a.tmod b = 0 ∨ (a.tmod b < 0 ↔ b < 0)) := by show _ ∨ _; omega
    clear hc hb1 hb2
    go_enter Tryz.func158, Tryz.ntmps158
    go_wp2_with (go_at_call 167; refine (crosses_no _ _ _ HC.out).mono ?_; rintro e w' ⟨rfl, rfl⟩)
    all_goals
      go_ret2
      refine ⟨?_, rfl⟩
      simp only [← HE.out]
      rfl

def divV (a b : Int) : Int := if b = 0 then 0 else if a = -9223372036854775808 ∧ b = -1 then 0 else a.fdiv b
def divE (a b : Int) : Int := if b = 0 then 1 else if a = -9223372036854775808 ∧ b = -1 then 11 else 0
def modV (a b : Int) : Int := if b = 0 then 0 else a.fmod b
def modE (b : Int) : Int := if b = 0 then 1 else 0

theorem div_all (a b : Int) (w : World) (ha1 : -9223372036854775808 ≤ a) (ha2 : a ≤ 9223372036854775807) :
    Calls Tryz.prog 157 #[.int .i64 a, .int .i64 b] w fun e w' => e = .returned (.tuple #[.int .i64 (divV a b), .int .i64 (divE a b)]) ∧ w = w' := by
  unfold divV divE
  by_cases hb : b = 0
  · subst hb; rw [if_pos rfl, if_pos rfl]; exact div_zero a w
  · rw [if_neg hb, if_neg hb]
    by_cases ho : a = -9223372036854775808 ∧ b = -1
    · rw [if_pos ho, if_pos ho]
      obtain ⟨rfl, rfl⟩ := ho
      exact div_over w
    · rw [if_neg ho, if_neg ho]
      exact div_any a b w hb ha1 ha2 ho

theorem mod_all (a b : Int) (w : World) (hb1 : -9223372036854775808 ≤ b) (hb2 : b ≤ 9223372036854775807) :
    Calls Tryz.prog 158 #[.int .i64 a, .int .i64 b] w fun e w' => e = .returned (.tuple #[.int .i64 (modV a b), .int .i64 (modE b)]) ∧ w = w' := by
  unfold modV modE
  by_cases hb : b = 0
  · subst hb; rw [if_pos rfl, if_pos rfl]; exact mod_zero a w
  · rw [if_neg hb, if_neg hb]
    exact mod_any a b w hb hb1 hb2
end Go.Proofs.YtdmfgechoanmlaaGreatDoor

namespace Go.Proofs.YtdmfgechoanmlaaGreatDoor
open Go.RowKit

/-- The table of days ahead of months reads as it is laid. -/
def AhAt (w : World) : Prop := ∀ m : Int, 1 ≤ m → m ≤ 13 → w.cell? ⟨2, m.toNat - 1, none⟩ = some (.int .i64 (ah m))

theorem ret_i {k : IntKind} {a b : Int} (h : a = b) : Ending.returned (.int k a) = .returned (.int k b) := by rw [h]

theorem tmod0 (a : Int) (n : Int) : a.tmod n = 0 ↔ a % n = 0 := by
  rw [← Int.dvd_iff_tmod_eq_zero, ← Int.dvd_iff_emod_eq_zero]

theorem leap_spelt (y : Int) : (lpB y = true) ↔ ((y.tmod 4 = 0 ∧ y.tmod 100 ≠ 0) ∨ y.tmod 400 = 0) := by
  rw [tmod0 y 4, Ne, tmod0 y 100, tmod0 y 400]
  unfold lpB lp
  split <;> simp_all

theorem leap_cases (y : Int) : (lpB y = true ∧ (y.tmod 4 == 0) = true ∧ (y.tmod 100 != 0) = true) ∨ (lpB y = true ∧ (y.tmod 4 == 0) = true ∧ (y.tmod 100 != 0) = false ∧ (y.tmod 400 == 0) = true) ∨ (lpB y = false ∧ (y.tmod 4 == 0) = true ∧ (y.tmod 100 != 0) = false ∧ (y.tmod 400 == 0) = false) ∨ (lpB y = false ∧ (y.tmod 4 == 0) = false ∧ (y.tmod 400 == 0) = false) := by
  have h := leap_spelt y
  have h4 : y.tmod 400 = 0 → y.tmod 4 = 0 := by
    rw [tmod0 y 4, tmod0 y 400]; omega
  by_cases a : y.tmod 4 = 0 <;> by_cases b : y.tmod 100 = 0 <;> by_cases c : y.tmod 400 = 0 <;> simp_all

theorem leap_any (y : Int) (w : World) :
    Calls Tryz.prog 154 #[.int .i64 y] w fun e w' => e = .returned (.bool (lpB y)) ∧ w = w' := by
  rcases leap_cases y with ⟨h, h1, h2⟩ | ⟨h, h1, h2, h3⟩ | ⟨h, h1, h2, h3⟩ | ⟨h, h1, h3⟩
  all_goals
    have H := Lib.hid h
    clear h
    go_enter Tryz.func154, Tryz.ntmps154
    go_wp2
    go_ret
    rw [H.out]
    exact ⟨rfl, rfl⟩

theorem within_any (n a b : Int) (w : World) :
    Calls Tryz.prog 164 #[.int .i64 n, .int .i64 a, .int .i64 b] w fun e w' => e = .returned (.int .i64 (min (max n a) b)) ∧ w = w' := by
  by_cases h1 : n < a
  · by_cases h2 : b < a
    all_goals
      go_enter Tryz.func164, Tryz.ntmps164
      go_wp2
      go_ret
      exact ⟨ret_i (by omega), rfl⟩
  · by_cases h2 : b < n
    all_goals
      go_enter Tryz.func164, Tryz.ntmps164
      go_wp2
      go_ret
      exact ⟨ret_i (by omega), rfl⟩

theorem ahead_any (y m : Int) (w : World) (ht : AhAt w) (h1 : 1 ≤ m) (h2 : m ≤ 13) :
    Calls Tryz.prog 135 #[.int .i64 y, .int .i64 m] w fun e w' => e = .returned (.int .i64 (cum y m)) ∧ w = w' := by
  have hc := ht m h1 h2
  have hb := ah_bd m
  have HC : Hid (cum y m = ah m + if 2 < m then lp y else 0) := rfl
  clear ht
  by_cases hm : 2 < m
  · cases hl : lpB y
    · have hl0 := Lib.hid (lpB_no hl)
      go_enter Tryz.func135, Tryz.ntmps135
      go_wp2_with (go_at_call 154; refine (leap_any _ _).mono ?_; rintro e w' ⟨rfl, rfl⟩)
      go_ret
      rw [HC.out, if_pos hm, hl0.out, Int.add_zero]
      exact ⟨rfl, rfl⟩
    · have hl0 := Lib.hid (lpB_yes hl)
      go_enter Tryz.func135, Tryz.ntmps135
      go_wp2_with (go_at_call 154; refine (leap_any _ _).mono ?_; rintro e w' ⟨rfl, rfl⟩)
      go_ret
      rw [HC.out, if_pos hm, hl0.out]
      exact ⟨rfl, rfl⟩
  · go_enter Tryz.func135, Tryz.ntmps135
    go_wp2_with (go_at_call 154; refine (leap_any _ _).mono ?_; rintro e w' ⟨rfl, rfl⟩)
    go_ret
    rw [HC.out, if_neg (by omega), Int.add_zero]
    exact ⟨rfl, rfl⟩

theorem long_any (y m : Int) (w : World) (ht : AhAt w) (h1 : 1 ≤ m) (h2 : m ≤ 12) :
    Calls Tryz.prog 132 #[.int .i64 y, .int .i64 m] w fun e w' => e = .returned (.int .i64 (dim y m)) ∧ w = w' := by
  have c1 := cum_bd y m
  have c2 := cum_bd y (m + 1)
  go_enter Tryz.func132, Tryz.ntmps132
  go_wp2_with (go_at_call 135; refine (ahead_any _ _ _ ht (by omega) (by omega)).mono ?_; rintro e w' ⟨rfl, rfl⟩)
  go_ret
  exact ⟨rfl, rfl⟩

theorem split_any (n d : Int) (w : World) (h1 : -9223372036854775808 ≤ n) (h2 : n ≤ 9223372036854775807) (h3 : 0 < d) (h4 : d ≤ 1000000) :
    Calls Tryz.prog 153 #[.int .i64 n, .int .i64 d] w fun e w' => e = .returned (.tuple #[.int .i64 (n / d), .int .i64 (n % d)]) ∧ w = w' := by
  have e1 : n.fdiv d = n / d := Int.fdiv_eq_ediv_of_nonneg n (by omega)
  have e2 : n.fmod d = n % d := Int.fmod_eq_emod_of_nonneg n (by omega)
  rw [← e1, ← e2]
  clear e1 e2
  go_enter Tryz.func153, Tryz.ntmps153
  go_wp2_with (first
    | (go_at_call 157; refine (div_any _ _ _ (by omega) (by omega) (by omega) (by omega)).mono ?_; rintro e w1 ⟨rfl, rfl⟩)
    | (go_at_call 158; refine (mod_any _ _ _ (by omega) (by omega) (by omega)).mono ?_; rintro e w1 ⟨rfl, rfl⟩))
  go_ret2
  exact ⟨rfl, rfl⟩

theorem newYear_any (y : Int) (w : World) (h1 : -200000 ≤ y) (h2 : y ≤ 200000) :
    Calls Tryz.prog 134 #[.int .i64 y] w fun e w' => e = .returned (.int .i64 (ny y)) ∧ w = w' := by
  go_enter Tryz.func134, Tryz.ntmps134
  go_wp2_with (go_at_call 153; refine (split_any _ _ _ (by omega) (by omega) (by omega) (by omega)).mono ?_; rintro e w1 ⟨rfl, rfl⟩)
  go_ret
  exact ⟨rfl, rfl⟩

theorem weekday_any (n : Int) (w : World) (h1 : -9223372036854775808 ≤ n) (h2 : n ≤ 9223372036854775807) :
    Calls Tryz.prog 151 #[.int .i64 n] w fun e w' => e = .returned (.int .i64 ((n % 7 + 4) % 7)) ∧ w = w' := by
  go_enter Tryz.func151, Tryz.ntmps151
  go_wp2_with (go_at_call 153; refine (split_any _ _ _ (by omega) (by omega) (by omega) (by omega)).mono ?_; rintro e w1 ⟨rfl, rfl⟩)
  go_ret
  exact ⟨rfl, rfl⟩
end Go.Proofs.YtdmfgechoanmlaaGreatDoor

namespace Go.Proofs.YtdmfgechoanmlaaGreatDoor
open Go.RowKit

theorem yearOf_any (n : Int) (w : World) (h1 : -37243778 ≤ n) (h2 : n ≤ 35805087) :
    Calls Tryz.prog 165 #[.int .i64 n] w fun e w' => e = .returned (.int .i64 (yo n)) ∧ w = w' := by
  have hb := yg_bd n h1 h2
  have HO : Hid (yo n = if ny (yg n + 1) ≤ n then yg n + 1 else yg n) := rfl
  have HG : Hid (yg n = (n + 719528) / 146097 * 400 + (n + 719528) % 146097 / 366) := rfl
  unfold yg at hb
  by_cases hc : ny ((n + 719528) / 146097 * 400 + (n + 719528) % 146097 / 366 + 1) ≤ n
  · go_enter Tryz.func165, Tryz.ntmps165
    go_wp2_with (first
      | (go_at_call 153; refine (split_any _ _ _ (by omega) (by omega) (by omega) (by omega)).mono ?_; rintro e w1 ⟨rfl, rfl⟩)
      | (go_at_call 134; refine (newYear_any _ _ (by omega) (by omega)).mono ?_; rintro e w1 ⟨rfl, rfl⟩))
    go_ret
    rw [HO.out, HG.out, if_pos hc]
    exact ⟨rfl, rfl⟩
  · go_enter Tryz.func165, Tryz.ntmps165
    go_wp2_with (first
      | (go_at_call 153; refine (split_any _ _ _ (by omega) (by omega) (by omega) (by omega)).mono ?_; rintro e w1 ⟨rfl, rfl⟩)
      | (go_at_call 134; refine (newYear_any _ _ (by omega) (by omega)).mono ?_; rintro e w1 ⟨rfl, rfl⟩))
    go_ret
    rw [HO.out, HG.out, if_neg (by omega)]
    exact ⟨rfl, rfl⟩

def SomeMonth (y k : Int) (w : World) (e : Ending) (w' : World) : Prop := ∃ m : Int, 1 ≤ m ∧ m ≤ 12 ∧ cum y m ≤ k ∧ k < cum y (m + 1) ∧ e = .returned (.int .i64 m) ∧ w = w'

theorem monthOf_any (y k : Int) (w : World) (ht : AhAt w) (h1 : 0 ≤ k) (h2 : k < 365 + lp y) (h3 : k ≤ 400) :
    Calls Tryz.prog 166 #[.int .i64 y, .int .i64 k] w (SomeMonth y k w) := by
  have h13 : k < cum y (12 + 1) := by have := cum_13 y; show k < cum y 13; omega
  have c1 : cum y 1 ≤ k := by have := cum_1 y; omega
  clear h2
  go_enter Tryz.func166, Tryz.ntmps166
  go_wp2
  go_loop [5] (fun t => ∃ m : Int, 1 ≤ m ∧ m ≤ 12 ∧ t = .int .i64 m ∧ k < cum y (m + 1)) (fun t => (intOf t).toNat)
  case atStart => exact ⟨12, by omega, by omega, rfl, h13⟩
  case round =>
    obtain ⟨m, hm1, hm2, rfl, hm3⟩ := hrel
    have hcb := cum_bd y m
    by_cases hc : cum y m ≤ k
    · go_wp2_with (go_at_call 135; refine (ahead_any _ _ _ ht (by omega) (by omega)).mono ?_; rintro e w' ⟨rfl, rfl⟩)
      go_ret
      exact ⟨m, hm1, hm2, hc, hm3, rfl, rfl⟩
    · have hne : m ≠ 1 := by rintro rfl; omega
      have hlt : k < cum y (m - 1 + 1) := by have e : m - 1 + 1 = m := by omega
                                             rw [e]; omega
      go_wp2_with (go_at_call 135; refine (ahead_any _ _ _ ht (by omega) (by omega)).mono ?_; rintro e w' ⟨rfl, rfl⟩)
      go_round
      case rel => exact ⟨m - 1, by omega, by omega, rfl, hlt⟩
      case measure => simp [intOf]; omega

end Go.Proofs.YtdmfgechoanmlaaGreatDoor

namespace Go.Proofs.YtdmfgechoanmlaaGreatDoor
open Go.RowKit

theorem cell_lt {w : World} {b o : Nat} {v : Value} (h : w.cell? ⟨b, o, none⟩ = some v) : b < w.heap.size := by
  rcases Nat.lt_or_ge b w.heap.size with h1 | h1
  · exact h1
  · have e : w.heap[b]? = none := by simp [h1]
    simp [World.cell?, e] at h

theorem AhAt.lt {w : World} (h : AhAt w) : 2 < w.heap.size := cell_lt (h 1 (by omega) (by omega))
theorem AhAt.below {w w' : World} {B : Nat} (h : AhAt w) (k : Below B w w') (hB : 2 < B) : AhAt w' := fun m h1 h2 => by
  rw [k.cell (p := ⟨_, _, none⟩) hB]; exact h m h1 h2
theorem AhAt.next {w w' : World} (h : AhAt w) (k : Below w.heap.size w w') : AhAt w' := h.below k h.lt


set_option maxHeartbeats 400000 in
theorem nearest_any (y m d : Int) (w : World) (ht : AhAt w) :
    Calls Tryz.prog 149 #[.agg #[.int .i64 y, .int .i64 m, .int .i64 d]] w fun e w' => e = .returned (.agg #[.int .i64 (wi y (-100000) 100000), .int .i64 (wi m 1 12), .int .i64 (wi d 1 (dim (wi y (-100000) 100000) (wi m 1 12)))]) ∧ Below w.heap.size w w' := by
  have hy : min (max y (-100000)) 100000 = wi y (-100000) 100000 := rfl
  have hm : min (max m 1) 12 = wi m 1 12 := rfl
  have hmb : 1 ≤ wi m 1 12 ∧ wi m 1 12 ≤ 12 := by unfold wi; omega
  have HT := Lib.hid ht
  clear ht
  go_enter Tryz.func149, Tryz.ntmps149
  go_wp2_with (go_at_call 164; refine (within_any _ _ _ _).mono ?_; rintro e w1 ⟨rfl, rfl⟩)
  go_region_held3 (fun w' => w'.cell? ⟨w.heap.size, 2, none⟩ = some (.int .i64 d)) (go_keep)
    (first
      | (go_at_call 132; refine (long_any _ _ _ (HT.out.below (B := w.heap.size) (by first | exact ((Below.refl _ _).alloc (Nat.le_refl _) _).alloc (by simp) _ | exact (((Below.refl _ _).alloc (Nat.le_refl _) _).alloc (by simp) _).drew) HT.out.lt) hmb.1 hmb.2).mono ?_; rintro e w1 ⟨rfl, rfl⟩)
      | (go_at_call 164; refine (within_any _ _ _ _).mono ?_; rintro e w1 ⟨rfl, rfl⟩))
  go_wp2
  exact bodyPost_ret (v := .agg #[.int .i64 (wi y (-100000) 100000), .int .i64 (wi m 1 12), .int .i64 (wi d 1 (dim (wi y (-100000) 100000) (wi m 1 12)))]) (by simp [results, Tryz.results149, go_sem, wi]) rfl ⟨rfl, (((Below.refl _ _).alloc (Nat.le_refl _) _).alloc (by simp) _).drew⟩

theorem nearest_is (y m d y' m' d' : Int) (w : World) (ht : AhAt w) (h : Hid (wi y (-100000) 100000 = y' ∧ wi m 1 12 = m' ∧ wi d 1 (dim (wi y (-100000) 100000) (wi m 1 12)) = d')) :
    Calls Tryz.prog 149 #[.agg #[.int .i64 y, .int .i64 m, .int .i64 d]] w fun e w' => e = .returned (.agg #[.int .i64 y', .int .i64 m', .int .i64 d']) ∧ Below w.heap.size w w' := by
  have := nearest_any y m d w ht
  rw [h.out.1, h.out.2.1] at this
  have e := h.out.2.2
  rw [h.out.1, h.out.2.1] at e
  rw [e] at this
  exact this

theorem AhAt.drew {w : World} (h : AhAt w) : AhAt w.drew := h.below (B := w.heap.size) (Below.refl _ _).drew h.lt

def ckE (y m d : Int) : Int := if okB y m d then 0 else 10

set_option maxHeartbeats 400000 in
theorem check_yes (y m d : Int) (w : World) (ht : AhAt w) (HN : Hid (wi y (-100000) 100000 = y ∧ wi m 1 12 = m ∧ wi d 1 (dim (wi y (-100000) 100000) (wi m 1 12)) = d)) :
    Calls Tryz.prog 131 #[.agg #[.int .i64 y, .int .i64 m, .int .i64 d]] w fun e w' => e = .returned (.int .i64 0) ∧ Below w.heap.size w w' := by
  have HT := Lib.hid ht
  clear ht
  go_enter Tryz.func131, Tryz.ntmps131
  go_wp2
  have T : Hid (Below w.heap.size w (w.alloc (.cells #[.int .i64 y, .int .i64 m, .int .i64 d] 167))) := (Below.refl _ _).alloc (Nat.le_refl _) _
  go_region_held3 (fun w' => w'.cell? ⟨w.heap.size, 0, none⟩ = some (.int .i64 y) ∧ w'.cell? ⟨w.heap.size, 1, none⟩ = some (.int .i64 m) ∧ w'.cell? ⟨w.heap.size, 2, none⟩ = some (.int .i64 d)) (first | go_keep | (rw [hq.cell, hq.cell, hq.cell] <;> simp))
    (first
      | (go_at_call 149; refine (nearest_is y m d y m d _ (HT.out.below (B := w.heap.size) (by first | exact T.out | exact T.out.drew) HT.out.lt) HN).mono ?_; rintro e w1 ⟨rfl, hq⟩))
  go_wp2
  go_ret
  exact ⟨rfl, T.out.drew.trans (hq.mono (by simp))⟩

set_option maxHeartbeats 400000 in
theorem check_no1 (y m d y' m' d' : Int) (w : World) (ht : AhAt w) (HN : Hid (wi y (-100000) 100000 = y' ∧ wi m 1 12 = m' ∧ wi d 1 (dim (wi y (-100000) 100000) (wi m 1 12)) = d')) (h : (y' == y) = false) :
    Calls Tryz.prog 131 #[.agg #[.int .i64 y, .int .i64 m, .int .i64 d]] w fun e w' => e = .returned (.int .i64 10) ∧ Below w.heap.size w w' := by
  have HT := Lib.hid ht
  clear ht
  go_enter Tryz.func131, Tryz.ntmps131
  go_wp2
  have T : Hid (Below w.heap.size w (w.alloc (.cells #[.int .i64 y, .int .i64 m, .int .i64 d] 167))) := (Below.refl _ _).alloc (Nat.le_refl _) _
  go_region_held3 (fun w' => w'.cell? ⟨w.heap.size, 0, none⟩ = some (.int .i64 y) ∧ w'.cell? ⟨w.heap.size, 1, none⟩ = some (.int .i64 m) ∧ w'.cell? ⟨w.heap.size, 2, none⟩ = some (.int .i64 d)) (first | go_keep | (rw [hq.cell, hq.cell, hq.cell] <;> simp))
    (first
      | (go_at_call 149; refine (nearest_is y m d y' m' d' _ (HT.out.below (B := w.heap.size) (by first | exact T.out | exact T.out.drew) HT.out.lt) HN).mono ?_; rintro e w1 ⟨rfl, hq⟩))
  go_wp2
  go_ret
  exact ⟨rfl, T.out.drew.trans (hq.mono (by simp))⟩

set_option maxHeartbeats 400000 in
theorem check_no2 (y m d m' d' : Int) (w : World) (ht : AhAt w) (HN : Hid (wi y (-100000) 100000 = y ∧ wi m 1 12 = m' ∧ wi d 1 (dim (wi y (-100000) 100000) (wi m 1 12)) = d')) (h : (m' == m) = false) :
    Calls Tryz.prog 131 #[.agg #[.int .i64 y, .int .i64 m, .int .i64 d]] w fun e w' => e = .returned (.int .i64 10) ∧ Below w.heap.size w w' := by
  have HT := Lib.hid ht
  clear ht
  go_enter Tryz.func131, Tryz.ntmps131
  go_wp2
  have T : Hid (Below w.heap.size w (w.alloc (.cells #[.int .i64 y, .int .i64 m, .int .i64 d] 167))) := (Below.refl _ _).alloc (Nat.le_refl _) _
  go_region_held3 (fun w' => w'.cell? ⟨w.heap.size, 0, none⟩ = some (.int .i64 y) ∧ w'.cell? ⟨w.heap.size, 1, none⟩ = some (.int .i64 m) ∧ w'.cell? ⟨w.heap.size, 2, none⟩ = some (.int .i64 d)) (first | go_keep | (rw [hq.cell, hq.cell, hq.cell] <;> simp))
    (first
      | (go_at_call 149; refine (nearest_is y m d y m' d' _ (HT.out.below (B := w.heap.size) (by first | exact T.out | exact T.out.drew) HT.out.lt) HN).mono ?_; rintro e w1 ⟨rfl, hq⟩))
  go_wp2
  go_ret
  exact ⟨rfl, T.out.drew.trans (hq.mono (by simp))⟩

set_option maxHeartbeats 400000 in
theorem check_no3 (y m d d' : Int) (w : World) (ht : AhAt w) (HN : Hid (wi y (-100000) 100000 = y ∧ wi m 1 12 = m ∧ wi d 1 (dim (wi y (-100000) 100000) (wi m 1 12)) = d')) (h : (d' == d) = false) :
    Calls Tryz.prog 131 #[.agg #[.int .i64 y, .int .i64 m, .int .i64 d]] w fun e w' => e = .returned (.int .i64 10) ∧ Below w.heap.size w w' := by
  have HT := Lib.hid ht
  clear ht
  go_enter Tryz.func131, Tryz.ntmps131
  go_wp2
  have T : Hid (Below w.heap.size w (w.alloc (.cells #[.int .i64 y, .int .i64 m, .int .i64 d] 167))) := (Below.refl _ _).alloc (Nat.le_refl _) _
  go_region_held3 (fun w' => w'.cell? ⟨w.heap.size, 0, none⟩ = some (.int .i64 y) ∧ w'.cell? ⟨w.heap.size, 1, none⟩ = some (.int .i64 m) ∧ w'.cell? ⟨w.heap.size, 2, none⟩ = some (.int .i64 d)) (first | go_keep | (rw [hq.cell, hq.cell, hq.cell] <;> simp))
    (first
      | (go_at_call 149; refine (nearest_is y m d y m d' _ (HT.out.below (B := w.heap.size) (by first | exact T.out | exact T.out.drew) HT.out.lt) HN).mono ?_; rintro e w1 ⟨rfl, hq⟩))
  go_wp2
  go_ret
  exact ⟨rfl, T.out.drew.trans (hq.mono (by simp))⟩

theorem ckE_yes {y m d : Int} (h : okD y m d) : ckE y m d = 0 := by unfold ckE; rw [if_pos ((okB_iff y m d).2 h)]
theorem ckE_no {y m d : Int} (h : ¬ okD y m d) : ckE y m d = 10 := by unfold ckE; rw [if_neg (fun c => h ((okB_iff y m d).1 c))]

theorem check_any (y m d : Int) (w : World) (ht : AhAt w) :
    Calls Tryz.prog 131 #[.agg #[.int .i64 y, .int .i64 m, .int .i64 d]] w fun e w' => e = .returned (.int .i64 (ckE y m d)) ∧ Below w.heap.size w w' := by
  by_cases h : okD y m d
  · rw [ckE_yes h]
    exact check_yes y m d w ht ((near_iff y m d).1 h)
  · rw [ckE_no h]
    have hn : ¬ _ := fun c => h ((near_iff y m d).2 c)
    by_cases h1 : wi y (-100000) 100000 = y
    · by_cases h2 : wi m 1 12 = m
      · exact check_no3 y m d _ w ht ⟨h1, h2, rfl⟩ (by simp only [beq_eq_false_iff_ne]; exact fun c => hn ⟨h1, h2, c⟩)
      · exact check_no2 y m d _ _ w ht ⟨h1, rfl, rfl⟩ (by simpa using h2)
    · exact check_no1 y m d _ _ _ w ht ⟨rfl, rfl, rfl⟩ (by simpa using h1)

def lgOk (y m : Int) : Prop := -100000 ≤ y ∧ y ≤ 100000 ∧ 1 ≤ m ∧ m ≤ 12
theorem lgOk_iff (y m : Int) : okD y m 1 ↔ lgOk y m := by
  unfold okD lgOk
  constructor
  · rintro ⟨a, b, c, d, _⟩; exact ⟨a, b, c, d⟩
  · rintro ⟨a, b, c, d⟩; have := dim_bd y m c d; omega

theorem Long_yes (y m : Int) (w : World) (ht : AhAt w) (h : lgOk y m) :
    Calls Tryz.prog 113 #[.int .i64 y, .int .i64 m] w fun e w' => e = .returned (.tuple #[.int .i64 (dim y m), .int .i64 0]) ∧ Below w.heap.size w w' := by
  have HT := Lib.hid ht
  have hk : ckE y m 1 = 0 := ckE_yes ((lgOk_iff y m).2 h)
  obtain ⟨_, _, h3, h4⟩ := h
  clear ht
  go_enter Tryz.func113, Tryz.ntmps113
  go_wp2_with (first
    | (go_at_call 131; refine (check_any _ _ _ _ HT.out).mono ?_; rintro e w1 ⟨rfl, k1⟩)
    | (go_at_call 132; refine (long_any _ _ _ (HT.out.next k1) h3 h4).mono ?_; rintro e w1 ⟨rfl, rfl⟩))
  go_ret2
  exact ⟨rfl, k1⟩

theorem Long_no (y m : Int) (w : World) (ht : AhAt w) (h : ¬ lgOk y m) :
    Calls Tryz.prog 113 #[.int .i64 y, .int .i64 m] w fun e w' => e = .returned (.tuple #[.int .i64 0, .int .i64 10]) ∧ Below w.heap.size w w' := by
  have HT := Lib.hid ht
  have hk : ckE y m 1 = 10 := ckE_no (fun c => h ((lgOk_iff y m).1 c))
  clear ht h
  go_enter Tryz.func113, Tryz.ntmps113
  go_wp2_with (first
    | (go_at_call 131; refine (check_any _ _ _ _ HT.out).mono ?_; rintro e w1 ⟨rfl, k1⟩))
  go_ret2
  exact ⟨rfl, k1⟩
end Go.Proofs.YtdmfgechoanmlaaGreatDoor

namespace Go.Proofs.YtdmfgechoanmlaaGreatDoor
open Go.RowKit

theorem Days_no (y m d : Int) (w : World) (ht : AhAt w) (h : ¬ okD y m d) :
    Calls Tryz.prog 116 #[.agg #[.int .i64 y, .int .i64 m, .int .i64 d]] w fun e w' => e = .returned (.tuple #[.int .i64 0, .int .i64 10]) ∧ Below w.heap.size w w' := by
  have HT := Lib.hid ht
  have hk : ckE y m d = 10 := ckE_no h
  clear ht h
  go_enter Tryz.func116, Tryz.ntmps116
  have T : Hid (Below w.heap.size w (w.alloc (.cells #[.int .i64 y, .int .i64 m, .int .i64 d] 167))) := (Below.refl _ _).alloc (Nat.le_refl _) _
  go_wp2_with (first
    | (go_at_call 131; refine (check_any _ _ _ _ (HT.out.next T.out)).mono ?_; rintro e w1 ⟨rfl, k1⟩))
  go_ret2
  exact ⟨rfl, T.out.trans (k1.mono (by simp))⟩

theorem w64 {n : Int} (h1 : -9223372036854775808 ≤ n) (h2 : n ≤ 9223372036854775807) : IntKind.i64.wrap n = n := IntWalk.i64_in n (by omega)

set_option maxHeartbeats 400000 in
theorem Days_yes (y m d : Int) (w : World) (ht : AhAt w) (h : okD y m d) :
    Calls Tryz.prog 116 #[.agg #[.int .i64 y, .int .i64 m, .int .i64 d]] w fun e w' => e = .returned (.tuple #[.int .i64 (dayN y m d), .int .i64 0]) ∧ Below w.heap.size w w' := by
  have HT := Lib.hid ht
  have hk : ckE y m d = 0 := ckE_yes h
  obtain ⟨h1, h2, h3, h4, h5, h6⟩ := h
  have nb := ny_bd y (by omega) (by omega)
  have cb := cum_bd y m
  have db := dim_bd y m h3 h4
  have HD : Hid (dayN y m d = ny y + cum y m + d - 1) := rfl
  clear ht
  go_enter Tryz.func116, Tryz.ntmps116
  have T : Hid (Below w.heap.size w (w.alloc (.cells #[.int .i64 y, .int .i64 m, .int .i64 d] 167))) := (Below.refl _ _).alloc (Nat.le_refl _) _
  go_wp2_with (first
    | (go_at_call 131; refine (check_any _ _ _ _ (HT.out.next T.out)).mono ?_; rintro e w1 ⟨rfl, k1⟩))
  have HT1 := Lib.hid ((HT.out.next T.out).next k1)
  have B1 := Lib.hid (T.out.trans (k1.mono (by simp)))
  have g0 : w1.cell? ⟨w.heap.size, 0, none⟩ = some (.int .i64 y) := by rw [k1.cell (by simp)]; simp
  have g1 : w1.cell? ⟨w.heap.size, 1, none⟩ = some (.int .i64 m) := by rw [k1.cell (by simp)]; simp
  have g2 : w1.cell? ⟨w.heap.size, 2, none⟩ = some (.int .i64 d) := by rw [k1.cell (by simp)]; simp
  have e1 : IntKind.i64.wrap (ny y + cum y m) = ny y + cum y m := w64 (by omega) (by omega)
  have e2 : IntKind.i64.wrap (ny y + cum y m + d) = ny y + cum y m + d := w64 (by omega) (by omega)
  have e3 : IntKind.i64.wrap (ny y + cum y m + d - 1) = ny y + cum y m + d - 1 := w64 (by omega) (by omega)
  clear k1 T HT nb cb db
  go_region_held3 (fun w' => w'.cell? ⟨w.heap.size, 0, none⟩ = some (.int .i64 y) ∧ w'.cell? ⟨w.heap.size, 1, none⟩ = some (.int .i64 m) ∧ w'.cell? ⟨w.heap.size, 2, none⟩ = some (.int .i64 d)) (first | exact ⟨g0, g1, g2⟩ | go_keep)
    (first
      | (go_at_call 134; refine (newYear_any _ _ (by omega) (by omega)).mono ?_; rintro e w2 ⟨rfl, rfl⟩)
      | (go_at_call 135; refine (ahead_any _ _ _ (by first | exact HT1.out | exact HT1.out.drew) (by omega) (by omega)).mono ?_; rintro e w2 ⟨rfl, rfl⟩))
  go_wp2
  go_ret2
  rw [HD.out]
  exact ⟨rfl, B1.out.drew⟩

theorem Of_no (n : Int) (w : World) (h : n < -37243778 ∨ 35805087 < n) :
    Calls Tryz.prog 152 #[.int .i64 n] w fun e w' => e = .returned (.tuple #[.agg #[.int .i64 0, .int .i64 0, .int .i64 0], .int .i64 10]) ∧ Below w.heap.size w w' := by
  have e1 : ny (-100000) = -37243778 := by decide
  have e2 : ny 100001 = 35805088 := by decide
  rcases h with h | h
  · go_enter Tryz.func152, Tryz.ntmps152
    go_wp2_with (go_at_call 134; refine (newYear_any _ _ (by omega) (by omega)).mono ?_; rintro e w1 ⟨rfl, rfl⟩)
    exact bodyPost_ret (v := .tuple #[.agg #[.int .i64 0, .int .i64 0, .int .i64 0], .int .i64 10]) (by simp [results, Tryz.results152, go_sem]) rfl ⟨rfl, (Below.refl _ _).alloc (Nat.le_refl _) _⟩
  · have h' : -37243778 ≤ n := by omega
    go_enter Tryz.func152, Tryz.ntmps152
    go_wp2_with (go_at_call 134; refine (newYear_any _ _ (by omega) (by omega)).mono ?_; rintro e w1 ⟨rfl, rfl⟩)
    exact bodyPost_ret (v := .tuple #[.agg #[.int .i64 0, .int .i64 0, .int .i64 0], .int .i64 10]) (by simp [results, Tryz.results152, go_sem]) rfl ⟨rfl, (Below.refl _ _).alloc (Nat.le_refl _) _⟩

def SomeDate (n : Int) (w : World) (e : Ending) (w' : World) : Prop := ∃ y m d : Int, okD y m d ∧ dayN y m d = n ∧ e = .returned (.tuple #[.agg #[.int .i64 y, .int .i64 m, .int .i64 d], .int .i64 0]) ∧ Below w.heap.size w w'
def SomeYear (n : Int) (w : World) (e : Ending) (w' : World) : Prop := ∃ y : Int, -100000 ≤ y ∧ y ≤ 100000 ∧ ny y ≤ n ∧ n < ny y + 365 + lp y ∧ e = .returned (.int .i64 y) ∧ w = w'

theorem yearOf_some (n : Int) (w : World) (h1 : -37243778 ≤ n) (h2 : n ≤ 35805087) : Calls Tryz.prog 165 #[.int .i64 n] w (SomeYear n w) :=
  (yearOf_any n w h1 h2).mono fun _ _ ⟨he, hw⟩ => ⟨yo n, (yo_bd n h1 h2).1, (yo_bd n h1 h2).2, (yo_spec n).1, by rw [← ny_succ]; exact (yo_spec n).2, he, hw⟩

theorem date_of {n y m : Int} (a : -100000 ≤ y) (b : y ≤ 100000) (c : 1 ≤ m) (d : m ≤ 12) (e : cum y m ≤ n - ny y) (f : n - ny y < cum y (m + 1)) : okD y m (n - ny y - cum y m + 1) ∧ dayN y m (n - ny y - cum y m + 1) = n := by
  have := cum_succ y m
  unfold okD dayN
  omega

set_option maxHeartbeats 400000 in
theorem Of_yes (n : Int) (w : World) (ht : AhAt w) (h1 : -37243778 ≤ n) (h2 : n ≤ 35805087) :
    Calls Tryz.prog 152 #[.int .i64 n] w (SomeDate n w) := by
  have e1 : ny (-100000) = -37243778 := by decide
  have e2 : ny 100001 = 35805088 := by decide
  have HT := Lib.hid (ht.next ((Below.refl _ _).alloc (Nat.le_refl _) (.cells #[.int .i64 0, .int .i64 0, .int .i64 0] 167)))
  clear ht
  go_enter Tryz.func152, Tryz.ntmps152
  go_wp2_with (go_at_call 134; refine (newYear_any _ _ (by omega) (by omega)).mono ?_; rintro e w1 ⟨rfl, rfl⟩)
  clear e1 e2
  refine (yearOf_some n _ h1 h2).mono ?_
  rintro e w1 ⟨y, y1, y2, y3, y4, rfl, rfl⟩
  have nb := ny_bd y (by omega) (by omega)
  have lb := lp_01 y
  go_wp2_with (go_at_call 134; refine (newYear_any _ _ (by omega) (by omega)).mono ?_; rintro e w1 ⟨rfl, rfl⟩)
  refine (monthOf_any y (n - ny y) _ HT.out (by omega) (by omega) (by omega)).mono ?_
  rintro e w1 ⟨m, m1, m2, m3, m4, rfl, rfl⟩
  have cb := cum_bd y m
  go_wp2_with (go_at_call 135; refine (ahead_any _ _ _ HT.out (by omega) (by omega)).mono ?_; rintro e w1 ⟨rfl, rfl⟩)
  have D := date_of y1 y2 m1 m2 m3 m4
  exact bodyPost_ret (v := .tuple #[.agg #[.int .i64 y, .int .i64 m, .int .i64 (n - ny y - cum y m + 1)], .int .i64 0]) (by simp [results, Tryz.results152, go_sem]) rfl ⟨y, m, _, D.1, D.2, rfl, (Below.refl _ _).alloc (Nat.le_refl _) _⟩
end Go.Proofs.YtdmfgechoanmlaaGreatDoor
