/- Plain facts on the calendar that the contracts of package civil lean on: leap years, days ahead of months and of years, and that of two dates the later one is the later day; no program is named. -/
import Derived.Test.YtjpppffgebecdaaGreatDoorPlain
namespace Go.Proofs.YtjpppffgebecdaaGreatDoor
open Go.RowKit

def lp (y : Int) : Int := if (y % 4 = 0 ∧ y % 100 ≠ 0) ∨ y % 400 = 0 then 1 else 0
def lpB (y : Int) : Bool := decide (lp y = 1)
def ah (m : Int) : Int := if m ≤ 1 then 0 else if m = 2 then 31 else if m = 3 then 59 else if m = 4 then 90 else if m = 5 then 120 else if m = 6 then 151 else if m = 7 then 181 else if m = 8 then 212 else if m = 9 then 243 else if m = 10 then 273 else if m = 11 then 304 else if m = 12 then 334 else 365
def cum (y m : Int) : Int := ah m + if 2 < m then lp y else 0
def dim (y m : Int) : Int := cum y (m + 1) - cum y m
def ny (y : Int) : Int := y / 400 * 146097 + y % 400 * 365 + ((y % 400 + 3) / 4 - (y % 400 + 99) / 100 + (y % 400 + 399) / 400) - 719528
def dayN (y m d : Int) : Int := ny y + cum y m + d - 1
def okD (y m d : Int) : Prop := -100000 ≤ y ∧ y ≤ 100000 ∧ 1 ≤ m ∧ m ≤ 12 ∧ 1 ≤ d ∧ d ≤ dim y m
def okB (y m d : Int) : Bool := decide (-100000 ≤ y ∧ y ≤ 100000 ∧ 1 ≤ m ∧ m ≤ 12 ∧ 1 ≤ d ∧ d ≤ dim y m)

theorem okB_iff (y m d : Int) : okB y m d = true ↔ okD y m d := by unfold okB okD; simp
theorem lp_01 (y : Int) : lp y = 0 ∨ lp y = 1 := by unfold lp; split <;> simp
theorem lpB_yes {y : Int} (h : lpB y = true) : lp y = 1 := by simpa [lpB] using h
theorem lpB_no {y : Int} (h : lpB y = false) : lp y = 0 := by
  rcases lp_01 y with h1 | h1
  · exact h1
  · simp [lpB, h1] at h
theorem lpB_if (y : Int) : (if lpB y = true then (1 : Int) else 0) = lp y := by
  rcases lp_01 y with h | h <;> simp [lpB, h]

theorem ny_succ (y : Int) : ny (y + 1) = ny y + 365 + lp y := by
  unfold ny lp; split <;> omega

theorem ny_400 (y : Int) : ny (y + 400) = ny y + 146097 := by
  unfold ny; omega

theorem lp_400 (y : Int) : lp (y + 400) = lp y := by
  unfold lp; congr 1; apply propext; omega

theorem cum_400 (y m : Int) : cum (y + 400) m = cum y m := by unfold cum; rw [lp_400]

theorem ny_le (a : Int) (n : Nat) : ny a + 365 * n ≤ ny (a + n) := by
  induction n with
  | zero => simp
  | succ n ih =>
    have h := ny_succ (a + n)
    have := lp_01 (a + n)
    have e : a + ((n + 1 : Nat) : Int) = a + n + 1 := by omega
    rw [e]; omega

theorem ny_mono (a b : Int) (h : a ≤ b) : ny a + 365 * (b - a) ≤ ny b := by
  have := ny_le a (b - a).toNat
  have e : a + ((b - a).toNat : Int) = b := by omega
  rw [e] at this; omega

theorem ny_bd (y : Int) (h0 : -100001 ≤ y) (h1 : y ≤ 100002) : -40000000 ≤ ny y ∧ ny y ≤ 40000000 := by
  unfold ny; omega

theorem ah_mono (m : Int) (h1 : 1 ≤ m) (h2 : m ≤ 12) : ah m + 28 ≤ ah (m + 1) ∧ ah (m + 1) ≤ ah m + 31 := by
  obtain rfl | rfl | rfl | rfl | rfl | rfl | rfl | rfl | rfl | rfl | rfl | rfl : m = 1 ∨ m = 2 ∨ m = 3 ∨ m = 4 ∨ m = 5 ∨ m = 6 ∨ m = 7 ∨ m = 8 ∨ m = 9 ∨ m = 10 ∨ m = 11 ∨ m = 12 := by omega
  all_goals decide

theorem ah_bd (m : Int) : 0 ≤ ah m ∧ ah m ≤ 365 := by unfold ah; omega
theorem cum_bd (y m : Int) : 0 ≤ cum y m ∧ cum y m ≤ 366 := by
  have := ah_bd m; have := lp_01 y; unfold cum; split <;> omega
theorem cum_13 (y : Int) : cum y 13 = 365 + lp y := by unfold cum ah; simp
theorem cum_1 (y : Int) : cum y 1 = 0 := by unfold cum ah; simp
theorem dim_bd (y m : Int) (h1 : 1 ≤ m) (h2 : m ≤ 12) : 28 ≤ dim y m ∧ dim y m ≤ 31 := by
  have h := lp_01 y
  obtain rfl | rfl | rfl | rfl | rfl | rfl | rfl | rfl | rfl | rfl | rfl | rfl : m = 1 ∨ m = 2 ∨ m = 3 ∨ m = 4 ∨ m = 5 ∨ m = 6 ∨ m = 7 ∨ m = 8 ∨ m = 9 ∨ m = 10 ∨ m = 11 ∨ m = 12 := by omega
  all_goals (simp [dim, cum, ah]; try omega)
theorem cum_succ (y m : Int) : cum y (m + 1) = cum y m + dim y m := by unfold dim; omega

theorem cum_le (y m : Int) (h1 : 1 ≤ m) (n : Nat) (h2 : m + n ≤ 13) : cum y m ≤ cum y (m + n) := by
  induction n with
  | zero => simp
  | succ n ih =>
    have := ih (by omega)
    have e : m + ((n + 1 : Nat) : Int) = m + n + 1 := by omega
    have := cum_succ y (m + n)
    have := dim_bd y (m + n) (by omega) (by omega)
    rw [e]; omega

theorem cum_mono (y a b : Int) (h1 : 1 ≤ a) (h : a ≤ b) (h2 : b ≤ 13) : cum y a ≤ cum y b := by
  have := cum_le y a h1 (b - a).toNat (by omega)
  have e : a + ((b - a).toNat : Int) = b := by omega
  rw [e] at this; exact this

def later (y m d y' m' d' : Int) : Prop := y > y' ∨ y = y' ∧ (m > m' ∨ m = m' ∧ d > d')

theorem day_later {y m d y' m' d' : Int} (a : okD y m d) (b : okD y' m' d') (h : later y m d y' m' d') : dayN y' m' d' < dayN y m d := by
  obtain ⟨a1, a2, a3, a4, a5, a6⟩ := a
  obtain ⟨b1, b2, b3, b4, b5, b6⟩ := b
  unfold dayN
  have s' := cum_succ y' m'
  rcases h with h | ⟨rfl, h | ⟨rfl, h⟩⟩
  · have h1 := ny_mono (y' + 1) y (by omega)
    have h2 := ny_succ y'
    have h3 := cum_mono y' (m' + 1) 13 (by omega) (by omega) (by omega)
    have h4 := cum_13 y'
    have h5 := cum_bd y m
    omega
  · have h3 := cum_mono y (m' + 1) m (by omega) (by omega) (by omega)
    omega
  · omega

theorem later_or (y m d y' m' d' : Int) : later y m d y' m' d' ∨ later y' m' d' y m d ∨ (y = y' ∧ m = m' ∧ d = d') := by unfold later; omega

theorem day_inj {y m d y' m' d' : Int} (a : okD y m d) (b : okD y' m' d') (h : dayN y m d = dayN y' m' d') : y = y' ∧ m = m' ∧ d = d' := by
  rcases later_or y m d y' m' d' with h1 | h1 | h1
  · have := day_later a b h1; omega
  · have := day_later b a h1; omega
  · exact h1

theorem day_gt {y m d y' m' d' : Int} (a : okD y m d) (b : okD y' m' d') : (dayN y' m' d' < dayN y m d) ↔ later y m d y' m' d' := by
  refine ⟨fun h => ?_, day_later a b⟩
  rcases later_or y m d y' m' d' with h1 | h1 | ⟨rfl, rfl, rfl⟩
  · exact h1
  · have := day_later b a h1; omega
  · omega

theorem day_bd {y m d : Int} (a : okD y m d) : -37243778 ≤ dayN y m d ∧ dayN y m d ≤ 35805087 := by
  obtain ⟨a1, a2, a3, a4, a5, a6⟩ := a
  have h1 := ny_mono (-100000) y a1
  have h2 := ny_mono (y + 1) 100001 (by omega)
  have e1 : ny (-100000) = -37243778 := by decide
  have e2 : ny 100001 = 35805088 := by decide
  have s := ny_succ y
  have h3 := cum_mono y (m + 1) 13 (by omega) (by omega) (by omega)
  have h4 := cum_13 y
  have h5 := cum_bd y m
  have h6 := cum_succ y m
  unfold dayN; omega

/-- The year of a day: what is a cycle's, and the guess of the year in it, which is at most one too early. -/
def yg (n : Int) : Int := (n + 719528) / 146097 * 400 + (n + 719528) % 146097 / 366
theorem yg_le (n : Int) : ny (yg n) ≤ n := by
  have h : ∀ q r : Int, 0 ≤ r → r < 146097 → ny (q * 400 + r / 366) = q * 146097 + ny (r / 366) := by
    intro q r h1 h2; unfold ny; omega
  unfold yg
  rw [h _ _ (by omega) (by omega)]
  have h2 : ∀ r : Int, 0 ≤ r → r < 146097 → ny (r / 366) ≤ r - 719528 := by
    intro r h1 h2; unfold ny; omega
  have := h2 ((n + 719528) % 146097) (by omega) (by omega)
  omega
theorem yg_lt (n : Int) : n < ny (yg n + 2) := by
  have h : ∀ q r : Int, 0 ≤ r → r < 146097 → ny (q * 400 + r / 366 + 2) = q * 146097 + ny (r / 366 + 2) := by
    intro q r h1 h2; unfold ny; omega
  unfold yg
  rw [h _ _ (by omega) (by omega)]
  have h2 : ∀ r : Int, 0 ≤ r → r < 146097 → r - 719528 < ny (r / 366 + 2) := by
    intro r h1 h2; unfold ny; omega
  have := h2 ((n + 719528) % 146097) (by omega) (by omega)
  omega

def yo (n : Int) : Int := if ny (yg n + 1) ≤ n then yg n + 1 else yg n
theorem yo_spec (n : Int) : ny (yo n) ≤ n ∧ n < ny (yo n + 1) := by
  have h1 := yg_le n
  have h2 := yg_lt n
  unfold yo
  split
  · have e : yg n + 1 + 1 = yg n + 2 := by omega
    rw [e]; omega
  · omega
theorem yo_bd (n : Int) (h1 : -37243778 ≤ n) (h2 : n ≤ 35805087) : -100000 ≤ yo n ∧ yo n ≤ 100000 := by
  have h := yo_spec n
  have e1 : ny (-100000) = -37243778 := by decide
  have e2 : ny 100001 = 35805088 := by decide
  constructor
  · by_cases c : -100000 ≤ yo n
    · exact c
    · have := ny_mono (yo n + 1) (-100000) (by omega); omega
  · by_cases c : yo n ≤ 100000
    · exact c
    · have := ny_mono 100001 (yo n) (by omega); omega
theorem yg_bd (n : Int) (h1 : -37243778 ≤ n) (h2 : n ≤ 35805087) : -100100 ≤ yg n ∧ yg n ≤ 100100 := by unfold yg; omega

/-- The days of a month, as the reference tells them. -/
def rdim (y m : Int) : Int := if m = 2 then (if lpB y then 29 else 28) else if m = 4 ∨ m = 6 ∨ m = 9 ∨ m = 11 then 30 else 31
theorem rdim_dim (y m : Int) (h1 : 1 ≤ m) (h2 : m ≤ 12) : rdim y m = dim y m := by
  have h := lpB_if y
  cases hl : lpB y
  all_goals
    rw [hl] at h
    simp only [if_true, reduceCtorEq, if_false] at h
    obtain rfl | rfl | rfl | rfl | rfl | rfl | rfl | rfl | rfl | rfl | rfl | rfl : m = 1 ∨ m = 2 ∨ m = 3 ∨ m = 4 ∨ m = 5 ∨ m = 6 ∨ m = 7 ∨ m = 8 ∨ m = 9 ∨ m = 10 ∨ m = 11 ∨ m = 12 := by omega
    all_goals (simp [rdim, dim, cum, ah, hl]; try omega)

/-- A date that is its own nearest one is there, and no other. -/
def wi (n a b : Int) : Int := min (max n a) b
theorem near_iff (y m d : Int) : okD y m d ↔ (wi y (-100000) 100000 = y ∧ wi m 1 12 = m ∧ wi d 1 (dim (wi y (-100000) 100000) (wi m 1 12)) = d) := by
  unfold okD wi
  constructor
  · rintro ⟨a1, a2, a3, a4, a5, a6⟩
    have e1 : min (max y (-100000)) 100000 = y := by omega
    have e2 : min (max m 1) 12 = m := by omega
    rw [e1, e2]; omega
  · rintro ⟨e1, e2, e3⟩
    rw [e1, e2] at e3
    have := dim_bd y m (by omega) (by omega)
    omega
end Go.Proofs.YtjpppffgebecdaaGreatDoor
