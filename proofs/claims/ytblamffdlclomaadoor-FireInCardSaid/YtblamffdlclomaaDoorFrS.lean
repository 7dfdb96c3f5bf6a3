/- All firings of a rule in years, one after the other; a rule that is silent for eight years never fires: plain facts; no program is named. -/
import Derived.Test.YtblamffdlclomaaDoorFrQ
namespace Go.Proofs.YtblamffdlclomaaDoor
open Go Go.RowKit

/-- A rule's firings in n years from F on, with these. -/
def frL (r : RV) (F : Int) : Nat → List (Int × FV)
  | 0 => []
  | n + 1 => frL r F n ++ if frY r (F + n) then [(F + n, frF r (F + n))] else []
theorem frL_yes {r : RV} {F : Int} {n : Nat} (h : frY r (F + n)) : frL r F (n + 1) = frL r F n ++ [(F + n, frF r (F + n))] := by rw [frL, if_pos h]
theorem frL_no {r : RV} {F : Int} {n : Nat} (h : ¬ frY r (F + n)) : frL r F (n + 1) = frL r F n := by rw [frL, if_neg h, List.append_nil]
theorem frL_pre (r : RV) (F : Int) {m n : Nat} (h : m ≤ n) : frL r F m <+: frL r F n := by
  induction n with
  | zero => obtain rfl : m = 0 := by omega
            exact List.prefix_refl _
  | succ n ih =>
    by_cases hm : m ≤ n
    · exact (ih hm).trans (by rw [frL]; exact List.prefix_append _ _)
    · obtain rfl : m = n + 1 := by omega
      exact List.prefix_refl _
theorem frL_still {r : RV} {F : Int} {m n : Nat} (h : m ≤ n) (hs : ∀ k, m ≤ k → k < n → ¬ frY r (F + (k : Nat))) : frL r F n = frL r F m := by
  induction n with
  | zero => obtain rfl : m = 0 := by omega
            rfl
  | succ n ih =>
    by_cases hm : m ≤ n
    · rw [frL_no (hs n hm (by omega)), ih hm fun k h1 h2 => hs k h1 (by omega)]
    · obtain rfl : m = n + 1 := by omega
      rfl
/-- Years ahead of the rule's, or of none. -/
theorem frL_from {r : RV} {F G : Int} {d n : Nat} (hG : G = F + d) (hs : ∀ y, F ≤ y → y < G → ¬ frY r y) : frL r F (d + n) = frL r G n := by
  induction n with
  | zero => rw [Nat.add_zero, frL_still (Nat.zero_le d) fun k _ h2 => hs _ (by omega) (by omega)]; rfl
  | succ n ih =>
    rw [← Nat.add_assoc, frL, frL, ih, show F + ((d + n : Nat) : Int) = G + (n : Int) by omega]

theorem dim_two (y : Int) : dim y 2 = 28 + lp y := by
  have h3 : cum y 3 = ah 3 + lp y := by unfold cum; rw [if_pos (by omega)]
  have h2 : cum y 2 = ah 2 + 0 := by unfold cum; rw [if_neg (by omega)]
  unfold dim
  rw [show (2 : Int) + 1 = 3 by omega, h3, h2]
  have : ah 3 = 59 := by decide
  have : ah 2 = 31 := by decide
  omega
theorem dim_same {m : Int} (hm : m ≠ 2) (y z : Int) : dim y m = dim z m := by
  unfold dim cum
  by_cases h : 2 < m
  · rw [if_pos h, if_pos h, if_pos (by omega), if_pos (by omega)]; omega
  · rw [if_neg h, if_neg h, if_neg (by omega), if_neg (by omega)]
theorem leap_eight (z : Int) : ∃ y, z ≤ y ∧ y < z + 8 ∧ lp y = 1 := by
  have key : ∀ p : Int, p % 4 = 0 → lp p = 1 ∨ lp (p + 4) = 1 := by
    intro p hp
    by_cases h : p % 100 = 0
    · right; unfold lp; rw [if_pos (by omega)]
    · left; unfold lp; rw [if_pos (by omega)]
  obtain ⟨p, h1, h2, h3⟩ : ∃ p : Int, z ≤ p ∧ p < z + 4 ∧ p % 4 = 0 := ⟨z + (-z) % 4, by omega, by omega, by omega⟩
  rcases key p h3 with h | h
  · exact ⟨p, h1, by omega, h⟩
  · exact ⟨p + 4, by omega, by omega, h⟩
theorem lp_le (y : Int) : lp y ≤ 1 := by unfold lp; split <;> omega
theorem silent_ever {r : RV} {z : Int} (h1 : r.fr ≤ z) (h2 : z + 7 ≤ r.tl) (hs : ∀ y, z ≤ y → y < z + 8 → ¬ frY r y) (y : Int) : ¬ frY r y := by
  intro hf
  have hd := hf.2.2
  by_cases hm : r.mo = 2
  · obtain ⟨q, q1, q2, q3⟩ := leap_eight z
    refine hs q q1 q2 ⟨by omega, by omega, ?_⟩
    rw [hm, dim_two] at hd ⊢
    have := lp_le y
    omega
  · exact hs z (Int.le_refl _) (by omega) ⟨h1, by omega, by rw [dim_same hm z y]; exact hd⟩
theorem frL_mem {r : RV} {F : Int} {n : Nat} {x : Int × FV} (h : x ∈ frL r F n) : F ≤ x.1 ∧ x.1 < F + n ∧ frY r x.1 ∧ x.2 = frF r x.1 := by
  induction n with
  | zero => simp [frL] at h
  | succ n ih =>
    rw [frL] at h
    rcases List.mem_append.1 h with h | h
    · obtain ⟨a, b, c, d⟩ := ih h
      exact ⟨a, by omega, c, d⟩
    · by_cases hy : frY r (F + n)
      · rw [if_pos hy] at h
        rw [List.mem_singleton.1 h]
        exact ⟨by omega, by omega, hy, rfl⟩
      · rw [if_neg hy] at h; simp at h
theorem frL_len (r : RV) (F : Int) (n : Nat) : (frL r F n).length ≤ n := by
  induction n with
  | zero => simp [frL]
  | succ n ih => rw [frL, List.length_append]; split <;> simp <;> omega
end Go.Proofs.YtblamffdlclomaaDoor
