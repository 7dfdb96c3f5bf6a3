/- Plain facts on decimal digits, padded: what the reference's loop writes is what zeros ahead of the numeral are; no program is named. -/
import Derived.Lib.ItoaNum
namespace Go.Proofs.YtjpppffgebecdaaGreatDoor
open Go

/-- The digits of n, l of them at least, zeros ahead; nothing of 0 where l is 0. -/
def pd (l n : Nat) : List UInt8 := if _h : n = 0 ∧ l = 0 then [] else pd (l - 1) (n / 10) ++ [UInt8.ofNat (48 + n % 10)]
termination_by n + l
decreasing_by omega

theorem pd_nil : pd 0 0 = [] := by rw [pd, dif_pos ⟨rfl, rfl⟩]
theorem pd_step {l n : Nat} (h : ¬ (n = 0 ∧ l = 0)) : pd l n = pd (l - 1) (n / 10) ++ [UInt8.ofNat (48 + n % 10)] := by rw [pd, dif_neg h]
theorem pd_zero (l : Nat) : pd l 0 = List.replicate l 48 := by
  induction l with
  | zero => exact pd_nil
  | succ l ih => rw [pd_step (by omega), Nat.add_sub_cancel, show 0 / 10 = 0 from rfl, ih, List.replicate_succ']; rfl

theorem pd_dec (n : Nat) : ∀ l : Nat, 1 ≤ n + l → pd l n = List.replicate (l - (Lib.decDigits n).length) 48 ++ Lib.decDigits n := by
  induction n using Nat.strongRecOn with
  | _ n ih =>
    intro l hl
    by_cases h : n < 10
    · rw [pd_step (by omega), show n / 10 = 0 by omega, pd_zero, Lib.decDigits_one h, Nat.mod_eq_of_lt h]; rfl
    · have e : Lib.decDigits n = Lib.decDigits (n / 10) ++ [UInt8.ofNat (48 + n % 10)] := by rw [Lib.decDigits, dif_neg h]
      rw [pd_step (by omega), ih (n / 10) (by omega) (l - 1) (by omega), e, List.length_append, List.append_assoc]
      congr 2
      simp only [List.length_singleton]; omega

theorem itoa_nat (n : Nat) : Lib.itoa (n : Int) = Lib.decDigits n := by unfold Lib.itoa; rw [if_neg (by omega)]; simp

theorem nd_le (n : Nat) (h : n < 10000000) : Lib.nDigits n ≤ 7 := by
  have h2 : ∀ k u : Nat, u < 10 ^ (k + 1) → Lib.nDigits u ≤ k + 1 := by
    intro k
    induction k with
    | zero => intro u hu; rw [Lib.nDigits_small (by simpa using hu)]; omega
    | succ k ih =>
      intro u hu
      by_cases c : u < 10
      · rw [Lib.nDigits_small c]; omega
      · rw [Lib.nDigits_big c]
        rw [Nat.pow_succ] at hu
        have := ih (u / 10) (by omega)
        omega
  exact h2 6 n (by omega)

theorem pd_len (l n : Nat) (h : 1 ≤ l) (hl : l ≤ 7) (hn : n < 10000000) : (pd l n).length ≤ 7 := by
  have := nd_le n hn
  rw [pd_dec n l (by omega), List.length_append, List.length_replicate, Lib.decDigits_length]
  omega
end Go.Proofs.YtjpppffgebecdaaGreatDoor
