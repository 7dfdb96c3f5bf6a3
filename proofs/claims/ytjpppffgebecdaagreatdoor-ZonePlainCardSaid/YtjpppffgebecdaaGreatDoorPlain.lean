/- Plain facts on whole numbers that the contracts of package num lean on: quotients rounded down, and what fits 64 bits; no program is named. -/
import Derived.IntWalk
import Derived.RowKit
import Derived.Laws.BitsAllLaws
import Derived.Laws.BitsLemmas
namespace Go.Proofs.YtjpppffgebecdaaGreatDoor
open Go.RowKit

theorem cross_yes (a b : Int) (hb : b ≠ 0) (h : a.tmod b ≠ 0) (hs : ¬ (a.tmod b < 0 ↔ b < 0)) : a.fdiv b = a.tdiv b - 1 ∧ a.fmod b = a.tmod b + b := by
  have hd : ¬ b ∣ a := fun hd => h (Int.dvd_iff_tmod_eq_zero.1 hd)
  rw [Int.fdiv_eq_tdiv, Int.fmod_eq_tmod, if_neg hd, if_neg hd]
  by_cases ha : 0 ≤ a
  · have := Int.tmod_nonneg b ha
    rw [if_pos ha, if_pos ha]
    by_cases hb0 : 0 ≤ b
    · omega
    · rw [if_neg hb0, if_neg hb0]; omega
  · have h2 : a.tmod b ≤ 0 := by
      have := Int.tmod_nonneg b (a := -a) (by omega)
      rw [Int.neg_tmod] at this; omega
    rw [if_neg ha, if_neg ha]
    by_cases hb0 : 0 ≤ b
    · rw [if_pos hb0, if_pos hb0, Int.sign_eq_one_of_pos (by omega)]; omega
    · omega

theorem cross_no (a b : Int) (h : a.tmod b = 0 ∨ (a.tmod b < 0 ↔ b < 0)) : a.fdiv b = a.tdiv b ∧ a.fmod b = a.tmod b := by
  by_cases hd : b ∣ a
  · rw [Int.fdiv_eq_tdiv, Int.fmod_eq_tmod, if_pos hd, if_pos hd]; omega
  · have h0 : a.tmod b ≠ 0 := fun e => hd (Int.dvd_iff_tmod_eq_zero.2 e)
    rw [Int.fdiv_eq_tdiv, Int.fmod_eq_tmod, if_neg hd, if_neg hd]
    by_cases ha : 0 ≤ a
    · have := Int.tmod_nonneg b ha
      rw [if_pos ha, if_pos ha]
      by_cases hb0 : 0 ≤ b
      · rw [if_pos hb0, if_pos hb0]; omega
      · omega
    · have h2 : a.tmod b ≤ 0 := by
        have := Int.tmod_nonneg b (a := -a) (by omega)
        rw [Int.neg_tmod] at this; omega
      rw [if_neg ha, if_neg ha]
      by_cases hb0 : 0 ≤ b
      · omega
      · rw [if_neg hb0, if_neg hb0, Int.sign_eq_neg_one_of_neg (by omega)]; omega

theorem wrap64_in (n : Int) (h1 : -9223372036854775808 ≤ n) (h2 : n ≤ 9223372036854775807) : wrap64 n = n := by
  unfold wrap64; omega

theorem tdiv_bd (a b : Int) (ha1 : -9223372036854775808 ≤ a) (ha2 : a ≤ 9223372036854775807) (hb : b ≠ 0) (ho : ¬ (a = -9223372036854775808 ∧ b = -1)) :
    -9223372036854775808 ≤ a.tdiv b ∧ a.tdiv b ≤ 9223372036854775807 := by
  by_cases h1 : b = 1
  · subst h1; rw [Int.tdiv_one]; omega
  · by_cases h2 : b = -1
    · subst h2; rw [Int.tdiv_neg, Int.tdiv_one]; omega
    · have hn := Int.natAbs_tdiv a b
      have h3 : a.natAbs / b.natAbs ≤ a.natAbs / 2 := Nat.div_le_div_left (by omega) (by omega)
      have h4 : a.natAbs.div b.natAbs = a.natAbs / b.natAbs := rfl
      omega

theorem tdiv_bd2 (a b : Int) (ha1 : -9223372036854775808 ≤ a) (ha2 : a ≤ 9223372036854775807) (hb : b ≠ 0) (h : a.tmod b ≠ 0) :
    -9223372036854775807 ≤ a.tdiv b ∧ a.tdiv b ≤ 9223372036854775807 := by
  by_cases h1 : b = 1
  · subst h1; rw [Int.tmod_one] at h; omega
  · by_cases h2 : b = -1
    · subst h2; rw [Int.tmod_neg, Int.tmod_one] at h; omega
    · have hn := Int.natAbs_tdiv a b
      have h3 : a.natAbs / b.natAbs ≤ a.natAbs / 2 := Nat.div_le_div_left (by omega) (by omega)
      have h4 : a.natAbs.div b.natAbs = a.natAbs / b.natAbs := rfl
      omega

theorem tmod_bd (a b : Int) (hb1 : -9223372036854775808 ≤ b) (hb2 : b ≤ 9223372036854775807) (hb : b ≠ 0) :
    -9223372036854775808 < a.tmod b ∧ a.tmod b < 9223372036854775808 ∧ (0 < b → a.tmod b < b ∧ - b < a.tmod b) ∧ (b < 0 → a.tmod b < - b ∧ b < a.tmod b) := by
  have h : (a.tmod b).natAbs < b.natAbs := by
    rw [Int.natAbs_tmod]; exact Nat.mod_lt _ (by omega)
  omega

theorem toNat_ofInt64 (n : Int) : (BitVec.ofInt 64 n).toNat = (n % 18446744073709551616).toNat := by
  rw [BitVec.toNat_ofInt]; rfl

theorem and_low (n : Int) : bits .and .i64 n 4294967295 = n % 4294967296 := by
  show IntKind.i64.wrap ((BitVec.ofInt 64 n &&& BitVec.ofInt 64 (4294967295 : Int)).toNat : Int) = _
  rw [BitVec.toNat_and, toNat_ofInt64, toNat_ofInt64]
  have e : (4294967295 % 18446744073709551616 : Int).toNat = 4294967295 := by decide
  rw [e, nat_mask32, IntKind.wrap_i64]
  omega

theorem or_low (m x : Int) (hm1 : -9223372036854775808 ≤ m) (hm2 : m ≤ 9223372036854775807) (hm : m % 4294967296 = 0) (hx1 : 0 ≤ x) (hx2 : x < 4294967296) : bits .or .i64 m x = m + x := by
  show IntKind.i64.wrap ((BitVec.ofInt 64 m ||| BitVec.ofInt 64 x).toNat : Int) = _
  rw [BitVec.toNat_or, toNat_ofInt64, toNat_ofInt64]
  rw [nat_join 32 _ _ (by show _ % 4294967296 = 0; omega) (by show _ < 4294967296; omega), IntKind.wrap_i64]
  omega

end Go.Proofs.YtjpppffgebecdaaGreatDoor
