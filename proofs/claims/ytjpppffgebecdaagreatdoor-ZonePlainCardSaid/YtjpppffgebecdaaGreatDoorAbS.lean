/- The contracts of abbr.seconds and Parse: which offset a text is, or that it is none; nothing that was in memory changes. -/
import Derived.Test.YtjpppffgebecdaaGreatDoorAbO
namespace Go.Proofs.YtjpppffgebecdaaGreatDoor
open Go.RowKit

theorem scA_len2 (acc : Nat) : ∀ (D : List UInt8), D.length < 2 → scA acc D = acc
  | [], _ => rfl
  | [_], _ => rfl
  | _ :: _ :: _, h => absurd h (by simp)
theorem scA_step (acc : Nat) (D : List UInt8) (p : Nat) (h : p + 1 < D.length) : scA acc (D.drop p) = scA (60 * acc + 10 * bd (D.getD p 0) + bd (D.getD (p + 1) 0)) (D.drop (p + 2)) := by
  rw [List.drop_eq_getElem_cons (show p < D.length by omega), List.drop_eq_getElem_cons (show p + 1 < D.length by omega)]
  show scA (60 * acc + 10 * bd D[p] + bd D[p + 1]) _ = _
  simp [List.getD, show p < D.length by omega, show p + 1 < D.length by omega]
theorem bd_lt (b : UInt8) : bd b < 256 := by unfold bd; omega
theorem bd_wrap (b : UInt8) : IntKind.u8.wrap ((b.toNat : Int) - 48) = (bd b : Int) := by
  have := b.toNat_lt
  unfold bd
  simp [IntKind.wrap, IntKind.bits, IntKind.signed]
  omega
theorem dgs_len {s : List UInt8} (h : 3 ≤ s.length) : (dgs s).length = 6 := by unfold dgs; simp; omega
/-- What the answer's test comes to. -/
theorem ps_ways (s : List UInt8) (h3 : 3 ≤ s.length) (h7 : s.length ≤ 7) : (ofE (scV s) = 0 ∧ ofS (scV s) = s ∧ psO s = true) ∨ (ofE (scV s) = 0 ∧ ofS (scV s) ≠ s ∧ psO s = false) ∨ (ofE (scV s) = 10 ∧ psO s = false) := by
  by_cases h : scV s ≤ -360000 ∨ 360000 ≤ scV s
  · refine .inr (.inr ⟨by unfold ofE; rw [if_pos h], ?_⟩)
    unfold psO
    rw [decide_eq_false]
    rintro ⟨-, -, h1, h2, -⟩
    omega
  · have e : ofE (scV s) = 0 ∧ ofS (scV s) = ofT (scV s) := ⟨by unfold ofE; rw [if_neg h], by unfold ofS; rw [if_neg h]⟩
    by_cases hs : ofT (scV s) = s
    · refine .inl ⟨e.1, by rw [e.2]; exact hs, ?_⟩
      unfold psO
      rw [decide_eq_true]
      exact ⟨h3, h7, by omega, by omega, hs⟩
    · refine .inr (.inl ⟨e.1, by rw [e.2]; exact hs, ?_⟩)
      unfold psO
      rw [decide_eq_false]
      rintro ⟨-, -, -, -, h2⟩
      exact hs h2
end Go.Proofs.YtjpppffgebecdaaGreatDoor
