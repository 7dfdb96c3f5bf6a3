/- The contract of the reference's Find: which word of a list a word is; nothing that was in memory changes. -/
import Derived.Test.YtddoapenhlkamaaDoorWdA
namespace Go.Proofs.YtddoapenhlkamaaDoor
open Go.RowKit

/-- What is known at the head of the loop: many words before place i are meant, the last of them at 'found'. -/
structure FindAt (b : List UInt8) (ws : List (List UInt8)) (i many : Nat) (at' : Int) : Prop where
  le : i ≤ ws.length
  my : many ≤ i
  ex : ∃ found : Nat, (1 ≤ many → at' = (found : Int)) ∧ scan b (ws.drop i) i many found = findL b ws
theorem wdrop_at {ws : List (List UInt8)} {i : Nat} {p : List UInt8} (hp : ws[i]? = some p) : ws.drop i = p :: ws.drop (i + 1) := by
  obtain ⟨h, e⟩ := List.getElem?_eq_some_iff.1 hp
  rw [List.drop_eq_getElem_cons h, e]
theorem find_same {b p : List UInt8} {ws : List (List UInt8)} {i many : Nat} {a : Int} (h : FindAt b ws i many a) (hp : ws[i]? = some p) (he : p = b) : findL b ws = some i := by
  obtain ⟨_, _, f, _, h⟩ := h
  rw [wdrop_at hp] at h
  rw [← h]; unfold scan; rw [if_pos he]
theorem find_more {b p : List UInt8} {ws : List (List UInt8)} {i many : Nat} {a : Int} (h : FindAt b ws i many a) (hp : ws[i]? = some p) (he : p ≠ b) (hb : begins b p = true) : FindAt b ws (i + 1) (many + 1) i := by
  obtain ⟨h1, h2, f, h3, h⟩ := h
  have hi := (List.getElem?_eq_some_iff.1 hp).1
  refine ⟨hi, by omega, i, fun _ => rfl, ?_⟩
  rw [wdrop_at hp] at h
  rw [← h]; conv => rhs; unfold scan
  rw [if_neg he, if_pos hb]
theorem find_on {b p : List UInt8} {ws : List (List UInt8)} {i many : Nat} {a : Int} (h : FindAt b ws i many a) (hp : ws[i]? = some p) (he : p ≠ b) (hb : begins b p = false) : FindAt b ws (i + 1) many a := by
  obtain ⟨h1, h2, f, h3, h⟩ := h
  have hi := (List.getElem?_eq_some_iff.1 hp).1
  refine ⟨hi, by omega, f, h3, ?_⟩
  rw [wdrop_at hp] at h
  rw [← h]; conv => rhs; unfold scan
  rw [if_neg he, if_neg (by simp [hb])]
theorem find_end {b : List UInt8} {ws : List (List UInt8)} {many : Nat} {a : Int} (h : FindAt b ws ws.length many a) : (many = 1 → wantZ (findL b ws) = a) ∧ (many ≠ 1 → wantZ (findL b ws) = -1) := by
  obtain ⟨_, _, f, h3, h⟩ := h
  rw [List.drop_length] at h
  rw [← h]; unfold scan
  constructor
  · intro e; rw [if_pos e, h3 (by omega)]; rfl
  · intro e; rw [if_neg e]; rfl

theorem begins_no {b p : List UInt8} (h : begins b p = false) (h0 : b ≠ []) : p.take b.length ≠ b := by
  intro e
  have : begins b p = true := begins_iff.2 ⟨h0, by rw [← e]; exact List.take_prefix _ _⟩
  rw [h] at this; cases this
theorem begins_yes {b p : List UInt8} (h : begins b p = true) (hne : p ≠ b) : b ≠ [] ∧ b.length < p.length ∧ p.take b.length = b := by
  obtain ⟨h0, q, rfl⟩ := begins_iff.1 h
  refine ⟨h0, ?_, by simp⟩
  cases q with
  | nil => simp at hne
  | cons c q => simp

end Go.Proofs.YtddoapenhlkamaaDoor
