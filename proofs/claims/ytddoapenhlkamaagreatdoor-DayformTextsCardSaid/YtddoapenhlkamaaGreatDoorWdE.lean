/- The contracts of words.Kind, Month and Weekday: which kind, month and day of a week a word is, or that it is none; nothing that was in memory changes. The tables read as they are laid. -/
import Derived.Test.YtddoapenhlkamaaGreatDoorWdD
import Derived.Lib.AppendIntMem
namespace Go.Proofs.YtddoapenhlkamaaGreatDoor
open Go.RowKit

abbrev PowW (w : World) : Prop := Lib.TabIs Tryz.prog w "internal/strconv.uint64pow10" .u64 Lib.pow10Tab
theorem PowW.next {w w' : World} (h : PowW w) (k : Below w.heap.size w w') : PowW w' := Lib.tabBelow_of_tabIs h w' k
/-- A variable holds an error, or nil. -/
def ErrW (g : Nat) (w : World) : Prop := ∃ ev : Value, w.cell? ⟨g, 0, none⟩ = some ev ∧ (ev = .nilIface ∨ ∃ te pe, ev = .iface te pe)
theorem ErrW.next {g : Nat} {w w' : World} (h : ErrW g w) (k : Below w.heap.size w w') : ErrW g w' := by
  obtain ⟨ev, h1, h2⟩ := h
  exact ⟨ev, by rw [k.cell (p := ⟨_, _, none⟩) (wcell_lt h1)]; exact h1, h2⟩
theorem ne_of_all {ws : List (List UInt8)} (h : (ws.all fun p => !p.isEmpty) = true) : ∀ p ∈ ws, p ≠ [] := by
  intro p hp
  have := List.all_eq_true.1 h p hp
  cases p <;> simp_all
theorem ascii_of_all {ws : List (List UInt8)} (h : (ws.all fun p => p.all fun c => decide (c.toNat < 128)) = true) : ∀ p ∈ ws, ascii p := by
  intro p hp c hc
  have := List.all_eq_true.1 (List.all_eq_true.1 h p hp) c hc
  simpa using this
theorem kinds_ne : ∀ p ∈ kindsL, p ≠ [] := ne_of_all (by decide)
theorem kinds_as : ∀ p ∈ kindsL, ascii p := ascii_of_all (by decide)
theorem months_ne : ∀ p ∈ monthsL, p ≠ [] := ne_of_all (by decide)
theorem months_as : ∀ p ∈ monthsL, ascii p := ascii_of_all (by decide)
theorem weeks_ne : ∀ p ∈ weeksL, p ≠ [] := ne_of_all (by decide)
theorem weeks_as : ∀ p ∈ weeksL, ascii p := ascii_of_all (by decide)
theorem ends_ne : ∀ p ∈ endsL, p ≠ [] := ne_of_all (by decide)
theorem ends_as : ∀ p ∈ endsL, ascii p := ascii_of_all (by decide)

theorem scan_lt (b : List UInt8) : ∀ (ws : List (List UInt8)) (i many found p : Nat), (many = 1 → found < i + ws.length) → scan b ws i many found = some p → p < i + ws.length
  | [], i, many, found, p, hf, h => by
    simp only [scan] at h
    split at h
    · rename_i hm
      injection h with h
      have := hf hm
      omega
    · cases h
  | w :: ws, i, many, found, p, hf, h => by
    simp only [scan] at h
    rw [List.length_cons] at hf ⊢
    split at h
    · injection h with h
      omega
    · split at h
      · have := scan_lt b ws (i + 1) (many + 1) i p (by omega) h
        omega
      · have := scan_lt b ws (i + 1) many found p (by omega) h
        omega
theorem findL_lt {b : List UInt8} {ws : List (List UInt8)} {p : Nat} (h : findL b ws = some p) : p < ws.length := by
  have := scan_lt b ws 0 0 0 p (by omega) h
  omega

end Go.Proofs.YtddoapenhlkamaaGreatDoor
