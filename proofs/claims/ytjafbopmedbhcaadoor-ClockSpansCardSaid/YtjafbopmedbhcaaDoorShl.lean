/- The library's contracts of strings.Cut, CutPrefix and CutSuffix, at a colon, at a minus sign and at a letter. The variable internal/bytealg.MaxLen holds some number. -/
import Derived.Test.YtjafbopmedbhcaaDoorSpn
import Derived.Test.YtjafbopmedbhcaaDoorCivD
import Derived.Test.YtjafbopmedbhcaaDoorDigR
import Derived.Test.YtjafbopmedbhcaaDoorShelf
namespace Go.Proofs.YtjafbopmedbhcaaDoor
open Go.RowKit

def MaxAt (w : World) : Prop := ∃ m : Int, w.cell? ⟨5, 0, none⟩ = some (.int .i64 m)
theorem MaxAt.lt {w : World} (h : MaxAt w) : 5 < w.heap.size := by obtain ⟨m, h⟩ := h; exact cell_lt h
theorem MaxAt.below {w w' : World} {B : Nat} (h : MaxAt w) (k : Below B w w') (hB : 5 < B) : MaxAt w' := by
  obtain ⟨m, h⟩ := h; exact ⟨m, by rw [k.cell hB]; exact h⟩
theorem MaxAt.next {w w' : World} (h : MaxAt w) (k : Below w.heap.size w w') : MaxAt w' := h.below k h.lt

theorem cut_any (s : List UInt8) (w : World) (hs : s.length ≤ 1000) (hm : MaxAt w) :
    Calls Tryd.prog 59 #[.string ⟨s.toArray⟩, .string ⟨#[58]⟩] w fun e w' => e = .returned (.tuple #[.string ⟨(hd1 s).toArray⟩, .string ⟨(tl1 s).toArray⟩, .bool (mo1 s)]) ∧ ∃ n, w' = w.drewN n := by
  obtain ⟨m, hm⟩ := hm
  have := Tryd.strings_Cut ⟨s.toArray⟩ ⟨#[58]⟩ m w (by simp [ByteArray.size]; omega) hm
  simpa only [cut_colon] using this

theorem cutPre_any (s : List UInt8) (w : World) :
    Calls Tryd.prog 35 #[.string ⟨s.toArray⟩, .string ⟨#[45]⟩] w fun e w' => e = .returned (.tuple #[.string ⟨(Lib.trimPrefix s [45]).toArray⟩, .bool (Lib.hasPrefix s [45])]) ∧ w' = w :=
  Tryd.strings_CutPrefix ⟨s.toArray⟩ ⟨#[45]⟩ w

theorem suf_last (s : List UInt8) (b : UInt8) : Lib.hasSuffix s [b] = decide (s.getLast? = some b) := by
  unfold Lib.hasSuffix
  by_cases h : s.getLast? = some b
  · rw [decide_eq_true h, List.isSuffixOf_iff_suffix]
    obtain ⟨q, rfl⟩ := List.getLast?_eq_some_iff.1 h
    exact ⟨q, rfl⟩
  · rw [decide_eq_false h, ← Bool.not_eq_true, List.isSuffixOf_iff_suffix]
    rintro ⟨q, rfl⟩
    exact h (by simp)
theorem suf_trim {s : List UInt8} {b : UInt8} (h : s.getLast? = some b) : Lib.trimSuffix s [b] = s.dropLast := by
  unfold Lib.trimSuffix
  rw [suf_last, decide_eq_true h, if_pos rfl, List.dropLast_eq_take]; rfl

theorem cutSuf_yes (s : List UInt8) (b : UInt8) (w : World) (hs : s.length ≤ 1000000) (h : Hid (s.getLast? = some b)) :
    Calls Tryd.prog 52 #[.string ⟨s.toArray⟩, .string ⟨#[b]⟩] w fun e w' => e = .returned (.tuple #[.string ⟨s.dropLast.toArray⟩, .bool true]) ∧ w' = w := by
  have := Tryd.strings_CutSuffix ⟨s.toArray⟩ ⟨#[b]⟩ w (by simp [ByteArray.size]; omega)
  simpa only [suf_last, suf_trim h.out, h.out, decide_true] using this
theorem cutSuf_no (s : List UInt8) (b : UInt8) (w : World) (hs : s.length ≤ 1000000) (h : Hid (s.getLast? ≠ some b)) :
    Calls Tryd.prog 52 #[.string ⟨s.toArray⟩, .string ⟨#[b]⟩] w fun e w' => e = .returned (.tuple #[.string ⟨s.toArray⟩, .bool false]) ∧ w' = w := by
  have := Tryd.strings_CutSuffix ⟨s.toArray⟩ ⟨#[b]⟩ w (by simp [ByteArray.size]; omega)
  simpa only [suf_last, Lib.trimSuffix, h.out, decide_false, Bool.false_eq_true, if_false] using this
end Go.Proofs.YtjafbopmedbhcaaDoor
