/- The contracts of the reference's lists, small and Find, of words.small, and of the law's word: what each call returns; nothing that was in memory changes. -/
import Derived.Test.YtddoapenhlkamaaDoorBas
namespace Go.Proofs.YtddoapenhlkamaaDoor
open Go.RowKit

theorem small_any (r : Int) (w : World) (h1 : 0 ≤ r) (h2 : r ≤ 1114111) :
    Calls Tryd.prog 56 #[.int .i32 r] w fun e w' => e = .returned (.int .i32 (smallZ r)) ∧ w = w' := by
  by_cases a : 65 ≤ r
  · by_cases b : r ≤ 90
    · have e : smallZ r = r + 32 := if_pos ⟨a, b⟩
      rw [e]
      go_enter Tryd.func56, Tryd.ntmps56
      go_wp2
      go_ret
      exact ⟨rfl, rfl⟩
    · have e : smallZ r = r := if_neg (by omega)
      rw [e]
      go_enter Tryd.func56, Tryd.ntmps56
      go_wp2
      go_ret
      exact ⟨rfl, rfl⟩
  · have e : smallZ r = r := if_neg (by omega)
    rw [e]
    go_enter Tryd.func56, Tryd.ntmps56
    go_wp2
    go_ret
    exact ⟨rfl, rfl⟩

/-- The place that the reference names. -/
def wantZ (o : Option Nat) : Int := match o with | some p => (p : Int) | none => -1

def kindsL : List (List UInt8) := [[114, 117, 108, 101], [122, 111, 110, 101], [108, 105, 110, 107]]
def monthsL : List (List UInt8) := [[106, 97, 110, 117, 97, 114, 121], [102, 101, 98, 114, 117, 97, 114, 121], [109, 97, 114, 99, 104], [97, 112, 114, 105, 108], [109, 97, 121], [106, 117, 110, 101], [106, 117, 108, 121], [97, 117, 103, 117, 115, 116], [115, 101, 112, 116, 101, 109, 98, 101, 114], [111, 99, 116, 111, 98, 101, 114], [110, 111, 118, 101, 109, 98, 101, 114], [100, 101, 99, 101, 109, 98, 101, 114]]
def weeksL : List (List UInt8) := [[115, 117, 110, 100, 97, 121], [109, 111, 110, 100, 97, 121], [116, 117, 101, 115, 100, 97, 121], [119, 101, 100, 110, 101, 115, 100, 97, 121], [116, 104, 117, 114, 115, 100, 97, 121], [102, 114, 105, 100, 97, 121], [115, 97, 116, 117, 114, 100, 97, 121]]
def endsL : List (List UInt8) := [[111, 110, 108, 121], [109, 97, 120, 105, 109, 117, 109]]

/-- A list that the call has made. -/
def MadeList (ws : List (List UInt8)) (n : Nat) (w : World) (e : Ending) (w' : World) : Prop := ∃ L : Nat, e = .returned (.slice (some ⟨L, 0, none⟩) n n) ∧ w.heap.size ≤ L ∧ ListAt L ws w' ∧ Below w.heap.size w w'

theorem low_snoc (l : List UInt8) (c : UInt8) : low (l ++ [c]) = low l ++ [lowB c] := by simp [low]
theorem low_len (l : List UInt8) : (low l).length = l.length := by simp [low]
theorem take_snoc {p : List UInt8} {i : Nat} {c : UInt8} (h : i < p.length) (hc : p.getD i 0 = c) : p.take (i + 1) = p.take i ++ [c] := by
  rw [List.take_succ_eq_append_getElem h]
  congr 2
  simpa [h] using hc

end Go.Proofs.YtddoapenhlkamaaDoor
