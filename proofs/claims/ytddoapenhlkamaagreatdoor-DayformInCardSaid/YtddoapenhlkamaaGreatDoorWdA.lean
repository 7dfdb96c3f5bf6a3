/- The contracts of the reference's lists, small and Find, of words.small, and of the law's word: what each call returns; nothing that was in memory changes. -/
import Derived.Test.YtddoapenhlkamaaGreatDoorBas
namespace Go.Proofs.YtddoapenhlkamaaGreatDoor
open Go.RowKit

theorem small_any (r : Int) (w : World) (h1 : 0 ≤ r) (h2 : r ≤ 1114111) :
    Calls Tryz.prog 82 #[.int .i32 r] w fun e w' => e = .returned (.int .i32 (smallZ r)) ∧ w = w' := by
  by_cases a : 65 ≤ r
  · by_cases b : r ≤ 90
    · have e : smallZ r = r + 32 := if_pos ⟨a, b⟩
      rw [e]
      go_enter Tryz.func82, Tryz.ntmps82
      go_wp2
      go_ret
      exact ⟨rfl, rfl⟩
    · have e : smallZ r = r := if_neg (by omega)
      rw [e]
      go_enter Tryz.func82, Tryz.ntmps82
      go_wp2
      go_ret
      exact ⟨rfl, rfl⟩
  · have e : smallZ r = r := if_neg (by omega)
    rw [e]
    go_enter Tryz.func82, Tryz.ntmps82
    go_wp2
    go_ret
    exact ⟨rfl, rfl⟩

/-- The place that the reference names. -/
def wantZ (o : Option Nat) : Int := match o with | some p => (p : Int) | none => -1

def kindsL : List (List UInt8) := [[114, 117, 108, 101], [122, 111, 110, 101], [108, 105, 110, 107]]
def monthsL : List (List UInt8) := [[106, 97, 110, 117, 97, 114, 121], [102, 101, 98, 114, 117, 97, 114, 121], [109, 97, 114, 99, 104], [97, 112, 114, 105, 108], [109, 97, 121], [106, 117, 110, 101], [106, 117, 108, 121], [97, 117, 103, 117, 115, 116], [115, 101, 112, 116, 101, 109, 98, 101, 114], [111, 99, 116, 111, 98, 101, 114], [110, 111, 118, 101, 109, 98, 101, 114], [100, 101, 99, 101, 109, 98, 101, 114]]
def weeksL : List (List UInt8) := [[115, 117, 110, 100, 97, 121], [109, 111, 110, 100, 97, 121], [116, 117, 101, 115, 100, 97, 121], [119, 101, 100, 110, 101, 115, 100, 97, 121], [116, 104, 117, 114, 115, 100, 97, 121], [102, 114, 105, 100, 97, 121], [115, 97, 116, 117, 114, 100, 97, 121]]
def endsL : List (List UInt8) := [[111, 110, 108, 121], [109, 97, 120, 105, 109, 117, 109]]

/-- A list that the call has made. -/
def MadeList (ws : List (List UInt8)) (n : Nat) (w : World) (e : Ending) (w' : World) : Prop := ∃ L : Nat, e = .returned (.slice (some ⟨L, 0, none⟩) n n) ∧ w.heap.size ≤ L ∧ ListAt L ws w' ∧ Below w.heap.size w w'

theorem rweeks_any (w : World) : Calls Tryz.prog 20 #[] w (MadeList weeksL 7 w) := by
  go_enter Tryz.func20, Tryz.ntmps20
  go_wp2
  go_ret
  exact ⟨_, rfl, Nat.le_refl _, ListAt.new w weeksL _ _ rfl, (Below.refl _ _).alloc (Nat.le_refl _) _⟩

theorem low_snoc (l : List UInt8) (c : UInt8) : low (l ++ [c]) = low l ++ [lowB c] := by simp [low]
theorem low_len (l : List UInt8) : (low l).length = l.length := by simp [low]
theorem take_snoc {p : List UInt8} {i : Nat} {c : UInt8} (h : i < p.length) (hc : p.getD i 0 = c) : p.take (i + 1) = p.take i ++ [c] := by
  rw [List.take_succ_eq_append_getElem h]
  congr 2
  simpa [h] using hc

set_option maxHeartbeats 800000 in
theorem rsmall_any (s : List UInt8) (w : World) (hs : s.length ≤ 100) :
    Calls Tryz.prog 36 #[.string ⟨s.toArray⟩] w fun e w' => e = .returned (.string ⟨(low s).toArray⟩) ∧ Below w.heap.size w w' := by
  have hz := wsize s
  go_enter Tryz.func36, Tryz.ntmps36
  go_wp2
  go_loopw [3, 4] (fun vo vi w' => ∃ (i : Nat) (x : List UInt8), vi = .int .i64 i ∧ i ≤ s.length ∧ low (s.take i) = x ∧ vo = .string ⟨x.toArray⟩ ∧ Below w.heap.size w w') (fun _ vi _ => s.length - (intOf vi).toNat)
  case atStart => exact ⟨0, [], rfl, by omega, rfl, rfl, Below.refl _ _⟩
  case round =>
    obtain ⟨i, x, rfl, i1, i2, rfl, kb⟩ := hrel
    have KB := Lib.hid kb
    have HX := Lib.hid i2
    have hxl : x.length ≤ 1000 := by rw [← i2, low_len, List.length_take]; omega
    clear kb i2
    by_cases hi : i < s.length
    · obtain ⟨c, hc⟩ : ∃ c, s.getD i 0 = c := ⟨_, rfl⟩
      have hix := wbyte_at s i hi c hc
      have TN : Hid (low (s.take (i + 1)) = x ++ [lowB c]) := Lib.hid (by rw [take_snoc hi hc, low_snoc, HX.out])
      have clt := c.toNat_lt
      have hi' : (i : Int) < (s.length : Int) := by omega
      have had := wadd_lists x [lowB c] hxl (by simp)
      have hcv := wone_byte wr (lowB c)
      have hlb := lowB_toNat c
      clear hc i1
      by_cases a : 65 ≤ c.toNat
      · have a' : 65 ≤ (c.toNat : Int) := by omega
        by_cases b : c.toNat ≤ 90
        · have b' : (c.toNat : Int) ≤ 90 := by omega
          rw [if_pos ⟨a, b⟩] at hlb
          have hlb' : ((lowB c).toNat : Int) = (c.toNat : Int) + 97 - 65 := by omega
          rw [hlb'] at hcv
          clear hlb hlb'
          go_wp2
          go_roundw
          case rel => exact ⟨i + 1, _, by go_num, by omega, TN.out, rfl, KB.out.alloc KB.out.size _⟩
          case measure => simp [intOf]; omega
        · have b' : ¬ (c.toNat : Int) ≤ 90 := by omega
          rw [if_neg (by omega)] at hlb
          rw [hlb] at hcv
          clear hlb
          go_wp2
          go_roundw
          case rel => exact ⟨i + 1, _, by go_num, by omega, TN.out, rfl, KB.out.alloc KB.out.size _⟩
          case measure => simp [intOf]; omega
      · have a' : ¬ 65 ≤ (c.toNat : Int) := by omega
        rw [if_neg (by omega)] at hlb
        rw [hlb] at hcv
        clear hlb
        go_wp2
        go_roundw
        case rel => exact ⟨i + 1, _, by go_num, by omega, TN.out, rfl, KB.out.alloc KB.out.size _⟩
        case measure => simp [intOf]; omega
    · obtain rfl : i = s.length := by omega
      have hi' : ¬ ((s.length : Nat) : Int) < (s.length : Int) := by omega
      go_wp2
      go_ret
      rw [← HX.out, List.take_length]
      exact ⟨rfl, KB.out⟩
end Go.Proofs.YtddoapenhlkamaaGreatDoor
