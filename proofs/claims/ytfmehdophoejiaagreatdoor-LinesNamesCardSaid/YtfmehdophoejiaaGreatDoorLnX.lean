/- The walk of LinesNames: for every text it returns true, and nothing that was in memory changes. -/
import Derived.Test.YtfmehdophoejiaaGreatDoorMN
import Derived.Test.YtfmehdophoejiaaGreatDoorMO
namespace Go.Proofs.YtfmehdophoejiaaGreatDoor
open Go Go.RowKit

theorem is_of {p : Bool} {x : Int} : (if p = true then ((if p = true then (0 : Int) else x) == 0) else ((if p = true then (0 : Int) else x) == x)) = true := by
  cases p
  · simp
  · rfl
set_option maxRecDepth 20000 in
set_option maxHeartbeats 1600000 in
theorem linesNames_walk (s : List UInt8) (w : World) (H : LaidL w) :
    Calls Tryz.prog 3 #[.string ⟨s.toArray⟩] w fun e w' => e = .returned (.bool true) ∧ Below w.heap.size w w' := by
  have HA := Lib.hid H
  have hz := wsize s
  clear H
  by_cases h : 100 < s.length
  · have h' : (100 : Int) < (s.length : Int) := by omega
    clear h
    go_enter Tryz.func3, Tryz.ntmps3
    go_wp2_with (go_at_call 10; refine (lawake_any _ HA.out).mono ?_; rintro e w1 ⟨rfl, k1⟩; have K1 := Lib.hid k1; clear k1; simp only [])
    go_ret
    exact ⟨rfl, K1.out⟩
  · have h' : ¬ (100 : Int) < (s.length : Int) := by omega
    have hs : s.length ≤ 500 := by omega
    obtain ⟨b1, e1⟩ : ∃ b, nmOk s = b := ⟨_, rfl⟩
    obtain ⟨b2, e2⟩ : ∃ b, stOk s = b := ⟨_, rfl⟩
    obtain ⟨b3, e3⟩ : ∃ b, fmOk s = b := ⟨_, rfl⟩
    obtain ⟨v1, f1⟩ : ∃ v, nmV s = v := ⟨_, rfl⟩
    obtain ⟨v2, f2⟩ : ∃ v, stV s = v := ⟨_, rfl⟩
    obtain ⟨v3, f3⟩ : ∃ v, fmV s = v := ⟨_, rfl⟩
    have I1 : Hid ((if b1 = true then (v1 == 0) else (v1 == 23)) = true) := Lib.hid (by rw [← f1, ← e1]; exact is_of)
    have I2 : Hid ((if b2 = true then (v2 == 0) else (v2 == 23)) = true) := Lib.hid (by rw [← f2, ← e2]; exact is_of)
    have I3 : Hid ((if b3 = true then (v3 == 0) else (v3 == 12)) = true) := Lib.hid (by rw [← f3, ← e3]; exact is_of)
    have E1 := Lib.hid e1
    have E2 := Lib.hid e2
    have E3 := Lib.hid e3
    have F1 := Lib.hid f1
    have F2 := Lib.hid f2
    have F3 := Lib.hid f3
    have B0 : Hid (Below w.heap.size w w) := Lib.hid (Below.refl _ _)
    clear h e1 e2 e3 f1 f2 f3
    go_enter Tryz.func3, Tryz.ntmps3
    go_wp2_with (first
      | (go_at_call 12; refine (lname_is s v1 _ (by omega) HA.out.mx F1).mono ?_; rintro e w1 ⟨rfl, k1⟩; have K1 := Lib.hid k1; clear k1; simp only [])
      | (go_at_call 13; refine (rname_is s b1 _ (by omega) E1).mono ?_; rintro e w2 ⟨rfl, rfl⟩; simp only [])
      | (go_at_call 14; refine (lset_is s v2 _ (by omega) F2).mono ?_; rintro e w3 ⟨rfl, k3⟩; have K3 := Lib.hid (bthen K1.out k3); clear k3; simp only [])
      | (go_at_call 15; refine (rset_is s b2 _ (by omega) E2).mono ?_; rintro e w4 ⟨rfl, rfl⟩; simp only [])
      | (go_at_call 16; refine (lformat_is s v3 _ hs (HA.out.next K3.out).mx F3).mono ?_; rintro e w5 ⟨rfl, k5⟩; have K5 := Lib.hid (bthen K3.out k5); clear k5; simp only [])
      | (go_at_call 17; refine (rformat_is s b3 _ hs E3).mono ?_; rintro e w6 ⟨rfl, k6⟩; have K6 := Lib.hid (bthen K5.out k6); clear k6; simp only [])
      | (go_at_call 11
         first
           | (with_reducible refine (is_is v1 b1 23 true _ I1).mono ?_; rintro e w7 ⟨rfl, rfl⟩; simp only [])
           | (with_reducible refine (is_is v2 b2 23 true _ I2).mono ?_; rintro e w7 ⟨rfl, rfl⟩; simp only [])
           | (with_reducible refine (is_is v3 b3 12 true _ I3).mono ?_; rintro e w7 ⟨rfl, rfl⟩; simp only []))
      | (go_at_call 10; refine (lawake_any _ (HA.out.next K6.out)).mono ?_; rintro e w9 ⟨rfl, k9⟩; have K9 := Lib.hid (bthen K6.out k9); clear k9; simp only []))
    go_ret
    exact ⟨rfl, K9.out⟩
end Go.Proofs.YtfmehdophoejiaaGreatDoor
