/- For every two numbers of 64 bits the law CrcShifts returns true, and nothing that was in memory changes. -/
import Derived.Test.YtbdbkbmgiejdfaaDoorCrC
import Derived.Test.YtbdbkbmgiejdfaaDoorCrR
namespace Go.Proofs.YtbdbkbmgiejdfaaDoor
open Go.RowKit
attribute [local go_sem] Oper.semAt_some

set_option maxRecDepth 20000 in
set_option maxHeartbeats 2000000 in
theorem crcShifts_walk (s n : Int) (w : World) (hT : FoAt w) (s1 : -9223372036854775808 ≤ s) (s2 : s ≤ 9223372036854775807) (n1 : -9223372036854775808 ≤ n) (n2 : n ≤ 9223372036854775807) :
    Calls Tryd.prog 4 #[.int .i64 s, .int .i64 n] w fun e w' => e = .returned (.bool true) ∧ Below w.heap.size w w' := by
  have HT := Lib.hid hT
  clear hT
  by_cases ha : 300 < n ∧ n ≤ 1048576
  · obtain ⟨a1, a2⟩ := ha
    go_enter Tryd.func4, Tryd.ntmps4
    go_wp2_with (go_at_call 9; refine (cawake_yes _ HT.out).mono ?_; rintro e w1 ⟨rfl, k1⟩; simp only [])
    go_ret
    exact ⟨rfl, k1⟩
  · by_cases hb : s < 0 ∨ 4294967295 < s ∨ n < 0 ∨ 1048576 < n
    · have HB : Hid (s < 0 ∨ 4294967295 < s ∨ n < 0 ∨ 1048576 < n) := Lib.hid hb
      have ha2 : n ≤ 300 ∨ 1048576 < n := by omega
      clear ha hb
      rcases ha2 with ha2 | ha2
      all_goals
        go_enter Tryd.func4, Tryd.ntmps4
        go_wp2_with (first
          | (go_at_call 12; refine (shift_no _ _ _ HB).mono ?_; rintro e w1 ⟨rfl, rfl⟩; simp only [])
          | (go_at_call 13; exfalso; have := HB.out; omega)
          | (go_at_call 9; refine (cawake_yes _ HT.out).mono ?_; rintro e w2 ⟨rfl, k2⟩; simp only []))
        all_goals
          go_ret
          exact ⟨rfl, k2⟩
    · obtain ⟨c, rfl⟩ : ∃ c : Nat, s = (c : Int) := ⟨s.toNat, by omega⟩
      obtain ⟨m, rfl⟩ : ∃ m : Nat, n = (m : Int) := ⟨n.toNat, by omega⟩
      have hc : c < 4294967296 := by omega
      have hm : m ≤ 300 := by omega
      obtain ⟨v, hv⟩ : ∃ v, sn (8 * m) c = v := ⟨_, rfl⟩
      have HV := Lib.hid hv
      clear ha hb hv s1 s2 n1 n2
      go_enter Tryd.func4, Tryd.ntmps4
      go_wp2_with (first
        | (go_at_call 12; refine (shift_any c m v _ HT.out (by omega) (by omega) HV).mono ?_; rintro e w1 ⟨rfl, k1⟩
           have B1 := Lib.hid k1
           clear k1
           simp only [])
        | (go_at_call 13; refine (rshift_any c m v _ (by omega) (by omega) HV).mono ?_; rintro e w' ⟨rfl, rfl⟩; simp only [])
        | (go_at_call 9; refine (cawake_yes _ (HT.out.next B1.out)).mono ?_; rintro e w2 ⟨rfl, k2⟩
           have B2 := Lib.hid (B1.out.trans (k2.mono B1.out.size))
           clear k2
           simp only []))
      go_ret
      exact ⟨rfl, B2.out⟩
end Go.Proofs.YtbdbkbmgiejdfaaDoor
