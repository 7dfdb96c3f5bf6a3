/- For every two rows of bytes the law CrcJoins returns true, and nothing that was in memory changes. -/
import Derived.Test.YtbdbkbmgiejdfaaDoorCrC
namespace Go.Proofs.YtbdbkbmgiejdfaaDoor
open Go.RowKit
attribute [local go_sem] Oper.semAt_some

set_option maxRecDepth 20000 in
set_option maxHeartbeats 2000000 in
theorem crcJoins_walk (a : Option Addr) (ca : Nat) (l : List UInt8) (b : Option Addr) (cb : Nat) (r : List UInt8) (w : World) (hT : FoAt w) (_ : a = none → ca = 0) (hy : By w a l) (_ : b = none → cb = 0) (hz : By w b r) :
    Calls Tryd.prog 6 #[.slice a l.length ca, .slice b r.length cb] w fun e w' => e = .returned (.bool true) ∧ Below w.heap.size w w' := by
  have HT := Lib.hid hT
  have HY := Lib.hid hy
  have HZ := Lib.hid hz
  obtain ⟨n, hn⟩ : ∃ n, l.length = n := ⟨_, rfl⟩
  obtain ⟨m, hm⟩ : ∃ m, r.length = m := ⟨_, rfl⟩
  rw [hn, hm]
  have HN := Lib.hid hn
  have HM := Lib.hid hm
  clear hT hy hz hn hm
  by_cases hl : 300 < n ∨ 300 < m
  · rcases hl with hl | hl
    all_goals
      go_enter Tryd.func6, Tryd.ntmps6
      go_wp2_with (go_at_call 9; refine (cawake_yes _ HT.out).mono ?_; rintro e w1 ⟨rfl, k1⟩; simp only [])
      all_goals
        go_ret
        exact ⟨rfl, k1⟩
  · have hn3 : n ≤ 300 := by omega
    have hm3 : m ≤ 300 := by omega
    have d1 := su_app l r
    rw [HM.out] at d1
    obtain ⟨x, hx⟩ : ∃ x, su l = x := ⟨_, rfl⟩
    obtain ⟨y, hy⟩ : ∃ y, su r = y := ⟨_, rfl⟩
    obtain ⟨z, hz⟩ : ∃ z, su (l ++ r) = z := ⟨_, rfl⟩
    have hxl := su_lt l
    have hyl := su_lt r
    rw [hx] at d1 hxl
    rw [hy] at d1 hyl
    rw [hz] at d1
    obtain ⟨v, hv⟩ : ∃ v, sn (8 * m) x = v := ⟨_, rfl⟩
    have hvl := sn_lt (n := 8 * m) hxl
    rw [hv] at d1 hvl
    have HV := Lib.hid hv
    have hvy : bits .xor .i64 (v : Int) (y : Int) = (z : Int) := by rw [xor_i64 (by omega) (by omega), d1]
    have HX : Hid (l.length = n ∧ n ≤ 100000 ∧ su l = x) := Lib.hid ⟨HN.out, by omega, hx⟩
    have HYY : Hid (r.length = m ∧ m ≤ 100000 ∧ su r = y) := Lib.hid ⟨HM.out, by omega, hy⟩
    have HZZ : Hid (l.length = n ∧ r.length = m ∧ n ≤ 100000 ∧ m ≤ 100000 ∧ su (l ++ r) = z) := Lib.hid ⟨HN.out, HM.out, by omega, by omega, hz⟩
    clear hl d1 hx hy hz hv
    go_enter Tryd.func6, Tryd.ntmps6
    go_wp2_with (first
      | (go_at_call 11; (with_reducible refine (sum_one a ca n x l _ _ (by simp) HT.out HY.out HX).mono ?_); rintro e w1 ⟨rfl, k1⟩
         have B1 := Lib.hid k1
         clear k1
         simp only [])
      | (go_at_call 12; refine (shift_any x m v _ (HT.out.next B1.out) hxl (by omega) HV).mono ?_; rintro e w2 ⟨rfl, k2⟩
         have B2 := Lib.hid (B1.out.trans (k2.mono B1.out.size))
         clear k2
         simp only [])
      | (go_at_call 11; (with_reducible refine (sum_two a b ca cb n m z l r _ _ (by simp) (HT.out.next B2.out) (HY.out.next B2.out) (HZ.out.next B2.out) HZZ).mono ?_); rintro e w3 ⟨rfl, k3⟩
         have B3 := Lib.hid (B2.out.trans (k3.mono B2.out.size))
         clear k3
         simp only [])
      | (go_at_call 11; (with_reducible refine (sum_one b cb m y r _ _ (by simp) (HT.out.next B3.out) (HZ.out.next B3.out) HYY).mono ?_); rintro e w4 ⟨rfl, k4⟩
         have B4 := Lib.hid (B3.out.trans (k4.mono B3.out.size))
         clear k4
         simp only [])
      | (go_at_call 9; refine (cawake_yes _ (HT.out.next B4.out)).mono ?_; rintro e w5 ⟨rfl, k5⟩
         have B5 := Lib.hid (B4.out.trans (k5.mono B4.out.size))
         clear k5
         simp only []))
    go_ret
    exact ⟨rfl, B5.out⟩
end Go.Proofs.YtbdbkbmgiejdfaaDoor
