/- For every bytes, every place and every row the law CrcTurns returns true, and nothing that was in memory changes. -/
import Derived.Test.YtbdbkbmgiejdfaaDoorCrC
import Derived.Test.YtbdbkbmgiejdfaaDoorCrT
namespace Go.Proofs.YtbdbkbmgiejdfaaDoor
open Go.RowKit
attribute [local go_sem] Oper.semAt_some

/-- What a Turn answers, and what bytes whose bits are turned sum to. -/
theorem turn_diff {n at' row : Nat} {l : List UInt8} (hn : l.length = n) (h1 : 1 ≤ row) (h2 : row < 4294967296) (h3 : at' + Lib.bitLen row ≤ 8 * n) :
    su l ^^^ su (tu l at' row 32) = sn (8 * n - at') row ∧ sn (8 * n - at') row ≠ 0 ∧ sn (8 * n - at') row < 4294967296 := by
  subst hn
  exact ⟨su_diff (tu_len _ _ _ _) (vb_tu32 h2 (row_fits h2 h3)) (by omega), sn_ne h2 (by omega), sn_lt h2⟩

set_option maxRecDepth 20000 in
set_option maxHeartbeats 2000000 in
theorem crcTurns_walk (a : Option Addr) (ca : Nat) (l : List UInt8) (at' row : Int) (w : World) (hT : FoAt w) (h0 : a = none → ca = 0) (hy : By w a l)
    (a1 : -9223372036854775808 ≤ at') (a2 : at' ≤ 9223372036854775807) (r1 : -9223372036854775808 ≤ row) (r2 : row ≤ 9223372036854775807) :
    Calls Tryd.prog 5 #[.slice a l.length ca, .int .i64 at', .int .i64 row] w fun e w' => e = .returned (.bool true) ∧ Below w.heap.size w w' := by
  have HT := Lib.hid hT
  have HY := Lib.hid hy
  have H0 := Lib.hid h0
  obtain ⟨n, hn⟩ : ∃ n, l.length = n := ⟨_, rfl⟩
  rw [hn]
  have HN := Lib.hid hn
  clear hT hy h0 hn
  by_cases hl : 300 < n
  · go_enter Tryd.func5, Tryd.ntmps5
    go_wp2_with (go_at_call 9; refine (cawake_yes _ HT.out).mono ?_; rintro e w1 ⟨rfl, k1⟩; simp only [])
    go_ret
    exact ⟨rfl, k1⟩
  · have hl2 : n ≤ 300 := by omega
    clear hl
    by_cases hr : row < 1 ∨ 4294967295 < row
    · have HB : Hid ((n : Int) < 0 ∨ 1048576 < (n : Int) ∨ row < 1 ∨ 4294967295 < row) := Lib.hid (by omega)
      rcases hr with hr | hr
      all_goals
        go_enter Tryd.func5, Tryd.ntmps5
        go_wp2_with (first
          | (go_at_call 14; refine (turn_no _ _ _ _ HB).mono ?_; rintro e w1 ⟨rfl, rfl⟩; simp only [])
          | (go_at_call 9; refine (cawake_yes _ HT.out).mono ?_; rintro e w2 ⟨rfl, k2⟩; simp only []))
        all_goals
          go_ret
          exact ⟨rfl, k2⟩
    · obtain ⟨m, rfl⟩ : ∃ m : Nat, row = (m : Int) := ⟨row.toNat, by omega⟩
      have m1 : 1 ≤ m := by omega
      have m2 : m < 4294967296 := by omega
      clear hr r1 r2
      have hb64 : Lib.bitLen m ≤ 64 := long_le (by omega) (by omega)
      by_cases hin : at' < 0 ∨ 8 * (n : Int) - (Lib.bitLen m : Nat) < at'
      · have HB := Lib.hid hin
        obtain ⟨b, hb⟩ : ∃ b, Lib.bitLen m = b := ⟨_, rfl⟩
        have HL := Lib.hid hb
        rw [hb] at hin hb64
        clear hb
        rcases hin with hin | hin
        all_goals
          go_enter Tryd.func5, Tryd.ntmps5
          go_wp2_with (first
            | (go_at_call 14; refine (turn_out n m at' _ (by omega) m1 m2 HB).mono ?_; rintro e w1 ⟨rfl, rfl⟩; simp only [])
            | (go_at_call 15; refine (rlong_any m b _ (by omega) HL).mono ?_; rintro e w' ⟨rfl, rfl⟩; simp only [])
            | (go_at_call 9; refine (cawake_yes _ HT.out).mono ?_; rintro e w2 ⟨rfl, k2⟩; simp only []))
          all_goals
            go_ret
            exact ⟨rfl, k2⟩
      · obtain ⟨t, rfl⟩ : ∃ t : Nat, at' = (t : Int) := ⟨at'.toNat, by omega⟩
        have hin2 : t + Lib.bitLen m ≤ 8 * n := by omega
        obtain ⟨d1, d2, d3⟩ := turn_diff HN.out m1 m2 hin2
        have hn1 : 1 ≤ n := by have := long_pos (n := m) (by omega) (by omega); omega
        have CT : Hid (∀ W, By W a l → Calls Tryd.prog 16 #[.slice a n ca, .int .i64 (t : Int), .int .i64 (m : Int)] W (Coll (tu l t m 32) W)) := Lib.hid fun W h => rturned_any a ca n t m l W h HN.out (by omega) H0.out m2 hn1 hin2
        have hlen := tu_len l t m 32
        rw [HN.out] at hlen
        have CV : Hid (∀ W, FoAt W → Calls Tryd.prog 14 #[.int .i64 (n : Int), .int .i64 (t : Int), .int .i64 (m : Int)] W fun e w' => e = .returned (.tuple #[.int .i64 ((sn (8 * n - t) m : Nat) : Int), .int .i64 0]) ∧ Below W.heap.size W w') := Lib.hid fun W h => turn_any n t m _ W h (by omega) m1 m2 hin2 (Lib.hid rfl)
        obtain ⟨v, hv⟩ : ∃ v, sn (8 * n - t) m = v := ⟨_, rfl⟩
        obtain ⟨x, hx⟩ : ∃ x, su l = x := ⟨_, rfl⟩
        obtain ⟨r, hr⟩ : ∃ r, tu l t m 32 = r := ⟨_, rfl⟩
        obtain ⟨y, hy⟩ : ∃ y, su r = y := ⟨_, rfl⟩
        have hxl := su_lt l
        have hyl := su_lt r
        rw [hv] at d1 d2 d3 CV
        rw [hr] at d1 CT hlen
        rw [hx] at d1 hxl
        rw [hy] at d1 hyl
        have HX := Lib.hid hx
        have HYY := Lib.hid hy
        have HR := Lib.hid hlen
        have hxy : bits .xor .i64 (x : Int) (y : Int) = (v : Int) := by rw [xor_i64 (by omega) (by omega), d1]
        obtain ⟨b, hb⟩ : ∃ b, Lib.bitLen m = b := ⟨_, rfl⟩
        have HL := Lib.hid hb
        rw [hb] at hb64 hin2 hin
        have hin4 : ¬ (8 * (n : Int) - (b : Int) < (t : Int)) := by omega
        clear hv hx hr hy hb d1 d2 hlen hin
        go_enter Tryd.func5, Tryd.ntmps5
        go_wp2_with (first
          | (go_at_call 14; refine (CV.out _ HT.out).mono ?_; rintro e w1 ⟨rfl, k1⟩
             have B1 := Lib.hid k1
             clear k1
             simp only [])
          | (go_at_call 15; refine (rlong_any m b _ (by omega) HL).mono ?_; rintro e w' ⟨rfl, rfl⟩; simp only [])
          | (go_at_call 10; (with_reducible refine (rsum_any a ca n x l _ (HY.out.next B1.out) HN.out (by omega) HX).mono ?_); rintro e w2 ⟨rfl, k2⟩
             have B2 := Lib.hid (B1.out.trans (k2.mono B1.out.size))
             clear k2
             simp only [])
          | (go_at_call 16; refine (CT.out _ (HY.out.next B2.out)).mono ?_; rintro e w3 ⟨A3, c3, rfl, o3, k3⟩
             have Y3 := Lib.hid (By.of_own o3)
             have B3 := Lib.hid (B2.out.trans (k3.mono B2.out.size))
             rw [HR.out]
             clear o3 k3
             simp only [])
          | (go_at_call 10; (with_reducible refine (rsum_any A3 c3 n y r _ Y3.out HR.out (by omega) HYY).mono ?_); rintro e w4 ⟨rfl, k4⟩
             have B4 := Lib.hid (B3.out.trans (k4.mono B3.out.size))
             clear k4
             simp only [])
          | (go_at_call 9; refine (cawake_yes _ (HT.out.next B4.out)).mono ?_; rintro e w5 ⟨rfl, k5⟩
             have B5 := Lib.hid (B4.out.trans (k5.mono B4.out.size))
             clear k5
             simp only []))
        go_ret
        exact ⟨rfl, B5.out⟩
end Go.Proofs.YtbdbkbmgiejdfaaDoor
