/- For every bytes and every calls the law WireReads returns true, and nothing that was in memory changes. -/
import Derived.Test.YtdepbhikkjfcjaaWrE
namespace Go.Proofs.Ytdepbhikkjfcjaa
open Go.RowKit Go.Shelf
attribute [local go_sem] Oper.semAt_some

namespace wireReads
set_option maxRecDepth 20000 in
theorem walk_out (a a2 : Option Addr) (c c2 : Nat) (l : List UInt8) (os : List (Int × Int)) (w : World) (h : 200 < l.length ∨ 40 < os.length) :
    Calls Try.prog 4 #[.slice a l.length c, .slice a2 os.length c2] w fun e w' => e = .returned (.bool true) ∧ Below w.heap.size w w' := by
  by_cases h1 : (l.length : Int) > 200
  · clear h
    go_enter Try.func4, Try.ntmps4
    go_wp2_with (first
      | (go_at_call 18; refine (new_any a l.length c _).mono ?_; rintro e w1 ⟨rfl, H, k1⟩
         have B1 := Lib.hid k1
         clear H k1
         simp only [])
      | (go_at_call 17; refine (awake_yes _).mono ?_; rintro e w9 ⟨rfl, k9⟩
         have B9 := Lib.hid (B1.out.trans (k9.mono B1.out.size))
         clear k9
         simp only []))
    go_ret
    exact ⟨rfl, B9.out⟩
  · have h2 : (os.length : Int) > 40 := by rcases h with h | h <;> omega
    clear h
    go_enter Try.func4, Try.ntmps4
    go_wp2_with (first
      | (go_at_call 18; refine (new_any a l.length c _).mono ?_; rintro e w1 ⟨rfl, H, k1⟩
         have B1 := Lib.hid k1
         clear H k1
         simp only [])
      | (go_at_call 17; refine (awake_yes _).mono ?_; rintro e w9 ⟨rfl, k9⟩
         have B9 := Lib.hid (B1.out.trans (k9.mono B1.out.size))
         clear k9
         simp only []))
    go_ret
    exact ⟨rfl, B9.out⟩

set_option maxRecDepth 20000 in
set_option maxHeartbeats 8000000 in
theorem walk_few (a a2 : Option Addr) (c c2 : Nat) (l : List UInt8) (os : List (Int × Int)) (w : World) (hl : l.length ≤ 200) (hm : os.length ≤ 40) (hc : l.length ≤ c) (hb : By w a l) (ho : Ops w a2 os) :
    Calls Try.prog 4 #[.slice a l.length c, .slice a2 os.length c2] w fun e w' => e = .returned (.bool true) ∧ Below w.heap.size w w' := by
  have HB := Lib.hid hb
  have HO := Lib.hid ho
  obtain ⟨n, hn⟩ : ∃ n, l.length = n := ⟨_, rfl⟩
  obtain ⟨m, hmm⟩ : ∃ m, os.length = m := ⟨_, rfl⟩
  have HN := Lib.hid hn
  have HM := Lib.hid hmm
  rw [hn] at hl hc ⊢
  rw [hmm] at hm ⊢
  have n1 : ¬ ((n : Int) > 200) := by omega
  have n2 : ¬ ((m : Int) > 40) := by omega
  clear hb ho hn hmm
  go_enter Try.func4, Try.ntmps4
  go_wp2_with (go_at_call 18; refine (new_any a n c _).mono ?_; rintro e w1 ⟨rfl, H, k1⟩
               have C1 := Lib.hid H
               have B1 := Lib.hid k1
               clear H k1
               simp only [])
  clear n1 n2
  go_loopw [6, 7, 8] (fun va vw vi wr => ∃ (i p E : Nat), va = .int .i64 p ∧ vw = .int .i64 E ∧ vi = .int .i64 i ∧ i ≤ m ∧ p ≤ n ∧ Cur w.heap.size (.slice a n c) (p : Nat) (E : Nat) wr ∧ Below w.heap.size w wr) (fun _ _ vi _ => m - (intOf vi).toNat)
  case atStart => exact ⟨0, 0, 0, rfl, rfl, rfl, Nat.zero_le _, Nat.zero_le _, C1.out, B1.out⟩
  case round =>
    clear C1 B1
    obtain ⟨i, p, E, rfl, rfl, rfl, hi, hp, hC, hbw⟩ := hrel
    have C0 := Lib.hid hC
    have B0 := Lib.hid hbw
    clear hC hbw
    by_cases hlt : i < m
    · obtain ⟨b1, o1, rfl, hb1, hx1, hy1, hix, hiy⟩ := HO.out i (by rw [HM.out]; exact hlt)
      obtain ⟨⟨x, y⟩, hxy⟩ : ∃ z, os.getD i (0, 0) = z := ⟨_, rfl⟩
      rw [hxy] at hx1 hy1
      have hX : ∀ W, Below w.heap.size w W → W.cell? ⟨b1, o1 + i * 2, none⟩ = some (.int .i64 x) := fun W h => by
        rw [h.cell (p := ⟨b1, o1 + i * 2, none⟩) hb1, Nat.mul_comm i 2]; exact hx1
      have hY : ∀ W, Below w.heap.size w W → W.cell? ⟨b1, o1 + i * 2 + 1, none⟩ = some (.int .i64 y) := fun W h => by
        rw [h.cell (p := ⟨b1, o1 + i * 2 + 1, none⟩) hb1, Nat.mul_comm i 2]; exact hy1
      have cx := hX wr B0.out
      have cy := hY wr B0.out
      have HX := Lib.hid hX
      have HY := Lib.hid hY
      have hw2 : wrap64 ((n : Int) - (p : Int)) = ((n - p : Nat) : Int) := by unfold wrap64; omega
      clear hX hY hx1 hy1 hix hiy hxy hb1
      by_cases hE : E = 0
      · subst hE
        obtain ⟨r, L, N, E2, hpN, hL, hDO, hRE⟩ := ans a n c p l x y HN.out hc hp hl
        have DO := Lib.hid hDO
        obtain ⟨np, hnp⟩ : ∃ np, p + N = np := ⟨_, rfl⟩
        have hs : (p : Int) + (N : Int) = (np : Int) := by omega
        have hdr := drop_run a n c p hp
        have YD : Hid (∀ W, By W a l → By W (sh a c p) (l.drop p)) := Lib.hid fun W h => h.dropN HN.out hc
        obtain ⟨A0, hA0⟩ : ∃ A0, sh a c p = A0 := ⟨_, rfl⟩
        obtain ⟨n0, hn0⟩ : ∃ n0, n - p = n0 := ⟨_, rfl⟩
        obtain ⟨c0, hc0⟩ : ∃ c0, c - p = c0 := ⟨_, rfl⟩
        have RE : Hid (∀ W, By W A0 (l.drop p) → Calls Try.prog 20 #[.slice A0 n0 c0, .agg #[.int .i64 x, .int .i64 y]] W (RdL r L N E2 W)) := Lib.hid (by
          intro W h
          have := hRE W (by rw [hA0]; exact h)
          rw [hA0, hn0, hc0] at this
          exact this)
        rw [hA0] at YD
        rw [hA0, hn0, hc0] at hdr
        have hnpn : np ≤ n := by omega
        have hNb : N ≤ 200 := by omega
        have hLb : L.length ≤ 200 := by omega
        have HNP := Lib.hid hnp
        have hw3 : wrap64 ((n : Int) - (np : Int)) = ((n - np : Nat) : Int) := by unfold wrap64; omega
        clear hDO hRE hnp hA0 hn0 hc0 hpN hw2 hL
        go_wp2_with (go_at_call 19; refine (DO.out wr w.heap.size C0.out (HB.out.next B0.out)).mono ?_; rintro e w2 ⟨A2, k2, cc2, rfl, hk2, hv2, H, g2⟩
                     have C2 := Lib.hid H
                     have B2 := Lib.hid (B0.out.trans (grown_to g2 B0.out.size (Nat.le_refl _)))
                     have K2 := Lib.hid hk2
                     have Y2 := Lib.hid (hv2 _ (HB.out.next B2.out))
                     have R2 := Lib.hid (YD.out _ (HB.out.next B2.out))
                     have cx2 := HX.out w2 B2.out
                     have cy2 := HY.out w2 B2.out
                     clear H g2 hk2 hv2 cx cy
                     simp only [])
        go_region_with (go_at_call 20; refine (RE.out _ (R2.out.next (Below.refl _ _).drew)).mono ?_; rintro e w3 ⟨A3, k3, cc3, rfl, hk3, hy3, kk3⟩; simp only [])
        all_goals
          have K3 := Lib.hid hk3
          have Y3 := Lib.hid hy3
          have Q3 := Lib.hid (show Below w2.heap.size w2 w3 from (Below.refl _ _).drew.trans kk3)
          have C3 := Lib.hid (C2.out.next Q3.out)
          have B3 := Lib.hid (B2.out.trans (Q3.out.mono B2.out.size))
          have Z3 := Lib.hid (Y2.out.next Q3.out)
          rw [HNP.out] at C3
          clear hk3 hy3 kk3 cx2 cy2 hdr
          go_wp2_with (first
            | (go_at_call 11; (with_reducible refine (bytes_n A2 A3 cc2 cc3 k2 k3 L L true _ K2.out K3.out Z3.out Y3.out (by have := K2.out; omega) (Lib.hid (decide_eq_true rfl))).mono ?_); rintro e w4 ⟨rfl, k4⟩
               have C4 := Lib.hid (C3.out.next k4)
               have B4 := Lib.hid (B3.out.trans (k4.mono B3.out.size))
               clear k4
               simp only [])
            | (go_at_call 21; (with_reducible refine (at_any w.heap.size _ _ _ _ C4.out).mono ?_); rintro e w' ⟨rfl, rfl⟩; simp only [])
            | (go_at_call 22; (with_reducible refine (left_any w.heap.size a n c np E2 _ C4.out hnpn (by simp only [maxLen]; omega)).mono ?_); rintro e w5 ⟨rfl, k5⟩
               have C5 := Lib.hid (C4.out.next k5)
               have B5 := Lib.hid (B4.out.trans (k5.mono B4.out.size))
               clear k5
               simp only [])
            | (go_at_call 23; (with_reducible refine (err_any w.heap.size _ _ _ _ C5.out).mono ?_); rintro e w' ⟨rfl, rfl⟩; simp only []))
          go_roundw
          case rel => exact ⟨i + 1, np, E2, rfl, rfl, by go_num, by omega, hnpn, C5.out, B5.out⟩
          case measure => simp [intOf]; omega
      · have hE2 : ((E : Int) == 0) = false := by simp; omega
        have DZ : Hid (∀ W, Below wr.heap.size wr W → Calls Try.prog 19 #[.pointer (some ⟨w.heap.size, 0, none⟩), .agg #[.int .i64 x, .int .i64 y]] W fun e w' => e = .returned (.tuple #[.int .i64 0, .slice none 0 0]) ∧ Below W.heap.size W w') := Lib.hid fun W k =>
          does_zero _ x y W (fun r W2 k2 => number_err w.heap.size _ p E r W2 ((C0.out.next k).next k2) (by omega)) (fun W2 k2 => cB_err w.heap.size _ p E y W2 ((C0.out.next k).next k2) (by omega))
        have TT : Hid (decide (([] : List UInt8) = []) = true) := Lib.hid (by simp)
        have hEb : (E : Int) = (E : Int) := rfl
        clear hE hEb
        go_wp2_with (first
          | (go_at_call 19; refine (DZ.out _ (Below.refl _ _)).mono ?_; rintro e w2 ⟨rfl, k2⟩
             have C2 := Lib.hid (C0.out.next k2)
             have B2 := Lib.hid (B0.out.trans (k2.mono B0.out.size))
             clear k2
             simp only [])
          | (go_at_call 11; (with_reducible refine (bytes_n none none 0 0 0 0 [] [] true _ rfl rfl (By.nil _ _) (By.nil _ _) (by omega) TT).mono ?_); rintro e w3 ⟨rfl, k3⟩
             have C3 := Lib.hid (C2.out.next k3)
             have B3 := Lib.hid (B2.out.trans (k3.mono B2.out.size))
             clear k3
             simp only [])
          | (go_at_call 21; (with_reducible refine (at_any w.heap.size _ _ _ _ C3.out).mono ?_); rintro e w' ⟨rfl, rfl⟩; simp only [])
          | (go_at_call 22; (with_reducible refine (left_any w.heap.size a n c p E _ C3.out hp (by simp only [maxLen]; omega)).mono ?_); rintro e w4 ⟨rfl, k4⟩
             have C4 := Lib.hid (C3.out.next k4)
             have B4 := Lib.hid (B3.out.trans (k4.mono B3.out.size))
             clear k4
             simp only [])
          | (go_at_call 23; (with_reducible refine (err_any w.heap.size _ _ _ _ C4.out).mono ?_); rintro e w' ⟨rfl, rfl⟩; simp only []))
        go_roundw
        case rel => exact ⟨i + 1, p, E, rfl, rfl, by go_num, by omega, hp, C4.out, B4.out⟩
        case measure => simp [intOf]; omega
    · have hmi : ¬ ((i : Int) < (m : Int)) := by omega
      clear hlt
      go_wp2_with (go_at_call 17; refine (awake_yes _).mono ?_; rintro e w9 ⟨rfl, k9⟩
                   have B9 := Lib.hid (B0.out.trans (k9.mono B0.out.size))
                   clear k9
                   simp only [])
      go_ret
      exact ⟨rfl, B9.out⟩

theorem walk (a : Option Addr) (c : Nat) (l : List UInt8) (a2 : Option Addr) (c2 : Nat) (os : List (Int × Int)) (w : World) (hc : l.length ≤ c) (_ : c ≤ maxLen) (_ : a = none → c = 0) (hb : By w a l) (_ : os.length ≤ c2) (_ : c2 ≤ maxLen) (ho : Ops w a2 os) :
    Calls Try.prog 4 #[.slice a l.length c, .slice a2 os.length c2] w fun e w' => e = .returned (.bool true) ∧ Below w.heap.size w w' := by
  by_cases h : 200 < l.length ∨ 40 < os.length
  · exact walk_out a a2 c c2 l os w h
  · exact walk_few a a2 c c2 l os w (by omega) (by omega) hc hb ho
end wireReads
end Go.Proofs.Ytdepbhikkjfcjaa
