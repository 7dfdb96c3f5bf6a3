/- The law DayformRises, walked: it returns true for every input, and nothing that was in memory changes. Written by wip/tools/genris.py. -/
import Derived.Test.YtddoapenhlkamaaDoorDfT
namespace Go.Proofs.YtddoapenhlkamaaDoor
open Go.RowKit

theorem rise_at {wk n y m a b c : Int} (h : DateIs 2 wk n y m a b c 0) : 0 ≤ wk ∧ wk ≤ 6 ∧ okD a b c ∧ dayN a b c = upD (dayN y m 1 - 1 + n) wk := by
  obtain ⟨h1, h2, h3⟩ := date_there h
  exact ⟨by have := h1.1; unfold dfD at this; omega, by have := h1.1; unfold dfD at this; omega, h2, h3⟩
theorem rise_days {wk n y m a1 b1 c1 a2 b2 c2 a3 b3 c3 : Int} (h : DateIs 2 wk n y m a1 b1 c1 0) (h' : DateIs 2 wk (n + 1) y m a2 b2 c2 0) (h'' : DateIs 2 wk (n + 7) y m a3 b3 c3 0) :
    (dayN a2 b2 c2 = dayN a1 b1 c1 ∨ dayN a2 b2 c2 = dayN a1 b1 c1 + 7) ∧ dayN a3 b3 c3 = dayN a1 b1 c1 + 7 := by
  obtain ⟨w0, w6, _, e1⟩ := rise_at h
  obtain ⟨_, _, _, e2⟩ := rise_at h'
  obtain ⟨_, _, _, e3⟩ := rise_at h''
  rw [← Int.add_assoc] at e2 e3
  rw [e1, e2, e3, up_week]
  exact ⟨up_one _ _, rfl⟩
theorem days_of {wk n y m a b c : Int} (h : DateIs 2 wk n y m a b c 0) (x : Int) (hx : dayN a b c = x) : Hid (∀ W, AhAt W → Calls Tryd.prog 8 #[.agg #[.int .i64 a, .int .i64 b, .int .i64 c]] W fun e w' => e = .returned (.tuple #[.int .i64 x, .int .i64 0]) ∧ Below W.heap.size W w') :=
  Lib.hid fun W hW => hx ▸ Days_yes a b c W hW (rise_at h).2.2.1

set_option maxHeartbeats 3200000 in
theorem dayformRises_walk (wk n p q : Int) (w : World) (hA : LaidF w) :
    Calls Tryd.prog 5 #[.int .i64 wk, .int .i64 n, .agg #[.int .i64 p, .int .i64 q]] w fun e w' => e = .returned (.bool true) ∧ Below w.heap.size w w' := by
  have P0 := Lib.hid (Duo.new w p q 35)
  have HA := Lib.hid hA
  clear hA
  rcases dcases n 1 21 with ⟨c1, _⟩ | ⟨c1, c2, _⟩ | ⟨c1, c2, HN⟩
  · have c3 : decide (n < 1) = true := by simp at c1 ⊢; omega
    clear c1
    go_enter Tryd.func5, Tryd.ntmps5
    go_wp2_with (go_at_call 7; refine (dawake_any _ (HA.out.next P0.out.bel)).mono ?_; rintro e w1 ⟨rfl, k1⟩)
    go_ret
    exact ⟨rfl, (P0.out.next k1).bel⟩
  · have c3 : decide (n < 1) = false := by simp at c1 ⊢; omega
    have c4 : decide (21 < n) = true := by simp at c2 ⊢; omega
    clear c1 c2
    go_enter Tryd.func5, Tryd.ntmps5
    go_wp2_with (go_at_call 7; refine (dawake_any _ (HA.out.next P0.out.bel)).mono ?_; rintro e w1 ⟨rfl, k1⟩)
    go_ret
    exact ⟨rfl, (P0.out.next k1).bel⟩
  · have c3 : decide (n < 1) = false := by simp at c1 ⊢; omega
    have c4 : decide (21 < n) = false := by simp at c2 ⊢; omega
    have hb := HN.out
    obtain ⟨hb1, hb2⟩ := hb
    clear c1 c2
    obtain ⟨a1, b1, c1, e1, D1⟩ := dateis_ex 2 wk n p q
    obtain ⟨a2, b2, c2, e2, D2⟩ := dateis_ex 2 wk (n + 1) p q
    obtain ⟨a3, b3, r3, e3, D3⟩ := dateis_ex 2 wk (n + 7) p q
    have hI1 := Lib.hid D1
    have hI2 := Lib.hid D2
    have hI3 := Lib.hid D3
    have hE1 := date_e D1
    have hE2 := date_e D2
    have hE3 := date_e D3
    clear D1 D2 D3
    rcases hE1 with rfl | hE1
    · rcases hE2 with rfl | hE2
      · rcases hE3 with rfl | hE3
        · have RD := rise_days hI1.out hI2.out hI3.out
          have hbd := day_bd (rise_at hI1.out).2.2.1
          obtain ⟨x, hx⟩ : ∃ x, dayN a1 b1 c1 = x := ⟨_, rfl⟩
          obtain ⟨y, hy⟩ : ∃ y, dayN a2 b2 c2 = y := ⟨_, rfl⟩
          obtain ⟨z, hz⟩ : ∃ z, dayN a3 b3 r3 = z := ⟨_, rfl⟩
          have DX := days_of hI1.out x hx
          have DY := days_of hI2.out y hy
          have DZ := days_of hI3.out z hz
          rw [hx, hy, hz] at RD
          rw [hx] at hbd
          clear hx hy hz
          obtain ⟨hbd1, hbd2⟩ := hbd
          obtain ⟨RD, rfl⟩ := RD
          have xne : (x + 7 == x) = false := by simp; omega
          rcases RD with rfl | rfl
          all_goals
            go_enter Tryd.func5, Tryd.ntmps5
            go_wp2_with (first
              | (go_at_call 6; with_reducible refine (din_is 2 wk n p q a1 b1 c1 0 _ (HA.out.next P0.out.bel) hI1).mono ?_; rintro e w1 ⟨rfl, k1⟩
                 have P1 := Lib.hid (P0.out.next k1)
                 have X1 := Lib.hid (Trp.make P1.out.bel a1 b1 c1 25)
                 clear k1
                 have plt := P1.out.lt
                 have pc0 := P1.out.c0
                 have pc1 := P1.out.c1)
              | (go_at_call 6; with_reducible refine (din_is 2 wk (n + 1) p q a2 b2 c2 0 _ (HA.out.next X1.out.bel) hI2).mono ?_; rintro e w2 ⟨rfl, k2⟩
                 have P2 := Lib.hid ((P1.out.more _).next k2)
                 have X2 := Lib.hid (X1.out.next k2)
                 have Y2 := Lib.hid (Trp.make X2.out.bel a2 b2 c2 25)
                 clear k2 P1 X1 plt pc0 pc1
                 have plt := P2.out.lt
                 have pc0 := P2.out.c0
                 have pc1 := P2.out.c1
                 have xlt := X2.out.lt
                 have xc0 := X2.out.c0
                 have xc1 := X2.out.c1
                 have xc2 := X2.out.c2)
              | (go_at_call 6; with_reducible refine (din_is 2 wk (n + 7) p q a3 b3 r3 0 _ (HA.out.next Y2.out.bel) hI3).mono ?_; rintro e w3 ⟨rfl, k3⟩
                 have X3 := Lib.hid ((X2.out.more _).next k3)
                 have Y3 := Lib.hid (Y2.out.next k3)
                 have Z3 := Lib.hid (Trp.make Y3.out.bel a3 b3 r3 25)
                 clear k3 P2 X2 Y2 plt pc0 pc1 xlt xc0 xc1 xc2
                 have xlt := X3.out.lt
                 have xc0 := X3.out.c0
                 have xc1 := X3.out.c1
                 have xc2 := X3.out.c2
                 have ylt := Y3.out.lt
                 have yc0 := Y3.out.c0
                 have yc1 := Y3.out.c1
                 have yc2 := Y3.out.c2)
              | (go_at_call 8; with_reducible refine (DX.out _ (HA.out.next Z3.out.bel).ah).mono ?_; rintro e w4 ⟨rfl, k4⟩
                 have Y4 := Lib.hid ((Y3.out.more _).next k4)
                 have Z4 := Lib.hid (Z3.out.next k4)
                 clear k4 X3 Y3 Z3 xlt xc0 xc1 xc2 ylt yc0 yc1 yc2
                 have ylt := Y4.out.lt
                 have yc0 := Y4.out.c0
                 have yc1 := Y4.out.c1
                 have yc2 := Y4.out.c2
                 have zlt := Z4.out.lt
                 have zc0 := Z4.out.c0
                 have zc1 := Z4.out.c1
                 have zc2 := Z4.out.c2)
              | (go_at_call 8; with_reducible refine (DY.out _ (HA.out.next Z4.out.bel).ah).mono ?_; rintro e w5 ⟨rfl, k5⟩
                 have Z5 := Lib.hid (Z4.out.next k5)
                 clear k5 Y4 Z4 ylt yc0 yc1 yc2 zlt zc0 zc1 zc2
                 have zlt := Z5.out.lt
                 have zc0 := Z5.out.c0
                 have zc1 := Z5.out.c1
                 have zc2 := Z5.out.c2)
              | (go_at_call 8; with_reducible refine (DZ.out _ (HA.out.next Z5.out.bel).ah).mono ?_; rintro e w6 ⟨rfl, k6⟩
                 have Z6 := Lib.hid (Z5.out.next k6)
                 clear k6 Z5 zlt zc0 zc1 zc2)
              | (go_at_call 7; refine (dawake_any _ (HA.out.next Z6.out.bel)).mono ?_; rintro e w7 ⟨rfl, k7⟩
                 have Z7 := Lib.hid (Z6.out.next k7)
                 clear k7))
            go_ret
            exact ⟨rfl, Z7.out.bel⟩
        · have hE4 : (e3 != 0) = true := by simpa using hE3
          go_enter Tryd.func5, Tryd.ntmps5
          go_wp2_with (first
            | (go_at_call 6; with_reducible refine (din_is 2 wk n p q a1 b1 c1 0 _ (HA.out.next P0.out.bel) hI1).mono ?_; rintro e w1 ⟨rfl, k1⟩
               have P1 := Lib.hid (P0.out.next k1)
               have X1 := Lib.hid (Trp.make P1.out.bel a1 b1 c1 25)
               clear k1
               have plt := P1.out.lt
               have pc0 := P1.out.c0
               have pc1 := P1.out.c1)
            | (go_at_call 6; with_reducible refine (din_is 2 wk (n + 1) p q a2 b2 c2 0 _ (HA.out.next X1.out.bel) hI2).mono ?_; rintro e w2 ⟨rfl, k2⟩
               have P2 := Lib.hid ((P1.out.more _).next k2)
               have X2 := Lib.hid (X1.out.next k2)
               have Y2 := Lib.hid (Trp.make X2.out.bel a2 b2 c2 25)
               clear k2 P1 X1 plt pc0 pc1
               have plt := P2.out.lt
               have pc0 := P2.out.c0
               have pc1 := P2.out.c1
               have xlt := X2.out.lt
               have xc0 := X2.out.c0
               have xc1 := X2.out.c1
               have xc2 := X2.out.c2)
            | (go_at_call 6; with_reducible refine (din_is 2 wk (n + 7) p q a3 b3 r3 e3 _ (HA.out.next Y2.out.bel) hI3).mono ?_; rintro e w3 ⟨rfl, k3⟩
               have X3 := Lib.hid ((X2.out.more _).next k3)
               have Y3 := Lib.hid (Y2.out.next k3)
               have Z3 := Lib.hid (Trp.make Y3.out.bel a3 b3 r3 25)
               clear k3 P2 X2 Y2 plt pc0 pc1 xlt xc0 xc1 xc2
               have xlt := X3.out.lt
               have xc0 := X3.out.c0
               have xc1 := X3.out.c1
               have xc2 := X3.out.c2
               have ylt := Y3.out.lt
               have yc0 := Y3.out.c0
               have yc1 := Y3.out.c1
               have yc2 := Y3.out.c2)
            | (go_at_call 7; refine (dawake_any _ (HA.out.next Z3.out.bel)).mono ?_; rintro e w7 ⟨rfl, k7⟩
               have Z7 := Lib.hid (Z3.out.next k7)
               clear k7))
          go_ret
          exact ⟨rfl, Z7.out.bel⟩
      · have hE4 : (e2 != 0) = true := by simpa using hE2
        clear hE3
        go_enter Tryd.func5, Tryd.ntmps5
        go_wp2_with (first
          | (go_at_call 6; with_reducible refine (din_is 2 wk n p q a1 b1 c1 0 _ (HA.out.next P0.out.bel) hI1).mono ?_; rintro e w1 ⟨rfl, k1⟩
             have P1 := Lib.hid (P0.out.next k1)
             have X1 := Lib.hid (Trp.make P1.out.bel a1 b1 c1 25)
             clear k1
             have plt := P1.out.lt
             have pc0 := P1.out.c0
             have pc1 := P1.out.c1)
          | (go_at_call 6; with_reducible refine (din_is 2 wk (n + 1) p q a2 b2 c2 e2 _ (HA.out.next X1.out.bel) hI2).mono ?_; rintro e w2 ⟨rfl, k2⟩
             have P2 := Lib.hid ((P1.out.more _).next k2)
             have X2 := Lib.hid (X1.out.next k2)
             have Y2 := Lib.hid (Trp.make X2.out.bel a2 b2 c2 25)
             clear k2 P1 X1 plt pc0 pc1
             have plt := P2.out.lt
             have pc0 := P2.out.c0
             have pc1 := P2.out.c1
             have xlt := X2.out.lt
             have xc0 := X2.out.c0
             have xc1 := X2.out.c1
             have xc2 := X2.out.c2)
          | (go_at_call 6; with_reducible refine (din_is 2 wk (n + 7) p q a3 b3 r3 e3 _ (HA.out.next Y2.out.bel) hI3).mono ?_; rintro e w3 ⟨rfl, k3⟩
             have X3 := Lib.hid ((X2.out.more _).next k3)
             have Y3 := Lib.hid (Y2.out.next k3)
             have Z3 := Lib.hid (Trp.make Y3.out.bel a3 b3 r3 25)
             clear k3 P2 X2 Y2 plt pc0 pc1 xlt xc0 xc1 xc2
             have xlt := X3.out.lt
             have xc0 := X3.out.c0
             have xc1 := X3.out.c1
             have xc2 := X3.out.c2
             have ylt := Y3.out.lt
             have yc0 := Y3.out.c0
             have yc1 := Y3.out.c1
             have yc2 := Y3.out.c2)
          | (go_at_call 7; refine (dawake_any _ (HA.out.next Z3.out.bel)).mono ?_; rintro e w7 ⟨rfl, k7⟩
             have Z7 := Lib.hid (Z3.out.next k7)
             clear k7))
        go_ret
        exact ⟨rfl, Z7.out.bel⟩
    · have hE4 : (e1 != 0) = true := by simpa using hE1
      clear hE2 hE3
      go_enter Tryd.func5, Tryd.ntmps5
      go_wp2_with (first
        | (go_at_call 6; with_reducible refine (din_is 2 wk n p q a1 b1 c1 e1 _ (HA.out.next P0.out.bel) hI1).mono ?_; rintro e w1 ⟨rfl, k1⟩
           have P1 := Lib.hid (P0.out.next k1)
           have X1 := Lib.hid (Trp.make P1.out.bel a1 b1 c1 25)
           clear k1
           have plt := P1.out.lt
           have pc0 := P1.out.c0
           have pc1 := P1.out.c1)
        | (go_at_call 6; with_reducible refine (din_is 2 wk (n + 1) p q a2 b2 c2 e2 _ (HA.out.next X1.out.bel) hI2).mono ?_; rintro e w2 ⟨rfl, k2⟩
           have P2 := Lib.hid ((P1.out.more _).next k2)
           have X2 := Lib.hid (X1.out.next k2)
           have Y2 := Lib.hid (Trp.make X2.out.bel a2 b2 c2 25)
           clear k2 P1 X1 plt pc0 pc1
           have plt := P2.out.lt
           have pc0 := P2.out.c0
           have pc1 := P2.out.c1
           have xlt := X2.out.lt
           have xc0 := X2.out.c0
           have xc1 := X2.out.c1
           have xc2 := X2.out.c2)
        | (go_at_call 6; with_reducible refine (din_is 2 wk (n + 7) p q a3 b3 r3 e3 _ (HA.out.next Y2.out.bel) hI3).mono ?_; rintro e w3 ⟨rfl, k3⟩
           have X3 := Lib.hid ((X2.out.more _).next k3)
           have Y3 := Lib.hid (Y2.out.next k3)
           have Z3 := Lib.hid (Trp.make Y3.out.bel a3 b3 r3 25)
           clear k3 P2 X2 Y2 plt pc0 pc1 xlt xc0 xc1 xc2
           have xlt := X3.out.lt
           have xc0 := X3.out.c0
           have xc1 := X3.out.c1
           have xc2 := X3.out.c2
           have ylt := Y3.out.lt
           have yc0 := Y3.out.c0
           have yc1 := Y3.out.c1
           have yc2 := Y3.out.c2)
        | (go_at_call 7; refine (dawake_any _ (HA.out.next Z3.out.bel)).mono ?_; rintro e w7 ⟨rfl, k7⟩
           have Z7 := Lib.hid (Z3.out.next k7)
           clear k7))
      go_ret
      exact ⟨rfl, Z7.out.bel⟩
end Go.Proofs.YtddoapenhlkamaaDoor
