/- The law DayformWeeks, walked: it returns true for every input, and nothing that was in memory changes. Written by wip/tools/genwks.py. -/
import Derived.Test.YtddoapenhlkamaaDoorDfT
namespace Go.Proofs.YtddoapenhlkamaaDoor
open Go.RowKit

theorem lg_of {k wk n y m a b c : Int} (h : DateIs k wk n y m a b c 0) (g : Int) (hg : dim y m = g) : Hid (∀ W, AhAt W → Calls Tryd.prog 9 #[.int .i64 y, .int .i64 m] W fun e w' => e = .returned (.tuple #[.int .i64 g, .int .i64 0]) ∧ Below W.heap.size W w') := by
  obtain ⟨⟨_, hm, _⟩, _⟩ := date_there h
  exact Lib.hid fun W hW => hg ▸ Long_yes y m W hW ⟨hm.1, hm.2.1, hm.2.2.1, hm.2.2.2.1⟩
theorem dx_of {k wk n y m a b c : Int} (h : DateIs k wk n y m a b c 0) (x : Int) (hx : dayN a b c = x) : Hid (∀ W, AhAt W → Calls Tryd.prog 8 #[.agg #[.int .i64 a, .int .i64 b, .int .i64 c]] W fun e w' => e = .returned (.tuple #[.int .i64 x, .int .i64 0]) ∧ Below W.heap.size W w') :=
  Lib.hid fun W hW => hx ▸ Days_yes a b c W hW (date_there h).2.1
theorem dt_of {k wk n y m a b c : Int} (h : DateIs k wk n y m a b c 0) (n' t : Int) (hn : n' = if k = 1 then dim y m else n) (ht : atD k n y m = t) : Hid (∀ W, AhAt W → Calls Tryd.prog 8 #[.agg #[.int .i64 y, .int .i64 m, .int .i64 n']] W fun e w' => e = .returned (.tuple #[.int .i64 t, .int .i64 0]) ∧ Below W.heap.size W w') := by
  obtain ⟨⟨hd, hm, _⟩, _⟩ := date_there h
  have ha := at_date k wk n y m hd hm
  subst hn
  exact Lib.hid fun W hW => (ha.2.trans ht) ▸ Days_yes y m _ W hW ha.1
theorem wk_of (x wk : Int) (h : wkD x = wk) (hx : inR x) : Hid (∀ W, Calls Tryd.prog 10 #[.int .i64 x] W fun e w' => e = .returned (.int .i64 wk) ∧ w' = W) := by
  unfold inR at hx
  exact Lib.hid fun W => (week_quiet x W (by omega) (by omega)).mono fun e w' ⟨h1, h2⟩ => ⟨by rw [h1, h], h2.symm⟩
/-- The day, and where it is told. -/
theorem week_facts {k wk n y m a b c : Int} (h : DateIs k wk n y m a b c 0) : inR (dayN a b c) ∧ inR (atD k n y m) ∧ (k ≠ 0 → wkD (dayN a b c) = wk) ∧ (k = 0 → dayN a b c = atD k n y m) ∧ (k = 2 → atD k n y m ≤ dayN a b c ∧ dayN a b c ≤ atD k n y m + 6) ∧ (k = 1 ∨ k = 3 → dayN a b c ≤ atD k n y m ∧ atD k n y m ≤ dayN a b c + 6) := by
  obtain ⟨⟨hd, hm, _⟩, hok, ht⟩ := date_there h
  have ha := at_date k wk n y m hd hm
  have hr : inR (atD k n y m) := ha.2 ▸ day_bd ha.1
  have hx : inR (dayN a b c) := day_bd hok
  unfold tgtD hitD at ht
  have h0 : 0 ≤ wk ∧ wk ≤ 6 := by unfold dfD at hd; omega
  have u := up_spec (atD k n y m) wk h0.1 h0.2
  have v := dn_spec (atD k n y m) wk h0.1 h0.2
  refine ⟨hx, hr, ?_, ?_, ?_, ?_⟩
  · intro hk
    rw [if_neg hk] at ht
    by_cases h2 : k = 2
    · rw [if_pos h2] at ht; rw [ht]; exact u.1
    · rw [if_neg h2] at ht; rw [ht]; exact v.1
  · intro hk
    rw [if_pos hk] at ht; exact ht
  · intro hk
    rw [if_neg (by omega), if_pos hk] at ht
    rw [ht]; exact ⟨u.2.1, u.2.2⟩
  · intro hk
    rw [if_neg (by omega), if_neg (by omega)] at ht
    rw [ht]; exact ⟨v.2.1, v.2.2⟩
/-- The last one of a month is the one that is no greater than its length; it lies in its last week. -/
theorem last_facts {wk n y m a b c : Int} (h : DateIs 1 wk n y m a b c 0) : DateIs 3 wk (dim y m) y m a b c 0 ∧ b = m ∧ dim y m - 7 < c := by
  obtain ⟨⟨hd, hm, hr⟩, hok, ht⟩ := date_there h
  obtain ⟨h1, h2, h3, h4, h5⟩ := hm
  have hb := dim_bd y m h3 h4
  have hw : 0 ≤ wk ∧ wk ≤ 6 := by unfold dfD at hd; omega
  have e : tgtD 3 wk (dim y m) y m = tgtD 1 wk n y m := by
    show dnD (dayN y m 1 - 1 + dim y m) wk = dnD (atD 1 n y m) wk
    rfl
  have v := dn_spec (dayN y m 1 - 1 + dim y m) wk hw.1 hw.2
  have ht' : dayN a b c = dnD (dayN y m 1 - 1 + dim y m) wk := ht
  refine ⟨.inl ⟨rfl, ⟨by unfold dfD; omega, ⟨h1, h2, h3, h4, Int.le_refl _⟩, by rw [e]; exact hr⟩, hok, by rw [e]; exact ht⟩, ?_⟩
  obtain ⟨j, hj⟩ : ∃ j, dayN a b c - (dayN y m 1 - 1) = j := ⟨_, rfl⟩
  have hk : okD y m j := ⟨h1, h2, h3, h4, by omega, by omega⟩
  have hd2 : dayN y m j = dayN a b c := by rw [day_one]; omega
  obtain ⟨_, e2, e3⟩ := day_inj hk hok hd2
  exact ⟨e2.symm, by omega⟩

set_option maxHeartbeats 3200000 in
theorem dayformWeeks_walk (k wk n y m : Int) (w : World) (hA : LaidF w) :
    Calls Tryd.prog 3 #[.agg #[.int .i64 k, .int .i64 wk, .int .i64 n], .int .i64 y, .int .i64 m] w fun e w' => e = .returned (.bool true) ∧ Below w.heap.size w w' := by
  have P0 := Lib.hid (Trp.new w k wk n 23)
  have HA := Lib.hid hA
  clear hA
  obtain ⟨a, b, c, e0, D1⟩ := dateis_ex k wk n y m
  have hI1 := Lib.hid D1
  rcases date_e D1 with rfl | hE
  · have hk := (date_there D1).1.1
    have WF := week_facts D1
    obtain ⟨x, hx⟩ : ∃ x, dayN a b c = x := ⟨_, rfl⟩
    obtain ⟨t, ht⟩ : ∃ t, atD k n y m = t := ⟨_, rfl⟩
    obtain ⟨g, hg⟩ : ∃ g, dim y m = g := ⟨_, rfl⟩
    have hgb := dim_bd y m (date_there D1).1.2.1.2.2.1 (date_there D1).1.2.1.2.2.2.1
    have DX := dx_of D1 x hx
    have LG := lg_of D1 g hg
    rw [hx, ht] at WF
    rw [hg] at hgb
    obtain ⟨w1, w2, w3, w4, w5, w6⟩ := WF
    have hxb := w1
    have htb := w2
    unfold inR at hxb htb
    obtain ⟨x1, x2⟩ := hxb
    obtain ⟨t1, t2⟩ := htb
    obtain ⟨g1, g2⟩ := hgb
    have hk4 : k = 0 ∨ k = 1 ∨ k = 2 ∨ k = 3 := by unfold dfD at hk; omega
    rcases hk4 with rfl | rfl | rfl | rfl
    · have DT := dt_of D1 n t rfl ht
      obtain rfl := w4 rfl
      clear D1 hk hx ht hg w1 w2 w3 w4 w5 w6
      go_enter Tryd.func3, Tryd.ntmps3
      go_wp2_with (first
        | (go_at_call 6; with_reducible refine (din_is 0 wk n y m a b c 0 _ (HA.out.next P0.out.bel) hI1).mono ?_; rintro e w1 ⟨rfl, k1⟩
           have P1 := Lib.hid (P0.out.next k1)
           have X1 := Lib.hid (Trp.make P1.out.bel a b c 25)
           clear k1
           have plt := P1.out.lt
           have pc0 := P1.out.c0
           have pc1 := P1.out.c1
           have pc2 := P1.out.c2)
        | (go_at_call 8; with_reducible refine (DX.out _ (HA.out.next X1.out.bel).ah).mono ?_; rintro e w2 ⟨rfl, k2⟩
           have P2 := Lib.hid ((P1.out.more _).next k2)
           have X2 := Lib.hid (X1.out.next k2)
           clear k2 P1 X1 plt pc0 pc1 pc2
           have plt := P2.out.lt
           have pc0 := P2.out.c0
           have pc1 := P2.out.c1
           have pc2 := P2.out.c2
           have xlt := X2.out.lt
           have xc0 := X2.out.c0
           have xc1 := X2.out.c1
           have xc2 := X2.out.c2)
        | (go_at_call 9; with_reducible refine (LG.out _ (HA.out.next X2.out.bel).ah).mono ?_; rintro e w3 ⟨rfl, k3⟩
           have P3 := Lib.hid (P2.out.next k3)
           have X3 := Lib.hid (X2.out.next k3)
           clear k3 P2 X2 plt pc0 pc1 pc2 xlt xc0 xc1 xc2
           have plt := P3.out.lt
           have pc0 := P3.out.c0
           have pc1 := P3.out.c1
           have pc2 := P3.out.c2
           have xlt := X3.out.lt
           have xc0 := X3.out.c0
           have xc1 := X3.out.c1
           have xc2 := X3.out.c2)
        | (go_at_call 8; with_reducible refine (DT.out _ (HA.out.next X3.out.bel).ah).mono ?_; rintro e w5 ⟨rfl, k5⟩
           have P5 := Lib.hid (P3.out.next k5)
           have X5 := Lib.hid (X3.out.next k5)
           clear k5 P3 X3 plt pc0 pc1 pc2 xlt xc0 xc1 xc2
           have plt := P5.out.lt
           have pc0 := P5.out.c0
           have pc1 := P5.out.c1
           have pc2 := P5.out.c2
           have xlt := X5.out.lt
           have xc0 := X5.out.c0
           have xc1 := X5.out.c1
           have xc2 := X5.out.c2)
        | (go_at_call 7; refine (dawake_any _ (HA.out.next X5.out.bel)).mono ?_; rintro e w6 ⟨rfl, k6⟩
           have X6 := Lib.hid (X5.out.next k6)
           clear k6))
      go_ret
      exact ⟨rfl, X6.out.bel⟩
    · have DT := dt_of D1 g t (by rw [if_pos rfl, hg]) ht
      have LF := last_facts D1
      rw [hg] at LF
      obtain ⟨L1, rfl, L3⟩ := LF
      have hI2 := Lib.hid L1
      have WK := wk_of x wk (w3 (by decide)) w1
      obtain ⟨r1, r2⟩ := w6 (.inl rfl)
      clear D1 hk hx ht hg w1 w2 w3 w4 w5 w6 L1
      go_enter Tryd.func3, Tryd.ntmps3
      go_wp2_with (first
        | (go_at_call 6; with_reducible refine (din_is 1 wk n y b a b c 0 _ (HA.out.next P0.out.bel) hI1).mono ?_; rintro e w1 ⟨rfl, k1⟩
           have P1 := Lib.hid (P0.out.next k1)
           have X1 := Lib.hid (Trp.make P1.out.bel a b c 25)
           clear k1
           have plt := P1.out.lt
           have pc0 := P1.out.c0
           have pc1 := P1.out.c1
           have pc2 := P1.out.c2)
        | (go_at_call 8; with_reducible refine (DX.out _ (HA.out.next X1.out.bel).ah).mono ?_; rintro e w2 ⟨rfl, k2⟩
           have P2 := Lib.hid ((P1.out.more _).next k2)
           have X2 := Lib.hid (X1.out.next k2)
           clear k2 P1 X1 plt pc0 pc1 pc2
           have plt := P2.out.lt
           have pc0 := P2.out.c0
           have pc1 := P2.out.c1
           have pc2 := P2.out.c2
           have xlt := X2.out.lt
           have xc0 := X2.out.c0
           have xc1 := X2.out.c1
           have xc2 := X2.out.c2)
        | (go_at_call 9; with_reducible refine (LG.out _ (HA.out.next X2.out.bel).ah).mono ?_; rintro e w3 ⟨rfl, k3⟩
           have P3 := Lib.hid (P2.out.next k3)
           have X3 := Lib.hid (X2.out.next k3)
           clear k3 P2 X2 plt pc0 pc1 pc2 xlt xc0 xc1 xc2
           have plt := P3.out.lt
           have pc0 := P3.out.c0
           have pc1 := P3.out.c1
           have pc2 := P3.out.c2
           have xlt := X3.out.lt
           have xc0 := X3.out.c0
           have xc1 := X3.out.c1
           have xc2 := X3.out.c2)
        | (go_at_call 6; with_reducible refine (din_is 3 wk g y b a b c 0 _ (HA.out.next X3.out.bel) hI2).mono ?_; rintro e w4 ⟨rfl, k4⟩
           have P4 := Lib.hid ((P3.out.next k4).more (.cells #[.int .i64 a, .int .i64 b, .int .i64 c] 25))
           have X4a := Lib.hid (X3.out.next k4)
           have X4 := Lib.hid (X4a.out.more (.cells #[.int .i64 a, .int .i64 b, .int .i64 c] 25))
           have P4a := Lib.hid (P3.out.next k4)
           clear k4 P3 X3 plt pc0 pc1 pc2 xlt xc0 xc1 xc2
           have plt := P4a.out.lt
           have pc0 := P4a.out.c0
           have pc1 := P4a.out.c1
           have pc2 := P4a.out.c2
           have xlt := X4a.out.lt
           have xc0 := X4a.out.c0
           have xc1 := X4a.out.c1
           have xc2 := X4a.out.c2)
        | (go_at_call 8; with_reducible refine (DT.out _ (HA.out.next X4.out.bel).ah).mono ?_; rintro e w5 ⟨rfl, k5⟩
           have P5 := Lib.hid (P4.out.next k5)
           have X5 := Lib.hid (X4.out.next k5)
           clear k5 P4 X4 plt pc0 pc1 pc2 xlt xc0 xc1 xc2 P4a X4a
           have plt := P5.out.lt
           have pc0 := P5.out.c0
           have pc1 := P5.out.c1
           have pc2 := P5.out.c2
           have xlt := X5.out.lt
           have xc0 := X5.out.c0
           have xc1 := X5.out.c1
           have xc2 := X5.out.c2))
      go_quiet ((go_at_call 10; exact Calls.quiet_of_same (WK.out _)))
      have X7 := Lib.hid (X5.out.next (drawn_below _ w5 nq))
      go_wp2_with (go_at_call 7; refine (dawake_any _ (HA.out.next X7.out.bel)).mono ?_; rintro e w6 ⟨rfl, k6⟩)
      go_ret
      exact ⟨rfl, (X7.out.next k6).bel⟩
    · have DT := dt_of D1 n t (by rw [if_neg (by decide)]) ht
      have WK := wk_of x wk (w3 (by decide)) w1
      obtain ⟨r1, r2⟩ := w5 rfl
      clear D1 hk hx ht hg w1 w2 w3 w4 w5 w6
      go_enter Tryd.func3, Tryd.ntmps3
      go_wp2_with (first
        | (go_at_call 6; with_reducible refine (din_is 2 wk n y m a b c 0 _ (HA.out.next P0.out.bel) hI1).mono ?_; rintro e w1 ⟨rfl, k1⟩
           have P1 := Lib.hid (P0.out.next k1)
           have X1 := Lib.hid (Trp.make P1.out.bel a b c 25)
           clear k1
           have plt := P1.out.lt
           have pc0 := P1.out.c0
           have pc1 := P1.out.c1
           have pc2 := P1.out.c2)
        | (go_at_call 8; with_reducible refine (DX.out _ (HA.out.next X1.out.bel).ah).mono ?_; rintro e w2 ⟨rfl, k2⟩
           have P2 := Lib.hid ((P1.out.more _).next k2)
           have X2 := Lib.hid (X1.out.next k2)
           clear k2 P1 X1 plt pc0 pc1 pc2
           have plt := P2.out.lt
           have pc0 := P2.out.c0
           have pc1 := P2.out.c1
           have pc2 := P2.out.c2
           have xlt := X2.out.lt
           have xc0 := X2.out.c0
           have xc1 := X2.out.c1
           have xc2 := X2.out.c2)
        | (go_at_call 9; with_reducible refine (LG.out _ (HA.out.next X2.out.bel).ah).mono ?_; rintro e w3 ⟨rfl, k3⟩
           have P3 := Lib.hid (P2.out.next k3)
           have X3 := Lib.hid (X2.out.next k3)
           clear k3 P2 X2 plt pc0 pc1 pc2 xlt xc0 xc1 xc2
           have plt := P3.out.lt
           have pc0 := P3.out.c0
           have pc1 := P3.out.c1
           have pc2 := P3.out.c2
           have xlt := X3.out.lt
           have xc0 := X3.out.c0
           have xc1 := X3.out.c1
           have xc2 := X3.out.c2)
        | (go_at_call 8; with_reducible refine (DT.out _ (HA.out.next X3.out.bel).ah).mono ?_; rintro e w5 ⟨rfl, k5⟩
           have P5 := Lib.hid (P3.out.next k5)
           have X5 := Lib.hid (X3.out.next k5)
           clear k5 P3 X3 plt pc0 pc1 pc2 xlt xc0 xc1 xc2
           have plt := P5.out.lt
           have pc0 := P5.out.c0
           have pc1 := P5.out.c1
           have pc2 := P5.out.c2
           have xlt := X5.out.lt
           have xc0 := X5.out.c0
           have xc1 := X5.out.c1
           have xc2 := X5.out.c2))
      go_quiet ((go_at_call 10; exact Calls.quiet_of_same (WK.out _)))
      have X7 := Lib.hid (X5.out.next (drawn_below _ w5 nq))
      go_wp2_with (go_at_call 7; refine (dawake_any _ (HA.out.next X7.out.bel)).mono ?_; rintro e w6 ⟨rfl, k6⟩)
      go_ret
      exact ⟨rfl, (X7.out.next k6).bel⟩
    · have DT := dt_of D1 n t (by rw [if_neg (by decide)]) ht
      have WK := wk_of x wk (w3 (by decide)) w1
      obtain ⟨r1, r2⟩ := w6 (.inr rfl)
      clear D1 hk hx ht hg w1 w2 w3 w4 w5 w6
      go_enter Tryd.func3, Tryd.ntmps3
      go_wp2_with (first
        | (go_at_call 6; with_reducible refine (din_is 3 wk n y m a b c 0 _ (HA.out.next P0.out.bel) hI1).mono ?_; rintro e w1 ⟨rfl, k1⟩
           have P1 := Lib.hid (P0.out.next k1)
           have X1 := Lib.hid (Trp.make P1.out.bel a b c 25)
           clear k1
           have plt := P1.out.lt
           have pc0 := P1.out.c0
           have pc1 := P1.out.c1
           have pc2 := P1.out.c2)
        | (go_at_call 8; with_reducible refine (DX.out _ (HA.out.next X1.out.bel).ah).mono ?_; rintro e w2 ⟨rfl, k2⟩
           have P2 := Lib.hid ((P1.out.more _).next k2)
           have X2 := Lib.hid (X1.out.next k2)
           clear k2 P1 X1 plt pc0 pc1 pc2
           have plt := P2.out.lt
           have pc0 := P2.out.c0
           have pc1 := P2.out.c1
           have pc2 := P2.out.c2
           have xlt := X2.out.lt
           have xc0 := X2.out.c0
           have xc1 := X2.out.c1
           have xc2 := X2.out.c2)
        | (go_at_call 9; with_reducible refine (LG.out _ (HA.out.next X2.out.bel).ah).mono ?_; rintro e w3 ⟨rfl, k3⟩
           have P3 := Lib.hid (P2.out.next k3)
           have X3 := Lib.hid (X2.out.next k3)
           clear k3 P2 X2 plt pc0 pc1 pc2 xlt xc0 xc1 xc2
           have plt := P3.out.lt
           have pc0 := P3.out.c0
           have pc1 := P3.out.c1
           have pc2 := P3.out.c2
           have xlt := X3.out.lt
           have xc0 := X3.out.c0
           have xc1 := X3.out.c1
           have xc2 := X3.out.c2)
        | (go_at_call 8; with_reducible refine (DT.out _ (HA.out.next X3.out.bel).ah).mono ?_; rintro e w5 ⟨rfl, k5⟩
           have P5 := Lib.hid (P3.out.next k5)
           have X5 := Lib.hid (X3.out.next k5)
           clear k5 P3 X3 plt pc0 pc1 pc2 xlt xc0 xc1 xc2
           have plt := P5.out.lt
           have pc0 := P5.out.c0
           have pc1 := P5.out.c1
           have pc2 := P5.out.c2
           have xlt := X5.out.lt
           have xc0 := X5.out.c0
           have xc1 := X5.out.c1
           have xc2 := X5.out.c2))
      go_quiet ((go_at_call 10; exact Calls.quiet_of_same (WK.out _)))
      have X7 := Lib.hid (X5.out.next (drawn_below _ w5 nq))
      go_wp2_with (go_at_call 7; refine (dawake_any _ (HA.out.next X7.out.bel)).mono ?_; rintro e w6 ⟨rfl, k6⟩)
      go_ret
      exact ⟨rfl, (X7.out.next k6).bel⟩
  · obtain ⟨rfl, rfl, rfl⟩ := date_zero D1 hE
    have hE2 : (e0 != 0) = true := by simpa using hE
    clear D1
    go_enter Tryd.func3, Tryd.ntmps3
    go_wp2_with (first
      | (go_at_call 6; with_reducible refine (din_is k wk n y m 0 0 0 e0 _ (HA.out.next P0.out.bel) hI1).mono ?_; rintro e w1 ⟨rfl, k1⟩
         have P1 := Lib.hid (P0.out.next k1)
         have X1 := Lib.hid (Trp.make P1.out.bel 0 0 0 25)
         clear k1
         have plt := P1.out.lt
         have pc0 := P1.out.c0
         have pc1 := P1.out.c1
         have pc2 := P1.out.c2)
      | (go_at_call 7; refine (dawake_any _ (HA.out.next X1.out.bel)).mono ?_; rintro e w2 ⟨rfl, k2⟩
         have X2 := Lib.hid (X1.out.next k2)
         clear k2))
    go_ret
    exact ⟨rfl, X2.out.bel⟩
end Go.Proofs.YtddoapenhlkamaaDoor
