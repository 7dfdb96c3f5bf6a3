/- The law DayformIn, walked: it returns true for every input, and nothing that was in memory changes. -/
import Derived.Test.YtddoapenhlkamaaGreatDoorDrB
namespace Go.Proofs.YtddoapenhlkamaaGreatDoor
open Go.RowKit

theorem rof_is (a y m d : Int) (w : World) (h : okD y m d ∧ dayN y m d = a) :
    Calls Tryz.prog 15 #[.int .i64 a] w fun e w' => e = .returned (.tuple #[.agg #[.int .i64 y, .int .i64 m, .int .i64 d], .bool true]) ∧ Below w.heap.size w w' := by
  have hr : inR a := h.2 ▸ day_bd h.1
  refine (rof_yes a w hr.1 hr.2).mono ?_
  rintro e w' ⟨y', m', d', h1, h2, rfl, kb⟩
  obtain ⟨rfl, rfl, rfl⟩ := day_inj h1 h.1 (h2.trans h.2.symm)
  exact ⟨rfl, kb⟩

set_option maxHeartbeats 3200000 in
theorem dayformIn_walk (k wk n y m : Int) (w : World) (hA : LaidF w) :
    Calls Tryz.prog 5 #[.agg #[.int .i64 k, .int .i64 wk, .int .i64 n], .int .i64 y, .int .i64 m] w fun e w' => e = .returned (.bool true) ∧ Below w.heap.size w w' := by
  have P0 := Lib.hid (Trp.new w k wk n 23)
  have HA := Lib.hid hA
  clear hA
  obtain ⟨a, z, R⟩ := refin_ex k wk n y m
  have HR := Lib.hid R
  rcases R with ⟨rfl, hd, hm, rfl⟩ | ⟨rfl, rfl, hno⟩
  · by_cases hin : inR (tgtD k wk n y m)
    · obtain ⟨y1, m1, d1, h1, h2⟩ := date_ex hin
      have hI : Hid (DateIs k wk n y m y1 m1 d1 0) := Lib.hid (.inl ⟨rfl, ⟨hd, hm, hin⟩, h1, h2⟩)
      obtain ⟨a, ha⟩ : ∃ a, tgtD k wk n y m = a := ⟨_, rfl⟩
      have OF : Hid (∀ W, Calls Tryz.prog 15 #[.int .i64 a] W fun e w' => e = .returned (.tuple #[.agg #[.int .i64 y1, .int .i64 m1, .int .i64 d1], .bool true]) ∧ Below W.heap.size W w') := Lib.hid fun W => rof_is a y1 m1 d1 W ⟨h1, h2.trans ha⟩
      rw [ha] at HR
      clear hd hm hin h1 h2 ha
      go_enter Tryz.func5, Tryz.ntmps5
      go_wp2_with (first
        | (go_at_call 13; with_reducible refine (din_is k wk n y m y1 m1 d1 0 _ (HA.out.next P0.out.bel) hI).mono ?_; rintro e w1 ⟨rfl, k1⟩
           have P1 := Lib.hid (P0.out.next k1)
           have X1 := Lib.hid (Trp.make P1.out.bel y1 m1 d1 35)
           clear k1
           have plt := P1.out.lt
           have pc0 := P1.out.c0
           have pc1 := P1.out.c1
           have pc2 := P1.out.c2)
        | (go_at_call 14; with_reducible refine (rin_is k wk n y m a true _ HR).mono ?_; rintro e w2 ⟨rfl, k2⟩
           have X2 := Lib.hid (X1.out.next k2)
           clear k2 P1 X1 plt pc0 pc1 pc2)
        | (go_at_call 15; with_reducible refine (OF.out _).mono ?_; rintro e w3 ⟨rfl, k3⟩
           have X3 := Lib.hid (X2.out.next k3)
           have Y3 := Lib.hid (Trp.make X3.out.bel y1 m1 d1 35)
           clear k3 X2
           have xlt := X3.out.lt
           have xc0 := X3.out.c0
           have xc1 := X3.out.c1
           have xc2 := X3.out.c2)
        | (go_at_call 9; refine (dawake_any _ (HA.out.next Y3.out.bel)).mono ?_; rintro e w4 ⟨rfl, k4⟩
           have Y4 := Lib.hid (Y3.out.next k4)
           clear k4))
      go_ret
      exact ⟨rfl, Y4.out.bel⟩
    · have hI : Hid (DateIs k wk n y m 0 0 0 10) := Lib.hid (.inr ⟨rfl, rfl, rfl, rfl, fun c => hin c.2.2⟩)
      obtain ⟨a, ha⟩ : ∃ a, tgtD k wk n y m = a := ⟨_, rfl⟩
      have OF : Hid (∀ W, Calls Tryz.prog 15 #[.int .i64 a] W fun e w' => e = .returned (.tuple #[.agg #[.int .i64 0, .int .i64 0, .int .i64 0], .bool false]) ∧ Below W.heap.size W w') := Lib.hid fun W => rof_no a W (by unfold inR at hin; omega)
      rw [ha] at HR
      clear hd hm hin ha
      go_enter Tryz.func5, Tryz.ntmps5
      go_wp2_with (first
        | (go_at_call 13; with_reducible refine (din_is k wk n y m 0 0 0 10 _ (HA.out.next P0.out.bel) hI).mono ?_; rintro e w1 ⟨rfl, k1⟩
           have P1 := Lib.hid (P0.out.next k1)
           have X1 := Lib.hid (Trp.make P1.out.bel 0 0 0 35)
           clear k1
           have plt := P1.out.lt
           have pc0 := P1.out.c0
           have pc1 := P1.out.c1
           have pc2 := P1.out.c2)
        | (go_at_call 14; with_reducible refine (rin_is k wk n y m a true _ HR).mono ?_; rintro e w2 ⟨rfl, k2⟩
           have X2 := Lib.hid (X1.out.next k2)
           clear k2 P1 X1 plt pc0 pc1 pc2)
        | (go_at_call 15; with_reducible refine (OF.out _).mono ?_; rintro e w3 ⟨rfl, k3⟩
           have X3 := Lib.hid (X2.out.next k3)
           have Y3 := Lib.hid (Trp.make X3.out.bel 0 0 0 35)
           clear k3 X2
           have xlt := X3.out.lt
           have xc0 := X3.out.c0
           have xc1 := X3.out.c1
           have xc2 := X3.out.c2)
        | (go_at_call 9; refine (dawake_any _ (HA.out.next Y3.out.bel)).mono ?_; rintro e w4 ⟨rfl, k4⟩
           have Y4 := Lib.hid (Y3.out.next k4)
           clear k4))
      go_ret
      exact ⟨rfl, Y4.out.bel⟩
  · have hI : Hid (DateIs k wk n y m 0 0 0 10) := Lib.hid (.inr ⟨rfl, rfl, rfl, rfl, fun c => hno ⟨c.1, c.2.1⟩⟩)
    clear hno
    go_enter Tryz.func5, Tryz.ntmps5
    go_wp2_with (first
      | (go_at_call 13; with_reducible refine (din_is k wk n y m 0 0 0 10 _ (HA.out.next P0.out.bel) hI).mono ?_; rintro e w1 ⟨rfl, k1⟩
         have P1 := Lib.hid (P0.out.next k1)
         have X1 := Lib.hid (Trp.make P1.out.bel 0 0 0 35)
         clear k1
         have plt := P1.out.lt
         have pc0 := P1.out.c0
         have pc1 := P1.out.c1
         have pc2 := P1.out.c2)
      | (go_at_call 14; with_reducible refine (rin_is k wk n y m 0 false _ HR).mono ?_; rintro e w2 ⟨rfl, k2⟩
         have X2 := Lib.hid (X1.out.next k2)
         clear k2 P1 X1 plt pc0 pc1 pc2
         have xlt := X2.out.lt
         have xc0 := X2.out.c0
         have xc1 := X2.out.c1
         have xc2 := X2.out.c2)
      | (go_at_call 9; refine (dawake_any _ (HA.out.next X2.out.bel)).mono ?_; rintro e w4 ⟨rfl, k4⟩
         have Y4 := Lib.hid (X2.out.next k4)
         clear k4))
    go_ret
    exact ⟨rfl, Y4.out.bel⟩
end Go.Proofs.YtddoapenhlkamaaGreatDoor
