/- The law DayformTurns, walked: it returns true for every input, and nothing that was in memory changes. -/
import Derived.Test.YtddoapenhlkamaaDoorDfI
namespace Go.Proofs.YtddoapenhlkamaaDoor
open Go.RowKit

theorem date_e {k wk n y m a b c e0 : Int} (h : DateIs k wk n y m a b c e0) : e0 = 0 ∨ (e0 == 0) = false := by
  rcases h with ⟨h, _⟩ | ⟨rfl, _⟩
  · exact .inl h
  · exact .inr rfl
theorem date_zero {k wk n y m a b c e0 : Int} (h : DateIs k wk n y m a b c e0) (he : (e0 == 0) = false) : a = 0 ∧ b = 0 ∧ c = 0 := by
  rcases h with ⟨rfl, _⟩ | ⟨_, h1, h2, h3, _⟩
  · cases he
  · exact ⟨h1, h2, h3⟩
theorem date_there {k wk n y m a b c : Int} (h : DateIs k wk n y m a b c 0) : inW k wk n y m ∧ okD a b c ∧ dayN a b c = tgtD k wk n y m := by
  rcases h with ⟨_, h1, h2, h3⟩ | ⟨h, _⟩
  · exact ⟨h1, h2, h3⟩
  · exact absurd h (by decide)
theorem tgt_two (wk n y m : Int) : tgtD 2 wk n y m = upD (dayN y m 1 - 1 + n) wk := rfl
theorem tgt_three (wk n y m : Int) : tgtD 3 wk n y m = dnD (dayN y m 1 - 1 + n) wk := rfl
theorem turn_same {wk n y m a b c a' b' c' : Int} (h : DateIs 2 wk n y m a b c 0) (h' : DateIs 3 wk (n + 6) y m a' b' c' 0) : a' = a ∧ b' = b ∧ c' = c := by
  obtain ⟨h1, h2, h3⟩ := date_there h
  obtain ⟨g1, g2, g3⟩ := date_there h'
  have hd : 0 ≤ wk ∧ wk ≤ 6 := by have := h1.1; unfold dfD at this; omega
  refine day_inj g2 h2 ?_
  rw [g3, h3, tgt_two, tgt_three, up_dn, Int.add_assoc]

set_option maxHeartbeats 1600000 in
theorem dayformTurns_walk (wk n p q : Int) (w : World) (hA : LaidF w) :
    Calls Tryd.prog 4 #[.int .i64 wk, .int .i64 n, .agg #[.int .i64 p, .int .i64 q]] w fun e w' => e = .returned (.bool true) ∧ Below w.heap.size w w' := by
  have T0 : Hid (Below w.heap.size w (w.alloc (.cells #[.int .i64 p, .int .i64 q] 35))) := Lib.hid ((Below.refl _ _).alloc (Nat.le_refl _) _)
  have HA := Lib.hid hA
  clear hA
  rcases dcases n 1 25 with ⟨c1, _⟩ | ⟨c1, c2, _⟩ | ⟨c1, c2, HN⟩
  · have c3 : decide (n < 1) = true := by simp at c1 ⊢; omega
    clear c1
    go_enter Tryd.func4, Tryd.ntmps4
    go_wp2_with (first
      | (go_at_call 7; refine (dawake_any _ (HA.out.next T0.out)).mono ?_; rintro e w1 ⟨rfl, k1⟩))
    go_ret
    exact ⟨rfl, T0.out.trans (k1.mono (by simp))⟩
  · have c3 : decide (n < 1) = false := by simp at c1 ⊢; omega
    have c4 : decide (25 < n) = true := by simp at c2 ⊢; omega
    clear c1 c2
    go_enter Tryd.func4, Tryd.ntmps4
    go_wp2_with (first
      | (go_at_call 7; refine (dawake_any _ (HA.out.next T0.out)).mono ?_; rintro e w1 ⟨rfl, k1⟩))
    go_ret
    exact ⟨rfl, T0.out.trans (k1.mono (by simp))⟩
  · have c3 : decide (n < 1) = false := by simp at c1 ⊢; omega
    have c4 : decide (25 < n) = false := by simp at c2 ⊢; omega
    have hb := HN.out
    obtain ⟨hb1, hb2⟩ := hb
    clear c1 c2
    obtain ⟨a, b, c, e1, D1⟩ := dateis_ex 2 wk n p q
    obtain ⟨a', b', c', e2, D2⟩ := dateis_ex 3 wk (n + 6) p q
    have hI1 := Lib.hid D1
    have hI2 := Lib.hid D2
    have hE1 := date_e D1
    have hE2 := date_e D2
    clear D1 D2
    rcases hE1 with rfl | hE1
    · rcases hE2 with rfl | hE2
      · obtain ⟨rfl, rfl, rfl⟩ := turn_same hI1.out hI2.out
        go_enter Tryd.func4, Tryd.ntmps4
        go_wp2_with (first
          | (go_at_call 6; with_reducible refine (din_is 2 wk n p q a' b' c' 0 _ (HA.out.next T0.out) hI1).mono ?_; rintro e w1 ⟨rfl, k1⟩
             have T1 := Lib.hid (Trp.make (T0.out.trans (k1.mono (by simp))) a' b' c' 25)
             have T1b := Lib.hid (T0.out.trans (k1.mono (by simp)))
             have cp : w1.cell? ⟨w.heap.size, 0, none⟩ = some (.int .i64 p) := by rw [k1.cell (by simp)]; simp
             have cq : w1.cell? ⟨w.heap.size, 1, none⟩ = some (.int .i64 q) := by rw [k1.cell (by simp)]; simp
             have lt : w.heap.size < w1.heap.size := by have := k1.size; simp at this; omega
             clear k1)
          | (go_at_call 6; with_reducible refine (din_is 3 wk (n + 6) p q a' b' c' 0 _ (HA.out.next T1.out.bel) hI2).mono ?_; rintro e w2 ⟨rfl, k2⟩
             have T2 := Lib.hid (T1.out.next k2)
             have U2 := Lib.hid (Trp.make T2.out.bel a' b' c' 25)
             clear k2
             have lu := T2.out.lt
             have d0 := T2.out.c0
             have d1 := T2.out.c1
             have d2 := T2.out.c2)
          | (go_at_call 7; refine (dawake_any _ (HA.out.next U2.out.bel)).mono ?_; rintro e w3 ⟨rfl, k3⟩
             have U3 := Lib.hid (U2.out.next k3)
             clear k3))
        go_ret
        exact ⟨rfl, U3.out.bel⟩
      · have hE3 : (e2 != 0) = true := by simpa using hE2
        go_enter Tryd.func4, Tryd.ntmps4
        go_wp2_with (first
          | (go_at_call 6; with_reducible refine (din_is 2 wk n p q a b c 0 _ (HA.out.next T0.out) hI1).mono ?_; rintro e w1 ⟨rfl, k1⟩
             have T1 := Lib.hid (Trp.make (T0.out.trans (k1.mono (by simp))) a b c 25)
             have T1b := Lib.hid (T0.out.trans (k1.mono (by simp)))
             have cp : w1.cell? ⟨w.heap.size, 0, none⟩ = some (.int .i64 p) := by rw [k1.cell (by simp)]; simp
             have cq : w1.cell? ⟨w.heap.size, 1, none⟩ = some (.int .i64 q) := by rw [k1.cell (by simp)]; simp
             have lt : w.heap.size < w1.heap.size := by have := k1.size; simp at this; omega
             clear k1)
          | (go_at_call 6; with_reducible refine (din_is 3 wk (n + 6) p q a' b' c' e2 _ (HA.out.next T1.out.bel) hI2).mono ?_; rintro e w2 ⟨rfl, k2⟩
             have T2 := Lib.hid (T1.out.next k2)
             have U2 := Lib.hid (Trp.make T2.out.bel a' b' c' 25)
             clear k2
             have lu := T2.out.lt
             have d0 := T2.out.c0
             have d1 := T2.out.c1
             have d2 := T2.out.c2)
          | (go_at_call 7; refine (dawake_any _ (HA.out.next U2.out.bel)).mono ?_; rintro e w3 ⟨rfl, k3⟩
             have U3 := Lib.hid (U2.out.next k3)
             clear k3))
        go_ret
        exact ⟨rfl, U3.out.bel⟩
    · have hE3 : (e1 != 0) = true := by simpa using hE1
      clear hE2
      go_enter Tryd.func4, Tryd.ntmps4
      go_wp2_with (first
        | (go_at_call 6; with_reducible refine (din_is 2 wk n p q a b c e1 _ (HA.out.next T0.out) hI1).mono ?_; rintro e w1 ⟨rfl, k1⟩
           have T1 := Lib.hid (Trp.make (T0.out.trans (k1.mono (by simp))) a b c 25)
           have T1b := Lib.hid (T0.out.trans (k1.mono (by simp)))
           have cp : w1.cell? ⟨w.heap.size, 0, none⟩ = some (.int .i64 p) := by rw [k1.cell (by simp)]; simp
           have cq : w1.cell? ⟨w.heap.size, 1, none⟩ = some (.int .i64 q) := by rw [k1.cell (by simp)]; simp
           have lt : w.heap.size < w1.heap.size := by have := k1.size; simp at this; omega
           clear k1)
        | (go_at_call 6; with_reducible refine (din_is 3 wk (n + 6) p q a' b' c' e2 _ (HA.out.next T1.out.bel) hI2).mono ?_; rintro e w2 ⟨rfl, k2⟩
           have T2 := Lib.hid (T1.out.next k2)
           have U2 := Lib.hid (Trp.make T2.out.bel a' b' c' 25)
           clear k2
           have lu := T2.out.lt
           have d0 := T2.out.c0
           have d1 := T2.out.c1
           have d2 := T2.out.c2)
        | (go_at_call 7; refine (dawake_any _ (HA.out.next U2.out.bel)).mono ?_; rintro e w3 ⟨rfl, k3⟩
           have U3 := Lib.hid (U2.out.next k3)
           clear k3))
      go_ret
      exact ⟨rfl, U3.out.bel⟩
end Go.Proofs.YtddoapenhlkamaaDoor
