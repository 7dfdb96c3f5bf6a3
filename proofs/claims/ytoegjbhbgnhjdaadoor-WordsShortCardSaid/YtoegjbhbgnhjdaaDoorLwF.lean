/- The walk of the law WordsFind: for every word it returns true, and nothing that was in memory changes. -/
import Derived.Test.YtoegjbhbgnhjdaaDoorWdI
namespace Go.Proofs.YtoegjbhbgnhjdaaDoor
open Go.RowKit

/-- The tables read as they are laid, and nothing that was in w0 has changed. -/
structure StW (w0 w : World) : Prop where
  l : LaidW w
  k : Below w0.heap.size w0 w
theorem StW.next {w0 w w' : World} (h : StW w0 w) (k : Below w.heap.size w w') : StW w0 w' := ⟨h.l.next k, h.k.trans (k.mono h.k.size)⟩
theorem StW.new {w : World} (h : LaidW w) : StW w w := ⟨h, Below.refl _ _⟩
structure StX (w0 w : World) : Prop where
  x : LaidX w
  k : Below w0.heap.size w0 w
theorem StX.next {w0 w w' : World} (h : StX w0 w) (k : Below w.heap.size w w') : StX w0 w' := ⟨h.x.next k, h.k.trans (k.mono h.k.size)⟩
theorem StX.new {w : World} (h : LaidX w) : StX w w := ⟨h, Below.refl _ _⟩

theorem kinds_len : ∀ p ∈ kindsL, p.length ≤ 100 := by decide +kernel
theorem months_len : ∀ p ∈ monthsL, p.length ≤ 100 := by decide +kernel
theorem weeks_len : ∀ p ∈ weeksL, p.length ≤ 100 := by decide +kernel
theorem ends_len : ∀ p ∈ endsL, p.length ≤ 100 := by decide +kernel

theorem find_long (l : List UInt8) (w : World) (H : LaidX w) (hs : 40 < l.length) :
    Calls Tryd.prog 3 #[.string ⟨l.toArray⟩] w fun e w' => e = .returned (.bool true) ∧ Below w.heap.size w w' := by
  have hz := wsize l
  have HX := Lib.hid H
  clear H
  go_enter Tryd.func3, Tryd.ntmps3
  go_wp2_with (go_at_call 9; refine (wawake_any _ HX.out.l).mono ?_; rintro e w1 ⟨rfl, k1⟩)
  go_ret
  exact ⟨rfl, k1⟩

set_option maxHeartbeats 1600000 in
theorem find_law (l : List UInt8) (w : World) (H : LaidX w) (hs : l.length ≤ 40) (v1 e1 z1 v2 e2 z2 v3 e3 z3 : Int)
    (H1 : Hid ((resN (findL (low l) kindsL) 1 : Int) = v1 ∧ (resE (findL (low l) kindsL) : Int) = e1)) (F1 : Hid (wantZ (findL (low l) kindsL) = z1))
    (H2 : Hid ((resN (findL (low l) monthsL) 1 : Int) = v2 ∧ (resE (findL (low l) monthsL) : Int) = e2)) (F2 : Hid (wantZ (findL (low l) monthsL) = z2))
    (H3 : Hid ((resN (findL (low l) weeksL) 0 : Int) = v3 ∧ (resE (findL (low l) weeksL) : Int) = e3)) (F3 : Hid (wantZ (findL (low l) weeksL) = z3)) :
    Calls Tryd.prog 3 #[.string ⟨l.toArray⟩] w fun e w' => e = .returned (.bool true) ∧ Below w.heap.size w w' := by
  have hz := wsize l
  have S0 := Lib.hid (StX.new H)
  have W1 : Hid (∀ W : World, Calls Tryd.prog 13 #[.int .i64 v1, .int .i64 e1, .int .i64 z1, .int .i64 1] W fun e w' => e = .returned (.bool true) ∧ W = w') := Lib.hid fun W => by
    have := word_any (findL (low l) kindsL) 1 W (fun p hp => by have := findL_lt hp; simp [kindsL] at this; omega) (by omega)
    rw [H1.out.1, H1.out.2, F1.out] at this
    exact this
  have W2 : Hid (∀ W : World, Calls Tryd.prog 13 #[.int .i64 v2, .int .i64 e2, .int .i64 z2, .int .i64 1] W fun e w' => e = .returned (.bool true) ∧ W = w') := Lib.hid fun W => by
    have := word_any (findL (low l) monthsL) 1 W (fun p hp => by have := findL_lt hp; simp [monthsL] at this; omega) (by omega)
    rw [H2.out.1, H2.out.2, F2.out] at this
    exact this
  have W3 : Hid (∀ W : World, Calls Tryd.prog 13 #[.int .i64 v3, .int .i64 e3, .int .i64 z3, .int .i64 0] W fun e w' => e = .returned (.bool true) ∧ W = w') := Lib.hid fun W => by
    have := word_any (findL (low l) weeksL) 0 W (fun p hp => by have := findL_lt hp; simp [weeksL] at this; omega) (by omega)
    rw [H3.out.1, H3.out.2, F3.out] at this
    exact this
  clear H
  go_enter Tryd.func3, Tryd.ntmps3
  go_wp2_with (first
    | (go_at_call 10; refine (kind_is l v1 e1 _ (by omega) S0.out.x.l H1).mono ?_; rintro e w1 ⟨rfl, k1⟩; have S1 := Lib.hid (S0.out.next k1); clear k1)
    | (go_at_call 11; refine (month_is l v2 e2 _ (by omega) S1.out.x.l H2).mono ?_; rintro e w2 ⟨rfl, k2⟩; have S2 := Lib.hid (S1.out.next k2); clear k2)
    | (go_at_call 12; refine (week_is l v3 e3 _ (by omega) S2.out.x H3).mono ?_; rintro e w3 ⟨rfl, k3⟩; have S3 := Lib.hid (S2.out.next k3); clear k3)
    | (go_at_call 15; refine (rkinds_any _).mono ?_; rintro e w4 ⟨L1, rfl, _, l1, k4⟩; have S4 := Lib.hid (S3.out.next k4); have Q1 := Lib.hid l1; clear k4 l1)
    | (go_at_call 16; refine (rmonths_any _).mono ?_; rintro e w6 ⟨L2, rfl, _, l2, k6⟩; have S6 := Lib.hid (S5.out.next k6); have Q2 := Lib.hid l2; clear k6 l2)
    | (go_at_call 17; refine (rweeks_any _).mono ?_; rintro e w8 ⟨L3, rfl, _, l3, k8⟩; have S8 := Lib.hid (S7.out.next k8); have Q3 := Lib.hid l3; clear k8 l3)
    | (go_at_call 14
       first
         | (with_reducible refine (rfind_is l kindsL L1 3 z1 _ (by omega) rfl (by omega) kinds_len Q1.out F1).mono ?_
            rintro e w5 ⟨rfl, k5⟩; have S5 := Lib.hid (S4.out.next k5); clear k5)
         | (with_reducible refine (rfind_is l monthsL L2 12 z2 _ (by omega) rfl (by omega) months_len Q2.out F2).mono ?_
            rintro e w7 ⟨rfl, k7⟩; have S7 := Lib.hid (S6.out.next k7); clear k7)
         | (with_reducible refine (rfind_is l weeksL L3 7 z3 _ (by omega) rfl (by omega) weeks_len Q3.out F3).mono ?_
            rintro e w9 ⟨rfl, k9⟩; have S9 := Lib.hid (S8.out.next k9); clear k9))
    | (go_at_call 13
       first
         | (with_reducible refine (W1.out _).mono ?_
            rintro e w' ⟨rfl, rfl⟩)
         | (with_reducible refine (W2.out _).mono ?_
            rintro e w' ⟨rfl, rfl⟩)
         | (with_reducible refine (W3.out _).mono ?_
            rintro e w' ⟨rfl, rfl⟩))
    | (go_at_call 9; refine (wawake_any _ S9.out.x.l).mono ?_; rintro e w10 ⟨rfl, k10⟩; have S10 := Lib.hid (S9.out.next k10); clear k10))
  go_ret
  exact ⟨rfl, S10.out.k⟩

theorem wordsFind_walk (s : ByteArray) (w : World) (H : LaidX w) (_ : s.size ≤ maxLen) :
    Calls Tryd.prog 3 #[.string s] w fun e w' => e = .returned (.bool true) ∧ Below w.heap.size w w' := by
  obtain ⟨l, rfl⟩ : ∃ l : List UInt8, s = ⟨l.toArray⟩ := ⟨s.data.toList, by simp⟩
  by_cases hs : l.length ≤ 40
  · exact find_law l w H hs _ _ _ _ _ _ _ _ _ (Lib.hid ⟨rfl, rfl⟩) (Lib.hid rfl) (Lib.hid ⟨rfl, rfl⟩) (Lib.hid rfl) (Lib.hid ⟨rfl, rfl⟩) (Lib.hid rfl)
  · exact find_long l w H (by omega)
end Go.Proofs.YtoegjbhbgnhjdaaDoor
