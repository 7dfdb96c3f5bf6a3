/- For every number of bytes, every place and every two rows the law CrcLinear returns true, and nothing that was in memory changes. -/
import Derived.Test.YtbdbkbmgiejdfaaDoorCrC
namespace Go.Proofs.YtbdbkbmgiejdfaaDoor
open Go.RowKit
attribute [local go_sem] Oper.semAt_some

/-- A row that may be, and is there. -/
def okR (n : Nat) (at' row : Int) : Prop := 1 ≤ row ∧ row ≤ 4294967295 ∧ 0 ≤ at' ∧ at' + (Lib.bitLen row.toNat : Nat) ≤ 8 * (n : Int)
theorem turn_bad (n : Nat) (at' row : Int) (w : World) (h : Hid (n ≤ 1048576 ∧ ¬ okR n at' row)) :
    Calls Tryd.prog 14 #[.int .i64 (n : Int), .int .i64 at', .int .i64 row] w fun e w' => e = .returned (.tuple #[.int .i64 0, .int .i64 1]) ∧ w = w' := by
  obtain ⟨h1, h2⟩ := h.out
  by_cases hr : row < 1 ∨ 4294967295 < row
  · exact turn_no _ _ _ _ (Lib.hid (by omega))
  · obtain ⟨m, rfl⟩ : ∃ m : Nat, row = (m : Int) := ⟨row.toNat, by omega⟩
    refine turn_out n m at' w h1 (by omega) (by omega) (Lib.hid ?_)
    unfold okR at h2
    rw [Int.toNat_natCast] at h2
    omega
theorem turn_good (n t m v : Nat) (w : World) (hT : FoAt w) (h : Hid (n ≤ 1048576 ∧ okR n t m ∧ sn (8 * n - t) m = v)) :
    Calls Tryd.prog 14 #[.int .i64 (n : Int), .int .i64 (t : Int), .int .i64 (m : Int)] w fun e w' => e = .returned (.tuple #[.int .i64 (v : Int), .int .i64 0]) ∧ Below w.heap.size w w' := by
  obtain ⟨h1, h2, h3⟩ := h.out
  unfold okR at h2
  rw [Int.toNat_natCast] at h2
  exact turn_any n t m v w hT h1 (by omega) (by omega) (by omega) (Lib.hid h3)
theorem turn_some (n : Nat) (at' row : Int) (w : World) (hT : FoAt w) (hn : n ≤ 1048576) :
    Calls Tryd.prog 14 #[.int .i64 (n : Int), .int .i64 at', .int .i64 row] w fun e w' => ∃ v x : Int, e = .returned (.tuple #[.int .i64 v, .int .i64 x]) ∧ Below w.heap.size w w' := by
  by_cases h : okR n at' row
  · have h' := h
    unfold okR at h'
    obtain ⟨m, rfl⟩ : ∃ m : Nat, row = (m : Int) := ⟨row.toNat, by omega⟩
    obtain ⟨t, rfl⟩ : ∃ t : Nat, at' = (t : Int) := ⟨at'.toNat, by omega⟩
    exact (turn_good n t m _ w hT (Lib.hid ⟨hn, h, rfl⟩)).mono fun e w' hh => ⟨_, _, hh.1, hh.2⟩
  · exact (turn_bad n at' row w (Lib.hid ⟨hn, h⟩)).mono fun e w' hh => ⟨_, _, hh.1, by rw [hh.2]; exact Below.refl _ _⟩
theorem shift_is (s n v : Nat) (w : World) (hT : FoAt w) (h : Hid (s < 4294967296 ∧ n ≤ 1048576 ∧ sn (8 * n) s = v)) :
    Calls Tryd.prog 12 #[.int .i64 (s : Int), .int .i64 (n : Int)] w fun e w' => e = .returned (.tuple #[.int .i64 (v : Int), .int .i64 0]) ∧ Below w.heap.size w w' :=
  shift_any s n v w hT h.out.1 h.out.2.1 (Lib.hid h.out.2.2)

/-- The two rows lie in the block that the law made. -/
structure TwoR (w : World) (p q : Int) (W : World) : Prop where
  bel : Below w.heap.size w W
  c0 : W.cell? ⟨w.heap.size, 0, none⟩ = some (.int .i64 p)
  c1 : W.cell? ⟨w.heap.size, 1, none⟩ = some (.int .i64 q)
  lt : w.heap.size < W.heap.size
theorem TwoR.new (w : World) (p q : Int) (t : TypeId) : TwoR w p q (w.alloc (.cells #[.int .i64 p, .int .i64 q] t)) :=
  ⟨(Below.refl _ _).alloc (Nat.le_refl _) _, by rw [cell_of_row _ w.heap.size 0 _ t (0, 0) (heap_alloc_new w _)]; rfl, by rw [cell_of_row _ w.heap.size 1 _ t (0, 0) (heap_alloc_new w _)]; rfl, by simp⟩
theorem TwoR.next {w W W' : World} {p q : Int} (h : TwoR w p q W) (k : Below W.heap.size W W') : TwoR w p q W' :=
  ⟨h.bel.trans (k.mono h.bel.size), by rw [k.cell (p := ⟨w.heap.size, 0, none⟩) h.lt]; exact h.c0, by rw [k.cell (p := ⟨w.heap.size, 1, none⟩) h.lt]; exact h.c1, Nat.lt_of_lt_of_le h.lt k.size⟩

set_option maxRecDepth 100000 in
set_option maxHeartbeats 2000000 in
theorem linear_bad (n : Nat) (at' p q : Int) (w : World) (hT : FoAt w) (hn : n ≤ 300) (hb : ¬ okR n at' p ∨ ¬ okR n at' q) :
    Calls Tryd.prog 8 #[.int .i64 (n : Int), .int .i64 at', .agg #[.int .i64 p, .int .i64 q]] w fun e w' => e = .returned (.bool true) ∧ Below w.heap.size w w' := by
  have HT := Lib.hid hT
  have T0 := Lib.hid (TwoR.new w p q 37)
  clear hT
  by_cases hp : okR n at' p
  · have HQ : Hid (n ≤ 1048576 ∧ ¬ okR n at' q) := Lib.hid ⟨by omega, by rcases hb with h | h; exact absurd hp h; exact h⟩
    have hp' := hp
    unfold okR at hp'
    obtain ⟨t, rfl⟩ : ∃ t : Nat, at' = (t : Int) := ⟨at'.toNat, by omega⟩
    obtain ⟨m, rfl⟩ : ∃ m : Nat, p = (m : Int) := ⟨p.toNat, by omega⟩
    obtain ⟨v, hv⟩ : ∃ v, sn (8 * n - t) m = v := ⟨_, rfl⟩
    have HV : Hid (n ≤ 1048576 ∧ okR n t m ∧ sn (8 * n - t) m = v) := Lib.hid ⟨by omega, hp, hv⟩
    clear hb hp hp' hv
    go_enter Tryd.func8, Tryd.ntmps8
    go_wp2_with (first
      | (go_at_call 14; (with_reducible refine (turn_good n t m v _ (HT.out.next T0.out.bel) HV).mono ?_); rintro e w1 ⟨rfl, k1⟩
         have T1 := Lib.hid (T0.out.next k1)
         have c1 := T1.out.c1
         clear k1
         simp only [])
      | (go_at_call 14; (with_reducible refine (turn_bad n t q _ HQ).mono ?_); rintro e w' ⟨rfl, rfl⟩; simp only [])
      | (go_at_call 9; refine (cawake_yes _ (HT.out.next T1.out.bel)).mono ?_; rintro e w3 ⟨rfl, k3⟩
         have T3 := Lib.hid (T1.out.next k3)
         clear k3
         simp only []))
    go_ret
    exact ⟨rfl, T3.out.bel⟩
  · have HP : Hid (n ≤ 1048576 ∧ ¬ okR n at' p) := Lib.hid ⟨by omega, hp⟩
    clear hb hp
    go_enter Tryd.func8, Tryd.ntmps8
    go_wp2_with (first
      | (go_at_call 14; (with_reducible refine (turn_bad n at' p _ HP).mono ?_); rintro e w' ⟨rfl, rfl⟩; simp only [])
      | (go_at_call 14; (with_reducible refine (turn_some n at' q _ (HT.out.next T0.out.bel) (by omega)).mono ?_); rintro e w1 ⟨v1, x1, rfl, k1⟩
         have T1 := Lib.hid (T0.out.next k1)
         clear k1
         simp only [])
      | (go_at_call 9; refine (cawake_yes _ (HT.out.next T1.out.bel)).mono ?_; rintro e w3 ⟨rfl, k3⟩
         have T3 := Lib.hid (T1.out.next k3)
         clear k3
         simp only []))
    go_ret
    exact ⟨rfl, T3.out.bel⟩

theorem shift_sum (s n t v : Nat) (w : World) (hT : FoAt w) (h : Hid (s < 4294967296 ∧ n ≤ 300 ∧ t ≤ 10000 ∧ sn (8 * (n + t)) s = v)) :
    Calls Tryd.prog 12 #[.int .i64 (s : Int), .int .i64 ((n : Int) + (t : Int))] w fun e w' => e = .returned (.tuple #[.int .i64 (v : Int), .int .i64 0]) ∧ Below w.heap.size w w' := by
  rw [show ((n : Int) + (t : Int)) = ((n + t : Nat) : Int) by omega]
  exact shift_any s (n + t) v w hT h.out.1 (by have := h.out; omega) (Lib.hid h.out.2.2.2)

set_option maxRecDepth 100000 in
set_option maxHeartbeats 4000000 in
theorem linear_same (n t m : Nat) (w : World) (hT : FoAt w) (hn : n ≤ 300) (hp : okR n t m) :
    Calls Tryd.prog 8 #[.int .i64 (n : Int), .int .i64 (t : Int), .agg #[.int .i64 (m : Int), .int .i64 (m : Int)]] w fun e w' => e = .returned (.bool true) ∧ Below w.heap.size w w' := by
  have HT := Lib.hid hT
  have T0 := Lib.hid (TwoR.new w (m : Int) (m : Int) 37)
  have hp' := hp
  unfold okR at hp'
  have ht : t ≤ 2400 := by omega
  have hm : m < 4294967296 := by omega
  obtain ⟨x, hx⟩ : ∃ x, sn (8 * n - t) m = x := ⟨_, rfl⟩
  have hxl : x < 4294967296 := by rw [← hx]; exact sn_lt hm
  have HV : Hid (n ≤ 1048576 ∧ okR n t m ∧ sn (8 * n - t) m = x) := Lib.hid ⟨by omega, hp, hx⟩
  have HO : Hid (n ≤ 1048576 ∧ ¬ okR n t 0) := Lib.hid ⟨by omega, by unfold okR; omega⟩
  obtain ⟨s, hs⟩ : ∃ s, sn (8 * n) x = s := ⟨_, rfl⟩
  obtain ⟨z, hz⟩ : ∃ z, sn (8 * t) s = z := ⟨_, rfl⟩
  have HS1 : Hid (x < 4294967296 ∧ n ≤ 1048576 ∧ sn (8 * n) x = s) := Lib.hid ⟨hxl, by omega, hs⟩
  have HS2 : Hid (s < 4294967296 ∧ t ≤ 1048576 ∧ sn (8 * t) s = z) := Lib.hid ⟨by rw [← hs]; exact sn_lt hxl, by omega, hz⟩
  have HS3 : Hid (x < 4294967296 ∧ n ≤ 300 ∧ t ≤ 10000 ∧ sn (8 * (n + t)) x = z) := Lib.hid ⟨hxl, hn, by omega, by rw [Nat.mul_add, sn_add, hs, hz]⟩
  have hmm : bits .xor .i64 (m : Int) (m : Int) = 0 := by rw [xor_i64 (by omega) (by omega), Nat.xor_self]; rfl
  have hxx : bits .xor .i64 (x : Int) (x : Int) = 0 := by rw [xor_i64 (by omega) (by omega), Nat.xor_self]; rfl
  clear hT hp hp' hx hs hz
  go_enter Tryd.func8, Tryd.ntmps8
  go_wp2_with (first
    | (go_at_call 14; (with_reducible refine (turn_good n t m x _ (HT.out.next T0.out.bel) HV).mono ?_); rintro e w1 ⟨rfl, k1⟩
       have T1 := Lib.hid (T0.out.next k1)
       have c1 := T1.out.c1
       clear k1
       simp only [])
    | (go_at_call 14; (with_reducible refine (turn_good n t m x _ (HT.out.next T1.out.bel) HV).mono ?_); rintro e w2 ⟨rfl, k2⟩
       have T2 := Lib.hid (T1.out.next k2)
       have d0 := T2.out.c0
       have d1 := T2.out.c1
       clear k2
       simp only [])
    | (go_at_call 14; (with_reducible refine (turn_bad n t 0 _ HO).mono ?_); rintro e w3 ⟨rfl, rfl⟩
       have T3 := Lib.hid T2.out
       simp only [])
    | (go_at_call 12; (with_reducible refine (shift_is x n s _ (HT.out.next T3.out.bel) HS1).mono ?_); rintro e w4 ⟨rfl, k4⟩
       have T4 := Lib.hid (T3.out.next k4)
       clear k4
       simp only [])
    | (go_at_call 12; (with_reducible refine (shift_is s t z _ (HT.out.next T4.out.bel) HS2).mono ?_); rintro e w5 ⟨rfl, k5⟩
       have T5 := Lib.hid (T4.out.next k5)
       clear k5
       simp only [])
    | (go_at_call 12; refine (shift_sum x n t z _ (HT.out.next T5.out.bel) HS3).mono ?_; rintro e w6 ⟨rfl, k6⟩
       have T6 := Lib.hid (T5.out.next k6)
       clear k6
       simp only [])
    | (go_at_call 9; refine (cawake_yes _ (HT.out.next T6.out.bel)).mono ?_; rintro e w7 ⟨rfl, k7⟩
       have T7 := Lib.hid (T6.out.next k7)
       clear k7
       simp only []))
  go_ret
  exact ⟨rfl, T7.out.bel⟩

set_option maxRecDepth 100000 in
set_option maxHeartbeats 4000000 in
theorem linear_other (n t m m2 : Nat) (w : World) (hT : FoAt w) (hn : n ≤ 300) (hp : okR n t m) (hq : okR n t m2) (hne : m ≠ m2) :
    Calls Tryd.prog 8 #[.int .i64 (n : Int), .int .i64 (t : Int), .agg #[.int .i64 (m : Int), .int .i64 (m2 : Int)]] w fun e w' => e = .returned (.bool true) ∧ Below w.heap.size w w' := by
  have HT := Lib.hid hT
  have T0 := Lib.hid (TwoR.new w (m : Int) (m2 : Int) 37)
  have hp' := hp
  have hq' := hq
  unfold okR at hp' hq'
  rw [Int.toNat_natCast] at hp' hq'
  have ht : t ≤ 2400 := by omega
  have hm : m < 4294967296 := by omega
  have hm2 : m2 < 4294967296 := by omega
  obtain ⟨x, hx⟩ : ∃ x, sn (8 * n - t) m = x := ⟨_, rfl⟩
  obtain ⟨y, hy⟩ : ∃ y, sn (8 * n - t) m2 = y := ⟨_, rfl⟩
  obtain ⟨o, ho⟩ : ∃ o, m ^^^ m2 = o := ⟨_, rfl⟩
  obtain ⟨u, hu⟩ : ∃ u, x ^^^ y = u := ⟨_, rfl⟩
  have hxl : x < 4294967296 := by rw [← hx]; exact sn_lt hm
  have hyl : y < 4294967296 := by rw [← hy]; exact sn_lt hm2
  have hol : o < 4294967296 := by rw [← ho]; exact xor_lt (k := 32) hm hm2
  have ho0 : o ≠ 0 := fun e => hne (xor_zero (ho.trans e))
  have hob : okR n t o := by
    unfold okR
    rw [Int.toNat_natCast]
    have hb1 : Lib.bitLen m ≤ 32 := long_le (by omega) hm
    have hb2 : Lib.bitLen m2 ≤ 32 := long_le (by omega) hm2
    have h64 : max (Lib.bitLen m) (Lib.bitLen m2) ≤ 64 := by omega
    have := long_xor (a := m) (b := m2) h64 (by omega) (by omega) (by omega) (by omega)
    rw [ho] at this
    omega
  have HV : Hid (n ≤ 1048576 ∧ okR n t m ∧ sn (8 * n - t) m = x) := Lib.hid ⟨by omega, hp, hx⟩
  have HV2 : Hid (n ≤ 1048576 ∧ okR n t m2 ∧ sn (8 * n - t) m2 = y) := Lib.hid ⟨by omega, hq, hy⟩
  have HO : Hid (n ≤ 1048576 ∧ okR n t o ∧ sn (8 * n - t) o = u) := Lib.hid ⟨by omega, hob, by rw [← ho, sn_xor, hx, hy, hu]⟩
  obtain ⟨s, hs⟩ : ∃ s, sn (8 * n) x = s := ⟨_, rfl⟩
  obtain ⟨z, hz⟩ : ∃ z, sn (8 * t) s = z := ⟨_, rfl⟩
  have HS1 : Hid (x < 4294967296 ∧ n ≤ 1048576 ∧ sn (8 * n) x = s) := Lib.hid ⟨hxl, by omega, hs⟩
  have HS2 : Hid (s < 4294967296 ∧ t ≤ 1048576 ∧ sn (8 * t) s = z) := Lib.hid ⟨by rw [← hs]; exact sn_lt hxl, by omega, hz⟩
  have HS3 : Hid (x < 4294967296 ∧ n ≤ 300 ∧ t ≤ 10000 ∧ sn (8 * (n + t)) x = z) := Lib.hid ⟨hxl, hn, by omega, by rw [Nat.mul_add, sn_add, hs, hz]⟩
  have hmm : bits .xor .i64 (m : Int) (m2 : Int) = (o : Int) := by rw [xor_i64 (by omega) (by omega), ho]
  have hxx : bits .xor .i64 (x : Int) (y : Int) = (u : Int) := by rw [xor_i64 (by omega) (by omega), hu]
  have hne1 : ((m : Int) == (m2 : Int)) = false := by simp; omega
  clear hT hp hp' hq hq' hx hy hs hz ho hu ho0 hob hne
  go_enter Tryd.func8, Tryd.ntmps8
  go_wp2_with (first
    | (go_at_call 14; (with_reducible refine (turn_good n t m x _ (HT.out.next T0.out.bel) HV).mono ?_); rintro e w1 ⟨rfl, k1⟩
       have T1 := Lib.hid (T0.out.next k1)
       have c1 := T1.out.c1
       clear k1
       simp only [])
    | (go_at_call 14; (with_reducible refine (turn_good n t m2 y _ (HT.out.next T1.out.bel) HV2).mono ?_); rintro e w2 ⟨rfl, k2⟩
       have T2 := Lib.hid (T1.out.next k2)
       have d0 := T2.out.c0
       have d1 := T2.out.c1
       clear k2
       simp only [])
    | (go_at_call 14; (with_reducible refine (turn_good n t o u _ (HT.out.next T2.out.bel) HO).mono ?_); rintro e w3 ⟨rfl, k3⟩
       have T3 := Lib.hid (T2.out.next k3)
       have f0 := T3.out.c0
       have f1 := T3.out.c1
       clear k3
       simp only [])
    | (go_at_call 12; (with_reducible refine (shift_is x n s _ (HT.out.next T3.out.bel) HS1).mono ?_); rintro e w4 ⟨rfl, k4⟩
       have T4 := Lib.hid (T3.out.next k4)
       clear k4
       simp only [])
    | (go_at_call 12; (with_reducible refine (shift_is s t z _ (HT.out.next T4.out.bel) HS2).mono ?_); rintro e w5 ⟨rfl, k5⟩
       have T5 := Lib.hid (T4.out.next k5)
       clear k5
       simp only [])
    | (go_at_call 12; refine (shift_sum x n t z _ (HT.out.next T5.out.bel) HS3).mono ?_; rintro e w6 ⟨rfl, k6⟩
       have T6 := Lib.hid (T5.out.next k6)
       clear k6
       simp only [])
    | (go_at_call 9; refine (cawake_yes _ (HT.out.next T6.out.bel)).mono ?_; rintro e w7 ⟨rfl, k7⟩
       have T7 := Lib.hid (T6.out.next k7)
       clear k7
       simp only []))
  go_ret
  exact ⟨rfl, T7.out.bel⟩

set_option maxRecDepth 100000 in
theorem crcLinear_walk (n at' p q : Int) (w : World) (hT : FoAt w) (n1 : -9223372036854775808 ≤ n) (n2 : n ≤ 9223372036854775807) (a1 : -9223372036854775808 ≤ at') (a2 : at' ≤ 9223372036854775807)
    (p1 : -9223372036854775808 ≤ p) (p2 : p ≤ 9223372036854775807) (q1 : -9223372036854775808 ≤ q) (q2 : q ≤ 9223372036854775807) :
    Calls Tryd.prog 8 #[.int .i64 n, .int .i64 at', .agg #[.int .i64 p, .int .i64 q]] w fun e w' => e = .returned (.bool true) ∧ Below w.heap.size w w' := by
  by_cases hn : n < 0 ∨ 300 < n
  · have HT := Lib.hid hT
    have T0 := Lib.hid (TwoR.new w p q 37)
    clear hT
    rcases hn with hn | hn
    all_goals
      go_enter Tryd.func8, Tryd.ntmps8
      go_wp2_with (go_at_call 9; refine (cawake_yes _ (HT.out.next T0.out.bel)).mono ?_; rintro e w1 ⟨rfl, k1⟩
                   have T1 := Lib.hid (T0.out.next k1)
                   clear k1
                   simp only [])
      all_goals
        go_ret
        exact ⟨rfl, T1.out.bel⟩
  · obtain ⟨k, rfl⟩ : ∃ k : Nat, n = (k : Int) := ⟨n.toNat, by omega⟩
    by_cases hp : okR k at' p
    · by_cases hq : okR k at' q
      · have hp' := hp
        have hq' := hq
        unfold okR at hp' hq'
        obtain ⟨t, rfl⟩ : ∃ t : Nat, at' = (t : Int) := ⟨at'.toNat, by omega⟩
        obtain ⟨m, rfl⟩ : ∃ m : Nat, p = (m : Int) := ⟨p.toNat, by omega⟩
        obtain ⟨m2, rfl⟩ : ∃ m2 : Nat, q = (m2 : Int) := ⟨q.toNat, by omega⟩
        by_cases he : m = m2
        · subst he
          exact linear_same k t m w hT (by omega) hp
        · exact linear_other k t m m2 w hT (by omega) hp hq he
      · exact linear_bad k at' p q w hT (by omega) (.inr hq)
    · exact linear_bad k at' p q w hT (by omega) (.inl hp)
end Go.Proofs.YtbdbkbmgiejdfaaDoor
