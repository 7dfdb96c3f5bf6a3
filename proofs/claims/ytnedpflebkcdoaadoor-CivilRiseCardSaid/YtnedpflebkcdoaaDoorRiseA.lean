/- CivilRise's walks: of dates one of which is none, and of two dates, case by case. -/
import Derived.Test.YtnedpflebkcdoaaDoorCyclesA
namespace Go.Proofs.YtnedpflebkcdoaaDoor
open Go.RowKit

/-- Two dates lie in two blocks. -/
structure Pair (w : World) (y m d y' m' d' : Int) (W : World) : Prop where
  one : Boxed w w.heap.size y m d W
  two : Boxed w (w.heap.size + 1) y' m' d' W
theorem Pair.new (w : World) (y m d y' m' d' : Int) (t : TypeId) : Pair w y m d y' m' d' ((w.alloc (.cells #[.int .i64 y, .int .i64 m, .int .i64 d] t)).alloc (.cells #[.int .i64 y', .int .i64 m', .int .i64 d'] t)) := by
  have h := Boxed.make ((Below.refl w.heap.size w).alloc (Nat.le_refl _) (.cells #[.int .i64 y, .int .i64 m, .int .i64 d] t)) y' m' d' t
  rw [World.size_alloc] at h
  exact ⟨(Boxed.new w y m d t).more _, h⟩
theorem Pair.next {w W W' : World} {y m d y' m' d' : Int} (h : Pair w y m d y' m' d' W) (k : Below W.heap.size W W') : Pair w y m d y' m' d' W' := ⟨h.one.next k, h.two.next k⟩

theorem leap_is2 (y : Int) (b : Bool) (w : World) (h : Hid (lpB y = b)) :
    Calls Tryd.prog 10 #[.int .i64 y] w fun e w' => e = .returned (.bool b) ∧ w = w' := by
  have := leap_any y w
  rwa [h.out] at this
theorem long_is2 (y m k : Int) (w : World) (ht : AhAt w) (h1 : -100000 ≤ y) (h2 : y ≤ 100000) (h3 : 1 ≤ m) (h4 : m ≤ 12) (hk : Hid (dim y m = k)) :
    Calls Tryd.prog 9 #[.int .i64 y, .int .i64 m] w fun e w' => e = .returned (.tuple #[.int .i64 k, .int .i64 0]) ∧ Below w.heap.size w w' := by
  have := Long_yes y m w ht ⟨h1, h2, h3, h4⟩
  rwa [hk.out] at this

set_option maxRecDepth 100000 in
set_option maxHeartbeats 1600000 in
theorem rise_no1 (y m d y' m' d' n c : Int) (w : World) (H : Laid2 w) (h : ¬ okD y m d) (hb : ∀ W : World, AhAt W → Calls Tryd.prog 16 #[.agg #[.int .i64 y', .int .i64 m', .int .i64 d']] W fun e w' => e = .returned (.tuple #[.int .i64 n, .int .i64 c]) ∧ Below W.heap.size W w') :
    Calls Tryd.prog 8 #[.agg #[.int .i64 y, .int .i64 m, .int .i64 d], .agg #[.int .i64 y', .int .i64 m', .int .i64 d']] w fun e w' => e = .returned (.bool true) ∧ Below w.heap.size w w' := by
  have HL := Lib.hid H
  have HO := Lib.hid h
  have HB := Lib.hid hb
  
  have D := Lib.hid (Pair.new w y m d y' m' d' 23)
  clear H h hb
  go_enter Tryd.func8, Tryd.ntmps8
  go_wp2_with (first
    | (go_at_call 16; ((with_reducible refine (Days_non y m d _ (HL.out.next D.out.one.bel).ah HO).mono ?_)); rintro e w1 ⟨rfl, k1⟩
       have D1 := Lib.hid (D.out.next k1)
       have c0 := D1.out.two.c0
       have c1 := D1.out.two.c1
       have c2 := D1.out.two.c2
       clear k1 D)
    | (go_at_call 16; ((with_reducible refine (HB.out _ (HL.out.next D1.out.one.bel).ah).mono ?_)); rintro e w2 ⟨rfl, k2⟩
       have D2 := Lib.hid (D1.out.next k2)
       clear k2 D1 c0 c1 c2)
    | (go_at_call 14; refine (awake_yes _ (HL.out.next D2.out.one.bel)).mono ?_; rintro e w3 ⟨rfl, k3⟩
       have D3 := Lib.hid (D2.out.next k3)
       clear k3))
  go_ret
  exact ⟨rfl, D3.out.one.bel⟩

set_option maxRecDepth 100000 in
set_option maxHeartbeats 1600000 in
theorem rise_no2 (y m d y' m' d' n  : Int) (w : World) (H : Laid2 w) (h : okD y m d) (hn : dayN y m d = n) (h' : ¬ okD y' m' d') :
    Calls Tryd.prog 8 #[.agg #[.int .i64 y, .int .i64 m, .int .i64 d], .agg #[.int .i64 y', .int .i64 m', .int .i64 d']] w fun e w' => e = .returned (.bool true) ∧ Below w.heap.size w w' := by
  have HL := Lib.hid H
  have HO := Lib.hid h
  have HN := Lib.hid hn
  have HO' := Lib.hid h'
  have D := Lib.hid (Pair.new w y m d y' m' d' 23)
  clear H h hn h'
  go_enter Tryd.func8, Tryd.ntmps8
  go_wp2_with (first
    | (go_at_call 16; ((with_reducible refine (Days_is n y m d _ (HL.out.next D.out.one.bel).ah HO.out HN).mono ?_)); rintro e w1 ⟨rfl, k1⟩
       have D1 := Lib.hid (D.out.next k1)
       have c0 := D1.out.two.c0
       have c1 := D1.out.two.c1
       have c2 := D1.out.two.c2
       clear k1 D)
    | (go_at_call 16; ((with_reducible refine (Days_non y' m' d' _ (HL.out.next D1.out.one.bel).ah HO').mono ?_)); rintro e w2 ⟨rfl, k2⟩
       have D2 := Lib.hid (D1.out.next k2)
       clear k2 D1 c0 c1 c2)
    | (go_at_call 14; refine (awake_yes _ (HL.out.next D2.out.one.bel)).mono ?_; rintro e w3 ⟨rfl, k3⟩
       have D3 := Lib.hid (D2.out.next k3)
       clear k3))
  go_ret
  exact ⟨rfl, D3.out.one.bel⟩

set_option maxRecDepth 100000 in
set_option maxHeartbeats 3200000 in
theorem rise_A (y m d y' m' d' n k f l s : Int) (b : Bool) (w : World) (H : Laid2 w) (h : okD y m d) (hn : dayN y m d = n) (h' : okD y' m' d') (hk : dayN y' m' d' = k) (q1 : y' < y) (qn : k < n) (y1 : -100000 ≤ y) (y2 : y ≤ 100000)
    (hf : dayN y 1 1 = f) (hl : dayN y 12 31 = l) (hs : cum y 13 = s) (hb : lpB y = b) (s1 : 300 ≤ s) (s2 : s ≤ 400) (f1 : -100000000 ≤ f) (f2 : f ≤ 100000000) (l1 : -100000000 ≤ l) (l2 : l ≤ 100000000) (g1 : (l - f == s - 1) = true) (g2 : (s == 366) = b) (o1 : okD y 1 1) (o2 : okD y 12 31) :
    Calls Tryd.prog 8 #[.agg #[.int .i64 y, .int .i64 m, .int .i64 d], .agg #[.int .i64 y', .int .i64 m', .int .i64 d']] w fun e w' => e = .returned (.bool true) ∧ Below w.heap.size w w' := by
  have HL := Lib.hid H
  have HO := Lib.hid h
  have HN := Lib.hid hn
  have HO' := Lib.hid h'
  have HK := Lib.hid hk
  have HF := Lib.hid hf
  have HLa := Lib.hid hl
  have HS := Lib.hid hs
  have HB := Lib.hid hb
  have O1 := Lib.hid o1
  have O2 := Lib.hid o2
  have G1 := Lib.hid g1
  have G2 := Lib.hid g2
  have C1 := Lib.hid (cum_1 y)
  have P := Lib.hid (Pair.new w y m d y' m' d' 23)
  have e1 : (y == y') = false := by simp; omega
  have e2 : (n == k) = false := by simp; omega
  clear H h hn h' hk hf hl hs hb o1 o2 g1 g2
  go_enter Tryd.func8, Tryd.ntmps8
  go_wp2_with (first
    | (go_at_call 16; have P0 := P; clear P; refine (Days_is n y m d _ (HL.out.next P0.out.one.bel).ah HO.out HN).mono ?_; rintro e w1 ⟨rfl, k1⟩
       have P1 := Lib.hid (P0.out.next k1)
       have c0 := P1.out.two.c0
       have c1 := P1.out.two.c1
       have c2 := P1.out.two.c2
       clear k1 P0)
    | (go_at_call 16; refine (Days_is k y' m' d' _ (HL.out.next P1.out.one.bel).ah HO'.out HK).mono ?_; rintro e w2 ⟨rfl, k2⟩
       have P2 := Lib.hid (P1.out.next k2)
       clear k2 P1 c0 c1 c2
       have a0 := P2.out.one.c0
       have a1 := P2.out.one.c1
       have a2 := P2.out.one.c2
       have c0 := P2.out.two.c0
       have c1 := P2.out.two.c1
       have c2 := P2.out.two.c2))
  go_loopw [10, 11] (fun u t w' => ∃ j : Int, 1 ≤ j ∧ j ≤ 13 ∧ t = .int .i64 j ∧ u = .int .i64 (cum y j) ∧ Boxed w w.heap.size y m d w') (fun _ t _ => (13 - intOf t).toNat)
  case atStart => exact ⟨1, by omega, by omega, rfl, by rw [C1.out], P2.out.one⟩
  case round =>
    obtain ⟨j, j1, j2, rfl, rfl, B⟩ := hrel
    clear a0 a1 a2 c0 c1 c2 P2
    have cb := cum_bd y j
    have a0 := B.c0
    have BH := Lib.hid B
    clear B
    by_cases hj : j ≤ 12
    · have HC := Lib.hid (cum_succ y j)
      obtain ⟨v, hv⟩ : ∃ v, dim y j = v := ⟨_, rfl⟩
      have vb : 28 ≤ v ∧ v ≤ 31 := by rw [← hv]; exact dim_bd y j j1 hj
      have HV := Lib.hid hv
      clear hv
      go_wp2_with (first
        | (go_at_call 9; refine (long_is2 y j v _ (HL.out.next BH.out.bel).ah y1 y2 j1 hj HV).mono ?_; rintro e w3 ⟨rfl, k3⟩
           have BN := Lib.hid (BH.out.next k3)
           clear k3))
      go_roundw
      case rel => exact ⟨j + 1, by omega, by omega, rfl, by rw [HC.out, HV.out], BN.out⟩
      case measure => simp [intOf]; omega
    · obtain rfl : j = 13 := by omega
      have S1 := HS.out
      have g1 := G1.out
      have g2 := G2.out
      clear cb
      go_wp2_with (first
        | (go_at_call 16; ((with_reducible refine (Days_is f y 1 1 _ (HL.out.next BH.out.bel).ah O1.out HF).mono ?_)); rintro e w4 ⟨rfl, k4⟩
           have B4 := Lib.hid (BH.out.next k4)
           clear k4 a0
           have a0 := B4.out.c0)
        | (go_at_call 16; ((with_reducible refine (Days_is l y 12 31 _ (HL.out.next B4.out.bel).ah O2.out HLa).mono ?_)); rintro e w5 ⟨rfl, k5⟩
           have B5 := Lib.hid (B4.out.next k5)
           clear k5 a0
           have a0 := B5.out.c0)
        | (go_at_call 10; refine (leap_is2 y b _ HB).mono ?_; rintro e w6 ⟨rfl, rfl⟩)
        | (go_at_call 14; refine (awake_yes _ (HL.out.next B5.out.bel)).mono ?_; rintro e w7 ⟨rfl, k7⟩
           have B6 := Lib.hid (B5.out.next k7)
           clear k7))
      go_ret
      exact ⟨rfl, B6.out.bel⟩

set_option maxRecDepth 100000 in
set_option maxHeartbeats 3200000 in
theorem rise_B (y m d y' m' d' n k f l s : Int) (b : Bool) (w : World) (H : Laid2 w) (h : okD y m d) (hn : dayN y m d = n) (h' : okD y' m' d') (hk : dayN y' m' d' = k) (q1 : y < y') (qn : n < k) (y1 : -100000 ≤ y) (y2 : y ≤ 100000)
    (hf : dayN y 1 1 = f) (hl : dayN y 12 31 = l) (hs : cum y 13 = s) (hb : lpB y = b) (s1 : 300 ≤ s) (s2 : s ≤ 400) (f1 : -100000000 ≤ f) (f2 : f ≤ 100000000) (l1 : -100000000 ≤ l) (l2 : l ≤ 100000000) (g1 : (l - f == s - 1) = true) (g2 : (s == 366) = b) (o1 : okD y 1 1) (o2 : okD y 12 31) :
    Calls Tryd.prog 8 #[.agg #[.int .i64 y, .int .i64 m, .int .i64 d], .agg #[.int .i64 y', .int .i64 m', .int .i64 d']] w fun e w' => e = .returned (.bool true) ∧ Below w.heap.size w w' := by
  have HL := Lib.hid H
  have HO := Lib.hid h
  have HN := Lib.hid hn
  have HO' := Lib.hid h'
  have HK := Lib.hid hk
  have HF := Lib.hid hf
  have HLa := Lib.hid hl
  have HS := Lib.hid hs
  have HB := Lib.hid hb
  have O1 := Lib.hid o1
  have O2 := Lib.hid o2
  have G1 := Lib.hid g1
  have G2 := Lib.hid g2
  have C1 := Lib.hid (cum_1 y)
  have P := Lib.hid (Pair.new w y m d y' m' d' 23)
  have e1 : (y == y') = false := by simp; omega
  have e2 : (n == k) = false := by simp; omega
  clear H h hn h' hk hf hl hs hb o1 o2 g1 g2
  go_enter Tryd.func8, Tryd.ntmps8
  go_wp2_with (first
    | (go_at_call 16; have P0 := P; clear P; refine (Days_is n y m d _ (HL.out.next P0.out.one.bel).ah HO.out HN).mono ?_; rintro e w1 ⟨rfl, k1⟩
       have P1 := Lib.hid (P0.out.next k1)
       have c0 := P1.out.two.c0
       have c1 := P1.out.two.c1
       have c2 := P1.out.two.c2
       clear k1 P0)
    | (go_at_call 16; refine (Days_is k y' m' d' _ (HL.out.next P1.out.one.bel).ah HO'.out HK).mono ?_; rintro e w2 ⟨rfl, k2⟩
       have P2 := Lib.hid (P1.out.next k2)
       clear k2 P1 c0 c1 c2
       have a0 := P2.out.one.c0
       have a1 := P2.out.one.c1
       have a2 := P2.out.one.c2
       have c0 := P2.out.two.c0
       have c1 := P2.out.two.c1
       have c2 := P2.out.two.c2))
  go_loopw [10, 11] (fun u t w' => ∃ j : Int, 1 ≤ j ∧ j ≤ 13 ∧ t = .int .i64 j ∧ u = .int .i64 (cum y j) ∧ Boxed w w.heap.size y m d w') (fun _ t _ => (13 - intOf t).toNat)
  case atStart => exact ⟨1, by omega, by omega, rfl, by rw [C1.out], P2.out.one⟩
  case round =>
    obtain ⟨j, j1, j2, rfl, rfl, B⟩ := hrel
    clear a0 a1 a2 c0 c1 c2 P2
    have cb := cum_bd y j
    have a0 := B.c0
    have BH := Lib.hid B
    clear B
    by_cases hj : j ≤ 12
    · have HC := Lib.hid (cum_succ y j)
      obtain ⟨v, hv⟩ : ∃ v, dim y j = v := ⟨_, rfl⟩
      have vb : 28 ≤ v ∧ v ≤ 31 := by rw [← hv]; exact dim_bd y j j1 hj
      have HV := Lib.hid hv
      clear hv
      go_wp2_with (first
        | (go_at_call 9; refine (long_is2 y j v _ (HL.out.next BH.out.bel).ah y1 y2 j1 hj HV).mono ?_; rintro e w3 ⟨rfl, k3⟩
           have BN := Lib.hid (BH.out.next k3)
           clear k3))
      go_roundw
      case rel => exact ⟨j + 1, by omega, by omega, rfl, by rw [HC.out, HV.out], BN.out⟩
      case measure => simp [intOf]; omega
    · obtain rfl : j = 13 := by omega
      have S1 := HS.out
      have g1 := G1.out
      have g2 := G2.out
      clear cb
      go_wp2_with (first
        | (go_at_call 16; ((with_reducible refine (Days_is f y 1 1 _ (HL.out.next BH.out.bel).ah O1.out HF).mono ?_)); rintro e w4 ⟨rfl, k4⟩
           have B4 := Lib.hid (BH.out.next k4)
           clear k4 a0
           have a0 := B4.out.c0)
        | (go_at_call 16; ((with_reducible refine (Days_is l y 12 31 _ (HL.out.next B4.out.bel).ah O2.out HLa).mono ?_)); rintro e w5 ⟨rfl, k5⟩
           have B5 := Lib.hid (B4.out.next k5)
           clear k5 a0
           have a0 := B5.out.c0)
        | (go_at_call 10; refine (leap_is2 y b _ HB).mono ?_; rintro e w6 ⟨rfl, rfl⟩)
        | (go_at_call 14; refine (awake_yes _ (HL.out.next B5.out.bel)).mono ?_; rintro e w7 ⟨rfl, k7⟩
           have B6 := Lib.hid (B5.out.next k7)
           clear k7))
      go_ret
      exact ⟨rfl, B6.out.bel⟩

set_option maxRecDepth 100000 in
set_option maxHeartbeats 3200000 in
theorem rise_C (y m d m' d' n k f l s : Int) (b : Bool) (w : World) (H : Laid2 w) (h : okD y m d) (hn : dayN y m d = n) (h' : okD y m' d') (hk : dayN y m' d' = k) (q2 : m' < m) (qn : k < n) (y1 : -100000 ≤ y) (y2 : y ≤ 100000)
    (hf : dayN y 1 1 = f) (hl : dayN y 12 31 = l) (hs : cum y 13 = s) (hb : lpB y = b) (s1 : 300 ≤ s) (s2 : s ≤ 400) (f1 : -100000000 ≤ f) (f2 : f ≤ 100000000) (l1 : -100000000 ≤ l) (l2 : l ≤ 100000000) (g1 : (l - f == s - 1) = true) (g2 : (s == 366) = b) (o1 : okD y 1 1) (o2 : okD y 12 31) :
    Calls Tryd.prog 8 #[.agg #[.int .i64 y, .int .i64 m, .int .i64 d], .agg #[.int .i64 y, .int .i64 m', .int .i64 d']] w fun e w' => e = .returned (.bool true) ∧ Below w.heap.size w w' := by
  have HL := Lib.hid H
  have HO := Lib.hid h
  have HN := Lib.hid hn
  have HO' := Lib.hid h'
  have HK := Lib.hid hk
  have HF := Lib.hid hf
  have HLa := Lib.hid hl
  have HS := Lib.hid hs
  have HB := Lib.hid hb
  have O1 := Lib.hid o1
  have O2 := Lib.hid o2
  have G1 := Lib.hid g1
  have G2 := Lib.hid g2
  have C1 := Lib.hid (cum_1 y)
  have P := Lib.hid (Pair.new w y m d y m' d' 23)
  have e1 : (m == m') = false := by simp; omega
  have e2 : (n == k) = false := by simp; omega
  clear H h hn h' hk hf hl hs hb o1 o2 g1 g2
  go_enter Tryd.func8, Tryd.ntmps8
  go_wp2_with (first
    | (go_at_call 16; have P0 := P; clear P; refine (Days_is n y m d _ (HL.out.next P0.out.one.bel).ah HO.out HN).mono ?_; rintro e w1 ⟨rfl, k1⟩
       have P1 := Lib.hid (P0.out.next k1)
       have c0 := P1.out.two.c0
       have c1 := P1.out.two.c1
       have c2 := P1.out.two.c2
       clear k1 P0)
    | (go_at_call 16; refine (Days_is k y m' d' _ (HL.out.next P1.out.one.bel).ah HO'.out HK).mono ?_; rintro e w2 ⟨rfl, k2⟩
       have P2 := Lib.hid (P1.out.next k2)
       clear k2 P1 c0 c1 c2
       have a0 := P2.out.one.c0
       have a1 := P2.out.one.c1
       have a2 := P2.out.one.c2
       have c0 := P2.out.two.c0
       have c1 := P2.out.two.c1
       have c2 := P2.out.two.c2))
  go_loopw [10, 11] (fun u t w' => ∃ j : Int, 1 ≤ j ∧ j ≤ 13 ∧ t = .int .i64 j ∧ u = .int .i64 (cum y j) ∧ Boxed w w.heap.size y m d w') (fun _ t _ => (13 - intOf t).toNat)
  case atStart => exact ⟨1, by omega, by omega, rfl, by rw [C1.out], P2.out.one⟩
  case round =>
    obtain ⟨j, j1, j2, rfl, rfl, B⟩ := hrel
    clear a0 a1 a2 c0 c1 c2 P2
    have cb := cum_bd y j
    have a0 := B.c0
    have BH := Lib.hid B
    clear B
    by_cases hj : j ≤ 12
    · have HC := Lib.hid (cum_succ y j)
      obtain ⟨v, hv⟩ : ∃ v, dim y j = v := ⟨_, rfl⟩
      have vb : 28 ≤ v ∧ v ≤ 31 := by rw [← hv]; exact dim_bd y j j1 hj
      have HV := Lib.hid hv
      clear hv
      go_wp2_with (first
        | (go_at_call 9; refine (long_is2 y j v _ (HL.out.next BH.out.bel).ah y1 y2 j1 hj HV).mono ?_; rintro e w3 ⟨rfl, k3⟩
           have BN := Lib.hid (BH.out.next k3)
           clear k3))
      go_roundw
      case rel => exact ⟨j + 1, by omega, by omega, rfl, by rw [HC.out, HV.out], BN.out⟩
      case measure => simp [intOf]; omega
    · obtain rfl : j = 13 := by omega
      have S1 := HS.out
      have g1 := G1.out
      have g2 := G2.out
      clear cb
      go_wp2_with (first
        | (go_at_call 16; ((with_reducible refine (Days_is f y 1 1 _ (HL.out.next BH.out.bel).ah O1.out HF).mono ?_)); rintro e w4 ⟨rfl, k4⟩
           have B4 := Lib.hid (BH.out.next k4)
           clear k4 a0
           have a0 := B4.out.c0)
        | (go_at_call 16; ((with_reducible refine (Days_is l y 12 31 _ (HL.out.next B4.out.bel).ah O2.out HLa).mono ?_)); rintro e w5 ⟨rfl, k5⟩
           have B5 := Lib.hid (B4.out.next k5)
           clear k5 a0
           have a0 := B5.out.c0)
        | (go_at_call 10; refine (leap_is2 y b _ HB).mono ?_; rintro e w6 ⟨rfl, rfl⟩)
        | (go_at_call 14; refine (awake_yes _ (HL.out.next B5.out.bel)).mono ?_; rintro e w7 ⟨rfl, k7⟩
           have B6 := Lib.hid (B5.out.next k7)
           clear k7))
      go_ret
      exact ⟨rfl, B6.out.bel⟩

set_option maxRecDepth 100000 in
set_option maxHeartbeats 3200000 in
theorem rise_D (y m d m' d' n k f l s : Int) (b : Bool) (w : World) (H : Laid2 w) (h : okD y m d) (hn : dayN y m d = n) (h' : okD y m' d') (hk : dayN y m' d' = k) (q2 : m < m') (qn : n < k) (y1 : -100000 ≤ y) (y2 : y ≤ 100000)
    (hf : dayN y 1 1 = f) (hl : dayN y 12 31 = l) (hs : cum y 13 = s) (hb : lpB y = b) (s1 : 300 ≤ s) (s2 : s ≤ 400) (f1 : -100000000 ≤ f) (f2 : f ≤ 100000000) (l1 : -100000000 ≤ l) (l2 : l ≤ 100000000) (g1 : (l - f == s - 1) = true) (g2 : (s == 366) = b) (o1 : okD y 1 1) (o2 : okD y 12 31) :
    Calls Tryd.prog 8 #[.agg #[.int .i64 y, .int .i64 m, .int .i64 d], .agg #[.int .i64 y, .int .i64 m', .int .i64 d']] w fun e w' => e = .returned (.bool true) ∧ Below w.heap.size w w' := by
  have HL := Lib.hid H
  have HO := Lib.hid h
  have HN := Lib.hid hn
  have HO' := Lib.hid h'
  have HK := Lib.hid hk
  have HF := Lib.hid hf
  have HLa := Lib.hid hl
  have HS := Lib.hid hs
  have HB := Lib.hid hb
  have O1 := Lib.hid o1
  have O2 := Lib.hid o2
  have G1 := Lib.hid g1
  have G2 := Lib.hid g2
  have C1 := Lib.hid (cum_1 y)
  have P := Lib.hid (Pair.new w y m d y m' d' 23)
  have e1 : (m == m') = false := by simp; omega
  have e2 : (n == k) = false := by simp; omega
  clear H h hn h' hk hf hl hs hb o1 o2 g1 g2
  go_enter Tryd.func8, Tryd.ntmps8
  go_wp2_with (first
    | (go_at_call 16; have P0 := P; clear P; refine (Days_is n y m d _ (HL.out.next P0.out.one.bel).ah HO.out HN).mono ?_; rintro e w1 ⟨rfl, k1⟩
       have P1 := Lib.hid (P0.out.next k1)
       have c0 := P1.out.two.c0
       have c1 := P1.out.two.c1
       have c2 := P1.out.two.c2
       clear k1 P0)
    | (go_at_call 16; refine (Days_is k y m' d' _ (HL.out.next P1.out.one.bel).ah HO'.out HK).mono ?_; rintro e w2 ⟨rfl, k2⟩
       have P2 := Lib.hid (P1.out.next k2)
       clear k2 P1 c0 c1 c2
       have a0 := P2.out.one.c0
       have a1 := P2.out.one.c1
       have a2 := P2.out.one.c2
       have c0 := P2.out.two.c0
       have c1 := P2.out.two.c1
       have c2 := P2.out.two.c2))
  go_loopw [10, 11] (fun u t w' => ∃ j : Int, 1 ≤ j ∧ j ≤ 13 ∧ t = .int .i64 j ∧ u = .int .i64 (cum y j) ∧ Boxed w w.heap.size y m d w') (fun _ t _ => (13 - intOf t).toNat)
  case atStart => exact ⟨1, by omega, by omega, rfl, by rw [C1.out], P2.out.one⟩
  case round =>
    obtain ⟨j, j1, j2, rfl, rfl, B⟩ := hrel
    clear a0 a1 a2 c0 c1 c2 P2
    have cb := cum_bd y j
    have a0 := B.c0
    have BH := Lib.hid B
    clear B
    by_cases hj : j ≤ 12
    · have HC := Lib.hid (cum_succ y j)
      obtain ⟨v, hv⟩ : ∃ v, dim y j = v := ⟨_, rfl⟩
      have vb : 28 ≤ v ∧ v ≤ 31 := by rw [← hv]; exact dim_bd y j j1 hj
      have HV := Lib.hid hv
      clear hv
      go_wp2_with (first
        | (go_at_call 9; refine (long_is2 y j v _ (HL.out.next BH.out.bel).ah y1 y2 j1 hj HV).mono ?_; rintro e w3 ⟨rfl, k3⟩
           have BN := Lib.hid (BH.out.next k3)
           clear k3))
      go_roundw
      case rel => exact ⟨j + 1, by omega, by omega, rfl, by rw [HC.out, HV.out], BN.out⟩
      case measure => simp [intOf]; omega
    · obtain rfl : j = 13 := by omega
      have S1 := HS.out
      have g1 := G1.out
      have g2 := G2.out
      clear cb
      go_wp2_with (first
        | (go_at_call 16; ((with_reducible refine (Days_is f y 1 1 _ (HL.out.next BH.out.bel).ah O1.out HF).mono ?_)); rintro e w4 ⟨rfl, k4⟩
           have B4 := Lib.hid (BH.out.next k4)
           clear k4 a0
           have a0 := B4.out.c0)
        | (go_at_call 16; ((with_reducible refine (Days_is l y 12 31 _ (HL.out.next B4.out.bel).ah O2.out HLa).mono ?_)); rintro e w5 ⟨rfl, k5⟩
           have B5 := Lib.hid (B4.out.next k5)
           clear k5 a0
           have a0 := B5.out.c0)
        | (go_at_call 10; refine (leap_is2 y b _ HB).mono ?_; rintro e w6 ⟨rfl, rfl⟩)
        | (go_at_call 14; refine (awake_yes _ (HL.out.next B5.out.bel)).mono ?_; rintro e w7 ⟨rfl, k7⟩
           have B6 := Lib.hid (B5.out.next k7)
           clear k7))
      go_ret
      exact ⟨rfl, B6.out.bel⟩

set_option maxRecDepth 100000 in
set_option maxHeartbeats 3200000 in
theorem rise_E (y m d d' n k f l s : Int) (b : Bool) (w : World) (H : Laid2 w) (h : okD y m d) (hn : dayN y m d = n) (h' : okD y m d') (hk : dayN y m d' = k) (q3 : d' < d) (qn : k < n) (y1 : -100000 ≤ y) (y2 : y ≤ 100000)
    (hf : dayN y 1 1 = f) (hl : dayN y 12 31 = l) (hs : cum y 13 = s) (hb : lpB y = b) (s1 : 300 ≤ s) (s2 : s ≤ 400) (f1 : -100000000 ≤ f) (f2 : f ≤ 100000000) (l1 : -100000000 ≤ l) (l2 : l ≤ 100000000) (g1 : (l - f == s - 1) = true) (g2 : (s == 366) = b) (o1 : okD y 1 1) (o2 : okD y 12 31) :
    Calls Tryd.prog 8 #[.agg #[.int .i64 y, .int .i64 m, .int .i64 d], .agg #[.int .i64 y, .int .i64 m, .int .i64 d']] w fun e w' => e = .returned (.bool true) ∧ Below w.heap.size w w' := by
  have HL := Lib.hid H
  have HO := Lib.hid h
  have HN := Lib.hid hn
  have HO' := Lib.hid h'
  have HK := Lib.hid hk
  have HF := Lib.hid hf
  have HLa := Lib.hid hl
  have HS := Lib.hid hs
  have HB := Lib.hid hb
  have O1 := Lib.hid o1
  have O2 := Lib.hid o2
  have G1 := Lib.hid g1
  have G2 := Lib.hid g2
  have C1 := Lib.hid (cum_1 y)
  have P := Lib.hid (Pair.new w y m d y m d' 23)
  have e1 : (d == d') = false := by simp; omega
  have e2 : (n == k) = false := by simp; omega
  clear H h hn h' hk hf hl hs hb o1 o2 g1 g2
  go_enter Tryd.func8, Tryd.ntmps8
  go_wp2_with (first
    | (go_at_call 16; have P0 := P; clear P; refine (Days_is n y m d _ (HL.out.next P0.out.one.bel).ah HO.out HN).mono ?_; rintro e w1 ⟨rfl, k1⟩
       have P1 := Lib.hid (P0.out.next k1)
       have c0 := P1.out.two.c0
       have c1 := P1.out.two.c1
       have c2 := P1.out.two.c2
       clear k1 P0)
    | (go_at_call 16; refine (Days_is k y m d' _ (HL.out.next P1.out.one.bel).ah HO'.out HK).mono ?_; rintro e w2 ⟨rfl, k2⟩
       have P2 := Lib.hid (P1.out.next k2)
       clear k2 P1 c0 c1 c2
       have a0 := P2.out.one.c0
       have a1 := P2.out.one.c1
       have a2 := P2.out.one.c2
       have c0 := P2.out.two.c0
       have c1 := P2.out.two.c1
       have c2 := P2.out.two.c2))
  go_loopw [10, 11] (fun u t w' => ∃ j : Int, 1 ≤ j ∧ j ≤ 13 ∧ t = .int .i64 j ∧ u = .int .i64 (cum y j) ∧ Boxed w w.heap.size y m d w') (fun _ t _ => (13 - intOf t).toNat)
  case atStart => exact ⟨1, by omega, by omega, rfl, by rw [C1.out], P2.out.one⟩
  case round =>
    obtain ⟨j, j1, j2, rfl, rfl, B⟩ := hrel
    clear a0 a1 a2 c0 c1 c2 P2
    have cb := cum_bd y j
    have a0 := B.c0
    have BH := Lib.hid B
    clear B
    by_cases hj : j ≤ 12
    · have HC := Lib.hid (cum_succ y j)
      obtain ⟨v, hv⟩ : ∃ v, dim y j = v := ⟨_, rfl⟩
      have vb : 28 ≤ v ∧ v ≤ 31 := by rw [← hv]; exact dim_bd y j j1 hj
      have HV := Lib.hid hv
      clear hv
      go_wp2_with (first
        | (go_at_call 9; refine (long_is2 y j v _ (HL.out.next BH.out.bel).ah y1 y2 j1 hj HV).mono ?_; rintro e w3 ⟨rfl, k3⟩
           have BN := Lib.hid (BH.out.next k3)
           clear k3))
      go_roundw
      case rel => exact ⟨j + 1, by omega, by omega, rfl, by rw [HC.out, HV.out], BN.out⟩
      case measure => simp [intOf]; omega
    · obtain rfl : j = 13 := by omega
      have S1 := HS.out
      have g1 := G1.out
      have g2 := G2.out
      clear cb
      go_wp2_with (first
        | (go_at_call 16; ((with_reducible refine (Days_is f y 1 1 _ (HL.out.next BH.out.bel).ah O1.out HF).mono ?_)); rintro e w4 ⟨rfl, k4⟩
           have B4 := Lib.hid (BH.out.next k4)
           clear k4 a0
           have a0 := B4.out.c0)
        | (go_at_call 16; ((with_reducible refine (Days_is l y 12 31 _ (HL.out.next B4.out.bel).ah O2.out HLa).mono ?_)); rintro e w5 ⟨rfl, k5⟩
           have B5 := Lib.hid (B4.out.next k5)
           clear k5 a0
           have a0 := B5.out.c0)
        | (go_at_call 10; refine (leap_is2 y b _ HB).mono ?_; rintro e w6 ⟨rfl, rfl⟩)
        | (go_at_call 14; refine (awake_yes _ (HL.out.next B5.out.bel)).mono ?_; rintro e w7 ⟨rfl, k7⟩
           have B6 := Lib.hid (B5.out.next k7)
           clear k7))
      go_ret
      exact ⟨rfl, B6.out.bel⟩

set_option maxRecDepth 100000 in
set_option maxHeartbeats 3200000 in
theorem rise_F (y m d d' n k f l s : Int) (b : Bool) (w : World) (H : Laid2 w) (h : okD y m d) (hn : dayN y m d = n) (h' : okD y m d') (hk : dayN y m d' = k) (q3 : d < d') (qn : n < k) (y1 : -100000 ≤ y) (y2 : y ≤ 100000)
    (hf : dayN y 1 1 = f) (hl : dayN y 12 31 = l) (hs : cum y 13 = s) (hb : lpB y = b) (s1 : 300 ≤ s) (s2 : s ≤ 400) (f1 : -100000000 ≤ f) (f2 : f ≤ 100000000) (l1 : -100000000 ≤ l) (l2 : l ≤ 100000000) (g1 : (l - f == s - 1) = true) (g2 : (s == 366) = b) (o1 : okD y 1 1) (o2 : okD y 12 31) :
    Calls Tryd.prog 8 #[.agg #[.int .i64 y, .int .i64 m, .int .i64 d], .agg #[.int .i64 y, .int .i64 m, .int .i64 d']] w fun e w' => e = .returned (.bool true) ∧ Below w.heap.size w w' := by
  have HL := Lib.hid H
  have HO := Lib.hid h
  have HN := Lib.hid hn
  have HO' := Lib.hid h'
  have HK := Lib.hid hk
  have HF := Lib.hid hf
  have HLa := Lib.hid hl
  have HS := Lib.hid hs
  have HB := Lib.hid hb
  have O1 := Lib.hid o1
  have O2 := Lib.hid o2
  have G1 := Lib.hid g1
  have G2 := Lib.hid g2
  have C1 := Lib.hid (cum_1 y)
  have P := Lib.hid (Pair.new w y m d y m d' 23)
  have e1 : (d == d') = false := by simp; omega
  have e2 : (n == k) = false := by simp; omega
  clear H h hn h' hk hf hl hs hb o1 o2 g1 g2
  go_enter Tryd.func8, Tryd.ntmps8
  go_wp2_with (first
    | (go_at_call 16; have P0 := P; clear P; refine (Days_is n y m d _ (HL.out.next P0.out.one.bel).ah HO.out HN).mono ?_; rintro e w1 ⟨rfl, k1⟩
       have P1 := Lib.hid (P0.out.next k1)
       have c0 := P1.out.two.c0
       have c1 := P1.out.two.c1
       have c2 := P1.out.two.c2
       clear k1 P0)
    | (go_at_call 16; refine (Days_is k y m d' _ (HL.out.next P1.out.one.bel).ah HO'.out HK).mono ?_; rintro e w2 ⟨rfl, k2⟩
       have P2 := Lib.hid (P1.out.next k2)
       clear k2 P1 c0 c1 c2
       have a0 := P2.out.one.c0
       have a1 := P2.out.one.c1
       have a2 := P2.out.one.c2
       have c0 := P2.out.two.c0
       have c1 := P2.out.two.c1
       have c2 := P2.out.two.c2))
  go_loopw [10, 11] (fun u t w' => ∃ j : Int, 1 ≤ j ∧ j ≤ 13 ∧ t = .int .i64 j ∧ u = .int .i64 (cum y j) ∧ Boxed w w.heap.size y m d w') (fun _ t _ => (13 - intOf t).toNat)
  case atStart => exact ⟨1, by omega, by omega, rfl, by rw [C1.out], P2.out.one⟩
  case round =>
    obtain ⟨j, j1, j2, rfl, rfl, B⟩ := hrel
    clear a0 a1 a2 c0 c1 c2 P2
    have cb := cum_bd y j
    have a0 := B.c0
    have BH := Lib.hid B
    clear B
    by_cases hj : j ≤ 12
    · have HC := Lib.hid (cum_succ y j)
      obtain ⟨v, hv⟩ : ∃ v, dim y j = v := ⟨_, rfl⟩
      have vb : 28 ≤ v ∧ v ≤ 31 := by rw [← hv]; exact dim_bd y j j1 hj
      have HV := Lib.hid hv
      clear hv
      go_wp2_with (first
        | (go_at_call 9; refine (long_is2 y j v _ (HL.out.next BH.out.bel).ah y1 y2 j1 hj HV).mono ?_; rintro e w3 ⟨rfl, k3⟩
           have BN := Lib.hid (BH.out.next k3)
           clear k3))
      go_roundw
      case rel => exact ⟨j + 1, by omega, by omega, rfl, by rw [HC.out, HV.out], BN.out⟩
      case measure => simp [intOf]; omega
    · obtain rfl : j = 13 := by omega
      have S1 := HS.out
      have g1 := G1.out
      have g2 := G2.out
      clear cb
      go_wp2_with (first
        | (go_at_call 16; ((with_reducible refine (Days_is f y 1 1 _ (HL.out.next BH.out.bel).ah O1.out HF).mono ?_)); rintro e w4 ⟨rfl, k4⟩
           have B4 := Lib.hid (BH.out.next k4)
           clear k4 a0
           have a0 := B4.out.c0)
        | (go_at_call 16; ((with_reducible refine (Days_is l y 12 31 _ (HL.out.next B4.out.bel).ah O2.out HLa).mono ?_)); rintro e w5 ⟨rfl, k5⟩
           have B5 := Lib.hid (B4.out.next k5)
           clear k5 a0
           have a0 := B5.out.c0)
        | (go_at_call 10; refine (leap_is2 y b _ HB).mono ?_; rintro e w6 ⟨rfl, rfl⟩)
        | (go_at_call 14; refine (awake_yes _ (HL.out.next B5.out.bel)).mono ?_; rintro e w7 ⟨rfl, k7⟩
           have B6 := Lib.hid (B5.out.next k7)
           clear k7))
      go_ret
      exact ⟨rfl, B6.out.bel⟩

set_option maxRecDepth 100000 in
set_option maxHeartbeats 3200000 in
theorem rise_G (y m d n f l s : Int) (b : Bool) (w : World) (H : Laid2 w) (h : okD y m d) (hn : dayN y m d = n)    (y1 : -100000 ≤ y) (y2 : y ≤ 100000)
    (hf : dayN y 1 1 = f) (hl : dayN y 12 31 = l) (hs : cum y 13 = s) (hb : lpB y = b) (s1 : 300 ≤ s) (s2 : s ≤ 400) (f1 : -100000000 ≤ f) (f2 : f ≤ 100000000) (l1 : -100000000 ≤ l) (l2 : l ≤ 100000000) (g1 : (l - f == s - 1) = true) (g2 : (s == 366) = b) (o1 : okD y 1 1) (o2 : okD y 12 31) :
    Calls Tryd.prog 8 #[.agg #[.int .i64 y, .int .i64 m, .int .i64 d], .agg #[.int .i64 y, .int .i64 m, .int .i64 d]] w fun e w' => e = .returned (.bool true) ∧ Below w.heap.size w w' := by
  have HL := Lib.hid H
  have HO := Lib.hid h
  have HN := Lib.hid hn
  
  
  have HF := Lib.hid hf
  have HLa := Lib.hid hl
  have HS := Lib.hid hs
  have HB := Lib.hid hb
  have O1 := Lib.hid o1
  have O2 := Lib.hid o2
  have G1 := Lib.hid g1
  have G2 := Lib.hid g2
  have C1 := Lib.hid (cum_1 y)
  have P := Lib.hid (Pair.new w y m d y m d 23)
  clear H h hn  hf hl hs hb o1 o2 g1 g2
  go_enter Tryd.func8, Tryd.ntmps8
  go_wp2_with (first
    | (go_at_call 16; have P0 := P; clear P; refine (Days_is n y m d _ (HL.out.next P0.out.one.bel).ah HO.out HN).mono ?_; rintro e w1 ⟨rfl, k1⟩
       have P1 := Lib.hid (P0.out.next k1)
       have c0 := P1.out.two.c0
       have c1 := P1.out.two.c1
       have c2 := P1.out.two.c2
       clear k1 P0)
    | (go_at_call 16; refine (Days_is n y m d _ (HL.out.next P1.out.one.bel).ah HO.out HN).mono ?_; rintro e w2 ⟨rfl, k2⟩
       have P2 := Lib.hid (P1.out.next k2)
       clear k2 P1 c0 c1 c2
       have a0 := P2.out.one.c0
       have a1 := P2.out.one.c1
       have a2 := P2.out.one.c2
       have c0 := P2.out.two.c0
       have c1 := P2.out.two.c1
       have c2 := P2.out.two.c2))
  go_loopw [10, 11] (fun u t w' => ∃ j : Int, 1 ≤ j ∧ j ≤ 13 ∧ t = .int .i64 j ∧ u = .int .i64 (cum y j) ∧ Boxed w w.heap.size y m d w') (fun _ t _ => (13 - intOf t).toNat)
  case atStart => exact ⟨1, by omega, by omega, rfl, by rw [C1.out], P2.out.one⟩
  case round =>
    obtain ⟨j, j1, j2, rfl, rfl, B⟩ := hrel
    clear a0 a1 a2 c0 c1 c2 P2
    have cb := cum_bd y j
    have a0 := B.c0
    have BH := Lib.hid B
    clear B
    by_cases hj : j ≤ 12
    · have HC := Lib.hid (cum_succ y j)
      obtain ⟨v, hv⟩ : ∃ v, dim y j = v := ⟨_, rfl⟩
      have vb : 28 ≤ v ∧ v ≤ 31 := by rw [← hv]; exact dim_bd y j j1 hj
      have HV := Lib.hid hv
      clear hv
      go_wp2_with (first
        | (go_at_call 9; refine (long_is2 y j v _ (HL.out.next BH.out.bel).ah y1 y2 j1 hj HV).mono ?_; rintro e w3 ⟨rfl, k3⟩
           have BN := Lib.hid (BH.out.next k3)
           clear k3))
      go_roundw
      case rel => exact ⟨j + 1, by omega, by omega, rfl, by rw [HC.out, HV.out], BN.out⟩
      case measure => simp [intOf]; omega
    · obtain rfl : j = 13 := by omega
      have S1 := HS.out
      have g1 := G1.out
      have g2 := G2.out
      clear cb
      go_wp2_with (first
        | (go_at_call 16; ((with_reducible refine (Days_is f y 1 1 _ (HL.out.next BH.out.bel).ah O1.out HF).mono ?_)); rintro e w4 ⟨rfl, k4⟩
           have B4 := Lib.hid (BH.out.next k4)
           clear k4 a0
           have a0 := B4.out.c0)
        | (go_at_call 16; ((with_reducible refine (Days_is l y 12 31 _ (HL.out.next B4.out.bel).ah O2.out HLa).mono ?_)); rintro e w5 ⟨rfl, k5⟩
           have B5 := Lib.hid (B4.out.next k5)
           clear k5 a0
           have a0 := B5.out.c0)
        | (go_at_call 10; refine (leap_is2 y b _ HB).mono ?_; rintro e w6 ⟨rfl, rfl⟩)
        | (go_at_call 14; refine (awake_yes _ (HL.out.next B5.out.bel)).mono ?_; rintro e w7 ⟨rfl, k7⟩
           have B6 := Lib.hid (B5.out.next k7)
           clear k7))
      go_ret
      exact ⟨rfl, B6.out.bel⟩

theorem year_facts (y : Int) (h1 : -100000 ≤ y) (h2 : y ≤ 100000) : okD y 1 1 ∧ okD y 12 31 ∧ (300 ≤ cum y 13 ∧ cum y 13 ≤ 400) ∧ (-100000000 ≤ dayN y 1 1 ∧ dayN y 1 1 ≤ 100000000) ∧ (-100000000 ≤ dayN y 12 31 ∧ dayN y 12 31 ≤ 100000000) ∧ (dayN y 12 31 - dayN y 1 1 == cum y 13 - 1) = true ∧ (cum y 13 == 366) = lpB y := by
  have d1 := dim_bd y 1 (by omega) (by omega)
  have s12 := cum_succ y 12
  rw [show (12 : Int) + 1 = 13 by omega] at s12
  have d12 : dim y 12 = 31 := by rw [← rdim_dim y 12 (by omega) (by omega)]; rfl
  have o1 : okD y 1 1 := ⟨h1, h2, by omega, by omega, by omega, by omega⟩
  have o2 : okD y 12 31 := ⟨h1, h2, by omega, by omega, by omega, by omega⟩
  have b1 := day_bd o1
  have b2 := day_bd o2
  have e13 := cum_13 y
  have e1 := cum_1 y
  have lb := lp_01 y
  refine ⟨o1, o2, by omega, by omega, by omega, ?_, ?_⟩
  · simp only [beq_iff_eq]; unfold dayN; omega
  · rw [e13]
    cases hb : lpB y
    · rw [lpB_no hb]; rfl
    · rw [lpB_yes hb]; rfl

theorem civilRise_walk (y m d y' m' d' : Int) (w : World) (H : Laid2 w) (_ : -9223372036854775808 ≤ y) (_ : y ≤ 9223372036854775807) (_ : -9223372036854775808 ≤ m) (_ : m ≤ 9223372036854775807) (_ : -9223372036854775808 ≤ d) (_ : d ≤ 9223372036854775807) (_ : -9223372036854775808 ≤ y') (_ : y' ≤ 9223372036854775807) (_ : -9223372036854775808 ≤ m') (_ : m' ≤ 9223372036854775807) (_ : -9223372036854775808 ≤ d') (_ : d' ≤ 9223372036854775807) :
    Calls Tryd.prog 8 #[.agg #[.int .i64 y, .int .i64 m, .int .i64 d], .agg #[.int .i64 y', .int .i64 m', .int .i64 d']] w fun e w' => e = .returned (.bool true) ∧ Below w.heap.size w w' := by
  by_cases h : okD y m d
  · by_cases h' : okD y' m' d'
    · obtain ⟨o1, o2, ⟨s1, s2⟩, ⟨f1, f2⟩, ⟨l1, l2⟩, g1, g2⟩ := year_facts y h.1 h.2.1
      by_cases q : y = y'
      · subst q
        by_cases q : m = m'
        · subst q
          by_cases q : d = d'
          · subst q
            exact rise_G y m d _ _ _ _ _ w H h rfl h.1 h.2.1 rfl rfl rfl rfl s1 s2 f1 f2 l1 l2 g1 g2 o1 o2
          · by_cases q2 : d' < d
            · exact rise_E y m d d' _ _ _ _ _ _ w H h rfl h' rfl q2 (day_later h h' (.inr ⟨rfl, .inr ⟨rfl, q2⟩⟩)) h.1 h.2.1 rfl rfl rfl rfl s1 s2 f1 f2 l1 l2 g1 g2 o1 o2
            · exact rise_F y m d d' _ _ _ _ _ _ w H h rfl h' rfl (by omega) (day_later h' h (.inr ⟨rfl, .inr ⟨rfl, by omega⟩⟩)) h.1 h.2.1 rfl rfl rfl rfl s1 s2 f1 f2 l1 l2 g1 g2 o1 o2
        · by_cases q2 : m' < m
          · exact rise_C y m d m' d' _ _ _ _ _ _ w H h rfl h' rfl q2 (day_later h h' (.inr ⟨rfl, .inl q2⟩)) h.1 h.2.1 rfl rfl rfl rfl s1 s2 f1 f2 l1 l2 g1 g2 o1 o2
          · exact rise_D y m d m' d' _ _ _ _ _ _ w H h rfl h' rfl (by omega) (day_later h' h (.inr ⟨rfl, .inl (by omega)⟩)) h.1 h.2.1 rfl rfl rfl rfl s1 s2 f1 f2 l1 l2 g1 g2 o1 o2
      · by_cases q2 : y' < y
        · exact rise_A y m d y' m' d' _ _ _ _ _ _ w H h rfl h' rfl q2 (day_later h h' (.inl q2)) h.1 h.2.1 rfl rfl rfl rfl s1 s2 f1 f2 l1 l2 g1 g2 o1 o2
        · exact rise_B y m d y' m' d' _ _ _ _ _ _ w H h rfl h' rfl (by omega) (day_later h' h (.inl (by omega))) h.1 h.2.1 rfl rfl rfl rfl s1 s2 f1 f2 l1 l2 g1 g2 o1 o2
    · exact rise_no2 y m d y' m' d' _ w H h rfl h'
  · by_cases h' : okD y' m' d'
    · exact rise_no1 y m d y' m' d' _ _ w H h (fun W ht => Days_yes y' m' d' W ht h')
    · exact rise_no1 y m d y' m' d' _ _ w H h (fun W ht => Days_no y' m' d' W ht h')
end Go.Proofs.YtnedpflebkcdoaaDoor
