/- The walk of ClockJoins: it returns true, for every date and every two numbers of 64 bits; nothing that was in memory changes. The tables read as they are laid. -/
import Derived.Test.YtjafbopmedbhcaaDoorDtx
namespace Go.Proofs.YtjafbopmedbhcaaDoor
open Go.RowKit

set_option maxRecDepth 100000 in
set_option maxHeartbeats 1600000 in
theorem joins_nd_no (y m d n b q r : Int) (hd : ¬ okD y m d) (h3 : q < -37243778 ∨ 35805087 < q) (w : World) (H : Laid3 w) (b1 : -9223372036854775808 ≤ b) (b2 : b ≤ 9223372036854775807) (hq : b / 86400 = q) (hr : b % 86400 = r) :
    Calls Tryd.prog 3 #[.agg #[.int .i64 y, .int .i64 m, .int .i64 d], .int .i64 n, .int .i64 b] w fun e w' => e = .returned (.bool true) ∧ Below w.heap.size w w' := by
  have T0 := Lib.hid (Boxed.new w y m d 23)
  have HL0 := Lib.hid (H.next T0.out.bel)
  have HQ := Lib.hid hq
  have HR := Lib.hid hr
  have HD := Lib.hid hd
  have HJ : Hid (¬ (okD y m d ∧ inB n)) := Lib.hid (fun c => hd c.1)
  have H3 := Lib.hid h3
  clear H hq hr hd   h3
  go_enter Tryd.func3, Tryd.ntmps3
  go_wp2_with (first
    | (go_at_call 9; ((with_reducible refine (Join_not y m d n _ HL0.out.ah HJ).mono ?_)); rintro e w1 ⟨rfl, k1⟩; simp only []
       have T1 := Lib.hid (T0.out.next k1)
       have HL1 := Lib.hid (HL0.out.next k1)
       clear k1 T0 HL0
       have c0 := T1.out.c0
       have c1 := T1.out.c1
       have c2 := T1.out.c2)
    | (go_at_call 10; ((with_reducible refine (right_no y m d _ HD.out).mono ?_)); rintro e w2 ⟨rfl, k2⟩; simp only []
       have T2 := Lib.hid (T1.out.next k2)
       have HL2 := Lib.hid (HL1.out.next k2)
       clear k2 T1 HL1
       clear c0 c1 c2)
    | (go_at_call 13; ((with_reducible refine (Split_no b q r _ b1 b2 HQ HR H3.out).mono ?_)); rintro e w3 ⟨rfl, k3⟩; simp only []
       have T3 := Lib.hid (T2.out.next k3)
       have HL3 := Lib.hid (HL2.out.next k3)
       clear k3 T2 HL2
       have T4 := Lib.hid (T3.out.more (.cells #[.int .i64 0, .int .i64 0, .int .i64 0] 23))
       have HL4 := Lib.hid (HL3.out.next ((Below.refl _ _).alloc (Nat.le_refl _) (.cells #[.int .i64 0, .int .i64 0, .int .i64 0] 23)))
       have X4 := Lib.hid (Boxed.make T3.out.bel 0 0 0 23)
       clear T3 HL3)
    | (go_at_call 14; ((with_reducible refine (rsplit_any b q r _ b1 b2 HQ.out HR.out).mono ?_)); rintro e wf ⟨rfl, rfl⟩; simp only [])
    | (go_at_call 15; ((with_reducible refine (rof_no q _ H3.out).mono ?_)); rintro e w5 ⟨rfl, k5⟩; simp only []
       have T5 := Lib.hid (T4.out.next k5)
       have X5 := Lib.hid (X4.out.next k5)
       have HL5 := Lib.hid ((HL4.out.next k5).next ((Below.refl _ _).alloc (Nat.le_refl _) (.cells #[.int .i64 0, .int .i64 0, .int .i64 0] 23)))
       clear k5 T4 X4 HL4
       have lt := X5.out.lt
       have c0 := X5.out.c0
       have c1 := X5.out.c1
       have c2 := X5.out.c2)
    | (go_at_call 16; refine (awake_yes _ HL5.out).mono ?_; rintro e w9 ⟨rfl, k9⟩; simp only []
       have T9 := Lib.hid ((T5.out.more (.cells #[.int .i64 0, .int .i64 0, .int .i64 0] 23)).next k9)
       clear k9))
  go_ret
  exact ⟨rfl, T9.out.bel⟩

set_option maxRecDepth 100000 in
set_option maxHeartbeats 1600000 in
theorem joins_nd_yes (y m d n b q r : Int) (hd : ¬ okD y m d) (y' m' d' : Int) (ho : okD y' m' d') (hk : dayN y' m' d' = q) (w : World) (H : Laid3 w) (b1 : -9223372036854775808 ≤ b) (b2 : b ≤ 9223372036854775807) (hq : b / 86400 = q) (hr : b % 86400 = r) :
    Calls Tryd.prog 3 #[.agg #[.int .i64 y, .int .i64 m, .int .i64 d], .int .i64 n, .int .i64 b] w fun e w' => e = .returned (.bool true) ∧ Below w.heap.size w w' := by
  have T0 := Lib.hid (Boxed.new w y m d 23)
  have HL0 := Lib.hid (H.next T0.out.bel)
  have HQ := Lib.hid hq
  have HR := Lib.hid hr
  have HD := Lib.hid hd
  have HJ : Hid (¬ (okD y m d ∧ inB n)) := Lib.hid (fun c => hd c.1)
  have HO := Lib.hid ho
  have HK := Lib.hid hk
  clear H hq hr hd   ho hk
  go_enter Tryd.func3, Tryd.ntmps3
  go_wp2_with (first
    | (go_at_call 9; ((with_reducible refine (Join_not y m d n _ HL0.out.ah HJ).mono ?_)); rintro e w1 ⟨rfl, k1⟩; simp only []
       have T1 := Lib.hid (T0.out.next k1)
       have HL1 := Lib.hid (HL0.out.next k1)
       clear k1 T0 HL0
       have c0 := T1.out.c0
       have c1 := T1.out.c1
       have c2 := T1.out.c2)
    | (go_at_call 10; ((with_reducible refine (right_no y m d _ HD.out).mono ?_)); rintro e w2 ⟨rfl, k2⟩; simp only []
       have T2 := Lib.hid (T1.out.next k2)
       have HL2 := Lib.hid (HL1.out.next k2)
       clear k2 T1 HL1
       clear c0 c1 c2)
    | (go_at_call 13; ((with_reducible refine (Split_is b q r y' m' d' _ HL2.out.ah b1 b2 HQ HR HO.out HK).mono ?_)); rintro e w3 ⟨rfl, k3⟩; simp only []
       have T3 := Lib.hid (T2.out.next k3)
       have HL3 := Lib.hid (HL2.out.next k3)
       clear k3 T2 HL2
       have T4 := Lib.hid (T3.out.more (.cells #[.int .i64 y', .int .i64 m', .int .i64 d'] 23))
       have HL4 := Lib.hid (HL3.out.next ((Below.refl _ _).alloc (Nat.le_refl _) (.cells #[.int .i64 y', .int .i64 m', .int .i64 d'] 23)))
       have X4 := Lib.hid (Boxed.make T3.out.bel y' m' d' 23)
       clear T3 HL3)
    | (go_at_call 14; ((with_reducible refine (rsplit_any b q r _ b1 b2 HQ.out HR.out).mono ?_)); rintro e wf ⟨rfl, rfl⟩; simp only [])
    | (go_at_call 15; ((with_reducible refine (rof_is q y' m' d' _ HO.out HK).mono ?_)); rintro e w5 ⟨rfl, k5⟩; simp only []
       have T5 := Lib.hid (T4.out.next k5)
       have X5 := Lib.hid (X4.out.next k5)
       have HL5 := Lib.hid ((HL4.out.next k5).next ((Below.refl _ _).alloc (Nat.le_refl _) (.cells #[.int .i64 y', .int .i64 m', .int .i64 d'] 23)))
       clear k5 T4 X4 HL4
       have lt := X5.out.lt
       have c0 := X5.out.c0
       have c1 := X5.out.c1
       have c2 := X5.out.c2)
    | (go_at_call 16; refine (awake_yes _ HL5.out).mono ?_; rintro e w9 ⟨rfl, k9⟩; simp only []
       have T9 := Lib.hid ((T5.out.more (.cells #[.int .i64 y', .int .i64 m', .int .i64 d'] 23)).next k9)
       clear k9))
  go_ret
  exact ⟨rfl, T9.out.bel⟩

set_option maxRecDepth 100000 in
set_option maxHeartbeats 1600000 in
theorem joins_nf_no (y m d n b q r : Int) (hd : okD y m d) (hf : ¬ inB n) (h3 : q < -37243778 ∨ 35805087 < q) (w : World) (H : Laid3 w) (b1 : -9223372036854775808 ≤ b) (b2 : b ≤ 9223372036854775807) (hq : b / 86400 = q) (hr : b % 86400 = r) :
    Calls Tryd.prog 3 #[.agg #[.int .i64 y, .int .i64 m, .int .i64 d], .int .i64 n, .int .i64 b] w fun e w' => e = .returned (.bool true) ∧ Below w.heap.size w w' := by
  have T0 := Lib.hid (Boxed.new w y m d 23)
  have HL0 := Lib.hid (H.next T0.out.bel)
  have HQ := Lib.hid hq
  have HR := Lib.hid hr
  have HD := Lib.hid hd
  have HF := Lib.hid hf
  have HJ : Hid (¬ (okD y m d ∧ inB n)) := Lib.hid (fun c => hf c.2)
  have H3 := Lib.hid h3
  clear H hq hr hd hf  h3
  go_enter Tryd.func3, Tryd.ntmps3
  go_wp2_with (first
    | (go_at_call 9; ((with_reducible refine (Join_not y m d n _ HL0.out.ah HJ).mono ?_)); rintro e w1 ⟨rfl, k1⟩; simp only []
       have T1 := Lib.hid (T0.out.next k1)
       have HL1 := Lib.hid (HL0.out.next k1)
       clear k1 T0 HL0
       have c0 := T1.out.c0
       have c1 := T1.out.c1
       have c2 := T1.out.c2)
    | (go_at_call 10; ((with_reducible refine (right_yes y m d _ HD.out).mono ?_)); rintro e w2 ⟨rfl, k2⟩; simp only []
       have T2 := Lib.hid (T1.out.next k2)
       have HL2 := Lib.hid (HL1.out.next k2)
       clear k2 T1 HL1
       clear c0 c1 c2)
    | (go_at_call 11; ((with_reducible refine (far_yes n _ HF.out).mono ?_)); rintro e wf ⟨rfl, rfl⟩; simp only [])
    | (go_at_call 13; ((with_reducible refine (Split_no b q r _ b1 b2 HQ HR H3.out).mono ?_)); rintro e w3 ⟨rfl, k3⟩; simp only []
       have T3 := Lib.hid (T2.out.next k3)
       have HL3 := Lib.hid (HL2.out.next k3)
       clear k3 T2 HL2
       have T4 := Lib.hid (T3.out.more (.cells #[.int .i64 0, .int .i64 0, .int .i64 0] 23))
       have HL4 := Lib.hid (HL3.out.next ((Below.refl _ _).alloc (Nat.le_refl _) (.cells #[.int .i64 0, .int .i64 0, .int .i64 0] 23)))
       have X4 := Lib.hid (Boxed.make T3.out.bel 0 0 0 23)
       clear T3 HL3)
    | (go_at_call 14; ((with_reducible refine (rsplit_any b q r _ b1 b2 HQ.out HR.out).mono ?_)); rintro e wf ⟨rfl, rfl⟩; simp only [])
    | (go_at_call 15; ((with_reducible refine (rof_no q _ H3.out).mono ?_)); rintro e w5 ⟨rfl, k5⟩; simp only []
       have T5 := Lib.hid (T4.out.next k5)
       have X5 := Lib.hid (X4.out.next k5)
       have HL5 := Lib.hid ((HL4.out.next k5).next ((Below.refl _ _).alloc (Nat.le_refl _) (.cells #[.int .i64 0, .int .i64 0, .int .i64 0] 23)))
       clear k5 T4 X4 HL4
       have lt := X5.out.lt
       have c0 := X5.out.c0
       have c1 := X5.out.c1
       have c2 := X5.out.c2)
    | (go_at_call 16; refine (awake_yes _ HL5.out).mono ?_; rintro e w9 ⟨rfl, k9⟩; simp only []
       have T9 := Lib.hid ((T5.out.more (.cells #[.int .i64 0, .int .i64 0, .int .i64 0] 23)).next k9)
       clear k9))
  go_ret
  exact ⟨rfl, T9.out.bel⟩

set_option maxRecDepth 100000 in
set_option maxHeartbeats 1600000 in
theorem joins_nf_yes (y m d n b q r : Int) (hd : okD y m d) (hf : ¬ inB n) (y' m' d' : Int) (ho : okD y' m' d') (hk : dayN y' m' d' = q) (w : World) (H : Laid3 w) (b1 : -9223372036854775808 ≤ b) (b2 : b ≤ 9223372036854775807) (hq : b / 86400 = q) (hr : b % 86400 = r) :
    Calls Tryd.prog 3 #[.agg #[.int .i64 y, .int .i64 m, .int .i64 d], .int .i64 n, .int .i64 b] w fun e w' => e = .returned (.bool true) ∧ Below w.heap.size w w' := by
  have T0 := Lib.hid (Boxed.new w y m d 23)
  have HL0 := Lib.hid (H.next T0.out.bel)
  have HQ := Lib.hid hq
  have HR := Lib.hid hr
  have HD := Lib.hid hd
  have HF := Lib.hid hf
  have HJ : Hid (¬ (okD y m d ∧ inB n)) := Lib.hid (fun c => hf c.2)
  have HO := Lib.hid ho
  have HK := Lib.hid hk
  clear H hq hr hd hf  ho hk
  go_enter Tryd.func3, Tryd.ntmps3
  go_wp2_with (first
    | (go_at_call 9; ((with_reducible refine (Join_not y m d n _ HL0.out.ah HJ).mono ?_)); rintro e w1 ⟨rfl, k1⟩; simp only []
       have T1 := Lib.hid (T0.out.next k1)
       have HL1 := Lib.hid (HL0.out.next k1)
       clear k1 T0 HL0
       have c0 := T1.out.c0
       have c1 := T1.out.c1
       have c2 := T1.out.c2)
    | (go_at_call 10; ((with_reducible refine (right_yes y m d _ HD.out).mono ?_)); rintro e w2 ⟨rfl, k2⟩; simp only []
       have T2 := Lib.hid (T1.out.next k2)
       have HL2 := Lib.hid (HL1.out.next k2)
       clear k2 T1 HL1
       clear c0 c1 c2)
    | (go_at_call 11; ((with_reducible refine (far_yes n _ HF.out).mono ?_)); rintro e wf ⟨rfl, rfl⟩; simp only [])
    | (go_at_call 13; ((with_reducible refine (Split_is b q r y' m' d' _ HL2.out.ah b1 b2 HQ HR HO.out HK).mono ?_)); rintro e w3 ⟨rfl, k3⟩; simp only []
       have T3 := Lib.hid (T2.out.next k3)
       have HL3 := Lib.hid (HL2.out.next k3)
       clear k3 T2 HL2
       have T4 := Lib.hid (T3.out.more (.cells #[.int .i64 y', .int .i64 m', .int .i64 d'] 23))
       have HL4 := Lib.hid (HL3.out.next ((Below.refl _ _).alloc (Nat.le_refl _) (.cells #[.int .i64 y', .int .i64 m', .int .i64 d'] 23)))
       have X4 := Lib.hid (Boxed.make T3.out.bel y' m' d' 23)
       clear T3 HL3)
    | (go_at_call 14; ((with_reducible refine (rsplit_any b q r _ b1 b2 HQ.out HR.out).mono ?_)); rintro e wf ⟨rfl, rfl⟩; simp only [])
    | (go_at_call 15; ((with_reducible refine (rof_is q y' m' d' _ HO.out HK).mono ?_)); rintro e w5 ⟨rfl, k5⟩; simp only []
       have T5 := Lib.hid (T4.out.next k5)
       have X5 := Lib.hid (X4.out.next k5)
       have HL5 := Lib.hid ((HL4.out.next k5).next ((Below.refl _ _).alloc (Nat.le_refl _) (.cells #[.int .i64 y', .int .i64 m', .int .i64 d'] 23)))
       clear k5 T4 X4 HL4
       have lt := X5.out.lt
       have c0 := X5.out.c0
       have c1 := X5.out.c1
       have c2 := X5.out.c2)
    | (go_at_call 16; refine (awake_yes _ HL5.out).mono ?_; rintro e w9 ⟨rfl, k9⟩; simp only []
       have T9 := Lib.hid ((T5.out.more (.cells #[.int .i64 y', .int .i64 m', .int .i64 d'] 23)).next k9)
       clear k9))
  go_ret
  exact ⟨rfl, T9.out.bel⟩

set_option maxRecDepth 100000 in
set_option maxHeartbeats 1600000 in
theorem joins_yy_no (y m d n b q r : Int) (u : Int) (hd : okD y m d) (hf : inB n) (hu : dayN y m d * 86400 + n = u) (h3 : q < -37243778 ∨ 35805087 < q) (w : World) (H : Laid3 w) (b1 : -9223372036854775808 ≤ b) (b2 : b ≤ 9223372036854775807) (hq : b / 86400 = q) (hr : b % 86400 = r) :
    Calls Tryd.prog 3 #[.agg #[.int .i64 y, .int .i64 m, .int .i64 d], .int .i64 n, .int .i64 b] w fun e w' => e = .returned (.bool true) ∧ Below w.heap.size w w' := by
  have T0 := Lib.hid (Boxed.new w y m d 23)
  have HL0 := Lib.hid (H.next T0.out.bel)
  have HQ := Lib.hid hq
  have HR := Lib.hid hr
  have HD := Lib.hid hd
  have HF := Lib.hid hf
  have HJ := Lib.hid (And.intro hd (And.intro hf hu))
  have H3 := Lib.hid h3
  clear H hq hr hd hf hu h3
  go_enter Tryd.func3, Tryd.ntmps3
  go_wp2_with (first
    | (go_at_call 9; ((with_reducible refine (Join_is y m d n u _ HL0.out.ah HJ).mono ?_)); rintro e w1 ⟨rfl, k1⟩; simp only []
       have T1 := Lib.hid (T0.out.next k1)
       have HL1 := Lib.hid (HL0.out.next k1)
       clear k1 T0 HL0
       have c0 := T1.out.c0
       have c1 := T1.out.c1
       have c2 := T1.out.c2)
    | (go_at_call 10; ((with_reducible refine (right_yes y m d _ HD.out).mono ?_)); rintro e w2 ⟨rfl, k2⟩; simp only []
       have T2 := Lib.hid (T1.out.next k2)
       have HL2 := Lib.hid (HL1.out.next k2)
       clear k2 T1 HL1
       clear c0 c1 c2
       have c0 := T2.out.c0
       have c1 := T2.out.c1
       have c2 := T2.out.c2)
    | (go_at_call 11; ((with_reducible refine (far_no n _ HF.out).mono ?_)); rintro e wf ⟨rfl, rfl⟩; simp only [])
    | (go_at_call 12; ((with_reducible refine (rjoin_is y m d n u _ HJ).mono ?_)); rintro e w3 ⟨rfl, k3⟩; simp only []
       have T3 := Lib.hid (T2.out.next k3)
       have HL3 := Lib.hid (HL2.out.next k3)
       clear k3 T2 HL2
       clear c0 c1 c2)
    | (go_at_call 13; ((with_reducible refine (Split_no b q r _ b1 b2 HQ HR H3.out).mono ?_)); rintro e w4 ⟨rfl, k4⟩; simp only []
       have T4 := Lib.hid (T3.out.next k4)
       have HL4 := Lib.hid (HL3.out.next k4)
       clear k4 T3 HL3
       have T5 := Lib.hid (T4.out.more (.cells #[.int .i64 0, .int .i64 0, .int .i64 0] 23))
       have HL5 := Lib.hid (HL4.out.next ((Below.refl _ _).alloc (Nat.le_refl _) (.cells #[.int .i64 0, .int .i64 0, .int .i64 0] 23)))
       have X5 := Lib.hid (Boxed.make T4.out.bel 0 0 0 23)
       clear T4 HL4)
    | (go_at_call 14; ((with_reducible refine (rsplit_any b q r _ b1 b2 HQ.out HR.out).mono ?_)); rintro e wf ⟨rfl, rfl⟩; simp only [])
    | (go_at_call 15; ((with_reducible refine (rof_no q _ H3.out).mono ?_)); rintro e w6 ⟨rfl, k6⟩; simp only []
       have T6 := Lib.hid (T5.out.next k6)
       have X6 := Lib.hid (X5.out.next k6)
       have HL6 := Lib.hid ((HL5.out.next k6).next ((Below.refl _ _).alloc (Nat.le_refl _) (.cells #[.int .i64 0, .int .i64 0, .int .i64 0] 23)))
       clear k6 T5 X5 HL5
       have lt := X6.out.lt
       have c0 := X6.out.c0
       have c1 := X6.out.c1
       have c2 := X6.out.c2)
    | (go_at_call 16; refine (awake_yes _ HL6.out).mono ?_; rintro e w9 ⟨rfl, k9⟩; simp only []
       have T9 := Lib.hid ((T6.out.more (.cells #[.int .i64 0, .int .i64 0, .int .i64 0] 23)).next k9)
       clear k9))
  go_ret
  exact ⟨rfl, T9.out.bel⟩

set_option maxRecDepth 100000 in
set_option maxHeartbeats 1600000 in
theorem joins_yy_yes (y m d n b q r : Int) (u : Int) (hd : okD y m d) (hf : inB n) (hu : dayN y m d * 86400 + n = u) (y' m' d' : Int) (ho : okD y' m' d') (hk : dayN y' m' d' = q) (w : World) (H : Laid3 w) (b1 : -9223372036854775808 ≤ b) (b2 : b ≤ 9223372036854775807) (hq : b / 86400 = q) (hr : b % 86400 = r) :
    Calls Tryd.prog 3 #[.agg #[.int .i64 y, .int .i64 m, .int .i64 d], .int .i64 n, .int .i64 b] w fun e w' => e = .returned (.bool true) ∧ Below w.heap.size w w' := by
  have T0 := Lib.hid (Boxed.new w y m d 23)
  have HL0 := Lib.hid (H.next T0.out.bel)
  have HQ := Lib.hid hq
  have HR := Lib.hid hr
  have HD := Lib.hid hd
  have HF := Lib.hid hf
  have HJ := Lib.hid (And.intro hd (And.intro hf hu))
  have HO := Lib.hid ho
  have HK := Lib.hid hk
  clear H hq hr hd hf hu ho hk
  go_enter Tryd.func3, Tryd.ntmps3
  go_wp2_with (first
    | (go_at_call 9; ((with_reducible refine (Join_is y m d n u _ HL0.out.ah HJ).mono ?_)); rintro e w1 ⟨rfl, k1⟩; simp only []
       have T1 := Lib.hid (T0.out.next k1)
       have HL1 := Lib.hid (HL0.out.next k1)
       clear k1 T0 HL0
       have c0 := T1.out.c0
       have c1 := T1.out.c1
       have c2 := T1.out.c2)
    | (go_at_call 10; ((with_reducible refine (right_yes y m d _ HD.out).mono ?_)); rintro e w2 ⟨rfl, k2⟩; simp only []
       have T2 := Lib.hid (T1.out.next k2)
       have HL2 := Lib.hid (HL1.out.next k2)
       clear k2 T1 HL1
       clear c0 c1 c2
       have c0 := T2.out.c0
       have c1 := T2.out.c1
       have c2 := T2.out.c2)
    | (go_at_call 11; ((with_reducible refine (far_no n _ HF.out).mono ?_)); rintro e wf ⟨rfl, rfl⟩; simp only [])
    | (go_at_call 12; ((with_reducible refine (rjoin_is y m d n u _ HJ).mono ?_)); rintro e w3 ⟨rfl, k3⟩; simp only []
       have T3 := Lib.hid (T2.out.next k3)
       have HL3 := Lib.hid (HL2.out.next k3)
       clear k3 T2 HL2
       clear c0 c1 c2)
    | (go_at_call 13; ((with_reducible refine (Split_is b q r y' m' d' _ HL3.out.ah b1 b2 HQ HR HO.out HK).mono ?_)); rintro e w4 ⟨rfl, k4⟩; simp only []
       have T4 := Lib.hid (T3.out.next k4)
       have HL4 := Lib.hid (HL3.out.next k4)
       clear k4 T3 HL3
       have T5 := Lib.hid (T4.out.more (.cells #[.int .i64 y', .int .i64 m', .int .i64 d'] 23))
       have HL5 := Lib.hid (HL4.out.next ((Below.refl _ _).alloc (Nat.le_refl _) (.cells #[.int .i64 y', .int .i64 m', .int .i64 d'] 23)))
       have X5 := Lib.hid (Boxed.make T4.out.bel y' m' d' 23)
       clear T4 HL4)
    | (go_at_call 14; ((with_reducible refine (rsplit_any b q r _ b1 b2 HQ.out HR.out).mono ?_)); rintro e wf ⟨rfl, rfl⟩; simp only [])
    | (go_at_call 15; ((with_reducible refine (rof_is q y' m' d' _ HO.out HK).mono ?_)); rintro e w6 ⟨rfl, k6⟩; simp only []
       have T6 := Lib.hid (T5.out.next k6)
       have X6 := Lib.hid (X5.out.next k6)
       have HL6 := Lib.hid ((HL5.out.next k6).next ((Below.refl _ _).alloc (Nat.le_refl _) (.cells #[.int .i64 y', .int .i64 m', .int .i64 d'] 23)))
       clear k6 T5 X5 HL5
       have lt := X6.out.lt
       have c0 := X6.out.c0
       have c1 := X6.out.c1
       have c2 := X6.out.c2)
    | (go_at_call 16; refine (awake_yes _ HL6.out).mono ?_; rintro e w9 ⟨rfl, k9⟩; simp only []
       have T9 := Lib.hid ((T6.out.more (.cells #[.int .i64 y', .int .i64 m', .int .i64 d'] 23)).next k9)
       clear k9))
  go_ret
  exact ⟨rfl, T9.out.bel⟩

theorem clockJoins_walk (y m d n b : Int) (w : World) (H : Laid3 w) (_ : -9223372036854775808 ≤ y) (_ : y ≤ 9223372036854775807) (_ : -9223372036854775808 ≤ m) (_ : m ≤ 9223372036854775807) (_ : -9223372036854775808 ≤ d) (_ : d ≤ 9223372036854775807) (_ : -9223372036854775808 ≤ n) (_ : n ≤ 9223372036854775807) (b1 : -9223372036854775808 ≤ b) (b2 : b ≤ 9223372036854775807) :
    Calls Tryd.prog 3 #[.agg #[.int .i64 y, .int .i64 m, .int .i64 d], .int .i64 n, .int .i64 b] w fun e w' => e = .returned (.bool true) ∧ Below w.heap.size w w' := by
  by_cases h3 : b / 86400 < -37243778 ∨ 35805087 < b / 86400
  · by_cases hd : okD y m d
    · by_cases hf : inB n
      · exact joins_yy_no y m d n b _ _ _ hd hf rfl h3 w H b1 b2 rfl rfl
      · exact joins_nf_no y m d n b _ _ hd hf h3 w H b1 b2 rfl rfl
    · exact joins_nd_no y m d n b _ _ hd h3 w H b1 b2 rfl rfl
  · obtain ⟨y', m', d', ho, hk⟩ := date_ex (b / 86400) (by omega) (by omega)
    by_cases hd : okD y m d
    · by_cases hf : inB n
      · exact joins_yy_yes y m d n b _ _ _ hd hf rfl y' m' d' ho hk w H b1 b2 rfl rfl
      · exact joins_nf_yes y m d n b _ _ hd hf y' m' d' ho hk w H b1 b2 rfl rfl
    · exact joins_nd_yes y m d n b _ _ hd y' m' d' ho hk w H b1 b2 rfl rfl
end Go.Proofs.YtjafbopmedbhcaaDoor
