/- The walk of ClockRise: it returns true, for every date and every two numbers of 64 bits; nothing that was in memory changes. The tables read as they are laid. -/
import Derived.Test.YtjafbopmedbhcaaDoorAwkC
namespace Go.Proofs.YtjafbopmedbhcaaDoor
open Go.RowKit

def inB (n : Int) : Prop := -604800 < n ∧ n < 604800

theorem Join_is (y m d n v : Int) (w : World) (ht : AhAt w) (h : Hid (okD y m d ∧ inB n ∧ dayN y m d * 86400 + n = v)) :
    Calls Tryd.prog 9 #[.agg #[.int .i64 y, .int .i64 m, .int .i64 d], .int .i64 n] w fun e w' => e = .returned (.tuple #[.int .i64 v, .int .i64 0]) ∧ Below w.heap.size w w' := by
  have := Join_yes y m d n w ht h.out.1 h.out.2.1.1 h.out.2.1.2
  rwa [h.out.2.2] at this
theorem Join_not (y m d n : Int) (w : World) (ht : AhAt w) (h : Hid (¬ (okD y m d ∧ inB n))) :
    Calls Tryd.prog 9 #[.agg #[.int .i64 y, .int .i64 m, .int .i64 d], .int .i64 n] w fun e w' => e = .returned (.tuple #[.int .i64 0, .int .i64 10]) ∧ Below w.heap.size w w' :=
  Join_no y m d n w ht (by
    by_cases ho : okD y m d
    · exact .inr fun c => h.out ⟨ho, c⟩
    · exact .inl ho)

theorem rise_yy (y m d a b u v : Int) (w : World) (H : Laid3 w) (ha : Hid (okD y m d ∧ inB a ∧ dayN y m d * 86400 + a = u)) (hb : Hid (okD y m d ∧ inB b ∧ dayN y m d * 86400 + b = v)) :
    Calls Tryd.prog 8 #[.agg #[.int .i64 y, .int .i64 m, .int .i64 d], .int .i64 a, .int .i64 b] w fun e w' => e = .returned (.bool true) ∧ Below w.heap.size w w' := by
  have T := Lib.hid (Boxed.new w y m d 23)
  have HL := Lib.hid (H.next T.out.bel)
  have bd := day_bd ha.out.1
  obtain ⟨a1, a2⟩ := ha.out.2.1
  obtain ⟨b1, b2⟩ := hb.out.2.1
  have e1 := ha.out.2.2
  have e2 := hb.out.2.2
  have hq : u - v = a - b := by omega
  have q1 : -1300000 < a - b := by omega
  have q2 : a - b < 1300000 := by omega
  have q3 : -9223372036854775808 ≤ u - v := by omega
  have q4 : u - v ≤ 9223372036854775807 := by omega
  clear bd e1 e2 H a1 a2 b1 b2
  go_enter Tryd.func8, Tryd.ntmps8
  go_wp2_with (first
    | (go_at_call 9; ((with_reducible refine (Join_is y m d a u _ HL.out.ah ha).mono ?_)); rintro e w1 ⟨rfl, k1⟩; simp only []
       have T1 := Lib.hid (T.out.next k1)
       have HL1 := Lib.hid (HL.out.next k1)
       clear k1 T HL
       have c0 := T1.out.c0
       have c1 := T1.out.c1
       have c2 := T1.out.c2)
    | (go_at_call 9; ((with_reducible refine (Join_is y m d b v _ HL1.out.ah hb).mono ?_)); rintro e w2 ⟨rfl, k2⟩; simp only []
       have T2 := Lib.hid (T1.out.next k2)
       have HL2 := Lib.hid (HL1.out.next k2)
       clear k2 T1 HL1 c0 c1 c2)
    | (go_at_call 16; refine (awake_yes _ HL2.out).mono ?_; rintro e w3 ⟨rfl, k3⟩; simp only []
       have T3 := Lib.hid (T2.out.next k3)
       clear k3 T2 HL2))
  go_ret
  exact ⟨rfl, T3.out.bel⟩

theorem rise_n (y m d a b : Int) (w : World) (H : Laid3 w) (ha : Hid (¬ (okD y m d ∧ inB a))) (hb : Hid (¬ (okD y m d ∧ inB b))) :
    Calls Tryd.prog 8 #[.agg #[.int .i64 y, .int .i64 m, .int .i64 d], .int .i64 a, .int .i64 b] w fun e w' => e = .returned (.bool true) ∧ Below w.heap.size w w' := by
  have T := Lib.hid (Boxed.new w y m d 23)
  have HL := Lib.hid (H.next T.out.bel)
  clear H
  go_enter Tryd.func8, Tryd.ntmps8
  go_wp2_with (first
    | (go_at_call 9; ((with_reducible refine (Join_not y m d a _ HL.out.ah ha).mono ?_)); rintro e w1 ⟨rfl, k1⟩; simp only []
       have T1 := Lib.hid (T.out.next k1)
       have HL1 := Lib.hid (HL.out.next k1)
       clear k1 T HL
       have c0 := T1.out.c0
       have c1 := T1.out.c1
       have c2 := T1.out.c2)
    | (go_at_call 9; ((with_reducible refine (Join_not y m d b _ HL1.out.ah hb).mono ?_)); rintro e w2 ⟨rfl, k2⟩; simp only []
       have T2 := Lib.hid (T1.out.next k2)
       have HL2 := Lib.hid (HL1.out.next k2)
       clear k2 T1 HL1 c0 c1 c2)
    | (go_at_call 16; refine (awake_yes _ HL2.out).mono ?_; rintro e w3 ⟨rfl, k3⟩; simp only []
       have T3 := Lib.hid (T2.out.next k3)
       clear k3 T2 HL2))
  go_ret
  exact ⟨rfl, T3.out.bel⟩

theorem rise_ny (y m d a b v : Int) (w : World) (H : Laid3 w) (ha : Hid (¬ (okD y m d ∧ inB a))) (hb : Hid (okD y m d ∧ inB b ∧ dayN y m d * 86400 + b = v)) :
    Calls Tryd.prog 8 #[.agg #[.int .i64 y, .int .i64 m, .int .i64 d], .int .i64 a, .int .i64 b] w fun e w' => e = .returned (.bool true) ∧ Below w.heap.size w w' := by
  have T := Lib.hid (Boxed.new w y m d 23)
  have HL := Lib.hid (H.next T.out.bel)
  clear H
  go_enter Tryd.func8, Tryd.ntmps8
  go_wp2_with (first
    | (go_at_call 9; ((with_reducible refine (Join_not y m d a _ HL.out.ah ha).mono ?_)); rintro e w1 ⟨rfl, k1⟩; simp only []
       have T1 := Lib.hid (T.out.next k1)
       have HL1 := Lib.hid (HL.out.next k1)
       clear k1 T HL
       have c0 := T1.out.c0
       have c1 := T1.out.c1
       have c2 := T1.out.c2)
    | (go_at_call 9; ((with_reducible refine (Join_is y m d b v _ HL1.out.ah hb).mono ?_)); rintro e w2 ⟨rfl, k2⟩; simp only []
       have T2 := Lib.hid (T1.out.next k2)
       have HL2 := Lib.hid (HL1.out.next k2)
       clear k2 T1 HL1 c0 c1 c2)
    | (go_at_call 16; refine (awake_yes _ HL2.out).mono ?_; rintro e w3 ⟨rfl, k3⟩; simp only []
       have T3 := Lib.hid (T2.out.next k3)
       clear k3 T2 HL2))
  go_ret
  exact ⟨rfl, T3.out.bel⟩

theorem rise_yn (y m d a b u : Int) (w : World) (H : Laid3 w) (ha : Hid (okD y m d ∧ inB a ∧ dayN y m d * 86400 + a = u)) (hb : Hid (¬ (okD y m d ∧ inB b))) :
    Calls Tryd.prog 8 #[.agg #[.int .i64 y, .int .i64 m, .int .i64 d], .int .i64 a, .int .i64 b] w fun e w' => e = .returned (.bool true) ∧ Below w.heap.size w w' := by
  have T := Lib.hid (Boxed.new w y m d 23)
  have HL := Lib.hid (H.next T.out.bel)
  clear H
  go_enter Tryd.func8, Tryd.ntmps8
  go_wp2_with (first
    | (go_at_call 9; ((with_reducible refine (Join_is y m d a u _ HL.out.ah ha).mono ?_)); rintro e w1 ⟨rfl, k1⟩; simp only []
       have T1 := Lib.hid (T.out.next k1)
       have HL1 := Lib.hid (HL.out.next k1)
       clear k1 T HL
       have c0 := T1.out.c0
       have c1 := T1.out.c1
       have c2 := T1.out.c2)
    | (go_at_call 9; ((with_reducible refine (Join_not y m d b _ HL1.out.ah hb).mono ?_)); rintro e w2 ⟨rfl, k2⟩; simp only []
       have T2 := Lib.hid (T1.out.next k2)
       have HL2 := Lib.hid (HL1.out.next k2)
       clear k2 T1 HL1 c0 c1 c2)
    | (go_at_call 16; refine (awake_yes _ HL2.out).mono ?_; rintro e w3 ⟨rfl, k3⟩; simp only []
       have T3 := Lib.hid (T2.out.next k3)
       clear k3 T2 HL2))
  go_ret
  exact ⟨rfl, T3.out.bel⟩

theorem clockRise_walk (y m d a b : Int) (w : World) (H : Laid3 w) (_ : -9223372036854775808 ≤ y) (_ : y ≤ 9223372036854775807) (_ : -9223372036854775808 ≤ m) (_ : m ≤ 9223372036854775807) (_ : -9223372036854775808 ≤ d) (_ : d ≤ 9223372036854775807) (_ : -9223372036854775808 ≤ a) (_ : a ≤ 9223372036854775807) (_ : -9223372036854775808 ≤ b) (_ : b ≤ 9223372036854775807) :
    Calls Tryd.prog 8 #[.agg #[.int .i64 y, .int .i64 m, .int .i64 d], .int .i64 a, .int .i64 b] w fun e w' => e = .returned (.bool true) ∧ Below w.heap.size w w' := by
  by_cases ha : okD y m d ∧ inB a
  · by_cases hb : okD y m d ∧ inB b
    · exact rise_yy y m d a b _ _ w H (Lib.hid ⟨ha.1, ha.2, rfl⟩) (Lib.hid ⟨hb.1, hb.2, rfl⟩)
    · exact rise_yn y m d a b _ w H (Lib.hid ⟨ha.1, ha.2, rfl⟩) (Lib.hid hb)
  · by_cases hb : okD y m d ∧ inB b
    · exact rise_ny y m d a b _ w H (Lib.hid ha) (Lib.hid ⟨hb.1, hb.2, rfl⟩)
    · exact rise_n y m d a b w H (Lib.hid ha) (Lib.hid hb)
end Go.Proofs.YtjafbopmedbhcaaDoor
