/- What is read of the listed variables: days ahead of months, alone.
The contracts of dayform.In, and of the law's awake: which date a day of a month is in a month, or that there is none; nothing that was in memory changes. -/
import Derived.Test.YtdmfgechoanmlaaGreatDoorMZA
import Derived.Test.YtdmfgechoanmlaaGreatDoorMZC
namespace Go.Proofs.YtdmfgechoanmlaaGreatDoor
open Go Go.RowKit

structure LaidF (w : World) : Prop where
  ah : AhAt w
theorem LaidF.next {w w' : World} (h : LaidF w) (k : Below w.heap.size w w') : LaidF w' := ⟨h.ah.next k⟩
theorem LaidF.lt {w : World} (h : LaidF w) : AhAt w := h.ah
end Go.Proofs.YtdmfgechoanmlaaGreatDoor

namespace Go.Proofs.YtdmfgechoanmlaaGreatDoor
open Go.RowKit

theorem dsearch_yes (k wk n y m d st a b c : Int) (w : World) (hk : k = 0 ∨ k = 1 ∨ k = 2 ∨ k = 3) (h0 : 0 ≤ wk) (h6 : wk ≤ 6) (hs0 : st = 1 ∨ st = -1) (hst : k ≠ 0 → st = if k = 2 then 1 else -1) (hok : okD y m d) (hA : AhAt w) (h : okD a b c ∧ dayN a b c = hitD k wk (dayN y m d)) :
    Calls Tryz.prog 115 #[.agg #[.int .i64 k, .int .i64 wk, .int .i64 n], .agg #[.int .i64 y, .int .i64 m, .int .i64 d], .int .i64 st] w fun e w' => e = .returned (.tuple #[.agg #[.int .i64 a, .int .i64 b, .int .i64 c], .int .i64 0]) ∧ Below w.heap.size w w' :=
  (dsearch_is k wk n y m d st w hk h0 h6 hs0 hst hok hA).mono fun e w' ⟨kb, h2⟩ => by
    rcases h2 with ⟨a', b', c', h3, h4, rfl⟩ | ⟨h3, _⟩
    · obtain ⟨rfl, rfl, rfl⟩ := day_inj h3 h.1 (h4.trans h.2.symm)
      exact ⟨rfl, kb⟩
    · exact absurd (h.2 ▸ day_bd h.1) h3
theorem dsearch_no (k wk n y m d st : Int) (w : World) (hk : k = 0 ∨ k = 1 ∨ k = 2 ∨ k = 3) (h0 : 0 ≤ wk) (h6 : wk ≤ 6) (hs0 : st = 1 ∨ st = -1) (hst : k ≠ 0 → st = if k = 2 then 1 else -1) (hok : okD y m d) (hA : AhAt w) (h : ¬ inR (hitD k wk (dayN y m d))) :
    Calls Tryz.prog 115 #[.agg #[.int .i64 k, .int .i64 wk, .int .i64 n], .agg #[.int .i64 y, .int .i64 m, .int .i64 d], .int .i64 st] w fun e w' => e = .returned (.tuple #[.agg #[.int .i64 0, .int .i64 0, .int .i64 0], .int .i64 10]) ∧ Below w.heap.size w w' :=
  (dsearch_is k wk n y m d st w hk h0 h6 hs0 hst hok hA).mono fun e w' ⟨kb, h2⟩ => by
    rcases h2 with ⟨a', b', c', h3, h4, _⟩ | ⟨_, rfl⟩
    · exact absurd (h4 ▸ day_bd h3) h
    · exact ⟨rfl, kb⟩

/-- There is a date. -/
def inW (k wk n y m : Int) : Prop := dfD k wk n ∧ mnD y m n ∧ inR (tgtD k wk n y m)

theorem in_parts {k wk n y m : Int} (hd : dfD k wk n) (hm : mnD y m n) : (k = 0 ∨ k = 1 ∨ k = 2 ∨ k = 3) ∧ 0 ≤ wk ∧ wk ≤ 6 ∧ (stpD k = 1 ∨ stpD k = -1) ∧ (k ≠ 0 → stpD k = if k = 2 then 1 else -1) ∧ okD y m (fstD k n (dim y m)) ∧ dayN y m (fstD k n (dim y m)) = atD k n y m := by
  have h := at_date k wk n y m hd hm
  refine ⟨by unfold dfD at hd; omega, by unfold dfD at hd; omega, by unfold dfD at hd; omega, ?_, ?_, h.1, h.2⟩
  · unfold stpD; split
    · exact .inr rfl
    · exact .inl rfl
  · intro h0
    unfold stpD
    unfold dfD at hd
    by_cases h2 : k = 2
    · rw [if_pos h2, if_neg (by omega)]
    · rw [if_neg h2, if_pos (by omega)]

set_option maxHeartbeats 1600000 in
/-- In, where the day may be, and the month has it: by what search answers. -/
theorem din_at (k wk n y m a b c e0 : Int) (w : World) (hA : LaidF w) (hd : dfD k wk n) (hm : mnD y m n)
    (SR : Hid (∀ W, LaidF W → Calls Tryz.prog 115 #[.agg #[.int .i64 k, .int .i64 wk, .int .i64 n], .agg #[.int .i64 y, .int .i64 m, .int .i64 (fstD k n (dim y m))], .int .i64 (stpD k)] W fun e w' => e = .returned (.tuple #[.agg #[.int .i64 a, .int .i64 b, .int .i64 c], .int .i64 e0]) ∧ Below W.heap.size W w')) :
    Calls Tryz.prog 92 #[.agg #[.int .i64 k, .int .i64 wk, .int .i64 n], .int .i64 y, .int .i64 m] w fun e w' => e = .returned (.tuple #[.agg #[.int .i64 a, .int .i64 b, .int .i64 c], .int .i64 e0]) ∧ Below w.heap.size w w' := by
  have T0 := Lib.hid ((Trp.new w k wk n 48).more (.cells #[.int .i64 0, .int .i64 0, .int .i64 0] 167))
  have R0 := Lib.hid (Trp.make (W := w.alloc (.cells #[.int .i64 k, .int .i64 wk, .int .i64 n] 48)) ((Below.refl w.heap.size w).alloc (Nat.le_refl _) _) 0 0 0 167)
  have CK : Hid (∀ W, Calls Tryz.prog 26 #[.agg #[.int .i64 k, .int .i64 wk, .int .i64 n]] W fun e w' => e = .returned (.int .i64 0) ∧ Below W.heap.size W w') := Lib.hid fun W => dcheck_is k wk n 0 W (Lib.hid (dfE_yes hd))
  obtain ⟨g, hg⟩ : ∃ g, dim y m = g := ⟨_, rfl⟩
  have LG : Hid (∀ W, AhAt W → Calls Tryz.prog 113 #[.int .i64 y, .int .i64 m] W fun e w' => e = .returned (.tuple #[.int .i64 g, .int .i64 0]) ∧ Below W.heap.size W w') := Lib.hid fun W h => hg ▸ Long_yes y m W h ⟨hm.1, hm.2.1, hm.2.2.1, hm.2.2.2.1⟩
  have hn : decide (g < n) = false := by rw [← hg]; exact decide_eq_false (by have := hm.2.2.2.2; omega)
  obtain ⟨f, hf⟩ : ∃ f, fstD k n g = f := ⟨_, rfl⟩
  obtain ⟨s, hs⟩ : ∃ s, stpD k = s := ⟨_, rfl⟩
  have ST : Hid (∀ W, Calls Tryz.prog 114 #[.agg #[.int .i64 k, .int .i64 wk, .int .i64 n], .int .i64 g] W fun e w' => e = .returned (.tuple #[.int .i64 f, .int .i64 s]) ∧ Below W.heap.size W w') := Lib.hid fun W => dstart_is k wk n g f s W (Lib.hid ⟨hf, hs⟩)
  rw [hg, hf, hs] at SR
  have HA := Lib.hid hA
  simp only [World.size_alloc] at R0
  clear hA hd hm hg hf hs
  go_enter Tryz.func92, Tryz.ntmps92
  go_wp2_with (first
    | (go_at_call 26; refine (CK.out _).mono ?_; rintro e w1 ⟨rfl, k1⟩
       have T1 := Lib.hid (T0.out.next k1)
       have R1 := Lib.hid (R0.out.next k1)
       clear k1 T0 R0
       have lt := T1.out.lt
       have c0 := T1.out.c0
       have c1 := T1.out.c1
       have c2 := T1.out.c2)
    | (go_at_call 113; refine (LG.out _ (HA.out.next T1.out.bel).ah).mono ?_; rintro e w2 ⟨rfl, k2⟩
       have T2 := Lib.hid (T1.out.next k2)
       have R2 := Lib.hid (R1.out.next k2)
       clear k2 T1 R1 lt c0 c1 c2
       have lt := T2.out.lt
       have c0 := T2.out.c0
       have c1 := T2.out.c1
       have c2 := T2.out.c2)
    | (go_at_call 114; refine (ST.out _).mono ?_; rintro e w3 ⟨rfl, k3⟩
       have T3 := Lib.hid (T2.out.next k3)
       have R3 := Lib.hid (R2.out.next k3)
       clear k3 T2 R2 lt c0 c1 c2
       have lt := T3.out.lt
       have c0 := T3.out.c0
       have c1 := T3.out.c1
       have c2 := T3.out.c2)
    | (go_at_call 115; refine (SR.out _ (HA.out.next T3.out.bel)).mono ?_; rintro e w4 ⟨rfl, k4⟩
       have R4 := Lib.hid (R3.out.next k4)
       clear k4 T3 R3 lt c0 c1 c2
       have lt := R4.out.lt
       have c0 := R4.out.c0
       have c1 := R4.out.c1
       have c2 := R4.out.c2
       have f0 := R4.out.f0
       have f1 := R4.out.f1
       have f2 := R4.out.f2))
  refine (R4.out.store _ _ _).ret fun W' B2 => ?_
  clear lt c0 c1 c2 f0 f1 f2
  have c0 := B2.c0
  have c1 := B2.c1
  have c2 := B2.c2
  exact bodyPost_ret (v := .tuple #[.agg #[.int .i64 a, .int .i64 b, .int .i64 c], .int .i64 e0]) (by simp [results, Tryz.results92, go_sem, c0, c1, c2]) rfl ⟨rfl, B2.bel⟩

set_option maxHeartbeats 1600000 in
theorem din_noA (k wk n y m : Int) (w : World) (hd : ¬ dfD k wk n) :
    Calls Tryz.prog 92 #[.agg #[.int .i64 k, .int .i64 wk, .int .i64 n], .int .i64 y, .int .i64 m] w fun e w' => e = .returned (.tuple #[.agg #[.int .i64 0, .int .i64 0, .int .i64 0], .int .i64 10]) ∧ Below w.heap.size w w' := by
  have T0 := Lib.hid ((Trp.new w k wk n 48).more (.cells #[.int .i64 0, .int .i64 0, .int .i64 0] 167))
  have R0 := Lib.hid (Trp.make (W := w.alloc (.cells #[.int .i64 k, .int .i64 wk, .int .i64 n] 48)) ((Below.refl w.heap.size w).alloc (Nat.le_refl _) _) 0 0 0 167)
  have CK : Hid (∀ W, Calls Tryz.prog 26 #[.agg #[.int .i64 k, .int .i64 wk, .int .i64 n]] W fun e w' => e = .returned (.int .i64 10) ∧ Below W.heap.size W w') := Lib.hid fun W => dcheck_is k wk n 10 W (Lib.hid (dfE_no hd))
  simp only [World.size_alloc] at R0
  clear hd T0
  go_enter Tryz.func92, Tryz.ntmps92
  go_wp2_with (first
    | (go_at_call 26; refine (CK.out _).mono ?_; rintro e w1 ⟨rfl, k1⟩
       have RR := Lib.hid (R0.out.next k1)
       clear k1 R0
       have lt := RR.out.lt
       have c0 := RR.out.c0
       have c1 := RR.out.c1
       have c2 := RR.out.c2
       have f0 := RR.out.f0
       have f1 := RR.out.f1
       have f2 := RR.out.f2))
  refine (RR.out.store _ _ _).ret fun W' B2 => ?_
  clear lt c0 c1 c2 f0 f1 f2
  have c0 := B2.c0
  have c1 := B2.c1
  have c2 := B2.c2
  exact bodyPost_ret (v := .tuple #[.agg #[.int .i64 0, .int .i64 0, .int .i64 0], .int .i64 10]) (by simp [results, Tryz.results92, go_sem, c0, c1, c2]) rfl ⟨rfl, B2.bel⟩

set_option maxHeartbeats 1600000 in
theorem din_noB (k wk n y m : Int) (w : World) (hA : LaidF w) (hd : dfD k wk n) (hl : ¬ lgOk y m) :
    Calls Tryz.prog 92 #[.agg #[.int .i64 k, .int .i64 wk, .int .i64 n], .int .i64 y, .int .i64 m] w fun e w' => e = .returned (.tuple #[.agg #[.int .i64 0, .int .i64 0, .int .i64 0], .int .i64 10]) ∧ Below w.heap.size w w' := by
  have T0 := Lib.hid ((Trp.new w k wk n 48).more (.cells #[.int .i64 0, .int .i64 0, .int .i64 0] 167))
  have R0 := Lib.hid (Trp.make (W := w.alloc (.cells #[.int .i64 k, .int .i64 wk, .int .i64 n] 48)) ((Below.refl w.heap.size w).alloc (Nat.le_refl _) _) 0 0 0 167)
  have CK : Hid (∀ W, Calls Tryz.prog 26 #[.agg #[.int .i64 k, .int .i64 wk, .int .i64 n]] W fun e w' => e = .returned (.int .i64 0) ∧ Below W.heap.size W w') := Lib.hid fun W => dcheck_is k wk n 0 W (Lib.hid (dfE_yes hd))
  have LG : Hid (∀ W, AhAt W → Calls Tryz.prog 113 #[.int .i64 y, .int .i64 m] W fun e w' => e = .returned (.tuple #[.int .i64 0, .int .i64 10]) ∧ Below W.heap.size W w') := Lib.hid fun W h => Long_no y m W h hl
  have HA := Lib.hid hA
  simp only [World.size_alloc] at R0
  clear hd hl hA
  go_enter Tryz.func92, Tryz.ntmps92
  go_wp2_with (first
    | (go_at_call 26; refine (CK.out _).mono ?_; rintro e w1 ⟨rfl, k1⟩
       have T1 := Lib.hid (T0.out.next k1)
       have R1 := Lib.hid (R0.out.next k1)
       clear k1 T0 R0)
    | (go_at_call 113; refine (LG.out _ (HA.out.next T1.out.bel).ah).mono ?_; rintro e w2 ⟨rfl, k2⟩
       have RR := Lib.hid (R1.out.next k2)
       clear k2 T1 R1
       have lt := RR.out.lt
       have c0 := RR.out.c0
       have c1 := RR.out.c1
       have c2 := RR.out.c2
       have f0 := RR.out.f0
       have f1 := RR.out.f1
       have f2 := RR.out.f2))
  refine (RR.out.store _ _ _).ret fun W' B2 => ?_
  clear lt c0 c1 c2 f0 f1 f2
  have c0 := B2.c0
  have c1 := B2.c1
  have c2 := B2.c2
  exact bodyPost_ret (v := .tuple #[.agg #[.int .i64 0, .int .i64 0, .int .i64 0], .int .i64 10]) (by simp [results, Tryz.results92, go_sem, c0, c1, c2]) rfl ⟨rfl, B2.bel⟩

set_option maxHeartbeats 1600000 in
theorem din_noC (k wk n y m : Int) (w : World) (hA : LaidF w) (hd : dfD k wk n) (hl : lgOk y m) (hn : dim y m < n) :
    Calls Tryz.prog 92 #[.agg #[.int .i64 k, .int .i64 wk, .int .i64 n], .int .i64 y, .int .i64 m] w fun e w' => e = .returned (.tuple #[.agg #[.int .i64 0, .int .i64 0, .int .i64 0], .int .i64 10]) ∧ Below w.heap.size w w' := by
  have T0 := Lib.hid ((Trp.new w k wk n 48).more (.cells #[.int .i64 0, .int .i64 0, .int .i64 0] 167))
  have R0 := Lib.hid (Trp.make (W := w.alloc (.cells #[.int .i64 k, .int .i64 wk, .int .i64 n] 48)) ((Below.refl w.heap.size w).alloc (Nat.le_refl _) _) 0 0 0 167)
  have CK : Hid (∀ W, Calls Tryz.prog 26 #[.agg #[.int .i64 k, .int .i64 wk, .int .i64 n]] W fun e w' => e = .returned (.int .i64 0) ∧ Below W.heap.size W w') := Lib.hid fun W => dcheck_is k wk n 0 W (Lib.hid (dfE_yes hd))
  obtain ⟨g, hg⟩ : ∃ g, dim y m = g := ⟨_, rfl⟩
  have LG : Hid (∀ W, AhAt W → Calls Tryz.prog 113 #[.int .i64 y, .int .i64 m] W fun e w' => e = .returned (.tuple #[.int .i64 g, .int .i64 0]) ∧ Below W.heap.size W w') := Lib.hid fun W h => hg ▸ Long_yes y m W h hl
  have hn' : decide (g < n) = true := by rw [← hg]; exact decide_eq_true hn
  have HA := Lib.hid hA
  simp only [World.size_alloc] at R0
  clear hd hl hA hg hn
  go_enter Tryz.func92, Tryz.ntmps92
  go_wp2_with (first
    | (go_at_call 26; refine (CK.out _).mono ?_; rintro e w1 ⟨rfl, k1⟩
       have T1 := Lib.hid (T0.out.next k1)
       have R1 := Lib.hid (R0.out.next k1)
       clear k1 T0 R0)
    | (go_at_call 113; refine (LG.out _ (HA.out.next T1.out.bel).ah).mono ?_; rintro e w2 ⟨rfl, k2⟩
       have T2 := Lib.hid (T1.out.next k2)
       have RR := Lib.hid (R1.out.next k2)
       clear k2 T1 R1
       have lu := T2.out.lt
       have d0 := T2.out.c0
       have d1 := T2.out.c1
       have d2 := T2.out.c2
       have lt := RR.out.lt
       have c0 := RR.out.c0
       have c1 := RR.out.c1
       have c2 := RR.out.c2
       have f0 := RR.out.f0
       have f1 := RR.out.f1
       have f2 := RR.out.f2))
  refine (RR.out.store _ _ _).ret fun W' B2 => ?_
  clear lt c0 c1 c2 f0 f1 f2
  have c0 := B2.c0
  have c1 := B2.c1
  have c2 := B2.c2
  exact bodyPost_ret (v := .tuple #[.agg #[.int .i64 0, .int .i64 0, .int .i64 0], .int .i64 10]) (by simp [results, Tryz.results92, go_sem, c0, c1, c2]) rfl ⟨rfl, B2.bel⟩

/-- In, where there is a date. -/
theorem din_yes (k wk n y m a b c : Int) (w : World) (hA : LaidF w) (h : inW k wk n y m) (hr : okD a b c ∧ dayN a b c = tgtD k wk n y m) :
    Calls Tryz.prog 92 #[.agg #[.int .i64 k, .int .i64 wk, .int .i64 n], .int .i64 y, .int .i64 m] w fun e w' => e = .returned (.tuple #[.agg #[.int .i64 a, .int .i64 b, .int .i64 c], .int .i64 0]) ∧ Below w.heap.size w w' := by
  obtain ⟨h1, h2, h3, h4, h5, h6, h7⟩ := in_parts h.1 h.2.1
  exact din_at k wk n y m a b c 0 w hA h.1 h.2.1 (Lib.hid fun W hW => dsearch_yes k wk n y m _ _ a b c W h1 h2 h3 h4 h5 h6 hW.ah ⟨hr.1, by rw [h7]; exact hr.2⟩)
/-- In, where there is none. -/
theorem din_no (k wk n y m : Int) (w : World) (hA : LaidF w) (h : ¬ inW k wk n y m) :
    Calls Tryz.prog 92 #[.agg #[.int .i64 k, .int .i64 wk, .int .i64 n], .int .i64 y, .int .i64 m] w fun e w' => e = .returned (.tuple #[.agg #[.int .i64 0, .int .i64 0, .int .i64 0], .int .i64 10]) ∧ Below w.heap.size w w' := by
  by_cases hd : dfD k wk n
  · by_cases hl : lgOk y m
    · by_cases hn : n ≤ dim y m
      · have hm : mnD y m n := ⟨hl.1, hl.2.1, hl.2.2.1, hl.2.2.2, hn⟩
        obtain ⟨h1, h2, h3, h4, h5, h6, h7⟩ := in_parts hd hm
        exact din_at k wk n y m 0 0 0 10 w hA hd hm (Lib.hid fun W hW => dsearch_no k wk n y m _ _ W h1 h2 h3 h4 h5 h6 hW.ah (by rw [h7]; exact fun c => h ⟨hd, hm, c⟩))
      · exact din_noC k wk n y m w hA hd hl (by omega)
    · exact din_noB k wk n y m w hA hd hl
  · exact din_noA k wk n y m w hd
/-- One word for both. -/
def DateIs (k wk n y m a b c e0 : Int) : Prop := (e0 = 0 ∧ inW k wk n y m ∧ okD a b c ∧ dayN a b c = tgtD k wk n y m) ∨ (e0 = 10 ∧ a = 0 ∧ b = 0 ∧ c = 0 ∧ ¬ inW k wk n y m)
theorem dateis_ex (k wk n y m : Int) : ∃ a b c e0, DateIs k wk n y m a b c e0 := by
  by_cases h : inW k wk n y m
  · obtain ⟨a, b, c, h1, h2⟩ := fdate_ex h.2.2
    exact ⟨a, b, c, 0, .inl ⟨rfl, h, h1, h2⟩⟩
  · exact ⟨0, 0, 0, 10, .inr ⟨rfl, rfl, rfl, rfl, h⟩⟩
theorem din_is (k wk n y m a b c e0 : Int) (w : World) (hA : LaidF w) (h : Hid (DateIs k wk n y m a b c e0)) :
    Calls Tryz.prog 92 #[.agg #[.int .i64 k, .int .i64 wk, .int .i64 n], .int .i64 y, .int .i64 m] w fun e w' => e = .returned (.tuple #[.agg #[.int .i64 a, .int .i64 b, .int .i64 c], .int .i64 e0]) ∧ Below w.heap.size w w' := by
  rcases h.out with ⟨rfl, h1, h2⟩ | ⟨rfl, rfl, rfl, rfl, h1⟩
  · exact din_yes k wk n y m a b c w hA h1 h2
  · exact din_no k wk n y m w hA h1
end Go.Proofs.YtdmfgechoanmlaaGreatDoor
