/- The contracts of dayform.read and Parse: which day of a month a text is, or what is wrong with it; nothing that was in memory changes.
The contract of meridianlaw03's awake: it returns true; nothing that was in memory changes. The tables read as they are laid; internal/bytealg.MaxLen holds some number.
The walk of ClockLetters: it returns true, for every text; nothing that was in memory changes. The tables read as they are laid.
What package lines, and what it calls, read in memory; the contracts of lines.year, lastYear, seconds, letter and dash: what a word is read as; nothing that was in memory changes.
The contracts of the fields of lines: of a line's kind, of what is checked, and of values, read by whatever function; what each of them stores, and where. -/
import Derived.Test.YtfmehdophoejiaaGreatDoorME
import Derived.Test.YtfmehdophoejiaaGreatDoorMA
import Derived.Test.YtfmehdophoejiaaGreatDoorMI
import Derived.Test.YtfmehdophoejiaaGreatDoorMJ
import Derived.RangeFuncBox
import Derived.Laws.EntriesVeiled
namespace Go.Proofs.YtfmehdophoejiaaGreatDoor
open Go.RowKit

theorem ffrom_run (s : List UInt8) (i : Int) (n : Nat) (t : List UInt8) (hi : i = (n : Int)) (ht : s.drop n = t) (h2 : n ≤ s.length) (W : World) : (Instr.slice 9 (.string ⟨s.toArray⟩) (some (.int .i64 i)) none none).run Tryz.prog W = .ok (.string ⟨t.toArray⟩) W := by
  subst hi ht
  rw [run_slice_string_from_if (h := Tryz.underlying9), if_pos ⟨by omega, by rw [wsize]; omega⟩]
  congr 2
  simp [ByteArray.extract_mk, ByteArray.size]
  rw [List.take_of_length_le (by simp)]

/-- What read answers: the day as far as it was read, and the error. -/
def rdayK (s : List UInt8) : Int := match sgnL s with | some (_, c) => if c = 62 then 2 else 3 | none => if bgL s then 1 else 0
def rdayW (s : List UInt8) : Int := match sgnL s with | some (p, _) => wkV (s.take p) | none => if bgL s then wkV (s.drop 4) else 0
def rdayN (s : List UInt8) : Int := match sgnL s with | some (p, _) => if wkE (s.take p) = 0 then dnV (s.drop (p + 2)) else 0 | none => if bgL s then 0 else dnV s
def rdayE (s : List UInt8) : Int := match sgnL s with | some (p, _) => if wkE (s.take p) = 0 then dnE (s.drop (p + 2)) else wkE (s.take p) | none => if bgL s then wkE (s.drop 4) else dnE s

theorem wk_cases (s : List UInt8) : (∃ p : Nat, wkN s = some p ∧ wkV s = p ∧ wkE s = 0) ∨ (wkN s = none ∧ wkV s = 0 ∧ wkE s = 13) := by
  unfold wkV wkE
  cases wkN s with
  | none => exact .inr ⟨rfl, rfl, rfl⟩
  | some p => exact .inl ⟨p, rfl, rfl, rfl⟩
/-- The day that a text is, out of what read answers. -/
theorem pars_read (s : List UInt8) : parsF s = if rdayE s = 0 then (rdayK s, rdayW s, rdayN s, 0) else (0, 0, 0, rdayE s) := by
  unfold parsF rdayE rdayK rdayW rdayN
  cases h : sgnL s with
  | some x =>
    obtain ⟨p, c⟩ := x
    simp only
    rcases wk_cases (s.take p) with ⟨q, h1, h2, h3⟩ | ⟨h1, h2, h3⟩
    · simp only [h1, h2, h3, if_true]
    · simp only [h1, h3]; rfl
  | none =>
    simp only
    by_cases hb : bgL s
    · rw [if_pos hb, if_pos hb, if_pos hb, if_pos hb, if_pos (show 4 ≤ s.length ∧ low (s.take 4) = lastW4 from hb)]
      rcases wk_cases (s.drop 4) with ⟨q, h1, h2, h3⟩ | ⟨h1, h2, h3⟩
      · simp only [h1, h2, h3, if_true]
      · simp only [h1, h3]; rfl
    · rw [if_neg hb, if_neg hb, if_neg hb, if_neg hb, if_neg (show ¬ (4 ≤ s.length ∧ low (s.take 4) = lastW4) from hb)]

/-- read, of a text with a sign. -/
theorem dread_sign (s : List UInt8) (p : Nat) (k v e1 m e2 : Int) (j : Nat) (w : World) (hs : s.length ≤ 1000) (hA : LaidF w) (hp : p + 2 ≤ s.length) (hF : Hid (sgP s = p ∧ sgK s = k)) (hj : k = 2 + (j : Int)) (hj2 : j < 2) (hW : Hid (wkV (s.take p) = v ∧ wkE (s.take p) = e1)) (hN : Hid (dnV (s.drop (p + 2)) = m ∧ dnE (s.drop (p + 2)) = e2)) (he : e1 = 0) :
    Calls Tryz.prog 92 #[.string ⟨s.toArray⟩] w fun e w' => e = .returned (.tuple #[.agg #[.int .i64 k, .int .i64 v, .int .i64 m], .int .i64 e2]) ∧ Below w.heap.size w w' := by
  have T0 := Lib.hid (Trp.new w 0 0 0 30)
  have HA := Lib.hid hA
  have HS := Lib.hid hs
  obtain ⟨t1, ht1⟩ : ∃ t1, s.take p = t1 := ⟨_, rfl⟩
  obtain ⟨t2, ht2⟩ : ∃ t2, s.drop (p + 2) = t2 := ⟨_, rfl⟩
  have sl1 := wsub_run s p t1 ht1 (by omega)
  have sl2 := ffrom_run s ((p : Int) + 2) (p + 2) t2 (by omega) ht2 (by omega)
  have hl1 : t1.length ≤ 1000 := by rw [← ht1, List.length_take]; omega
  have hl2 : t2.length ≤ 1000 := by rw [← ht2, List.length_drop]; omega
  have HL := Lib.hid (And.intro hl1 hl2)
  have hpb : (p : Int) ≤ 1000 := by omega
  rw [ht1] at hW
  rw [ht2] at hN
  have sg : 1 < w.heap.size := hA.sig.lt
  subst he
  clear hA hs ht1 ht2 hl1 hl2
  have hk : (k = 2 ∧ j = 0) ∨ (k = 3 ∧ j = 1) := by omega
  clear hj hj2
  have K0 : Hid (∀ W, LaidF W → (W.cell? ⟨1, 0, none⟩ = some (.string ⟨#[62, 61]⟩) ∧ W.cell? ⟨1, 1, none⟩ = some (.string ⟨#[60, 61]⟩))) := Lib.hid fun W h => ⟨h.sig.cell 0 _ rfl, h.sig.cell 1 _ rfl⟩
  rcases hk with ⟨rfl, rfl⟩ | ⟨rfl, rfl⟩
  all_goals
    have B : Hid (∀ x : Int, Trp w w.heap.size x 0 0 30 (w.alloc (.cells #[.int .i64 x, .int .i64 0, .int .i64 0] 30))) := Lib.hid fun x => Trp.new w x 0 0 _
    go_enter Tryz.func92, Tryz.ntmps92
    go_wp2_with (first
      | (go_at_call 122; refine (dfirst_is s p _ _ HS.out (HA.out.next T0.out.bel) hF).mono ?_; rintro e w1 ⟨rfl, rfl⟩)
      | (go_at_call 123; refine (fweek_is t1 v 0 _ HL.out.1 (HA.out.next (B.out _).bel) hW).mono ?_; rintro e w1 ⟨rfl, k1⟩
         have T1 := Lib.hid ((B.out _).next k1)
         clear k1 B
         have lt := T1.out.lt
         have c0 := T1.out.c0
         have c1 := T1.out.c1
         have c2 := T1.out.c2
         have f0 := T1.out.f0
         have f1 := T1.out.f1
         have f2 := T1.out.f2
         obtain ⟨cs0, cs1⟩ := K0.out _ (HA.out.next T1.out.bel))
      | (go_at_call 124; refine (dnumber_is t2 m e2 _ HL.out.2 (HA.out.next (T1.out.set1 v).bel) hN).mono ?_; rintro e w2 ⟨rfl, k2⟩
         have T2 := Lib.hid ((T1.out.set1 v).next k2)
         clear k2 T1 lt c0 c1 c2 f0 f1 f2 cs0 cs1
         have lt := T2.out.lt
         have c0 := T2.out.c0
         have c1 := T2.out.c1
         have c2 := T2.out.c2
         have f0 := T2.out.f0
         have f1 := T2.out.f1
         have f2 := T2.out.f2))
    refine ((T2.out.set2 m).store _ _ _).ret fun W' B2 => ?_
    clear lt c0 c1 c2 f0 f1 f2
    have c0 := B2.c0
    have c1 := B2.c1
    have c2 := B2.c2
    exact bodyPost_ret (v := .tuple #[.agg #[.int .i64 _, .int .i64 v, .int .i64 m], .int .i64 e2]) (by simp [results, Tryz.results92, go_sem, c0, c1, c2]) rfl ⟨rfl, B2.bel⟩

/-- .. whose word ahead of it is no day of the week. -/
theorem dread_sign_no (s : List UInt8) (p : Nat) (k v e1 : Int) (w : World) (hs : s.length ≤ 1000) (hA : LaidF w) (hp : p + 2 ≤ s.length) (hF : Hid (sgP s = p ∧ sgK s = k)) (hk : k = 2 ∨ k = 3) (hW : Hid (wkV (s.take p) = v ∧ wkE (s.take p) = e1)) (he : (e1 == 0) = false) :
    Calls Tryz.prog 92 #[.string ⟨s.toArray⟩] w fun e w' => e = .returned (.tuple #[.agg #[.int .i64 k, .int .i64 v, .int .i64 0], .int .i64 e1]) ∧ Below w.heap.size w w' := by
  have T0 := Lib.hid (Trp.new w 0 0 0 30)
  have HA := Lib.hid hA
  have HS := Lib.hid hs
  obtain ⟨t1, ht1⟩ : ∃ t1, s.take p = t1 := ⟨_, rfl⟩
  have sl1 := wsub_run s p t1 ht1 (by omega)
  have hl1 : t1.length ≤ 1000 := by rw [← ht1, List.length_take]; omega
  have HL := Lib.hid hl1
  have he2 : (e1 != 0) = true := by simpa using he
  rw [ht1] at hW
  clear hA hs ht1 hl1
  rcases hk with rfl | rfl
  all_goals
    have B : Hid (∀ x : Int, Trp w w.heap.size x 0 0 30 (w.alloc (.cells #[.int .i64 x, .int .i64 0, .int .i64 0] 30))) := Lib.hid fun x => Trp.new w x 0 0 _
    go_enter Tryz.func92, Tryz.ntmps92
    go_wp2_with (first
      | (go_at_call 122; refine (dfirst_is s p _ _ HS.out (HA.out.next T0.out.bel) hF).mono ?_; rintro e w1 ⟨rfl, rfl⟩)
      | (go_at_call 123; refine (fweek_is t1 v e1 _ HL.out (HA.out.next (B.out _).bel) hW).mono ?_; rintro e w1 ⟨rfl, k1⟩
         have T1 := Lib.hid ((B.out _).next k1)
         clear k1 B
         have lt := T1.out.lt
         have c0 := T1.out.c0
         have c1 := T1.out.c1
         have c2 := T1.out.c2
         have f0 := T1.out.f0
         have f1 := T1.out.f1
         have f2 := T1.out.f2))
    refine ((T1.out.set1 v).store _ _ _).ret fun W' B2 => ?_
    clear lt c0 c1 c2 f0 f1 f2
    have c0 := B2.c0
    have c1 := B2.c1
    have c2 := B2.c2
    exact bodyPost_ret (v := .tuple #[.agg #[.int .i64 _, .int .i64 v, .int .i64 0], .int .i64 e1]) (by simp [results, Tryz.results92, go_sem, c0, c1, c2]) rfl ⟨rfl, B2.bel⟩

/-- read, of a text without a sign that begins with the word for a last day. -/
theorem dread_last (s : List UInt8) (p : Nat) (v e1 : Int) (w : World) (hs : s.length ≤ 1000) (hA : LaidF w) (hF : Hid (sgP s = p ∧ sgK s = 0)) (hb : bgL s) (hW : Hid (wkV (s.drop 4) = v ∧ wkE (s.drop 4) = e1)) :
    Calls Tryz.prog 92 #[.string ⟨s.toArray⟩] w fun e w' => e = .returned (.tuple #[.agg #[.int .i64 1, .int .i64 v, .int .i64 0], .int .i64 e1]) ∧ Below w.heap.size w w' := by
  have T0 := Lib.hid (Trp.new w 0 0 0 30)
  have HA := Lib.hid hA
  have HS := Lib.hid hs
  obtain ⟨t1, ht1⟩ : ∃ t1, s.drop 4 = t1 := ⟨_, rfl⟩
  have sl1 := ffrom_run s 4 4 t1 rfl ht1 hb.1
  have hl1 : t1.length ≤ 1000 := by rw [← ht1, List.length_drop]; omega
  have HL := Lib.hid hl1
  have HB : Hid (decide (bgL s) = true) := Lib.hid (decide_eq_true hb)
  rw [ht1] at hW
  clear hA hs ht1 hl1 hb
  have B : Hid (∀ x : Int, Trp w w.heap.size x 0 0 30 (w.alloc (.cells #[.int .i64 x, .int .i64 0, .int .i64 0] 30))) := Lib.hid fun x => Trp.new w x 0 0 _
  go_enter Tryz.func92, Tryz.ntmps92
  go_wp2_with (first
      | (go_at_call 122; refine (dfirst_is s p _ _ HS.out (HA.out.next T0.out.bel) hF).mono ?_; rintro e w1 ⟨rfl, rfl⟩)
      | (go_at_call 125; refine (dbegins_is s true _ HS.out (HA.out.next T0.out.bel) HB).mono ?_; rintro e w0 ⟨rfl, k0⟩
         have TB := Lib.hid (T0.out.next k0)
         clear k0 B T0
         have lt := TB.out.lt
         have c0 := TB.out.c0
         have c1 := TB.out.c1
         have c2 := TB.out.c2
         have f0 := TB.out.f0
         have f1 := TB.out.f1
         have f2 := TB.out.f2)
      | (go_at_call 123; refine (fweek_is t1 v e1 _ HL.out (HA.out.next (TB.out.set0 _).bel) hW).mono ?_; rintro e w1 ⟨rfl, k1⟩
         have T1 := Lib.hid ((TB.out.set0 _).next k1)
         clear k1 TB lt c0 c1 c2 f0 f1 f2
         have lt := T1.out.lt
         have c0 := T1.out.c0
         have c1 := T1.out.c1
         have c2 := T1.out.c2
         have f0 := T1.out.f0
         have f1 := T1.out.f1
         have f2 := T1.out.f2))
  refine ((T1.out.set1 v).store _ _ _).ret fun W' B2 => ?_
  clear lt c0 c1 c2 f0 f1 f2
  have c0 := B2.c0
  have c1 := B2.c1
  have c2 := B2.c2
  exact bodyPost_ret (v := .tuple #[.agg #[.int .i64 1, .int .i64 v, .int .i64 0], .int .i64 e1]) (by simp [results, Tryz.results92, go_sem, c0, c1, c2]) rfl ⟨rfl, B2.bel⟩

/-- read, of a text that has neither. -/
theorem dread_number (s : List UInt8) (p : Nat) (m e1 : Int) (w : World) (hs : s.length ≤ 1000) (hA : LaidF w) (hF : Hid (sgP s = p ∧ sgK s = 0)) (hb : ¬ bgL s) (hN : Hid (dnV s = m ∧ dnE s = e1)) :
    Calls Tryz.prog 92 #[.string ⟨s.toArray⟩] w fun e w' => e = .returned (.tuple #[.agg #[.int .i64 0, .int .i64 0, .int .i64 m], .int .i64 e1]) ∧ Below w.heap.size w w' := by
  have T0 := Lib.hid (Trp.new w 0 0 0 30)
  have HA := Lib.hid hA
  have HS := Lib.hid hs
  have HB : Hid (decide (bgL s) = false) := Lib.hid (decide_eq_false hb)
  clear hA hs hb
  go_enter Tryz.func92, Tryz.ntmps92
  go_wp2_with (first
      | (go_at_call 122; refine (dfirst_is s p _ _ HS.out (HA.out.next T0.out.bel) hF).mono ?_; rintro e w1 ⟨rfl, rfl⟩)
      | (go_at_call 125; refine (dbegins_is s false _ HS.out (HA.out.next T0.out.bel) HB).mono ?_; rintro e w0 ⟨rfl, k0⟩
         have TB := Lib.hid (T0.out.next k0)
         clear k0 T0
         have lt := TB.out.lt
         have c0 := TB.out.c0
         have c1 := TB.out.c1
         have c2 := TB.out.c2
         have f0 := TB.out.f0
         have f1 := TB.out.f1
         have f2 := TB.out.f2)
      | (go_at_call 124; refine (dnumber_is s m e1 _ HS.out (HA.out.next TB.out.bel) hN).mono ?_; rintro e w1 ⟨rfl, k1⟩
         have T1 := Lib.hid (TB.out.next k1)
         clear k1 TB lt c0 c1 c2 f0 f1 f2
         have lt := T1.out.lt
         have c0 := T1.out.c0
         have c1 := T1.out.c1
         have c2 := T1.out.c2
         have f0 := T1.out.f0
         have f1 := T1.out.f1
         have f2 := T1.out.f2))
  refine ((T1.out.set2 m).store _ _ _).ret fun W' B2 => ?_
  clear lt c0 c1 c2 f0 f1 f2
  have c0 := B2.c0
  have c1 := B2.c1
  have c2 := B2.c2
  exact bodyPost_ret (v := .tuple #[.agg #[.int .i64 0, .int .i64 0, .int .i64 m], .int .i64 e1]) (by simp [results, Tryz.results92, go_sem, c0, c1, c2]) rfl ⟨rfl, B2.bel⟩

/-- read, of every text. -/
theorem dread_is (s : List UInt8) (w : World) (hs : s.length ≤ 1000) (hA : LaidF w) :
    Calls Tryz.prog 92 #[.string ⟨s.toArray⟩] w fun e w' => e = .returned (.tuple #[.agg #[.int .i64 (rdayK s), .int .i64 (rdayW s), .int .i64 (rdayN s)], .int .i64 (rdayE s)]) ∧ Below w.heap.size w w' := by
  cases h : sgnL s with
  | some x =>
    obtain ⟨p, c⟩ := x
    have hl := sgn_lt h
    have hF : Hid (sgP s = p ∧ sgK s = if c = 62 then 2 else 3) := Lib.hid (by unfold sgP sgK; rw [h]; exact ⟨rfl, rfl⟩)
    have e1 : rdayK s = if c = 62 then 2 else 3 := by unfold rdayK; rw [h]
    have e2 : rdayW s = wkV (s.take p) := by unfold rdayW; rw [h]
    have e3 : rdayN s = if wkE (s.take p) = 0 then dnV (s.drop (p + 2)) else 0 := by unfold rdayN; rw [h]
    have e4 : rdayE s = if wkE (s.take p) = 0 then dnE (s.drop (p + 2)) else wkE (s.take p) := by unfold rdayE; rw [h]
    have hc : (if c = 62 then (2 : Int) else 3) = 2 ∨ (if c = 62 then (2 : Int) else 3) = 3 := by split <;> simp
    rw [e1, e2, e3, e4]
    by_cases hw : wkE (s.take p) = 0
    · rw [if_pos hw, if_pos hw]
      rcases hc with hc | hc
      · exact dread_sign s p _ _ _ _ _ 0 w hs hA hl hF (by rw [hc]; rfl) (by omega) (Lib.hid ⟨rfl, rfl⟩) (Lib.hid ⟨rfl, rfl⟩) hw
      · exact dread_sign s p _ _ _ _ _ 1 w hs hA hl hF (by rw [hc]; rfl) (by omega) (Lib.hid ⟨rfl, rfl⟩) (Lib.hid ⟨rfl, rfl⟩) hw
    · rw [if_neg hw, if_neg hw]
      exact dread_sign_no s p _ _ _ w hs hA hl hF hc (Lib.hid ⟨rfl, rfl⟩) (by simpa using hw)
  | none =>
    have hF : Hid (sgP s = s.length ∧ sgK s = 0) := Lib.hid (by unfold sgP sgK; rw [h]; exact ⟨rfl, rfl⟩)
    by_cases hb : bgL s
    · have e1 : rdayK s = 1 := by unfold rdayK; rw [h]; exact if_pos hb
      have e2 : rdayW s = wkV (s.drop 4) := by unfold rdayW; rw [h]; exact if_pos hb
      have e3 : rdayN s = 0 := by unfold rdayN; rw [h]; exact if_pos hb
      have e4 : rdayE s = wkE (s.drop 4) := by unfold rdayE; rw [h]; exact if_pos hb
      rw [e1, e2, e3, e4]
      exact dread_last s _ _ _ w hs hA hF hb (Lib.hid ⟨rfl, rfl⟩)
    · have e1 : rdayK s = 0 := by unfold rdayK; rw [h]; exact if_neg hb
      have e2 : rdayW s = 0 := by unfold rdayW; rw [h]; exact if_neg hb
      have e3 : rdayN s = dnV s := by unfold rdayN; rw [h]; exact if_neg hb
      have e4 : rdayE s = dnE s := by unfold rdayE; rw [h]; exact if_neg hb
      rw [e1, e2, e3, e4]
      exact dread_number s _ _ _ w hs hA hF hb (Lib.hid ⟨rfl, rfl⟩)

set_option maxHeartbeats 800000 in
theorem dparse_at (s : List UInt8) (k v m e0 k' v' m' : Int) (w : World) (hs : s.length ≤ 1000) (hA : LaidF w) (HR : Hid (rdayK s = k ∧ rdayW s = v ∧ rdayN s = m ∧ rdayE s = e0)) (HV : Hid (e0 = 0 ∧ k' = k ∧ v' = v ∧ m' = m) ∨ ((e0 == 0) = false ∧ Hid (k' = 0 ∧ v' = 0 ∧ m' = 0))) :
    Calls Tryz.prog 54 #[.string ⟨s.toArray⟩] w fun e w' => e = .returned (.tuple #[.agg #[.int .i64 k', .int .i64 v', .int .i64 m'], .int .i64 e0]) ∧ Below w.heap.size w w' := by
  have T0 := Lib.hid (Trp.new w 0 0 0 30)
  have RD : Hid (∀ W, LaidF W → Calls Tryz.prog 92 #[.string ⟨s.toArray⟩] W fun e w' => e = .returned (.tuple #[.agg #[.int .i64 k, .int .i64 v, .int .i64 m], .int .i64 e0]) ∧ Below W.heap.size W w') := Lib.hid fun W h => by
    have := dread_is s W hs h
    rwa [HR.out.1, HR.out.2.1, HR.out.2.2.1, HR.out.2.2.2] at this
  have HA := Lib.hid hA
  clear hs hA HR
  rcases HV with H | ⟨h0, H⟩
  · obtain ⟨rfl, rfl, rfl, rfl⟩ := H.out
    clear H
    go_enter Tryz.func54, Tryz.ntmps54
    go_wp2_with (first
      | (go_at_call 92; refine (RD.out _ (HA.out.next T0.out.bel)).mono ?_; rintro e w1 ⟨rfl, k1⟩
         have T1 := Lib.hid (T0.out.next k1)
         clear k1 T0
         have lt := T1.out.lt
         have c0 := T1.out.c0
         have c1 := T1.out.c1
         have c2 := T1.out.c2
         have f0 := T1.out.f0
         have f1 := T1.out.f1
         have f2 := T1.out.f2))
    refine ((T1.out.store _ _ _).more _).ret fun W' B2 => ?_
    clear lt c0 c1 c2 f0 f1 f2
    have c0 := B2.c0
    have c1 := B2.c1
    have c2 := B2.c2
    exact bodyPost_ret (v := .tuple #[.agg #[.int .i64 k', .int .i64 v', .int .i64 m'], .int .i64 0]) (by simp [results, Tryz.results54, go_sem, c0, c1, c2]) rfl ⟨rfl, B2.bel⟩
  · obtain ⟨rfl, rfl, rfl⟩ := H.out
    have h1 : (e0 != 0) = true := by simpa using h0
    clear H
    go_enter Tryz.func54, Tryz.ntmps54
    go_wp2_with (first
      | (go_at_call 92; refine (RD.out _ (HA.out.next T0.out.bel)).mono ?_; rintro e w1 ⟨rfl, k1⟩
         have T1 := Lib.hid (T0.out.next k1)
         clear k1 T0
         have lt := T1.out.lt
         have c0 := T1.out.c0
         have c1 := T1.out.c1
         have c2 := T1.out.c2
         have f0 := T1.out.f0
         have f1 := T1.out.f1
         have f2 := T1.out.f2))
    refine ((T1.out.store _ _ _).more _).ret fun W' B2 => ?_
    clear lt c0 c1 c2 f0 f1 f2
    have c0 := B2.c0
    have c1 := B2.c1
    have c2 := B2.c2
    exact bodyPost_ret (v := .tuple #[.agg #[.int .i64 0, .int .i64 0, .int .i64 0], .int .i64 e0]) (by simp [results, Tryz.results54, go_sem, c0, c1, c2]) rfl ⟨rfl, B2.bel⟩
/-- Parse, of every text. -/
theorem dparse_is (s : List UInt8) (k v m e0 : Int) (w : World) (hs : s.length ≤ 1000) (hA : LaidF w) (HV : Hid (parsF s = (k, v, m, e0))) :
    Calls Tryz.prog 54 #[.string ⟨s.toArray⟩] w fun e w' => e = .returned (.tuple #[.agg #[.int .i64 k, .int .i64 v, .int .i64 m], .int .i64 e0]) ∧ Below w.heap.size w w' := by
  have hv := HV.out
  rw [pars_read] at hv
  by_cases h : rdayE s = 0
  · rw [if_pos h] at hv
    simp only [Prod.mk.injEq] at hv
    obtain ⟨h1, h2, h3, h4⟩ := hv
    exact dparse_at s k v m e0 k v m w hs hA (Lib.hid ⟨h1, h2, h3, h.trans h4⟩) (.inl (Lib.hid ⟨h4.symm, rfl, rfl, rfl⟩))
  · rw [if_neg h] at hv
    simp only [Prod.mk.injEq] at hv
    obtain ⟨h1, h2, h3, h4⟩ := hv
    exact dparse_at s _ _ _ e0 k v m w hs hA (Lib.hid ⟨rfl, rfl, rfl, h4⟩) (.inr ⟨by rw [← h4]; simpa using h, Lib.hid ⟨h1.symm, h2.symm, h3.symm⟩⟩)
end Go.Proofs.YtfmehdophoejiaaGreatDoor

namespace Go.Proofs.YtfmehdophoejiaaGreatDoor
open Go.RowKit

theorem ok_ex70 : okD 1970 1 2 := by unfold okD; decide
theorem textL_ex : textL (-5400) = [45, 49, 58, 51, 48] := by
  unfold textL textN hms
  rw [show (-5400 : Int).natAbs = 5400 from rfl, show 5400 / 3600 = 1 from rfl, show 5400 % 3600 / 60 = 30 from rfl, show 5400 % 60 = 0 from rfl, pd_step (by omega), pd_step (l := 2) (by omega), show (1 : Nat) / 10 = 0 from rfl, show 1 - 1 = 0 from rfl, pd_nil, show 30 / 10 = 3 from rfl, pd_step (by omega), show 3 / 10 = 0 from rfl, show 2 - 1 - 1 = 0 from rfl, pd_nil]
  decide
theorem par_ex : parN [50, 58, 48, 48, 115] = 7200 ∧ parK [50, 58, 48, 48, 115] = 1 ∧ parE [50, 58, 48, 48, 115] = 0 := by
  have j : kJ [50, 58, 48, 48, 115] = 1 := by decide
  have e1 : kS [50, 58, 48, 48, 115] = [50, 58, 48, 48] := by rw [kS, j]; rfl
  have e2 : kN [50, 58, 48, 48, 115] = 1 := by rw [kN, j]; rfl
  have t : Lib.trimPrefix ([50, 58, 48, 48] : List UInt8) [45] = [50, 58, 48, 48] := by decide
  have hp : Lib.hasPrefix ([50, 58, 48, 48] : List UInt8) [45] = false := by decide
  have r : readOk [50, 58, 48, 48] = true := by decide
  have v : readV [50, 58, 48, 48] = 7200 := by decide
  have := span_pos (s := [50, 58, 48, 48]) (by decide) (by rw [t]; exact r) (by rw [t, v]; omega) hp
  rw [t, v] at this
  rw [parN, parK, parE, e1, e2, this.1, this.2]
  exact ⟨rfl, rfl, rfl⟩
end Go.Proofs.YtfmehdophoejiaaGreatDoor

namespace Go.Proofs.YtfmehdophoejiaaGreatDoor
open Go.RowKit

theorem pcs_all (s : List UInt8) : ∀ (k : Nat) (cur : List UInt8), okP (ix k (pcs cur s)) = true → ∀ b ∈ s, b = 58 ∨ isDig b = true := by
  induction s with
  | nil => intro k cur _ b hb; simp at hb
  | cons c r ih =>
    intro k cur h b hb
    by_cases hc : c = 58
    · have e : pcs cur (c :: r) = cur :: pcs [] r := by
        show (if c = 58 then cur :: pcs [] r else pcs (cur ++ [c]) r) = _
        rw [if_pos hc]
      rw [e] at h
      simp only [ix, okP, List.all_cons, Bool.and_eq_true] at h
      rcases List.mem_cons.1 hb with rfl | hb
      · exact .inl hc
      · exact ih _ _ h.2 b hb
    · have e : pcs cur (c :: r) = pcs (cur ++ [c]) r := by
        show (if c = 58 then cur :: pcs [] r else pcs (cur ++ [c]) r) = _
        rw [if_neg hc]
      rw [e] at h
      rcases List.mem_cons.1 hb with rfl | hb
      · right
        rw [pcs_cut] at h
        simp only [ix, okP, List.all_cons, Bool.and_eq_true, fldOk, decide_eq_true_eq, allDig, List.all_append] at h
        exact h.1.2.2.2.1.1.2.1
      · exact ih _ _ h b hb

theorem span_bytes {s : List UInt8} (h : spanE s = 0) : ∀ b ∈ s, b = 45 ∨ b = 58 ∨ isDig b = true := by
  intro b hb
  by_cases h0 : s = [45]
  · subst h0; left; simpa using hb
  · have hr : readOk (Lib.trimPrefix s [45]) = true := by
      cases hr : readOk (Lib.trimPrefix s [45]) with
      | true => rfl
      | false => rw [(span_form h0 hr).2] at h; cases h
    unfold Lib.trimPrefix at hr
    split at hr
    · rename_i hp
      cases s with
      | nil => simp at hb
      | cons c r =>
        rw [hasPre] at hp
        have hc : c = 45 := by simpa using hp
        rcases List.mem_cons.1 hb with rfl | hb
        · exact .inl hc
        · exact .inr (pcs_all r 0 [] hr b hb)
    · exact .inr (pcs_all s 0 [] hr b hb)

/-- A text that is a span ends with no letter of a kind. -/
theorem span_kJ {s : List UInt8} (h : spanE s = 0) : kJ s = 5 := by
  have all := span_bytes h
  have no : ∀ c : UInt8, c ≠ 45 → c ≠ 58 → isDig c = false → s.getLast? ≠ some c := by
    intro c h1 h2 h3 e
    rcases all c (List.mem_of_getLast? e) with h | h | h
    · exact h1 h
    · exact h2 h
    · rw [h3] at h; cases h
  unfold kJ
  rw [if_neg (no 119 (by decide) (by decide) (by decide)), if_neg (no 115 (by decide) (by decide) (by decide)), if_neg (no 117 (by decide) (by decide) (by decide)), if_neg (no 103 (by decide) (by decide) (by decide)), if_neg (no 122 (by decide) (by decide) (by decide))]
theorem span_par {s : List UInt8} (h : spanE s = 0) : parN s = spanN s ∧ parK s = 0 ∧ parE s = 0 := by
  have j := span_kJ h
  have e1 : kS s = s := by rw [kS, j]; rfl
  have e2 : kN s = 0 := by rw [kN, j]; rfl
  rw [parN, parK, parE, e1, e2, h]; exact ⟨rfl, rfl, rfl⟩

theorem par_of {s t : List UInt8} {k : Int} (h1 : kS t = s) (h2 : kN t = k) : parN t = (if spanE s = 0 then spanN s else 0) ∧ parK t = (if spanE s = 0 then k else 0) ∧ parE t = spanE s := by
  rw [parN, parK, parE, h1, h2]; exact ⟨rfl, rfl, rfl⟩
theorem kJ_snoc0 (s : List UInt8) : kS (s ++ [119]) = s ∧ kN (s ++ [119]) = 0 := by
  have j : kJ (s ++ [119]) = 0 := by unfold kJ; rw [List.getLast?_concat]; rfl
  rw [kS, kN, j]; exact ⟨by simp, rfl⟩
theorem let_sl0 (W : World) : (Instr.slice 9 (.string ⟨#[119, 115, 117, 103, 122]⟩) (some (.int .i64 0)) (some (.int .i64 1)) none).run Tryz.prog W = .ok (.string ⟨#[119]⟩) W := by kernel_rfl
theorem kJ_snoc1 (s : List UInt8) : kS (s ++ [115]) = s ∧ kN (s ++ [115]) = 1 := by
  have j : kJ (s ++ [115]) = 1 := by unfold kJ; rw [List.getLast?_concat]; rfl
  rw [kS, kN, j]; exact ⟨by simp, rfl⟩
theorem let_sl1 (W : World) : (Instr.slice 9 (.string ⟨#[119, 115, 117, 103, 122]⟩) (some (.int .i64 1)) (some (.int .i64 2)) none).run Tryz.prog W = .ok (.string ⟨#[115]⟩) W := by kernel_rfl
theorem kJ_snoc2 (s : List UInt8) : kS (s ++ [117]) = s ∧ kN (s ++ [117]) = 2 := by
  have j : kJ (s ++ [117]) = 2 := by unfold kJ; rw [List.getLast?_concat]; rfl
  rw [kS, kN, j]; exact ⟨by simp, rfl⟩
theorem let_sl2 (W : World) : (Instr.slice 9 (.string ⟨#[119, 115, 117, 103, 122]⟩) (some (.int .i64 2)) (some (.int .i64 3)) none).run Tryz.prog W = .ok (.string ⟨#[117]⟩) W := by kernel_rfl
theorem kJ_snoc3 (s : List UInt8) : kS (s ++ [103]) = s ∧ kN (s ++ [103]) = 2 := by
  have j : kJ (s ++ [103]) = 3 := by unfold kJ; rw [List.getLast?_concat]; rfl
  rw [kS, kN, j]; exact ⟨by simp, rfl⟩
theorem let_sl3 (W : World) : (Instr.slice 9 (.string ⟨#[119, 115, 117, 103, 122]⟩) (some (.int .i64 3)) (some (.int .i64 4)) none).run Tryz.prog W = .ok (.string ⟨#[103]⟩) W := by kernel_rfl
theorem kJ_snoc4 (s : List UInt8) : kS (s ++ [122]) = s ∧ kN (s ++ [122]) = 2 := by
  have j : kJ (s ++ [122]) = 4 := by unfold kJ; rw [List.getLast?_concat]; rfl
  rw [kS, kN, j]; exact ⟨by simp, rfl⟩
theorem let_sl4 (W : World) : (Instr.slice 9 (.string ⟨#[119, 115, 117, 103, 122]⟩) (some (.int .i64 4)) (some (.int .i64 5)) none).run Tryz.prog W = .ok (.string ⟨#[122]⟩) W := by kernel_rfl

end Go.Proofs.YtfmehdophoejiaaGreatDoor

namespace Go.Proofs.YtfmehdophoejiaaGreatDoor
open Go Go.RowKit

/-- The tables that package lines, and what it calls, read. -/
structure LaidL (w : World) : Prop where
  ww : LaidW w
  ff : LaidF w
  fld : FldAt w
  lt : LetAt w
  pow : PowAt w
  mx : MaxAt w
theorem LaidL.next {w w' : World} (h : LaidL w) (k : Below w.heap.size w w') : LaidL w' := ⟨h.ww.next k, h.ff.next k, h.fld.next k, h.lt.next k, h.pow.next k, h.mx.next k⟩

theorem lspan_is (s : List UInt8) (n x : Int) (w : World) (hs : s.length ≤ 1000) (hA : LaidL w) (h : Hid (spanN s = n ∧ spanE s = x)) :
    Calls Tryz.prog 95 #[.string ⟨s.toArray⟩] w fun e w' => e = .returned (.tuple #[.int .i64 n, .int .i64 x]) ∧ Below w.heap.size w w' := by
  have := span_any s w hs hA.mx hA.fld
  rwa [h.out.1, h.out.2] at this
theorem lparse_is (s : List UInt8) (n k x : Int) (w : World) (hs : s.length ≤ 1000) (hA : LaidL w) (h : Hid (parN s = n ∧ parK s = k ∧ parE s = x)) :
    Calls Tryz.prog 56 #[.string ⟨s.toArray⟩] w fun e w' => e = .returned (.tuple #[.agg #[.int .i64 n, .int .i64 k], .int .i64 x]) ∧ Below w.heap.size w w' := by
  have := parse_any s w hs hA.mx hA.fld hA.lt
  rwa [h.out.1, h.out.2.1, h.out.2.2] at this

theorem e0_no {e : Int} (h : e ≠ 0) : (e == 0) = false := by simpa using h
/-- The years: none of the other words is one. -/
theorem yr_cases (s : List UInt8) : ((∃ p, findL (low s) endsL = some p) ∧ yearV s 1048576 = 1048576 ∧ yearE s = 0 ∧ yrV s = 0 ∧ yrE s = 12) ∨
    (findL (low s) endsL = none ∧ (∀ f, yearV s f = yrV s) ∧ yearE s = yrE s ∧ ((yrE s = 0 ∧ 1 ≤ yrV s ∧ yrV s ≤ 4000) ∨ (yrE s ≠ 0 ∧ yrV s = 0))) := by
  unfold yrV yrE
  cases h : findL (low s) endsL with
  | some p =>
    left
    refine ⟨⟨p, rfl⟩, ?_, ?_, rfl, rfl⟩
    · unfold yearV; rw [h]; cases p <;> rfl
    · unfold yearE; rw [h]
  | none =>
    right
    refine ⟨rfl, fun f => ?_, rfl, ?_⟩
    · simp only []; unfold yearV; rw [h]
    · simp only []
      unfold yearV yearE
      rw [h]
      simp only []
      by_cases hb : numB s = true
      · by_cases hr : 1 ≤ numZ s ∧ numZ s ≤ 4000
        · left
          rw [if_pos hb, if_pos hr, if_pos ⟨hb, hr.1, hr.2⟩]
          exact ⟨rfl, hr.1, hr.2⟩
        · right
          rw [if_pos hb, if_neg hr, if_neg (fun c => hr c.2)]
          exact ⟨by omega, rfl⟩
      · right
        rw [if_neg hb, if_neg (fun c => hb c.1)]
        exact ⟨by omega, rfl⟩

theorem lyear_is (s : List UInt8) (v e0 : Int) (w : World) (hs : s.length ≤ 1000) (hA : LaidL w) (HV : Hid (yrV s = v ∧ yrE s = e0)) :
    Calls Tryz.prog 48 #[.string ⟨s.toArray⟩] w fun e w' => e = .returned (.tuple #[.int .i64 v, .int .i64 e0]) ∧ Below w.heap.size w w' := by
  obtain ⟨rfl, rfl⟩ := HV.out
  have HA := Lib.hid hA
  rcases yr_cases s with ⟨_, h1, h2, h3, h4⟩ | ⟨_, h1, h2, h3⟩
  · have H := Lib.hid (And.intro h1 h2)
    rw [h3, h4]
    clear h1 h2 h3 h4 HV hA
    go_enter Tryz.func48, Tryz.ntmps48
    go_wp2_with (go_at_call 89; refine (year_is s 1048576 1048576 0 _ hs HA.out.ww H).mono ?_; rintro e w1 ⟨rfl, k1⟩; simp only [])
    go_ret2
    exact ⟨rfl, k1⟩
  · obtain ⟨v, hv⟩ : ∃ v, yrV s = v := ⟨_, rfl⟩
    obtain ⟨x, hx⟩ : ∃ x, yrE s = x := ⟨_, rfl⟩
    have H := Lib.hid (And.intro ((h1 1048576).trans hv) (h2.trans hx))
    rw [hv, hx] at h3 ⊢
    clear h1 h2 HV hA hv hx
    rcases h3 with ⟨rfl, h3, h4⟩ | ⟨h3, rfl⟩
    · have hn : (v == 1048576) = false := by simp; omega
      clear h3 h4
      go_enter Tryz.func48, Tryz.ntmps48
      go_wp2_with (go_at_call 89; refine (year_is s 1048576 v 0 _ hs HA.out.ww H).mono ?_; rintro e w1 ⟨rfl, k1⟩; simp only [])
      go_ret2
      exact ⟨rfl, k1⟩
    · have hn := e0_no h3
      clear h3
      go_enter Tryz.func48, Tryz.ntmps48
      go_wp2_with (go_at_call 89; refine (year_is s 1048576 0 x _ hs HA.out.ww H).mono ?_; rintro e w1 ⟨rfl, k1⟩; simp only [])
      go_ret2
      exact ⟨rfl, k1⟩

theorem llast_is (s : List UInt8) (f v e0 : Int) (w : World) (hs : s.length ≤ 1000) (hA : LaidL w) (HV : Hid (toV s f = v ∧ toE s f = e0)) :
    Calls Tryz.prog 50 #[.string ⟨s.toArray⟩, .int .i64 f] w fun e w' => e = .returned (.tuple #[.int .i64 v, .int .i64 e0]) ∧ Below w.heap.size w w' := by
  have hv := HV.out
  have HA := Lib.hid hA
  obtain ⟨y, hy⟩ : ∃ y, yearV s f = y := ⟨_, rfl⟩
  obtain ⟨x, hx⟩ : ∃ x, yearE s = x := ⟨_, rfl⟩
  have H := Lib.hid (And.intro hy hx)
  unfold toV toE at hv
  rw [hy, hx] at hv
  clear HV hA hy hx
  by_cases h0 : x = 0
  · subst h0
    rw [if_pos rfl] at hv
    by_cases hl : y < f
    · rw [if_pos hl, if_pos rfl] at hv
      obtain ⟨rfl, rfl⟩ := hv
      go_enter Tryz.func50, Tryz.ntmps50
      go_wp2_with (go_at_call 89; refine (year_is s f y 0 _ hs HA.out.ww H).mono ?_; rintro e w1 ⟨rfl, k1⟩; simp only [])
      go_ret2
      exact ⟨rfl, k1⟩
    · rw [if_neg hl, if_neg (by omega)] at hv
      obtain ⟨rfl, rfl⟩ := hv
      go_enter Tryz.func50, Tryz.ntmps50
      go_wp2_with (go_at_call 89; refine (year_is s f y 0 _ hs HA.out.ww H).mono ?_; rintro e w1 ⟨rfl, k1⟩; simp only [])
      go_ret2
      exact ⟨rfl, k1⟩
  · have hn := e0_no h0
    rw [if_neg h0] at hv
    have hx17 : x ≠ 17 := by
      intro h
      have := H.out.2
      unfold yearE at this
      rw [h] at this
      revert this
      split
      · intro e; omega
      · split
        · split <;> (intro e; omega)
        · intro e; omega
    rw [if_neg hx17] at hv
    obtain ⟨rfl, rfl⟩ := hv
    clear h0 hx17
    go_enter Tryz.func50, Tryz.ntmps50
    go_wp2_with (go_at_call 89; refine (year_is s f y x _ hs HA.out.ww H).mono ?_; rintro e w1 ⟨rfl, k1⟩; simp only [])
    go_ret2
    exact ⟨rfl, k1⟩

theorem of_cases (s : List UInt8) : (spanE s = 0 ∧ -90000 < spanN s ∧ spanN s < 90000 ∧ ofV s = spanN s ∧ ofE s = 0) ∨
    (spanE s = 0 ∧ (spanN s ≤ -90000 ∨ (-90000 < spanN s ∧ 90000 ≤ spanN s)) ∧ ofV s = 0 ∧ ofE s = 10) ∨ (spanE s ≠ 0 ∧ ofV s = spanN s ∧ ofE s = spanE s) := by
  unfold ofV
  unfold ofE
  by_cases h0 : spanE s = 0
  · by_cases h : -90000 < spanN s ∧ spanN s < 90000
    · left
      rw [if_pos h0, if_pos h, if_neg (by omega)]
      exact ⟨h0, h.1, h.2, rfl, rfl⟩
    · right; left
      rw [if_pos h0, if_neg h, if_pos ⟨rfl, h0⟩]
      exact ⟨h0, by omega, rfl, rfl⟩
  · right; right
    rw [if_neg h0, if_neg (fun c => h0 c.2)]
    exact ⟨h0, rfl, rfl⟩
theorem lsec_is (s : List UInt8) (v e0 : Int) (w : World) (hs : s.length ≤ 1000) (hA : LaidL w) (HV : Hid (ofV s = v ∧ ofE s = e0)) :
    Calls Tryz.prog 57 #[.string ⟨s.toArray⟩] w fun e w' => e = .returned (.tuple #[.int .i64 v, .int .i64 e0]) ∧ Below w.heap.size w w' := by
  obtain ⟨rfl, rfl⟩ := HV.out
  have HA := Lib.hid hA
  have hc := of_cases s
  obtain ⟨y, hy⟩ : ∃ y, spanN s = y := ⟨_, rfl⟩
  obtain ⟨x, hx⟩ : ∃ x, spanE s = x := ⟨_, rfl⟩
  have H := Lib.hid (And.intro hy hx)
  rw [hy, hx] at hc
  clear HV hA hy hx
  rcases hc with ⟨rfl, h1, h2, e1, e2⟩ | ⟨rfl, h1 | ⟨h1, h2⟩, e1, e2⟩ | ⟨h0, e1, e2⟩
  · rw [e1, e2]
    have h1' : ¬ y ≤ -90000 := by omega
    have h2' : ¬ (90000 : Int) ≤ y := by omega
    clear h1 h2 e1 e2
    go_enter Tryz.func57, Tryz.ntmps57
    go_wp2_with (go_at_call 95; refine (lspan_is s y 0 _ hs HA.out H).mono ?_; rintro e w1 ⟨rfl, k1⟩; simp only [])
    go_ret2
    exact ⟨rfl, k1⟩
  · rw [e1, e2]
    clear e1 e2
    go_enter Tryz.func57, Tryz.ntmps57
    go_wp2_with (go_at_call 95; refine (lspan_is s y 0 _ hs HA.out H).mono ?_; rintro e w1 ⟨rfl, k1⟩; simp only [])
    go_ret2
    exact ⟨rfl, k1⟩
  · rw [e1, e2]
    have h1' : ¬ y ≤ -90000 := by omega
    clear h1 e1 e2
    go_enter Tryz.func57, Tryz.ntmps57
    go_wp2_with (go_at_call 95; refine (lspan_is s y 0 _ hs HA.out H).mono ?_; rintro e w1 ⟨rfl, k1⟩; simp only [])
    go_ret2
    exact ⟨rfl, k1⟩
  · rw [e1, e2]
    have hn := e0_no h0
    clear e1 e2 h0
    go_enter Tryz.func57, Tryz.ntmps57
    go_wp2_with (go_at_call 95; refine (lspan_is s y x _ hs HA.out H).mono ?_; rintro e w1 ⟨rfl, k1⟩; simp only [])
    go_ret2
    exact ⟨rfl, k1⟩

theorem lletter_is (s V : List UInt8) (e0 : Int) (w : World) (hs : s.length ≤ 1000) (HV : Hid (ltV s = V ∧ ltE s = e0)) :
    Calls Tryz.prog 59 #[.string ⟨s.toArray⟩] w fun e w' => e = .returned (.tuple #[.string ⟨V.toArray⟩, .int .i64 e0]) ∧ Below w.heap.size w w' := by
  have hv := HV.out
  clear HV
  unfold ltV ltE ltOk at hv
  by_cases h : s = [45]
  · subst h
    obtain ⟨rfl, rfl⟩ := hv
    go_enter Tryz.func59, Tryz.ntmps59
    go_wp2
    go_ret2
    exact ⟨rfl, Below.refl _ _⟩
  · have h' : (s == [45]) = false := by simp [h]
    rw [if_neg h, decide_eq_false h, Bool.false_or] at hv
    cases ht : txOk lnP 1 8 s with
    | true =>
      have HT := Lib.hid ht
      rw [ht] at hv
      obtain ⟨rfl, rfl⟩ := hv
      clear ht h
      go_enter Tryz.func59, Tryz.ntmps59
      go_wp2_with (go_at_call 33; refine (textP_is s 1 8 true _ hs (by omega) (by omega) HT).mono ?_; rintro e w1 ⟨rfl, k1⟩; simp only [])
      go_ret2
      exact ⟨rfl, k1⟩
    | false =>
      have HT := Lib.hid ht
      rw [ht] at hv
      obtain ⟨rfl, rfl⟩ := hv
      clear ht h
      go_enter Tryz.func59, Tryz.ntmps59
      go_wp2_with (go_at_call 33; refine (textP_is s 1 8 false _ hs (by omega) (by omega) HT).mono ?_; rintro e w1 ⟨rfl, k1⟩; simp only [])
      go_ret2
      exact ⟨rfl, k1⟩

theorem ldash_is (s : List UInt8) (e0 : Int) (w : World) (HV : Hid (dsE s = e0)) :
    Calls Tryz.prog 51 #[.string ⟨s.toArray⟩] w fun e w' => e = .returned (.int .i64 e0) ∧ Below w.heap.size w w' := by
  have hv := HV.out
  clear HV
  unfold dsE at hv
  by_cases h : s = [45]
  · subst h
    subst hv
    go_enter Tryz.func51, Tryz.ntmps51
    go_wp2
    go_ret
    exact ⟨rfl, Below.refl _ _⟩
  · have h' : (s == [45]) = false := by simp [h]
    rw [if_neg h] at hv
    subst hv
    clear h
    go_enter Tryz.func51, Tryz.ntmps51
    go_wp2
    go_ret
    exact ⟨rfl, Below.refl _ _⟩
end Go.Proofs.YtfmehdophoejiaaGreatDoor

namespace Go.Proofs.YtfmehdophoejiaaGreatDoor
open Go Go.RowKit

/-- Block g holds these cells; all other blocks lie as they lay. -/
structure Stored (g : Nat) (C : Array Value) (t : TypeId) (W w' : World) : Prop where
  gr : W.grownBy w' (some g)
  row : w'.heap[g]? = some (.cells C t (0, 0))
theorem Stored.keptO {g B : Nat} {C : Array Value} {t : TypeId} {W w' : World} (h : Stored g C t W w') (hg : g < B) : KeptO B W w' := ⟨h.gr.size, fun j h1 h2 => h.gr.block j h2 (by intro e; injection e with e; omega)⟩
theorem Stored.below {g n0 : Nat} {C : Array Value} {t : TypeId} {W w' : World} (h : Stored g C t W w') (hg : n0 ≤ g) (hn : n0 ≤ W.heap.size) : Below n0 W w' :=
  (Below.refl n0 W).grown h.gr hn (fun j e => by injection e with e; omega)
theorem Stored.at' {g j : Nat} {C : Array Value} {t : TypeId} {W w' : World} (h : Stored g C t W w') (hj : j < W.heap.size) (hne : j ≠ g) : w'.heap[j]? = W.heap[j]? := h.gr.block j hj (by intro e; injection e with e; omega)
theorem grown_any {W W1 : World} (k : Below W.heap.size W W1) (r : Option Nat) : W.grownBy W1 r := ⟨k.os, k.tape, k.output, k.size, fun i hi _ => k.block i hi⟩
theorem grown_set {W W1 : World} {g o : Nat} {v : Value} (h : W.grownBy W1 (some g)) : W.grownBy (W1.setCell ⟨g, o, none⟩ v) (some g) :=
  ⟨h.os, h.tape, h.output, by have := h.size; simpa [World.setCell] using this, fun i hi hne => (Below.heap_setCell W1 ⟨g, o, none⟩ v i (fun e => hne (by rw [e]))).trans (h.block i hi hne)⟩
theorem Stored.one {g o : Nat} {C : Array Value} {t : TypeId} {W W1 : World} (k : Below W.heap.size W W1) (row : W1.heap[g]? = some (.cells C t (0, 0))) (v : Value) : Stored g (C.setIfInBounds o v) t W (W1.setCell ⟨g, o, none⟩ v) :=
  ⟨grown_set (grown_any k _), blk_set row v⟩
theorem Stored.more {g o : Nat} {C : Array Value} {t : TypeId} {W W1 : World} (h : Stored g C t W W1) (v : Value) : Stored g (C.setIfInBounds o v) t W (W1.setCell ⟨g, o, none⟩ v) :=
  ⟨grown_set h.gr, blk_set h.row v⟩
theorem row_lt {W : World} {g : Nat} {C : Array Value} {t : TypeId} (h : W.heap[g]? = some (.cells C t (0, 0))) : g < W.heap.size := (Array.getElem?_eq_some_iff.1 h).1
theorem row_cell {W : World} {g o : Nat} {C : Array Value} {t : TypeId} (h : W.heap[g]? = some (.cells C t (0, 0))) (ho : o < C.size) : ∃ u, W.cell? ⟨g, o, none⟩ = some u := by
  refine ⟨C[o], ?_⟩
  simp [World.cell?, h, ho]
theorem row_frozen {W : World} {g o : Nat} {C : Array Value} {t : TypeId} (h : W.heap[g]? = some (.cells C t (0, 0))) : W.frozen? ⟨g, o, none⟩ = false := by simp [World.frozen?, h]

/-- What a call of a function value on a word returns. -/
def Reads (k : Nat) (lb : Array Value) (s : List UInt8) (r : Value) (W : World) : Prop :=
  (∀ args w, (callFunc k args).run Tryz.prog w = .ok (.enter k args) w) ∧ Calls Tryz.prog k (#[.string ⟨s.toArray⟩] ++ lb) W fun e w' => e = .returned r ∧ Below W.heap.size W w'

theorem val_int (k : Nat) (lb : Array Value) (s : List UInt8) (v : Int) (x : Int) (pb qb g o : Nat) (C : Array Value) (t : TypeId) (W : World)
    (b1 : Go.Boxed W pb 73 (.func (.func k) #[] lb)) (b2 : Go.Boxed W qb 72 (.pointer (some ⟨g, o, none⟩))) (row : W.heap[g]? = some (.cells C t (0, 0))) (ho : o + 0 < C.size)
    (hc : Reads k lb s (.tuple #[.int .i64 v, .int .i64 x]) W) :
    Calls Tryz.prog 88 #[.string ⟨s.toArray⟩, .pointer (some ⟨pb, 0, none⟩), .pointer (some ⟨qb, 0, none⟩)] W fun e w' => e = .returned (.int .i64 x) ∧ Stored g (C.setIfInBounds o (.int .i64 v)) t W w' := by
  obtain ⟨eg, hcall⟩ := hc
  have eg1 := eg (#[.string ⟨s.toArray⟩] ++ lb)
  have CL := Lib.hid hcall
  have B2 := Lib.hid b2
  have RW := Lib.hid row
  have HO := Lib.hid ho
  have c1 := b1.cell
  have q1 := b1.lt
  clear b1 b2 row hcall eg ho
  go_enter Tryz.func88, Tryz.ntmps88
  go_wp2
  refine CL.out.mono ?_
  rintro e w1 ⟨rfl, k1⟩
  clear c1 q1 eg1
  simp only []
  have K1 := Lib.hid k1
  have D2 := Lib.hid (Box.same B2.out (k1.block _ B2.out.lt))
  have R1 : Hid (w1.heap[g]? = some (.cells C t (0, 0))) := Lib.hid ((k1.block g (row_lt RW.out)).trans RW.out)
  have c2 := D2.out.cell
  have q2 := D2.out.lt
  have q3 := row_lt R1.out
  have f3 := row_frozen (o := o) R1.out
  obtain ⟨u, c3⟩ := row_cell (o := o) R1.out HO.out
  clear k1
  go_wp2
  go_ret
  exact ⟨rfl, Stored.one K1.out R1.out _⟩
theorem val_str (k : Nat) (lb : Array Value) (s : List UInt8) (V : List UInt8) (x : Int) (pb qb g o : Nat) (C : Array Value) (t : TypeId) (W : World)
    (b1 : Go.Boxed W pb 83 (.func (.func k) #[] lb)) (b2 : Go.Boxed W qb 70 (.pointer (some ⟨g, o, none⟩))) (row : W.heap[g]? = some (.cells C t (0, 0))) (ho : o + 0 < C.size)
    (hc : Reads k lb s (.tuple #[.string ⟨V.toArray⟩, .int .i64 x]) W) :
    Calls Tryz.prog 96 #[.string ⟨s.toArray⟩, .pointer (some ⟨pb, 0, none⟩), .pointer (some ⟨qb, 0, none⟩)] W fun e w' => e = .returned (.int .i64 x) ∧ Stored g (C.setIfInBounds o (.string ⟨V.toArray⟩)) t W w' := by
  obtain ⟨eg, hcall⟩ := hc
  have eg1 := eg (#[.string ⟨s.toArray⟩] ++ lb)
  have CL := Lib.hid hcall
  have B2 := Lib.hid b2
  have RW := Lib.hid row
  have HO := Lib.hid ho
  have c1 := b1.cell
  have q1 := b1.lt
  clear b1 b2 row hcall eg ho
  go_enter Tryz.func96, Tryz.ntmps96
  go_wp2
  refine CL.out.mono ?_
  rintro e w1 ⟨rfl, k1⟩
  clear c1 q1 eg1
  simp only []
  have K1 := Lib.hid k1
  have D2 := Lib.hid (Box.same B2.out (k1.block _ B2.out.lt))
  have R1 : Hid (w1.heap[g]? = some (.cells C t (0, 0))) := Lib.hid ((k1.block g (row_lt RW.out)).trans RW.out)
  have c2 := D2.out.cell
  have q2 := D2.out.lt
  have q3 := row_lt R1.out
  have f3 := row_frozen (o := o) R1.out
  obtain ⟨u, c3⟩ := row_cell (o := o) R1.out HO.out
  clear k1
  go_wp2
  go_ret
  exact ⟨rfl, Stored.one K1.out R1.out _⟩
theorem val_day (k : Nat) (lb : Array Value) (s : List UInt8) (a : Int) (b : Int) (c : Int) (x : Int) (pb qb g o : Nat) (C : Array Value) (t : TypeId) (W : World)
    (b1 : Go.Boxed W pb 78 (.func (.func k) #[] lb)) (b2 : Go.Boxed W qb 77 (.pointer (some ⟨g, o, none⟩))) (row : W.heap[g]? = some (.cells C t (0, 0))) (ho : o + 2 < C.size)
    (hc : Reads k lb s (.tuple #[.agg #[.int .i64 a, .int .i64 b, .int .i64 c], .int .i64 x]) W) :
    Calls Tryz.prog 91 #[.string ⟨s.toArray⟩, .pointer (some ⟨pb, 0, none⟩), .pointer (some ⟨qb, 0, none⟩)] W fun e w' => e = .returned (.int .i64 x) ∧ Stored g (((C.setIfInBounds o (.int .i64 a)).setIfInBounds (o + 1) (.int .i64 b)).setIfInBounds (o + 2) (.int .i64 c)) t W w' := by
  obtain ⟨eg, hcall⟩ := hc
  have eg1 := eg (#[.string ⟨s.toArray⟩] ++ lb)
  have CL := Lib.hid hcall
  have B2 := Lib.hid b2
  have RW := Lib.hid row
  have HO := Lib.hid ho
  have c1 := b1.cell
  have q1 := b1.lt
  clear b1 b2 row hcall eg ho
  go_enter Tryz.func91, Tryz.ntmps91
  go_wp2
  refine CL.out.mono ?_
  rintro e w1 ⟨rfl, k1⟩
  clear c1 q1 eg1
  simp only []
  obtain ⟨w2, hw2⟩ : ∃ w2, w1.alloc (.cells #[(.int .i64 a), (.int .i64 b), (.int .i64 c)] 30) = w2 := ⟨_, rfl⟩
  have N2 : Hid (w2.heap[w1.heap.size]? = some (.cells #[(.int .i64 a), (.int .i64 b), (.int .i64 c)] 30 (0, 0))) := Lib.hid (by rw [← hw2]; exact World.alloc_heap_new w1 _)
  have K1 : Hid (Below W.heap.size W w2) := Lib.hid (by rw [← hw2]; exact k1.alloc k1.size _)
  have D2 := Lib.hid (Box.same B2.out (K1.out.block _ B2.out.lt))
  have R1 : Hid (w2.heap[g]? = some (.cells C t (0, 0))) := Lib.hid ((K1.out.block g (row_lt RW.out)).trans RW.out)
  have hne : g ≠ w1.heap.size := by have := row_lt RW.out; have := k1.size; omega
  clear k1
  have c2 := D2.out.cell
  have q2 := D2.out.lt
  have q3 := row_lt R1.out
  have f30 := row_frozen (o := o) R1.out
  obtain ⟨u0, c30⟩ := row_cell (o := o) R1.out (by have := HO.out; omega)
  have f31 := row_frozen (o := o + 1) R1.out
  obtain ⟨u1, c31⟩ := row_cell (o := o + 1) R1.out (by have := HO.out; omega)
  have f32 := row_frozen (o := o + 2) R1.out
  obtain ⟨u2, c32⟩ := row_cell (o := o + 2) R1.out (by have := HO.out; omega)
  have c40 : w2.cell? ⟨w1.heap.size, 0, none⟩ = some ((.int .i64 a)) := cell_of_row w2 w1.heap.size 0 _ _ (0, 0) N2.out
  have c41 : w2.cell? ⟨w1.heap.size, 1, none⟩ = some ((.int .i64 b)) := cell_of_row w2 w1.heap.size 1 _ _ (0, 0) N2.out
  have c42 : w2.cell? ⟨w1.heap.size, 2, none⟩ = some ((.int .i64 c)) := cell_of_row w2 w1.heap.size 2 _ _ (0, 0) N2.out
  have q4 := row_lt N2.out
  go_wp2
  go_ret
  exact ⟨rfl, ((Stored.one K1.out R1.out _).more _).more _⟩
theorem val_clk (k : Nat) (lb : Array Value) (s : List UInt8) (a : Int) (b : Int) (x : Int) (pb qb g o : Nat) (C : Array Value) (t : TypeId) (W : World)
    (b1 : Go.Boxed W pb 81 (.func (.func k) #[] lb)) (b2 : Go.Boxed W qb 80 (.pointer (some ⟨g, o, none⟩))) (row : W.heap[g]? = some (.cells C t (0, 0))) (ho : o + 1 < C.size)
    (hc : Reads k lb s (.tuple #[.agg #[.int .i64 a, .int .i64 b], .int .i64 x]) W) :
    Calls Tryz.prog 93 #[.string ⟨s.toArray⟩, .pointer (some ⟨pb, 0, none⟩), .pointer (some ⟨qb, 0, none⟩)] W fun e w' => e = .returned (.int .i64 x) ∧ Stored g ((C.setIfInBounds o (.int .i64 a)).setIfInBounds (o + 1) (.int .i64 b)) t W w' := by
  obtain ⟨eg, hcall⟩ := hc
  have eg1 := eg (#[.string ⟨s.toArray⟩] ++ lb)
  have CL := Lib.hid hcall
  have B2 := Lib.hid b2
  have RW := Lib.hid row
  have HO := Lib.hid ho
  have c1 := b1.cell
  have q1 := b1.lt
  clear b1 b2 row hcall eg ho
  go_enter Tryz.func93, Tryz.ntmps93
  go_wp2
  refine CL.out.mono ?_
  rintro e w1 ⟨rfl, k1⟩
  clear c1 q1 eg1
  simp only []
  obtain ⟨w2, hw2⟩ : ∃ w2, w1.alloc (.cells #[(.int .i64 a), (.int .i64 b)] 32) = w2 := ⟨_, rfl⟩
  have N2 : Hid (w2.heap[w1.heap.size]? = some (.cells #[(.int .i64 a), (.int .i64 b)] 32 (0, 0))) := Lib.hid (by rw [← hw2]; exact World.alloc_heap_new w1 _)
  have K1 : Hid (Below W.heap.size W w2) := Lib.hid (by rw [← hw2]; exact k1.alloc k1.size _)
  have D2 := Lib.hid (Box.same B2.out (K1.out.block _ B2.out.lt))
  have R1 : Hid (w2.heap[g]? = some (.cells C t (0, 0))) := Lib.hid ((K1.out.block g (row_lt RW.out)).trans RW.out)
  have hne : g ≠ w1.heap.size := by have := row_lt RW.out; have := k1.size; omega
  clear k1
  have c2 := D2.out.cell
  have q2 := D2.out.lt
  have q3 := row_lt R1.out
  have f30 := row_frozen (o := o) R1.out
  obtain ⟨u0, c30⟩ := row_cell (o := o) R1.out (by have := HO.out; omega)
  have f31 := row_frozen (o := o + 1) R1.out
  obtain ⟨u1, c31⟩ := row_cell (o := o + 1) R1.out (by have := HO.out; omega)
  have c40 : w2.cell? ⟨w1.heap.size, 0, none⟩ = some ((.int .i64 a)) := cell_of_row w2 w1.heap.size 0 _ _ (0, 0) N2.out
  have c41 : w2.cell? ⟨w1.heap.size, 1, none⟩ = some ((.int .i64 b)) := cell_of_row w2 w1.heap.size 1 _ _ (0, 0) N2.out
  have q4 := row_lt N2.out
  go_wp2
  go_ret
  exact ⟨rfl, (Stored.one K1.out R1.out _).more _⟩

theorem chk_is (k : Nat) (lb : Array Value) (s : List UInt8) (x : Int) (pb qb g o : Nat) (C : Array Value) (t : TypeId) (W : World)
    (b1 : Go.Boxed W qb 25 (.func (.func k) #[] lb)) (b2 : Go.Boxed W pb 70 (.pointer (some ⟨g, o, none⟩))) (row : W.heap[g]? = some (.cells C t (0, 0))) (ho : o < C.size) (hne : qb ≠ g)
    (hc : ∀ W', Stored g (C.setIfInBounds o (.string ⟨s.toArray⟩)) t W W' → Reads k lb s (.int .i64 x) W') :
    Calls Tryz.prog 87 #[.string ⟨s.toArray⟩, .pointer (some ⟨pb, 0, none⟩), .pointer (some ⟨qb, 0, none⟩)] W fun e w' => e = .returned (.int .i64 x) ∧ Stored g (C.setIfInBounds o (.string ⟨s.toArray⟩)) t W w' := by
  obtain ⟨W1, hW1⟩ : ∃ W1, W.setCell ⟨g, o, none⟩ (.string ⟨s.toArray⟩) = W1 := ⟨_, rfl⟩
  have S1 : Hid (Stored g (C.setIfInBounds o (.string ⟨s.toArray⟩)) t W W1) := Lib.hid (by rw [← hW1]; exact Stored.one (Below.refl _ _) row _)
  obtain ⟨eg, hcall⟩ := hc W1 S1.out
  have eg1 := eg (#[.string ⟨s.toArray⟩] ++ lb)
  have CL := Lib.hid hcall
  have c1 := b2.cell
  have q1 := b2.lt
  have q3 := row_lt row
  have f3 := row_frozen (o := o) row
  obtain ⟨u, c3⟩ := row_cell (o := o) row ho
  have D2 := Box.same b1 (S1.out.at' b1.lt hne)
  have c2 := D2.cell
  have q2 := D2.lt
  clear b1 b2 row hcall eg hc D2
  go_enter Tryz.func87, Tryz.ntmps87
  go_wp2
  refine CL.out.mono ?_
  rintro e w1 ⟨rfl, k1⟩
  have S2 : Hid (Stored g (C.setIfInBounds o (.string ⟨s.toArray⟩)) t W w1) := Lib.hid ⟨S1.out.gr.trans (grown_any k1 _), (k1.block g (row_lt S1.out.row)).trans S1.out.row⟩
  clear c1 q1 eg1 c2 q2 q3 f3 c3 k1
  simp only []
  go_wp2
  go_ret
  exact ⟨rfl, S2.out⟩

theorem kindF_is (k : Nat) (s : List UInt8) (x : Int) (b : Nat) (w : World) (hs : s.length ≤ 1000) (hA : LaidL w) (b1 : Go.Boxed w b 3 (.int .i64 (k + 1 : Nat))) (HV : Hid (knE k s = x)) :
    Calls Tryz.prog 85 #[.string ⟨s.toArray⟩, .pointer (some ⟨b, 0, none⟩)] w fun e w' => e = .returned (.int .i64 x) ∧ Below w.heap.size w w' := by
  have hv := HV.out
  have HA := Lib.hid hA
  have B1 := Lib.hid b1
  unfold knE at hv
  clear HV hA b1
  cases ho : findL (low s) kindsL with
  | none =>
    rw [ho, if_neg (by simp)] at hv
    subst hv
    have H : Hid ((resN (findL (low s) kindsL) 1 : Int) = 0 ∧ (resE (findL (low s) kindsL) : Int) = 13) := Lib.hid (by rw [ho]; exact ⟨rfl, rfl⟩)
    clear ho
    go_enter Tryz.func85, Tryz.ntmps85
    go_wp2_with (go_at_call 86; refine (kind_is s 0 13 _ hs HA.out.ww H).mono ?_; rintro e w1 ⟨rfl, k1⟩; simp only [])
    go_ret
    exact ⟨rfl, k1⟩
  | some p =>
    have H : Hid ((resN (findL (low s) kindsL) 1 : Int) = ((p + 1 : Nat) : Int) ∧ (resE (findL (low s) kindsL) : Int) = 0) := Lib.hid (by rw [ho]; exact ⟨rfl, rfl⟩)
    rw [ho] at hv
    clear ho
    by_cases h : p = k
    · subst h
      rw [if_pos rfl] at hv
      subst hv
      go_enter Tryz.func85, Tryz.ntmps85
      go_wp2_with (go_at_call 86; refine (kind_is s ((p + 1 : Nat) : Int) 0 _ hs HA.out.ww H).mono ?_; rintro e w1 ⟨rfl, k1⟩
                   have D1 := Box.same B1.out (k1.block _ B1.out.lt)
                   have c1 := D1.cell
                   have q1 := D1.lt
                   clear D1
                   simp only [])
      go_ret
      exact ⟨rfl, k1⟩
    · rw [if_neg (by simpa using h)] at hv
      subst hv
      have h' : (((p + 1 : Nat) : Int) == ((k + 1 : Nat) : Int)) = false := by simp; omega
      clear h
      go_enter Tryz.func85, Tryz.ntmps85
      go_wp2_with (go_at_call 86; refine (kind_is s ((p + 1 : Nat) : Int) 0 _ hs HA.out.ww H).mono ?_; rintro e w1 ⟨rfl, k1⟩
                   have D1 := Box.same B1.out (k1.block _ B1.out.lt)
                   have c1 := D1.cell
                   have q1 := D1.lt
                   clear D1
                   simp only [])
      go_ret
      exact ⟨rfl, k1⟩
end Go.Proofs.YtfmehdophoejiaaGreatDoor
