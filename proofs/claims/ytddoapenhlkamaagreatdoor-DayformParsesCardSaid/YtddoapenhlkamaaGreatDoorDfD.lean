/- The contracts of dayform.read and Parse: which day of a month a text is, or what is wrong with it; nothing that was in memory changes. -/
import Derived.Test.YtddoapenhlkamaaGreatDoorDfC
import Derived.Test.YtddoapenhlkamaaGreatDoorTrp
namespace Go.Proofs.YtddoapenhlkamaaGreatDoor
open Go.RowKit

theorem ffrom_run (s : List UInt8) (i : Int) (n : Nat) (t : List UInt8) (hi : i = (n : Int)) (ht : s.drop n = t) (h2 : n ≤ s.length) (W : World) : (Instr.slice 9 (.string ⟨s.toArray⟩) (some (.int .i64 i)) none none).run Tryz.prog W = .ok (.string ⟨t.toArray⟩) W := by
  subst hi ht
  rw [run_slice_string_from_if (h := Tryz.underlying9), if_pos ⟨by omega, by rw [wsize]; omega⟩]
  congr 2
  simp [ByteArray.extract_mk, ByteArray.size]
  rw [List.take_of_length_le (by simp)]

/-- What read answers: the day as far as it was read, and the error. -/
def rdK (s : List UInt8) : Int := match sgnL s with | some (_, c) => if c = 62 then 2 else 3 | none => if bgL s then 1 else 0
def rdW (s : List UInt8) : Int := match sgnL s with | some (p, _) => wkV (s.take p) | none => if bgL s then wkV (s.drop 4) else 0
def rdN (s : List UInt8) : Int := match sgnL s with | some (p, _) => if wkE (s.take p) = 0 then dnV (s.drop (p + 2)) else 0 | none => if bgL s then 0 else dnV s
def rdE (s : List UInt8) : Int := match sgnL s with | some (p, _) => if wkE (s.take p) = 0 then dnE (s.drop (p + 2)) else wkE (s.take p) | none => if bgL s then wkE (s.drop 4) else dnE s

theorem wk_cases (s : List UInt8) : (∃ p : Nat, wkN s = some p ∧ wkV s = p ∧ wkE s = 0) ∨ (wkN s = none ∧ wkV s = 0 ∧ wkE s = 13) := by
  unfold wkV wkE
  cases wkN s with
  | none => exact .inr ⟨rfl, rfl, rfl⟩
  | some p => exact .inl ⟨p, rfl, rfl, rfl⟩
/-- The day that a text is, out of what read answers. -/
theorem pars_read (s : List UInt8) : parsF s = if rdE s = 0 then (rdK s, rdW s, rdN s, 0) else (0, 0, 0, rdE s) := by
  unfold parsF rdE rdK rdW rdN
  cases h : sgnL s with
  | some x =>
    obtain ⟨p, c⟩ := x
    simp only
    rcases wk_cases (s.take p) with ⟨q, h1, h2, h3⟩ | ⟨h1, h2, h3⟩
    · simp only [h1, h2, h3, if_true]
    · simp only [h1, h3]; rfl
  | none =>
    simp only
    by_cases hb : bgL s
    · rw [if_pos hb, if_pos hb, if_pos hb, if_pos hb, if_pos (show 4 ≤ s.length ∧ low (s.take 4) = lastW4 from hb)]
      rcases wk_cases (s.drop 4) with ⟨q, h1, h2, h3⟩ | ⟨h1, h2, h3⟩
      · simp only [h1, h2, h3, if_true]
      · simp only [h1, h3]; rfl
    · rw [if_neg hb, if_neg hb, if_neg hb, if_neg hb, if_neg (show ¬ (4 ≤ s.length ∧ low (s.take 4) = lastW4) from hb)]

/-- read, of a text with a sign. -/
theorem dread_sign (s : List UInt8) (p : Nat) (k v e1 m e2 : Int) (j : Nat) (w : World) (hs : s.length ≤ 1000) (hA : LaidF w) (hp : p + 2 ≤ s.length) (hF : Hid (sgP s = p ∧ sgK s = k)) (hj : k = 2 + (j : Int)) (hj2 : j < 2) (hW : Hid (wkV (s.take p) = v ∧ wkE (s.take p) = e1)) (hN : Hid (dnV (s.drop (p + 2)) = m ∧ dnE (s.drop (p + 2)) = e2)) (he : e1 = 0) :
    Calls Tryz.prog 18 #[.string ⟨s.toArray⟩] w fun e w' => e = .returned (.tuple #[.agg #[.int .i64 k, .int .i64 v, .int .i64 m], .int .i64 e2]) ∧ Below w.heap.size w w' := by
  have T0 := Lib.hid (Trp.new w 0 0 0 23)
  have HA := Lib.hid hA
  have HS := Lib.hid hs
  obtain ⟨t1, ht1⟩ : ∃ t1, s.take p = t1 := ⟨_, rfl⟩
  obtain ⟨t2, ht2⟩ : ∃ t2, s.drop (p + 2) = t2 := ⟨_, rfl⟩
  have sl1 := wsub_run s p t1 ht1 (by omega)
  have sl2 := ffrom_run s ((p : Int) + 2) (p + 2) t2 (by omega) ht2 (by omega)
  have hl1 : t1.length ≤ 1000 := by rw [← ht1, List.length_take]; omega
  have hl2 : t2.length ≤ 1000 := by rw [← ht2, List.length_drop]; omega
  have HL := Lib.hid (And.intro hl1 hl2)
  have hpb : (p : Int) ≤ 1000 := by omega
  rw [ht1] at hW
  rw [ht2] at hN
  have sg : 0 < w.heap.size := hA.sig.lt
  subst he
  clear hA hs ht1 ht2 hl1 hl2
  have hk : (k = 2 ∧ j = 0) ∨ (k = 3 ∧ j = 1) := by omega
  clear hj hj2
  have K0 : Hid (∀ W, LaidF W → (W.cell? ⟨0, 0, none⟩ = some (.string ⟨#[62, 61]⟩) ∧ W.cell? ⟨0, 1, none⟩ = some (.string ⟨#[60, 61]⟩))) := Lib.hid fun W h => ⟨h.sig.cell 0 _ rfl, h.sig.cell 1 _ rfl⟩
  rcases hk with ⟨rfl, rfl⟩ | ⟨rfl, rfl⟩
  all_goals
    have B : Hid (∀ x : Int, Trp w w.heap.size x 0 0 23 (w.alloc (.cells #[.int .i64 x, .int .i64 0, .int .i64 0] 23))) := Lib.hid fun x => Trp.new w x 0 0 _
    go_enter Tryz.func18, Tryz.ntmps18
    go_wp2_with (first
      | (go_at_call 32; refine (dfirst_is s p _ _ HS.out (HA.out.next T0.out.bel) hF).mono ?_; rintro e w1 ⟨rfl, rfl⟩)
      | (go_at_call 33; refine (fweek_is t1 v 0 _ HL.out.1 (HA.out.next (B.out _).bel) hW).mono ?_; rintro e w1 ⟨rfl, k1⟩
         have T1 := Lib.hid ((B.out _).next k1)
         clear k1 B
         have lt := T1.out.lt
         have c0 := T1.out.c0
         have c1 := T1.out.c1
         have c2 := T1.out.c2
         have f0 := T1.out.f0
         have f1 := T1.out.f1
         have f2 := T1.out.f2
         obtain ⟨cs0, cs1⟩ := K0.out _ (HA.out.next T1.out.bel))
      | (go_at_call 34; refine (dnumber_is t2 m e2 _ HL.out.2 (HA.out.next (T1.out.set1 v).bel) hN).mono ?_; rintro e w2 ⟨rfl, k2⟩
         have T2 := Lib.hid ((T1.out.set1 v).next k2)
         clear k2 T1 lt c0 c1 c2 f0 f1 f2 cs0 cs1
         have lt := T2.out.lt
         have c0 := T2.out.c0
         have c1 := T2.out.c1
         have c2 := T2.out.c2
         have f0 := T2.out.f0
         have f1 := T2.out.f1
         have f2 := T2.out.f2))
    refine ((T2.out.set2 m).store _ _ _).ret fun W' B2 => ?_
    clear lt c0 c1 c2 f0 f1 f2
    have c0 := B2.c0
    have c1 := B2.c1
    have c2 := B2.c2
    exact bodyPost_ret (v := .tuple #[.agg #[.int .i64 _, .int .i64 v, .int .i64 m], .int .i64 e2]) (by simp [results, Tryz.results18, go_sem, c0, c1, c2]) rfl ⟨rfl, B2.bel⟩

/-- .. whose word ahead of it is no day of the week. -/
theorem dread_sign_no (s : List UInt8) (p : Nat) (k v e1 : Int) (w : World) (hs : s.length ≤ 1000) (hA : LaidF w) (hp : p + 2 ≤ s.length) (hF : Hid (sgP s = p ∧ sgK s = k)) (hk : k = 2 ∨ k = 3) (hW : Hid (wkV (s.take p) = v ∧ wkE (s.take p) = e1)) (he : (e1 == 0) = false) :
    Calls Tryz.prog 18 #[.string ⟨s.toArray⟩] w fun e w' => e = .returned (.tuple #[.agg #[.int .i64 k, .int .i64 v, .int .i64 0], .int .i64 e1]) ∧ Below w.heap.size w w' := by
  have T0 := Lib.hid (Trp.new w 0 0 0 23)
  have HA := Lib.hid hA
  have HS := Lib.hid hs
  obtain ⟨t1, ht1⟩ : ∃ t1, s.take p = t1 := ⟨_, rfl⟩
  have sl1 := wsub_run s p t1 ht1 (by omega)
  have hl1 : t1.length ≤ 1000 := by rw [← ht1, List.length_take]; omega
  have HL := Lib.hid hl1
  have he2 : (e1 != 0) = true := by simpa using he
  rw [ht1] at hW
  clear hA hs ht1 hl1
  rcases hk with rfl | rfl
  all_goals
    have B : Hid (∀ x : Int, Trp w w.heap.size x 0 0 23 (w.alloc (.cells #[.int .i64 x, .int .i64 0, .int .i64 0] 23))) := Lib.hid fun x => Trp.new w x 0 0 _
    go_enter Tryz.func18, Tryz.ntmps18
    go_wp2_with (first
      | (go_at_call 32; refine (dfirst_is s p _ _ HS.out (HA.out.next T0.out.bel) hF).mono ?_; rintro e w1 ⟨rfl, rfl⟩)
      | (go_at_call 33; refine (fweek_is t1 v e1 _ HL.out (HA.out.next (B.out _).bel) hW).mono ?_; rintro e w1 ⟨rfl, k1⟩
         have T1 := Lib.hid ((B.out _).next k1)
         clear k1 B
         have lt := T1.out.lt
         have c0 := T1.out.c0
         have c1 := T1.out.c1
         have c2 := T1.out.c2
         have f0 := T1.out.f0
         have f1 := T1.out.f1
         have f2 := T1.out.f2))
    refine ((T1.out.set1 v).store _ _ _).ret fun W' B2 => ?_
    clear lt c0 c1 c2 f0 f1 f2
    have c0 := B2.c0
    have c1 := B2.c1
    have c2 := B2.c2
    exact bodyPost_ret (v := .tuple #[.agg #[.int .i64 _, .int .i64 v, .int .i64 0], .int .i64 e1]) (by simp [results, Tryz.results18, go_sem, c0, c1, c2]) rfl ⟨rfl, B2.bel⟩

/-- read, of a text without a sign that begins with the word for a last day. -/
theorem dread_last (s : List UInt8) (p : Nat) (v e1 : Int) (w : World) (hs : s.length ≤ 1000) (hA : LaidF w) (hF : Hid (sgP s = p ∧ sgK s = 0)) (hb : bgL s) (hW : Hid (wkV (s.drop 4) = v ∧ wkE (s.drop 4) = e1)) :
    Calls Tryz.prog 18 #[.string ⟨s.toArray⟩] w fun e w' => e = .returned (.tuple #[.agg #[.int .i64 1, .int .i64 v, .int .i64 0], .int .i64 e1]) ∧ Below w.heap.size w w' := by
  have T0 := Lib.hid (Trp.new w 0 0 0 23)
  have HA := Lib.hid hA
  have HS := Lib.hid hs
  obtain ⟨t1, ht1⟩ : ∃ t1, s.drop 4 = t1 := ⟨_, rfl⟩
  have sl1 := ffrom_run s 4 4 t1 rfl ht1 hb.1
  have hl1 : t1.length ≤ 1000 := by rw [← ht1, List.length_drop]; omega
  have HL := Lib.hid hl1
  have HB : Hid (decide (bgL s) = true) := Lib.hid (decide_eq_true hb)
  rw [ht1] at hW
  clear hA hs ht1 hl1 hb
  have B : Hid (∀ x : Int, Trp w w.heap.size x 0 0 23 (w.alloc (.cells #[.int .i64 x, .int .i64 0, .int .i64 0] 23))) := Lib.hid fun x => Trp.new w x 0 0 _
  go_enter Tryz.func18, Tryz.ntmps18
  go_wp2_with (first
      | (go_at_call 32; refine (dfirst_is s p _ _ HS.out (HA.out.next T0.out.bel) hF).mono ?_; rintro e w1 ⟨rfl, rfl⟩)
      | (go_at_call 35; refine (dbegins_is s true _ HS.out (HA.out.next T0.out.bel) HB).mono ?_; rintro e w0 ⟨rfl, k0⟩
         have TB := Lib.hid (T0.out.next k0)
         clear k0 B T0
         have lt := TB.out.lt
         have c0 := TB.out.c0
         have c1 := TB.out.c1
         have c2 := TB.out.c2
         have f0 := TB.out.f0
         have f1 := TB.out.f1
         have f2 := TB.out.f2)
      | (go_at_call 33; refine (fweek_is t1 v e1 _ HL.out (HA.out.next (TB.out.set0 _).bel) hW).mono ?_; rintro e w1 ⟨rfl, k1⟩
         have T1 := Lib.hid ((TB.out.set0 _).next k1)
         clear k1 TB lt c0 c1 c2 f0 f1 f2
         have lt := T1.out.lt
         have c0 := T1.out.c0
         have c1 := T1.out.c1
         have c2 := T1.out.c2
         have f0 := T1.out.f0
         have f1 := T1.out.f1
         have f2 := T1.out.f2))
  refine ((T1.out.set1 v).store _ _ _).ret fun W' B2 => ?_
  clear lt c0 c1 c2 f0 f1 f2
  have c0 := B2.c0
  have c1 := B2.c1
  have c2 := B2.c2
  exact bodyPost_ret (v := .tuple #[.agg #[.int .i64 1, .int .i64 v, .int .i64 0], .int .i64 e1]) (by simp [results, Tryz.results18, go_sem, c0, c1, c2]) rfl ⟨rfl, B2.bel⟩

/-- read, of a text that has neither. -/
theorem dread_number (s : List UInt8) (p : Nat) (m e1 : Int) (w : World) (hs : s.length ≤ 1000) (hA : LaidF w) (hF : Hid (sgP s = p ∧ sgK s = 0)) (hb : ¬ bgL s) (hN : Hid (dnV s = m ∧ dnE s = e1)) :
    Calls Tryz.prog 18 #[.string ⟨s.toArray⟩] w fun e w' => e = .returned (.tuple #[.agg #[.int .i64 0, .int .i64 0, .int .i64 m], .int .i64 e1]) ∧ Below w.heap.size w w' := by
  have T0 := Lib.hid (Trp.new w 0 0 0 23)
  have HA := Lib.hid hA
  have HS := Lib.hid hs
  have HB : Hid (decide (bgL s) = false) := Lib.hid (decide_eq_false hb)
  clear hA hs hb
  go_enter Tryz.func18, Tryz.ntmps18
  go_wp2_with (first
      | (go_at_call 32; refine (dfirst_is s p _ _ HS.out (HA.out.next T0.out.bel) hF).mono ?_; rintro e w1 ⟨rfl, rfl⟩)
      | (go_at_call 35; refine (dbegins_is s false _ HS.out (HA.out.next T0.out.bel) HB).mono ?_; rintro e w0 ⟨rfl, k0⟩
         have TB := Lib.hid (T0.out.next k0)
         clear k0 T0
         have lt := TB.out.lt
         have c0 := TB.out.c0
         have c1 := TB.out.c1
         have c2 := TB.out.c2
         have f0 := TB.out.f0
         have f1 := TB.out.f1
         have f2 := TB.out.f2)
      | (go_at_call 34; refine (dnumber_is s m e1 _ HS.out (HA.out.next TB.out.bel) hN).mono ?_; rintro e w1 ⟨rfl, k1⟩
         have T1 := Lib.hid (TB.out.next k1)
         clear k1 TB lt c0 c1 c2 f0 f1 f2
         have lt := T1.out.lt
         have c0 := T1.out.c0
         have c1 := T1.out.c1
         have c2 := T1.out.c2
         have f0 := T1.out.f0
         have f1 := T1.out.f1
         have f2 := T1.out.f2))
  refine ((T1.out.set2 m).store _ _ _).ret fun W' B2 => ?_
  clear lt c0 c1 c2 f0 f1 f2
  have c0 := B2.c0
  have c1 := B2.c1
  have c2 := B2.c2
  exact bodyPost_ret (v := .tuple #[.agg #[.int .i64 0, .int .i64 0, .int .i64 m], .int .i64 e1]) (by simp [results, Tryz.results18, go_sem, c0, c1, c2]) rfl ⟨rfl, B2.bel⟩

/-- read, of every text. -/
theorem dread_is (s : List UInt8) (w : World) (hs : s.length ≤ 1000) (hA : LaidF w) :
    Calls Tryz.prog 18 #[.string ⟨s.toArray⟩] w fun e w' => e = .returned (.tuple #[.agg #[.int .i64 (rdK s), .int .i64 (rdW s), .int .i64 (rdN s)], .int .i64 (rdE s)]) ∧ Below w.heap.size w w' := by
  cases h : sgnL s with
  | some x =>
    obtain ⟨p, c⟩ := x
    have hl := sgn_lt h
    have hF : Hid (sgP s = p ∧ sgK s = if c = 62 then 2 else 3) := Lib.hid (by unfold sgP sgK; rw [h]; exact ⟨rfl, rfl⟩)
    have e1 : rdK s = if c = 62 then 2 else 3 := by unfold rdK; rw [h]
    have e2 : rdW s = wkV (s.take p) := by unfold rdW; rw [h]
    have e3 : rdN s = if wkE (s.take p) = 0 then dnV (s.drop (p + 2)) else 0 := by unfold rdN; rw [h]
    have e4 : rdE s = if wkE (s.take p) = 0 then dnE (s.drop (p + 2)) else wkE (s.take p) := by unfold rdE; rw [h]
    have hc : (if c = 62 then (2 : Int) else 3) = 2 ∨ (if c = 62 then (2 : Int) else 3) = 3 := by split <;> simp
    rw [e1, e2, e3, e4]
    by_cases hw : wkE (s.take p) = 0
    · rw [if_pos hw, if_pos hw]
      rcases hc with hc | hc
      · exact dread_sign s p _ _ _ _ _ 0 w hs hA hl hF (by rw [hc]; rfl) (by omega) (Lib.hid ⟨rfl, rfl⟩) (Lib.hid ⟨rfl, rfl⟩) hw
      · exact dread_sign s p _ _ _ _ _ 1 w hs hA hl hF (by rw [hc]; rfl) (by omega) (Lib.hid ⟨rfl, rfl⟩) (Lib.hid ⟨rfl, rfl⟩) hw
    · rw [if_neg hw, if_neg hw]
      exact dread_sign_no s p _ _ _ w hs hA hl hF hc (Lib.hid ⟨rfl, rfl⟩) (by simpa using hw)
  | none =>
    have hF : Hid (sgP s = s.length ∧ sgK s = 0) := Lib.hid (by unfold sgP sgK; rw [h]; exact ⟨rfl, rfl⟩)
    by_cases hb : bgL s
    · have e1 : rdK s = 1 := by unfold rdK; rw [h]; exact if_pos hb
      have e2 : rdW s = wkV (s.drop 4) := by unfold rdW; rw [h]; exact if_pos hb
      have e3 : rdN s = 0 := by unfold rdN; rw [h]; exact if_pos hb
      have e4 : rdE s = wkE (s.drop 4) := by unfold rdE; rw [h]; exact if_pos hb
      rw [e1, e2, e3, e4]
      exact dread_last s _ _ _ w hs hA hF hb (Lib.hid ⟨rfl, rfl⟩)
    · have e1 : rdK s = 0 := by unfold rdK; rw [h]; exact if_neg hb
      have e2 : rdW s = 0 := by unfold rdW; rw [h]; exact if_neg hb
      have e3 : rdN s = dnV s := by unfold rdN; rw [h]; exact if_neg hb
      have e4 : rdE s = dnE s := by unfold rdE; rw [h]; exact if_neg hb
      rw [e1, e2, e3, e4]
      exact dread_number s _ _ _ w hs hA hF hb (Lib.hid ⟨rfl, rfl⟩)

set_option maxHeartbeats 800000 in
theorem dparse_at (s : List UInt8) (k v m e0 k' v' m' : Int) (w : World) (hs : s.length ≤ 1000) (hA : LaidF w) (HR : Hid (rdK s = k ∧ rdW s = v ∧ rdN s = m ∧ rdE s = e0)) (HV : Hid (e0 = 0 ∧ k' = k ∧ v' = v ∧ m' = m) ∨ ((e0 == 0) = false ∧ Hid (k' = 0 ∧ v' = 0 ∧ m' = 0))) :
    Calls Tryz.prog 10 #[.string ⟨s.toArray⟩] w fun e w' => e = .returned (.tuple #[.agg #[.int .i64 k', .int .i64 v', .int .i64 m'], .int .i64 e0]) ∧ Below w.heap.size w w' := by
  have T0 := Lib.hid (Trp.new w 0 0 0 23)
  have RD : Hid (∀ W, LaidF W → Calls Tryz.prog 18 #[.string ⟨s.toArray⟩] W fun e w' => e = .returned (.tuple #[.agg #[.int .i64 k, .int .i64 v, .int .i64 m], .int .i64 e0]) ∧ Below W.heap.size W w') := Lib.hid fun W h => by
    have := dread_is s W hs h
    rwa [HR.out.1, HR.out.2.1, HR.out.2.2.1, HR.out.2.2.2] at this
  have HA := Lib.hid hA
  clear hs hA HR
  rcases HV with H | ⟨h0, H⟩
  · obtain ⟨rfl, rfl, rfl, rfl⟩ := H.out
    clear H
    go_enter Tryz.func10, Tryz.ntmps10
    go_wp2_with (first
      | (go_at_call 18; refine (RD.out _ (HA.out.next T0.out.bel)).mono ?_; rintro e w1 ⟨rfl, k1⟩
         have T1 := Lib.hid (T0.out.next k1)
         clear k1 T0
         have lt := T1.out.lt
         have c0 := T1.out.c0
         have c1 := T1.out.c1
         have c2 := T1.out.c2
         have f0 := T1.out.f0
         have f1 := T1.out.f1
         have f2 := T1.out.f2))
    refine ((T1.out.store _ _ _).more _).ret fun W' B2 => ?_
    clear lt c0 c1 c2 f0 f1 f2
    have c0 := B2.c0
    have c1 := B2.c1
    have c2 := B2.c2
    exact bodyPost_ret (v := .tuple #[.agg #[.int .i64 k', .int .i64 v', .int .i64 m'], .int .i64 0]) (by simp [results, Tryz.results10, go_sem, c0, c1, c2]) rfl ⟨rfl, B2.bel⟩
  · obtain ⟨rfl, rfl, rfl⟩ := H.out
    have h1 : (e0 != 0) = true := by simpa using h0
    clear H
    go_enter Tryz.func10, Tryz.ntmps10
    go_wp2_with (first
      | (go_at_call 18; refine (RD.out _ (HA.out.next T0.out.bel)).mono ?_; rintro e w1 ⟨rfl, k1⟩
         have T1 := Lib.hid (T0.out.next k1)
         clear k1 T0
         have lt := T1.out.lt
         have c0 := T1.out.c0
         have c1 := T1.out.c1
         have c2 := T1.out.c2
         have f0 := T1.out.f0
         have f1 := T1.out.f1
         have f2 := T1.out.f2))
    refine ((T1.out.store _ _ _).more _).ret fun W' B2 => ?_
    clear lt c0 c1 c2 f0 f1 f2
    have c0 := B2.c0
    have c1 := B2.c1
    have c2 := B2.c2
    exact bodyPost_ret (v := .tuple #[.agg #[.int .i64 0, .int .i64 0, .int .i64 0], .int .i64 e0]) (by simp [results, Tryz.results10, go_sem, c0, c1, c2]) rfl ⟨rfl, B2.bel⟩
/-- Parse, of every text. -/
theorem dparse_is (s : List UInt8) (k v m e0 : Int) (w : World) (hs : s.length ≤ 1000) (hA : LaidF w) (HV : Hid (parsF s = (k, v, m, e0))) :
    Calls Tryz.prog 10 #[.string ⟨s.toArray⟩] w fun e w' => e = .returned (.tuple #[.agg #[.int .i64 k, .int .i64 v, .int .i64 m], .int .i64 e0]) ∧ Below w.heap.size w w' := by
  have hv := HV.out
  rw [pars_read] at hv
  by_cases h : rdE s = 0
  · rw [if_pos h] at hv
    simp only [Prod.mk.injEq] at hv
    obtain ⟨h1, h2, h3, h4⟩ := hv
    exact dparse_at s k v m e0 k v m w hs hA (Lib.hid ⟨h1, h2, h3, h.trans h4⟩) (.inl (Lib.hid ⟨h4.symm, rfl, rfl, rfl⟩))
  · rw [if_neg h] at hv
    simp only [Prod.mk.injEq] at hv
    obtain ⟨h1, h2, h3, h4⟩ := hv
    exact dparse_at s _ _ _ e0 k v m w hs hA (Lib.hid ⟨rfl, rfl, rfl, h4⟩) (.inr ⟨by rw [← h4]; simpa using h, Lib.hid ⟨h1.symm, h2.symm, h3.symm⟩⟩)
end Go.Proofs.YtddoapenhlkamaaGreatDoor
