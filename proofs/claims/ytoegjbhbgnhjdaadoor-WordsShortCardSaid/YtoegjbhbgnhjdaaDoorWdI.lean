/- The contracts of the reference's Number at every text, of words.Year, and of the law's examples; nothing that was in memory changes. The tables read as they are laid. -/
import Derived.Test.YtoegjbhbgnhjdaaDoorWdG
import Derived.Test.YtoegjbhbgnhjdaaDoorWdH
namespace Go.Proofs.YtoegjbhbgnhjdaaDoor
open Go.RowKit

theorem numR_neg (t : List UInt8) : numR (45 :: t) = if okDig t = true ∧ t ≠ [48] then some (-(valD 0 t : Int)) else none := by
  unfold numR; rw [if_pos (show (45 :: t).head? = some 45 from rfl)]; rfl
theorem numR_pos {s : List UInt8} (h : s.head? ≠ some 45) : numR s = if okDig s = true then some (valD 0 s : Int) else none := by
  unfold numR; rw [if_neg h]
theorem ok_short {t : List UInt8} (h : t.length = 1) : okDig t = allDg t := by
  unfold okDig
  rw [h]
  simp
theorem ok_long {t : List UInt8} (h : 1 < t.length) (h9 : t.length ≤ 9) (h48 : t.head? ≠ some 48) : okDig t = allDg t := by
  unfold okDig
  simp [h48, h9, show 1 ≤ t.length by omega]
theorem ok_lead {t : List UInt8} (h : 1 < t.length) (h48 : t.head? = some 48) : okDig t = false := by
  unfold okDig
  simp [h48, h]
theorem ok_none {t : List UInt8} (h : t.length < 1 ∨ 9 < t.length) : okDig t = false := by
  unfold okDig
  rcases h with h | h
  · simp [show ¬ 1 ≤ t.length by omega]
  · simp [show ¬ t.length ≤ 9 by omega]
theorem numP_nil : numZ [] = 0 ∧ numB [] = false := by decide
theorem num_none {s : List UInt8} (h : numR s = none) : numZ s = 0 ∧ numB s = false := by unfold numZ numB; rw [h]; exact ⟨rfl, rfl⟩
theorem num_some {s : List UInt8} {v : Int} (h : numR s = some v) : numZ s = v ∧ numB s = true := by unfold numZ numB; rw [h]; exact ⟨rfl, rfl⟩

set_option maxHeartbeats 1600000 in
theorem rnum_neg (t : List UInt8) (v : Int) (z : Bool) (w : World) (hs : t.length ≤ 1000) (HV : Hid (numZ (45 :: t) = v ∧ numB (45 :: t) = z)) :
    Calls Tryd.prog 19 #[.string ⟨(45 :: t).toArray⟩] w fun e w' => e = .returned (.tuple #[.int .i64 v, .bool z]) ∧ w = w' := by
  have BAD : Hid (okDig t = false → v = 0 ∧ z = false) := Lib.hid fun h => by
    have := num_none (s := 45 :: t) (by rw [numR_neg, if_neg (by simp [h])])
    rw [this.1, this.2] at HV
    exact ⟨HV.out.1.symm, HV.out.2.symm⟩
  have GOOD : Hid (okDig t = true → t ≠ [48] → v = -(valD 0 t : Int) ∧ z = true) := Lib.hid fun h h2 => by
    have := num_some (s := 45 :: t) (by rw [numR_neg, if_pos ⟨h, h2⟩])
    rw [this.1, this.2] at HV
    exact ⟨HV.out.1.symm, HV.out.2.symm⟩
  have hz := wsize t
  have hzs := wsize (45 :: t)
  have h45 : ∀ W : World, (Instr.index 9 (.string ⟨(45 :: t).toArray⟩) (.int .i64 0)).run Tryd.prog W = .ok (.int .u8 45) W := wbyte_at (45 :: t) 0 (by simp) 45 rfl
  have htl : ∀ W : World, (Instr.slice 9 (.string ⟨(45 :: t).toArray⟩) (some (.int .i64 1)) none none).run Tryd.prog W = .ok (.string ⟨t.toArray⟩) W := wtail_run 45 t
  obtain ⟨sl, hsl⟩ : ∃ sl : Nat, (45 :: t).length = sl := ⟨_, rfl⟩
  have hs0 : 0 < sl := by rw [← hsl]; simp
  by_cases h0 : t.length < 1
  · have E := Lib.hid (BAD.out (ok_none (.inl h0)))
    rw [hsl] at hzs
    clear hsl HV
    generalize (45 :: t) = S at hzs h45 htl
    go_enter Tryd.func19, Tryd.ntmps19
    go_wp2
    go_ret2
    rw [E.out.1, E.out.2]
    exact ⟨rfl, rfl⟩
  · by_cases h9 : 9 < t.length
    · have E := Lib.hid (BAD.out (ok_none (.inr h9)))
      rw [hsl] at hzs
      clear hsl HV
      generalize (45 :: t) = S at hzs h45 htl
      go_enter Tryd.func19, Tryd.ntmps19
      go_wp2
      go_ret2
      rw [E.out.1, E.out.2]
      exact ⟨rfl, rfl⟩
    · obtain ⟨a, ha⟩ : ∃ a, t.getD 0 0 = a := ⟨_, rfl⟩
      have hh : t.head? = some a := by
        cases t with
        | nil => simp at h0
        | cons x r => simpa using ha
      by_cases h1 : 1 < t.length
      · by_cases h48 : a = 48
        · have E := Lib.hid (BAD.out (ok_lead h1 (by rw [hh, h48])))
          have h480 : ∀ W : World, (Instr.index 9 (.string ⟨t.toArray⟩) (.int .i64 0)).run Tryd.prog W = .ok (.int .u8 48) W := wbyte_at t 0 (by omega) 48 (by rw [ha, h48])
          rw [hsl] at hzs
          clear hsl HV hh ha h48
          generalize (45 :: t) = S at hzs h45 htl
          go_enter Tryd.func19, Tryd.ntmps19
          go_wp2
          go_ret2
          rw [E.out.1, E.out.2]
          exact ⟨rfl, rfl⟩
        · have ok := ok_long h1 (by omega) (by rw [hh]; simpa using h48)
          have hne : t ≠ [48] := fun e => by rw [e] at h1; simp at h1
          exact rnum_mn t v z w hne (by omega) h1 a ha (fun e => h48 (UInt8.toNat_inj.1 e)) (Lib.hid fun h => BAD.out (ok ▸ h)) (Lib.hid fun h => GOOD.out (ok ▸ h) hne)
      · have h1' : t.length = 1 := by omega
        have ok := ok_short h1'
        by_cases h48 : t = [48]
        · have E : Hid (v = 0 ∧ z = false) := Lib.hid (by
            rw [h48] at HV
            have := HV.out
            rw [show numZ [45, 48] = 0 by decide, show numB [45, 48] = false by decide] at this
            exact ⟨this.1.symm, this.2.symm⟩)
          rw [hsl] at hzs
          clear hsl HV hh ha ok h1' BAD GOOD
          subst h48
          generalize [45, 48] = S at hzs h45 htl
          go_enter Tryd.func19, Tryd.ntmps19
          go_wp2
          go_ret2
          rw [E.out.1, E.out.2]
          exact ⟨rfl, rfl⟩
        · exact rnum_m1 t v z w h48 (by omega) h1' (Lib.hid fun h => BAD.out (ok ▸ h)) (Lib.hid fun h => GOOD.out (ok ▸ h) h48)

set_option maxHeartbeats 1600000 in
theorem rnum_pos (t : List UInt8) (v : Int) (z : Bool) (w : World) (hs : t.length ≤ 1000) (h45 : t.head? ≠ some 45) (HV : Hid (numZ t = v ∧ numB t = z)) :
    Calls Tryd.prog 19 #[.string ⟨t.toArray⟩] w fun e w' => e = .returned (.tuple #[.int .i64 v, .bool z]) ∧ w = w' := by
  have BAD : Hid (okDig t = false → v = 0 ∧ z = false) := Lib.hid fun h => by
    have := num_none (s := t) (by rw [numR_pos h45, if_neg (by simp [h])])
    rw [this.1, this.2] at HV
    exact ⟨HV.out.1.symm, HV.out.2.symm⟩
  have GOOD : Hid (okDig t = true → v = (valD 0 t : Int) ∧ z = true) := Lib.hid fun h => by
    have := num_some (s := t) (by rw [numR_pos h45, if_pos h])
    rw [this.1, this.2] at HV
    exact ⟨HV.out.1.symm, HV.out.2.symm⟩
  have hz := wsize t
  by_cases h0 : t.length < 1
  · have E := Lib.hid (BAD.out (ok_none (.inl h0)))
    clear HV h45
    go_enter Tryd.func19, Tryd.ntmps19
    go_wp2
    go_ret2
    rw [E.out.1, E.out.2]
    exact ⟨rfl, rfl⟩
  · obtain ⟨a, ha⟩ : ∃ a, t.getD 0 0 = a := ⟨_, rfl⟩
    have hh : t.head? = some a := by
      cases t with
      | nil => simp at h0
      | cons x r => simpa using ha
    have a45 : a ≠ 45 := fun e => h45 (by rw [hh, e])
    have a45n : a.toNat ≠ 45 := fun e => a45 (UInt8.toNat_inj.1 e)
    by_cases h9 : 9 < t.length
    · have E := Lib.hid (BAD.out (ok_none (.inr h9)))
      have hi0 : ∀ W : World, (Instr.index 9 (.string ⟨t.toArray⟩) (.int .i64 0)).run Tryd.prog W = .ok (.int .u8 (a.toNat : Int)) W := wbyte_at t 0 (by omega) a ha
      have hb' : ((a.toNat : Int) == 45) = false := by simp; omega
      clear HV hh ha a45 a45n h45
      go_enter Tryd.func19, Tryd.ntmps19
      go_wp2
      go_ret2
      rw [E.out.1, E.out.2]
      exact ⟨rfl, rfl⟩
    · by_cases h1 : 1 < t.length
      · by_cases h48 : a = 48
        · have E := Lib.hid (BAD.out (ok_lead h1 (by rw [hh, h48])))
          have h480 : ∀ W : World, (Instr.index 9 (.string ⟨t.toArray⟩) (.int .i64 0)).run Tryd.prog W = .ok (.int .u8 48) W := wbyte_at t 0 (by omega) 48 (by rw [ha, h48])
          clear HV hh ha h48 a45 a45n h45
          go_enter Tryd.func19, Tryd.ntmps19
          go_wp2
          go_ret2
          rw [E.out.1, E.out.2]
          exact ⟨rfl, rfl⟩
        · have ok := ok_long h1 (by omega) (by rw [hh]; simpa using h48)
          exact rnum_pn t v z w a ha a45n (by omega) h1 a ha (fun e => h48 (UInt8.toNat_inj.1 e)) (Lib.hid fun h => BAD.out (ok ▸ h)) (Lib.hid fun h => GOOD.out (ok ▸ h))
      · have h1' : t.length = 1 := by omega
        have ok := ok_short h1'
        exact rnum_p1 t v z w a ha a45n (by omega) h1' (Lib.hid fun h => BAD.out (ok ▸ h)) (Lib.hid fun h => GOOD.out (ok ▸ h))

theorem rnum_is (s : List UInt8) (v : Int) (z : Bool) (w : World) (hs : s.length ≤ 1000) (HV : Hid (numZ s = v ∧ numB s = z)) :
    Calls Tryd.prog 19 #[.string ⟨s.toArray⟩] w fun e w' => e = .returned (.tuple #[.int .i64 v, .bool z]) ∧ w = w' := by
  by_cases h : s.head? = some 45
  · cases s with
    | nil => simp at h
    | cons b t =>
      obtain rfl : b = 45 := by simpa using h
      exact rnum_neg t v z w (by simp at hs; omega) HV
  · exact rnum_pos s v z w hs h HV

/-- The year that a word is. -/
def yearV (s : List UInt8) (f : Int) : Int := match findL (low s) endsL with
  | some 0 => f
  | some _ => 1048576
  | none => if numB s = true ∧ 1 ≤ numZ s ∧ numZ s ≤ 4000 then numZ s else 0
def yearE (s : List UInt8) : Int := match findL (low s) endsL with
  | some _ => 0
  | none => if numB s = true then (if 1 ≤ numZ s ∧ numZ s ≤ 4000 then 0 else 10) else 12

theorem ends_ix0 (f : Int) (W : World) : (Instr.index 47 (.agg #[.int .i64 f, .int .i64 1048576]) (.int .i64 0)).run Tryd.prog W = .ok (.int .i64 f) W := by
  kernel_rfl
theorem ends_ix1 (f : Int) (W : World) : (Instr.index 47 (.agg #[.int .i64 f, .int .i64 1048576]) (.int .i64 1)).run Tryd.prog W = .ok (.int .i64 1048576) W := by
  kernel_rfl

set_option maxHeartbeats 1600000 in
theorem year_is (s : List UInt8) (f v e0 : Int) (w : World) (hs : s.length ≤ 1000) (hA : LaidW w) (HV : Hid (yearV s f = v ∧ yearE s = e0)) :
    Calls Tryd.prog 18 #[.string ⟨s.toArray⟩, .int .i64 f] w fun e w' => e = .returned (.tuple #[.int .i64 v, .int .i64 e0]) ∧ Below w.heap.size w w' := by
  have c0 := hA.end'.cell 0 _ rfl
  have c1 := hA.end'.cell 1 _ rfl
  obtain ⟨W0, hW0⟩ : ∃ W0, w.alloc (.cells #[.string ⟨#[111, 110, 108, 121]⟩, .string ⟨#[109, 97, 120, 105, 109, 117, 109]⟩] 46) = W0 := ⟨_, rfl⟩
  have B0 : Below w.heap.size w W0 := by rw [← hW0]; exact (Below.refl _ _).alloc (Nat.le_refl _) _
  have L0 : ListAt w.heap.size endsL W0 := by rw [← hW0]; exact ListAt.new w endsL _ _ rfl
  have A0 := hA.next B0
  have HS := Lib.hid hs
  cases ho : findL (low s) endsL with
  | some p =>
    have hp : p < 2 := findL_lt ho
    have F : Hid ((resN (findL (low s) endsL) 0 : Int) = p ∧ (resE (findL (low s) endsL) : Int) = 0) := Lib.hid (by rw [ho]; exact ⟨rfl, rfl⟩)
    have FI := Lib.hid (find_is s endsL w.heap.size 2 p 0 W0 hs rfl (by omega) ends_ne ends_as L0 A0.u8 F)
    obtain rfl | rfl : p = 0 ∨ p = 1 := by omega
    · have E : Hid (v = f ∧ e0 = 0) := Lib.hid (by
        have := HV.out
        unfold yearV yearE at this
        rw [ho] at this
        exact ⟨this.1.symm, this.2.symm⟩)
      have hix := ends_ix0 f
      clear ho L0 A0 HV hA F
      go_enter Tryd.func18, Tryd.ntmps18
      go_wp2_with (go_at_call 23; (try rw [hW0]); refine FI.out.mono ?_; rintro e w1 ⟨rfl, k1⟩)
      go_ret2
      rw [E.out.1, E.out.2]
      exact ⟨rfl, B0.trans (k1.mono B0.size)⟩
    · have E : Hid (v = 1048576 ∧ e0 = 0) := Lib.hid (by
        have := HV.out
        unfold yearV yearE at this
        rw [ho] at this
        exact ⟨this.1.symm, this.2.symm⟩)
      have hix := ends_ix1 f
      clear ho L0 A0 HV hA F
      go_enter Tryd.func18, Tryd.ntmps18
      go_wp2_with (go_at_call 23; (try rw [hW0]); refine FI.out.mono ?_; rintro e w1 ⟨rfl, k1⟩)
      go_ret2
      rw [E.out.1, E.out.2]
      exact ⟨rfl, B0.trans (k1.mono B0.size)⟩
  | none =>
    have F : Hid ((resN (findL (low s) endsL) 0 : Int) = 0 ∧ (resE (findL (low s) endsL) : Int) = 13) := Lib.hid (by rw [ho]; exact ⟨rfl, rfl⟩)
    have FI := Lib.hid (find_is s endsL w.heap.size 2 0 13 W0 hs rfl (by omega) ends_ne ends_as L0 A0.u8 F)
    have HA0 := Lib.hid A0
    obtain ⟨n, hn⟩ : ∃ n, numZ s = n := ⟨_, rfl⟩
    obtain ⟨z, hz⟩ : ∃ z, numB s = z := ⟨_, rfl⟩
    have NV : Hid (numZ s = n ∧ numB s = z) := Lib.hid ⟨hn, hz⟩
    have VV : Hid (v = (if z = true ∧ 1 ≤ n ∧ n ≤ 4000 then n else 0) ∧ e0 = (if z = true then (if 1 ≤ n ∧ n ≤ 4000 then 0 else 10) else 12)) := Lib.hid (by
      have := HV.out
      unfold yearV yearE at this
      rw [ho, hn, hz] at this
      exact ⟨this.1.symm, this.2.symm⟩)
    clear ho L0 A0 HV hA F hn hz hs
    cases z with
    | false =>
      have E : Hid (v = 0 ∧ e0 = 12) := Lib.hid VV.out
      go_enter Tryd.func18, Tryd.ntmps18
      go_wp2_with (first
        | (go_at_call 23; (try rw [hW0]); refine FI.out.mono ?_; rintro e w1 ⟨rfl, k1⟩
           have HA1 := Lib.hid (HA0.out.next k1)
           have K1 := Lib.hid (B0.trans (k1.mono B0.size))
           clear k1)
        | (go_at_call 25; refine (number_is s n false _ HS.out HA1.out NV).mono ?_; rintro e w2 ⟨rfl, k2⟩))
      go_ret2
      rw [E.out.1, E.out.2]
      exact ⟨rfl, K1.out.trans (k2.mono K1.out.size)⟩
    | true =>
      by_cases n1 : n < 1
      · have E : Hid (v = 0 ∧ e0 = 10) := Lib.hid (by
          have := VV.out
          rw [if_neg (by omega), if_pos rfl, if_neg (by omega)] at this
          exact this)
        go_enter Tryd.func18, Tryd.ntmps18
        go_wp2_with (first
          | (go_at_call 23; (try rw [hW0]); refine FI.out.mono ?_; rintro e w1 ⟨rfl, k1⟩
             have HA1 := Lib.hid (HA0.out.next k1)
             have K1 := Lib.hid (B0.trans (k1.mono B0.size))
             clear k1)
          | (go_at_call 25; refine (number_is s n true _ HS.out HA1.out NV).mono ?_; rintro e w2 ⟨rfl, k2⟩))
        go_ret2
        rw [E.out.1, E.out.2]
        exact ⟨rfl, K1.out.trans (k2.mono K1.out.size)⟩
      · by_cases n2 : 4000 < n
        · have E : Hid (v = 0 ∧ e0 = 10) := Lib.hid (by
            have := VV.out
            rw [if_neg (by omega), if_pos rfl, if_neg (by omega)] at this
            exact this)
          go_enter Tryd.func18, Tryd.ntmps18
          go_wp2_with (first
            | (go_at_call 23; (try rw [hW0]); refine FI.out.mono ?_; rintro e w1 ⟨rfl, k1⟩
               have HA1 := Lib.hid (HA0.out.next k1)
               have K1 := Lib.hid (B0.trans (k1.mono B0.size))
               clear k1)
            | (go_at_call 25; refine (number_is s n true _ HS.out HA1.out NV).mono ?_; rintro e w2 ⟨rfl, k2⟩))
          go_ret2
          rw [E.out.1, E.out.2]
          exact ⟨rfl, K1.out.trans (k2.mono K1.out.size)⟩
        · have E : Hid (v = n ∧ e0 = 0) := Lib.hid (by
            have := VV.out
            rw [if_pos ⟨rfl, by omega, by omega⟩, if_pos rfl, if_pos ⟨by omega, by omega⟩] at this
            exact this)
          go_enter Tryd.func18, Tryd.ntmps18
          go_wp2_with (first
            | (go_at_call 23; (try rw [hW0]); refine FI.out.mono ?_; rintro e w1 ⟨rfl, k1⟩
               have HA1 := Lib.hid (HA0.out.next k1)
               have K1 := Lib.hid (B0.trans (k1.mono B0.size))
               clear k1)
            | (go_at_call 25; refine (number_is s n true _ HS.out HA1.out NV).mono ?_; rintro e w2 ⟨rfl, k2⟩))
          go_ret2
          rw [E.out.1, E.out.2]
          exact ⟨rfl, K1.out.trans (k2.mono K1.out.size)⟩

set_option maxHeartbeats 800000 in
theorem wawake_any (w : World) (hA : LaidW w) : Calls Tryd.prog 9 #[] w fun e w' => e = .returned (.bool true) ∧ Below w.heap.size w w' := by
  have HA := Lib.hid hA
  have m1 : Hid ((resN (findL (low [74, 117, 110]) monthsL) 1 : Int) = 6 ∧ (resE (findL (low [74, 117, 110]) monthsL) : Int) = 0) := Lib.hid (by decide +kernel)
  have m2 : Hid ((resN (findL (low [106, 117]) monthsL) 1 : Int) = 0 ∧ (resE (findL (low [106, 117]) monthsL) : Int) = 13) := Lib.hid (by decide +kernel)
  have m3 : Hid ((resN (findL (low [82]) kindsL) 1 : Int) = 1 ∧ (resE (findL (low [82]) kindsL) : Int) = 0) := Lib.hid (by decide +kernel)
  have m4 : Hid (yearV [109, 97, 120] 1990 = 1048576 ∧ yearE [109, 97, 120] = 0) := Lib.hid (by decide +kernel)
  clear hA
  go_enter Tryd.func9, Tryd.ntmps9
  go_wp2_with (first
    | (go_at_call 11
       first
         | (with_reducible refine (month_is [74, 117, 110] 6 0 _ (by simp) HA.out m1).mono ?_
            rintro e w1 ⟨rfl, k1⟩
            have A1 := Lib.hid (HA.out.next k1)
            have K1 := Lib.hid k1
            clear k1)
         | (with_reducible refine (month_is [106, 117] 0 13 _ (by simp) A1.out m2).mono ?_
            rintro e w2 ⟨rfl, k2⟩
            have A2 := Lib.hid (A1.out.next k2)
            have K2 := Lib.hid (K1.out.trans (k2.mono K1.out.size))
            clear k2))
    | (go_at_call 10
       refine (kind_is [82] 1 0 _ (by simp) A2.out m3).mono ?_
       rintro e w3 ⟨rfl, k3⟩
       have A3 := Lib.hid (A2.out.next k3)
       have K3 := Lib.hid (K2.out.trans (k3.mono K2.out.size))
       clear k3)
    | (go_at_call 18
       refine (year_is [109, 97, 120] 1990 1048576 0 _ (by simp) A3.out m4).mono ?_
       rintro e w4 ⟨rfl, k4⟩
       have K4 := Lib.hid (K3.out.trans (k4.mono K3.out.size))
       clear k4))
  go_ret
  exact ⟨rfl, K4.out⟩
end Go.Proofs.YtoegjbhbgnhjdaaDoor
