/- The contract of the reference's In: which day of the calendar a day of a month is, or that there is none; nothing that was in memory changes. -/
import Derived.Test.YtddoapenhlkamaaGreatDoorDrA
namespace Go.Proofs.YtddoapenhlkamaaGreatDoor
open Go.RowKit

/-- What the reference's In answers. -/
def RefIn (k wk n y m a : Int) (z : Bool) : Prop := (z = true ∧ dfD k wk n ∧ mnD y m n ∧ a = tgtD k wk n y m) ∨ (z = false ∧ a = 0 ∧ ¬ (dfD k wk n ∧ mnD y m n))
theorem refin_ex (k wk n y m : Int) : ∃ a z, RefIn k wk n y m a z := by
  by_cases h : dfD k wk n ∧ mnD y m n
  · exact ⟨_, true, .inl ⟨rfl, h.1, h.2, rfl⟩⟩
  · exact ⟨0, false, .inr ⟨rfl, rfl, h⟩⟩

theorem rin_noA (k wk n y m : Int) (w : World) (hd : ¬ dfD k wk n) :
    Calls Tryz.prog 14 #[.agg #[.int .i64 k, .int .i64 wk, .int .i64 n], .int .i64 y, .int .i64 m] w fun e w' => e = .returned (.tuple #[.int .i64 0, .bool false]) ∧ Below w.heap.size w w' := by
  have T0 := Lib.hid (Trp.new w k wk n 23)
  have RG : Hid (∀ W, Calls Tryz.prog 7 #[.agg #[.int .i64 k, .int .i64 wk, .int .i64 n]] W fun e w' => e = .returned (.bool false) ∧ Below W.heap.size W w') := Lib.hid fun W => dright_is k wk n false W (Lib.hid (dfB_not hd))
  clear hd
  go_enter Tryz.func14, Tryz.ntmps14
  go_wp2_with (go_at_call 7; refine (RG.out _).mono ?_; rintro e w1 ⟨rfl, k1⟩)
  go_ret2
  exact ⟨rfl, (T0.out.next k1).bel⟩
theorem rin_noB (k wk n y m : Int) (w : World) (hd : dfD k wk n) (hl : ¬ lgOk y m) :
    Calls Tryz.prog 14 #[.agg #[.int .i64 k, .int .i64 wk, .int .i64 n], .int .i64 y, .int .i64 m] w fun e w' => e = .returned (.tuple #[.int .i64 0, .bool false]) ∧ Below w.heap.size w w' := by
  have T0 := Lib.hid (Trp.new w k wk n 23)
  have RG : Hid (∀ W, Calls Tryz.prog 7 #[.agg #[.int .i64 k, .int .i64 wk, .int .i64 n]] W fun e w' => e = .returned (.bool true) ∧ Below W.heap.size W w') := Lib.hid fun W => dright_is k wk n true W (Lib.hid (dfB_iff.2 hd))
  have RH : Hid (∀ W, Calls Tryz.prog 26 #[.agg #[.int .i64 y, .int .i64 m, .int .i64 1]] W fun e w' => e = .returned (.bool false) ∧ Below W.heap.size W w') := Lib.hid fun W => right_no y m 1 W (fun c => hl ((lgOk_iff y m).1 c))
  clear hd hl
  go_enter Tryz.func14, Tryz.ntmps14
  go_wp2_with (first
    | (go_at_call 7; refine (RG.out _).mono ?_; rintro e w1 ⟨rfl, k1⟩
       have T1 := Lib.hid (T0.out.next k1)
       clear k1 T0)
    | (go_at_call 26; refine (RH.out _).mono ?_; rintro e w2 ⟨rfl, k2⟩))
  go_ret2
  exact ⟨rfl, (T1.out.next k2).bel⟩
theorem rin_noC (k wk n y m : Int) (w : World) (hd : dfD k wk n) (hl : lgOk y m) (hn : dim y m < n) :
    Calls Tryz.prog 14 #[.agg #[.int .i64 k, .int .i64 wk, .int .i64 n], .int .i64 y, .int .i64 m] w fun e w' => e = .returned (.tuple #[.int .i64 0, .bool false]) ∧ Below w.heap.size w w' := by
  have T0 := Lib.hid (Trp.new w k wk n 23)
  have RG : Hid (∀ W, Calls Tryz.prog 7 #[.agg #[.int .i64 k, .int .i64 wk, .int .i64 n]] W fun e w' => e = .returned (.bool true) ∧ Below W.heap.size W w') := Lib.hid fun W => dright_is k wk n true W (Lib.hid (dfB_iff.2 hd))
  have RH : Hid (∀ W, Calls Tryz.prog 26 #[.agg #[.int .i64 y, .int .i64 m, .int .i64 1]] W fun e w' => e = .returned (.bool true) ∧ Below W.heap.size W w') := Lib.hid fun W => right_yes y m 1 W ((lgOk_iff y m).2 hl)
  obtain ⟨g, hg⟩ : ∃ g, rdim y m = g := ⟨_, rfl⟩
  have RL : Hid (∀ W, Calls Tryz.prog 27 #[.int .i64 y, .int .i64 m] W fun e w' => e = .returned (.int .i64 g) ∧ W = w') := Lib.hid fun W => hg ▸ rlong_any y m W
  have hn' : decide (g < n) = true := by rw [← hg, rdim_dim y m hl.2.2.1 hl.2.2.2]; exact decide_eq_true hn
  clear hd hl hg hn
  go_enter Tryz.func14, Tryz.ntmps14
  go_wp2_with (first
    | (go_at_call 7; refine (RG.out _).mono ?_; rintro e w1 ⟨rfl, k1⟩
       have T1 := Lib.hid (T0.out.next k1)
       clear k1 T0)
    | (go_at_call 26; refine (RH.out _).mono ?_; rintro e w2 ⟨rfl, k2⟩
       have T2 := Lib.hid (T1.out.next k2)
       clear k2 T1
       have lt := T2.out.lt
       have c0 := T2.out.c0
       have c1 := T2.out.c1
       have c2 := T2.out.c2)
    | (go_at_call 27; refine (RL.out _).mono ?_; rintro e w3 ⟨rfl, rfl⟩))
  go_ret2
  exact ⟨rfl, T2.out.bel⟩

theorem ref_week (a : Int) : ∃ q : Int, (a + 4).tmod 7 = q ∧ -6 ≤ q ∧ q ≤ 6 ∧ (q + 7) % 7 = wkD a ∧ (q + 7).tmod 7 = wkD a := by
  refine ⟨(a + 4).tmod 7, rfl, ?_⟩
  have h1 := Int.tmod_lt_of_pos (a + 4) (show (0 : Int) < 7 by omega)
  have h2 : -7 < (a + 4).tmod 7 := by
    have := Int.lt_tmod_of_pos (a + 4) (show (0 : Int) < 7 by omega)
    omega
  have h3 : ((a + 4).tmod 7 + 7) % 7 = wkD a := by
    have h4 : (a + 4).tmod 7 % 7 = (a + 4) % 7 := by
      have := Int.mul_tdiv_add_tmod (a + 4) 7
      omega
    unfold wkD
    omega
  refine ⟨by omega, by omega, h3, ?_⟩
  rw [Int.tmod_eq_emod_of_nonneg (by omega)]
  exact h3

set_option maxHeartbeats 3200000 in
theorem rin_yes (k wk n y m : Int) (w : World) (hd : dfD k wk n) (hm : mnD y m n) :
    Calls Tryz.prog 14 #[.agg #[.int .i64 k, .int .i64 wk, .int .i64 n], .int .i64 y, .int .i64 m] w fun e w' => e = .returned (.tuple #[.int .i64 (tgtD k wk n y m), .bool true]) ∧ Below w.heap.size w w' := by
  have hl : lgOk y m := ⟨hm.1, hm.2.1, hm.2.2.1, hm.2.2.2.1⟩
  have T0 := Lib.hid (Trp.new w k wk n 23)
  have RG : Hid (∀ W, Calls Tryz.prog 7 #[.agg #[.int .i64 k, .int .i64 wk, .int .i64 n]] W fun e w' => e = .returned (.bool true) ∧ Below W.heap.size W w') := Lib.hid fun W => dright_is k wk n true W (Lib.hid (dfB_iff.2 hd))
  have RH : Hid (∀ W, Calls Tryz.prog 26 #[.agg #[.int .i64 y, .int .i64 m, .int .i64 1]] W fun e w' => e = .returned (.bool true) ∧ Below W.heap.size W w') := Lib.hid fun W => right_yes y m 1 W ((lgOk_iff y m).2 hl)
  obtain ⟨g, hg⟩ : ∃ g, rdim y m = g := ⟨_, rfl⟩
  have RL : Hid (∀ W, Calls Tryz.prog 27 #[.int .i64 y, .int .i64 m] W fun e w' => e = .returned (.int .i64 g) ∧ W = w') := Lib.hid fun W => hg ▸ rlong_any y m W
  rw [rdim_dim y m hl.2.2.1 hl.2.2.2] at hg
  have hn' : decide (g < n) = false := by rw [← hg]; exact decide_eq_false (by have := hm.2.2.2.2; omega)
  obtain ⟨dd, hdd⟩ : ∃ dd, dayN y m 1 = dd := ⟨_, rfl⟩
  have RD : Hid (∀ W, Calls Tryz.prog 28 #[.agg #[.int .i64 y, .int .i64 m, .int .i64 1]] W fun e w' => e = .returned (.int .i64 dd) ∧ Below W.heap.size W w') := Lib.hid fun W => hdd ▸ rdays_any y m 1 W ((lgOk_iff y m).2 hl)
  have hdb : inR dd := hdd ▸ day_bd ((lgOk_iff y m).2 hl)
  have hgb := dim_bd y m hl.2.2.1 hl.2.2.2
  have hn2 : 0 ≤ n ∧ n ≤ 31 := by unfold dfD at hd; omega
  have hw : 0 ≤ wk ∧ wk ≤ 6 := by unfold dfD at hd; omega
  obtain ⟨T, hT⟩ : ∃ T, tgtD k wk n y m = T := ⟨_, rfl⟩
  have HT : Hid (hitD k wk (if k = 1 then dd + n - 1 + g else dd + n - 1) = T) := Lib.hid (by
    rw [← hT]
    unfold tgtD atD
    rw [hdd, hg]
    by_cases hk : k = 1
    · rw [if_pos hk, if_pos hk]
      have : n = 0 := by unfold dfD at hd; omega
      congr 1; omega
    · rw [if_neg hk, if_neg hk]
      congr 1; omega)
  rw [hT]
  have hk4 : k = 0 ∨ k = 1 ∨ k = 2 ∨ k = 3 := by unfold dfD at hd; omega
  rw [hg] at hgb
  unfold inR at hdb
  obtain ⟨db1, db2⟩ := hdb
  obtain ⟨gb1, gb2⟩ := hgb
  obtain ⟨nb1, nb2⟩ := hn2
  have e1 : IntKind.i64.wrap (dd + n) = dd + n := w64 (by omega) (by omega)
  have e2 : IntKind.i64.wrap (dd + n - 1) = dd + n - 1 := w64 (by omega) (by omega)
  have HE := Lib.hid (And.intro e1 e2)
  have HWK := Lib.hid hw
  clear hd hm hl hg hT hdd hw e1 e2
  go_enter Tryz.func14, Tryz.ntmps14
  go_wp2_with (first
    | (go_at_call 7; refine (RG.out _).mono ?_; rintro e w1 ⟨rfl, k1⟩
       have T1 := Lib.hid (T0.out.next k1)
       clear k1 T0)
    | (go_at_call 26; refine (RH.out _).mono ?_; rintro e w2 ⟨rfl, k2⟩
       have T2 := Lib.hid (T1.out.next k2)
       clear k2 T1
       have lt := T2.out.lt
       have c0 := T2.out.c0
       have c1 := T2.out.c1
       have c2 := T2.out.c2)
    | (go_at_call 27; refine (RL.out _).mono ?_; rintro e w3 ⟨rfl, rfl⟩))
  obtain ⟨e1, e2⟩ := HE.out
  go_region_held3 (fun w' => w'.cell? ⟨w.heap.size, 2, none⟩ = some (.int .i64 n)) (first | exact c2 | go_keep | exact (hq.cell (p := ⟨w.heap.size, 2, none⟩) lt).trans c2)
    (first
      | (go_at_call 28; refine (RD.out _).mono ?_; rintro e w4 ⟨rfl, hq⟩))
  have T4 := Lib.hid (T2.out.drawn.next hq)
  clear e1 e2 hq lt c0 c1 c2 T2 RG RH RL RD HE
  have lt := T4.out.lt
  have c0 := T4.out.c0
  have c1 := T4.out.c1
  have c2 := T4.out.c2
  obtain ⟨u0, hu0⟩ : ∃ u0, (if k = 1 then dd + n - 1 + g else dd + n - 1) = u0 := ⟨_, rfl⟩
  rw [hu0] at HT
  have U0 := Lib.hid hu0
  have hub : -37243900 ≤ u0 ∧ u0 ≤ 35805300 := by
    rw [← hu0]; split <;> omega
  have hTb : k ≠ 0 → u0 - 7 ≤ T ∧ T ≤ u0 + 7 := fun hk => by
    have u := up_spec u0 wk HWK.out.1 HWK.out.2
    have v := dn_spec u0 wk HWK.out.1 HWK.out.2
    have := HT.out
    unfold hitD at this
    rw [if_neg hk] at this
    split at this <;> omega
  have LOOPH : Hid (∀ a : Int, hitD k wk a = T → k ≠ 0 → T - 7 ≤ a ∧ a ≤ T + 7) := Lib.hid fun a ha hk => by
    have u := up_spec a wk HWK.out.1 HWK.out.2
    have v := dn_spec a wk HWK.out.1 HWK.out.2
    unfold hitD at ha
    rw [if_neg hk] at ha
    split at ha <;> omega
  obtain ⟨ub1, ub2⟩ := hub
  clear hu0
  rcases hk4 with rfl | rfl | rfl | rfl
  · have e0 : u0 = T := HT.out
    subst e0
    obtain rfl : dd + n - 1 = u0 := U0.out
    clear LOOPH hTb U0 HT
    go_wp2
    go_loop [9] (fun v => v = .int .i64 (dd + n - 1)) (fun _ => 0)
    case atStart => rfl
    case round =>
      subst hrel
      go_wp2
      go_ret2
      exact ⟨rfl, T4.out.bel⟩
  · obtain rfl : dd + n - 1 + g = u0 := U0.out
    obtain ⟨tb1, tb2⟩ := hTb (by decide)
    clear hTb U0
    go_wp2
    go_loop [9] (fun v => ∃ a : Int, v = .int .i64 a ∧ hitD 1 wk a = T) (fun v => (intOf v - T + 10).toNat)
    case atStart => exact ⟨_, rfl, HT.out⟩
    case round =>
      obtain ⟨a, rfl, ha⟩ := hrel
      obtain ⟨ab1, ab2⟩ := LOOPH.out a ha (by decide)
      obtain ⟨q, q1, q2, q3, q4, q5⟩ := ref_week a
      obtain ⟨v, hv⟩ : ∃ v, wkD a = v := ⟨_, rfl⟩
      rw [hv] at q4 q5
      have HVV := Lib.hid hv
      have HAA := Lib.hid ha
      clear hv ha
      by_cases hm : v = wk
      · obtain rfl : a = T := (hit_same (k := 1) (HVV.out.trans hm)).symm.trans HAA.out
        subst hm
        go_wp2
        go_ret2
        exact ⟨rfl, T4.out.bel⟩
      · have hne : (v == wk) = false := by simpa using hm
        have hne2 : (v != wk) = true := by simpa using hm
        have NX := Lib.hid ((hit_next (k := 1) (a := a) (s := -1) (by decide) HWK.out.1 HWK.out.2 rfl (by rw [HVV.out]; exact hm)).trans HAA.out)
        have DN := Lib.hid (dn_spec a wk HWK.out.1 HWK.out.2)
        clear hm
        go_wp2
        go_round
        case rel => exact ⟨a - 1, rfl, NX.out⟩
        case measure =>
          have h1 := HAA.out
          have h2 := DN.out
          unfold hitD at h1
          rw [if_neg (by decide), if_neg (by decide)] at h1
          simp [intOf]; omega
  · obtain rfl : dd + n - 1 = u0 := U0.out
    obtain ⟨tb1, tb2⟩ := hTb (by decide)
    clear hTb U0
    go_wp2
    go_loop [9] (fun v => ∃ a : Int, v = .int .i64 a ∧ hitD 2 wk a = T) (fun v => (T - intOf v + 10).toNat)
    case atStart => exact ⟨_, rfl, HT.out⟩
    case round =>
      obtain ⟨a, rfl, ha⟩ := hrel
      obtain ⟨ab1, ab2⟩ := LOOPH.out a ha (by decide)
      obtain ⟨q, q1, q2, q3, q4, q5⟩ := ref_week a
      obtain ⟨v, hv⟩ : ∃ v, wkD a = v := ⟨_, rfl⟩
      rw [hv] at q4 q5
      have HVV := Lib.hid hv
      have HAA := Lib.hid ha
      clear hv ha
      by_cases hm : v = wk
      · obtain rfl : a = T := (hit_same (k := 2) (HVV.out.trans hm)).symm.trans HAA.out
        subst hm
        go_wp2
        go_ret2
        exact ⟨rfl, T4.out.bel⟩
      · have hne : (v == wk) = false := by simpa using hm
        have hne2 : (v != wk) = true := by simpa using hm
        have NX := Lib.hid ((hit_next (k := 2) (a := a) (s := 1) (by decide) HWK.out.1 HWK.out.2 rfl (by rw [HVV.out]; exact hm)).trans HAA.out)
        have UP := Lib.hid (up_spec a wk HWK.out.1 HWK.out.2)
        clear hm
        go_wp2
        go_round
        case rel => exact ⟨a + 1, rfl, NX.out⟩
        case measure =>
          have h1 := HAA.out
          have h2 := UP.out
          unfold hitD at h1
          rw [if_neg (by decide), if_pos rfl] at h1
          simp [intOf]; omega
  · obtain rfl : dd + n - 1 = u0 := U0.out
    obtain ⟨tb1, tb2⟩ := hTb (by decide)
    clear hTb U0
    go_wp2
    go_loop [9] (fun v => ∃ a : Int, v = .int .i64 a ∧ hitD 3 wk a = T) (fun v => (intOf v - T + 10).toNat)
    case atStart => exact ⟨_, rfl, HT.out⟩
    case round =>
      obtain ⟨a, rfl, ha⟩ := hrel
      obtain ⟨ab1, ab2⟩ := LOOPH.out a ha (by decide)
      obtain ⟨q, q1, q2, q3, q4, q5⟩ := ref_week a
      obtain ⟨v, hv⟩ : ∃ v, wkD a = v := ⟨_, rfl⟩
      rw [hv] at q4 q5
      have HVV := Lib.hid hv
      have HAA := Lib.hid ha
      clear hv ha
      by_cases hm : v = wk
      · obtain rfl : a = T := (hit_same (k := 3) (HVV.out.trans hm)).symm.trans HAA.out
        subst hm
        go_wp2
        go_ret2
        exact ⟨rfl, T4.out.bel⟩
      · have hne : (v == wk) = false := by simpa using hm
        have hne2 : (v != wk) = true := by simpa using hm
        have NX := Lib.hid ((hit_next (k := 3) (a := a) (s := -1) (by decide) HWK.out.1 HWK.out.2 rfl (by rw [HVV.out]; exact hm)).trans HAA.out)
        have DN := Lib.hid (dn_spec a wk HWK.out.1 HWK.out.2)
        clear hm
        go_wp2
        go_round
        case rel => exact ⟨a - 1, rfl, NX.out⟩
        case measure =>
          have h1 := HAA.out
          have h2 := DN.out
          unfold hitD at h1
          rw [if_neg (by decide), if_neg (by decide)] at h1
          simp [intOf]; omega
/-- The reference's In. -/
theorem rin_is (k wk n y m a : Int) (z : Bool) (w : World) (h : Hid (RefIn k wk n y m a z)) :
    Calls Tryz.prog 14 #[.agg #[.int .i64 k, .int .i64 wk, .int .i64 n], .int .i64 y, .int .i64 m] w fun e w' => e = .returned (.tuple #[.int .i64 a, .bool z]) ∧ Below w.heap.size w w' := by
  rcases h.out with ⟨rfl, h1, h2, rfl⟩ | ⟨rfl, rfl, h1⟩
  · exact rin_yes k wk n y m w h1 h2
  · by_cases hd : dfD k wk n
    · by_cases hl : lgOk y m
      · exact rin_noC k wk n y m w hd hl (by
          refine Int.lt_of_not_ge fun hn => h1 ⟨hd, hl.1, hl.2.1, hl.2.2.1, hl.2.2.2, hn⟩)
      · exact rin_noB k wk n y m w hd hl
    · exact rin_noA k wk n y m w hd
end Go.Proofs.YtddoapenhlkamaaGreatDoor
