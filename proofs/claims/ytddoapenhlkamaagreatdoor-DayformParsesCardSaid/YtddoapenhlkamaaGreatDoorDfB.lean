/- What package dayform, and what it calls, read in memory; the contracts of words.Weekday and WeekdayName there, of dayform.number, beginsLast and firstSign; nothing that was in memory changes. -/
import Derived.Test.YtddoapenhlkamaaGreatDoorWdD
import Derived.Test.YtddoapenhlkamaaGreatDoorDfA
import Derived.Test.YtddoapenhlkamaaGreatDoorDfl
import Derived.Lib.AppendIntMem
import Derived.Lib.SmallJoins
namespace Go.Proofs.YtddoapenhlkamaaGreatDoor
open Go.RowKit

abbrev PowF (w : World) : Prop := Lib.TabIs Tryz.prog w "internal/strconv.uint64pow10" .u64 Lib.pow10Tab
/-- A variable holds an error, or nil. -/
def ErrF (g : Nat) (w : World) : Prop := ∃ ev : Value, w.cell? ⟨g, 0, none⟩ = some ev ∧ (ev = .nilIface ∨ ∃ te pe, ev = .iface te pe)
theorem ErrF.next {g : Nat} {w w' : World} (h : ErrF g w) (k : Below w.heap.size w w') : ErrF g w' := by
  obtain ⟨ev, h1, h2⟩ := h
  exact ⟨ev, by rw [k.cell (p := ⟨_, _, none⟩) (wcell_lt h1)]; exact h1, h2⟩
def MaxF (w : World) : Prop := ∃ m : Int, w.cell? ⟨4, 0, none⟩ = some (.int .i64 m)
theorem MaxF.next {w w' : World} (h : MaxF w) (k : Below w.heap.size w w') : MaxF w' := by
  obtain ⟨m, h1⟩ := h
  exact ⟨m, by rw [k.cell (p := ⟨_, _, none⟩) (wcell_lt h1)]; exact h1⟩
def signsL : List (List UInt8) := [[62, 61], [60, 61]]
/-- The tables that package dayform, and what it calls, read. -/
structure LaidF (w : World) : Prop where
  ah : AhAt w
  sig : ListAt 0 signsL w
  wee : ListAt 1 weeksL w
  u8 : U8At w
  pow : PowF w
  syn : ErrF 5 w
  ran : ErrF 6 w
  cas : Lib.CaseVar 7 Lib.caseA w
  mx : MaxF w
theorem LaidF.next {w w' : World} (h : LaidF w) (k : Below w.heap.size w w') : LaidF w' :=
  ⟨h.ah.next k, h.sig.next k, h.wee.next k, h.u8.next k, Lib.tabBelow_of_tabIs h.pow w' k, h.syn.next k, h.ran.next k, Lib.CaseVar_below h.cas k, h.mx.next k⟩

theorem fne_of_all {ws : List (List UInt8)} (h : (ws.all fun p => !p.isEmpty) = true) : ∀ p ∈ ws, p ≠ [] := by
  intro p hp
  have := List.all_eq_true.1 h p hp
  cases p <;> simp_all
theorem fas_of_all {ws : List (List UInt8)} (h : (ws.all fun p => p.all fun c => decide (c.toNat < 128)) = true) : ∀ p ∈ ws, ascii p := by
  intro p hp c hc
  have := List.all_eq_true.1 (List.all_eq_true.1 h p hp) c hc
  simpa using this
theorem fweeks_ne : ∀ p ∈ weeksL, p ≠ [] := fne_of_all (by decide)
theorem fweeks_as : ∀ p ∈ weeksL, ascii p := fas_of_all (by decide)

/-- The day of the week, or that it is none. -/
def wkV (s : List UInt8) : Int := match wkN s with | some p => (p : Int) | none => 0
def wkE (s : List UInt8) : Int := match wkN s with | some _ => 0 | none => 13
theorem wk_res {s : List UInt8} {v e0 : Int} (h : wkV s = v ∧ wkE s = e0) : (resN (findL (low s) weeksL) 0 : Int) = v ∧ (resE (findL (low s) weeksL) : Int) = e0 := by
  obtain ⟨rfl, rfl⟩ := h
  unfold wkV wkE wkN
  have e : weeks7 = weeksL := rfl
  rw [e]
  cases findL (low s) weeksL <;> exact ⟨rfl, rfl⟩

set_option maxHeartbeats 800000 in
theorem fweek_is (s : List UInt8) (v e0 : Int) (w : World) (hs : s.length ≤ 1000) (hA : LaidF w) (HV : Hid (wkV s = v ∧ wkE s = e0)) :
    Calls Tryz.prog 33 #[.string ⟨s.toArray⟩] w fun e w' => e = .returned (.tuple #[.int .i64 v, .int .i64 e0]) ∧ Below w.heap.size w w' := by
  have c0 := hA.wee.cell 0 _ rfl
  have c1 := hA.wee.cell 1 _ rfl
  have c2 := hA.wee.cell 2 _ rfl
  have c3 := hA.wee.cell 3 _ rfl
  have c4 := hA.wee.cell 4 _ rfl
  have c5 := hA.wee.cell 5 _ rfl
  have c6 := hA.wee.cell 6 _ rfl
  obtain ⟨W0, hW0⟩ : ∃ W0, w.alloc (.cells #[.string ⟨#[115, 117, 110, 100, 97, 121]⟩, .string ⟨#[109, 111, 110, 100, 97, 121]⟩, .string ⟨#[116, 117, 101, 115, 100, 97, 121]⟩, .string ⟨#[119, 101, 100, 110, 101, 115, 100, 97, 121]⟩, .string ⟨#[116, 104, 117, 114, 115, 100, 97, 121]⟩, .string ⟨#[102, 114, 105, 100, 97, 121]⟩, .string ⟨#[115, 97, 116, 117, 114, 100, 97, 121]⟩] 61) = W0 := ⟨_, rfl⟩
  have B0 : Below w.heap.size w W0 := by rw [← hW0]; exact (Below.refl _ _).alloc (Nat.le_refl _) _
  have L0 : ListAt w.heap.size weeksL W0 := by rw [← hW0]; exact ListAt.new w weeksL _ _ rfl
  have U0 := hA.u8.next B0
  have FI := Lib.hid (find_is s weeksL w.heap.size 7 v e0 W0 hs rfl (by omega) fweeks_ne fweeks_as L0 U0 (Lib.hid (wk_res HV.out)))
  clear L0 U0 HV hA
  go_enter Tryz.func33, Tryz.ntmps33
  go_wp2_with (go_at_call 44; (try rw [hW0]); refine FI.out.mono ?_; rintro e w1 ⟨rfl, k1⟩)
  go_ret2
  exact ⟨rfl, B0.trans (k1.mono B0.size)⟩

theorem fatoi_ok (s : List UInt8) (v : Int) (w : World) (hs : s.length ≤ 1000) (h : Hid (Lib.atoiAll s = .ok v)) :
    Calls Tryz.prog 45 #[.string ⟨s.toArray⟩] w fun e w' => e = .returned (.tuple #[.int .i64 v, .nilIface]) ∧ Below w.heap.size w w' :=
  (Tryz.strconv_Atoi_ok ⟨s.toArray⟩ (by rw [wsize]; omega) v h.out w).mono fun e w' ⟨h1, h2⟩ => ⟨h1, by
    rcases h2 with rfl | ⟨t, rfl⟩
    · exact Below.refl _ _
    · exact Lib.bytesWorld_below w _ t⟩
/-- Atoi tells an error. -/
def AtoiNo (w : World) (e : Ending) (w' : World) : Prop := ∃ (v : Int) (N : Nat), e = .returned (.tuple #[.int .i64 v, .iface 113 (.pointer (some ⟨N, 0, none⟩))]) ∧ Below w.heap.size w w'
theorem fatoi_bad (s : List UInt8) (w : World) (hs : s.length ≤ 1000) (hA : LaidF w) (h : Hid (∀ v, Lib.atoiAll s ≠ .ok v)) :
    Calls Tryz.prog 45 #[.string ⟨s.toArray⟩] w (AtoiNo w) := by
  rcases hc : Lib.atoiAll s with v | _ | _
  · exact absurd hc (h.out v)
  · obtain ⟨ev, h1, h2⟩ := hA.syn
    exact (Any.strconv_Atoi_syntax Tryz.laysC172 ⟨s.toArray⟩ (by rw [wsize]; omega) hc ev w h1 h2).mono fun e w' ⟨N, a, _, _, b⟩ => ⟨_, N, a, b⟩
  · obtain ⟨ev, h1, h2⟩ := hA.ran
    exact (Tryz.strconv_Atoi_range ⟨s.toArray⟩ (by rw [wsize]; omega) hc ev w h1 h2).mono fun e w' ⟨N, a, _, _, b⟩ => ⟨_, N, a, b⟩
theorem fitoa_is (n : Int) (D : List UInt8) (w : World) (h0 : -9223372036854775808 ≤ n) (h1 : n ≤ 9223372036854775807) (ht : PowF w) (hD : Hid (Lib.itoa n = D)) :
    Calls Tryz.prog 17 #[.int .i64 n] w fun e w' => e = .returned (.string ⟨D.toArray⟩) ∧ Below w.heap.size w w' := by
  have := Tryz.strconv_Itoa n h0 h1 w ht
  rw [hD.out] at this
  exact this.mono fun e w' ⟨a, k, os, b⟩ => ⟨a, by
    rw [b]
    exact ⟨rfl, rfl, rfl, by show w.heap.size ≤ (w.heap ++ os).size; rw [Array.size_append]; omega, fun j hj => by
      show (w.heap ++ os)[j]? = _
      rw [Array.getElem?_append_left hj]⟩⟩

theorem dn_none {s : List UInt8} (h : dnum s = none) : dnV s = 0 ∧ dnE s = 12 := by unfold dnV dnE; rw [h]; exact ⟨rfl, rfl⟩
theorem dn_big {s : List UInt8} {n : Nat} (h : dnum s = some n) (h2 : 31 < n) : dnV s = 0 ∧ dnE s = 10 := by
  unfold dnV dnE; rw [h]; exact ⟨if_neg (by omega), if_neg (by omega)⟩
theorem dn_fine {s : List UInt8} {n : Nat} (h : dnum s = some n) (h2 : n ≤ 31) : dnV s = n ∧ dnE s = 0 := by
  unfold dnV dnE; rw [h]; exact ⟨if_pos h2, if_pos h2⟩

set_option maxHeartbeats 1600000 in
/-- number: the day's number that a text is. -/
theorem dnumber_is (s : List UInt8) (v e0 : Int) (w : World) (hs : s.length ≤ 1000) (hA : LaidF w) (HV : Hid (dnV s = v ∧ dnE s = e0)) :
    Calls Tryz.prog 34 #[.string ⟨s.toArray⟩] w fun e w' => e = .returned (.tuple #[.int .i64 v, .int .i64 e0]) ∧ Below w.heap.size w w' := by
  have HA := Lib.hid hA
  have HS := Lib.hid hs
  clear hA hs
  by_cases hbad : ∀ n, Lib.atoiAll s ≠ .ok n
  · obtain ⟨rfl, rfl⟩ : v = 0 ∧ e0 = 12 := by
      have := dn_none (dn_no fun n hn => absurd hn (hbad n))
      have h2 := HV.out
      exact ⟨h2.1.symm.trans this.1, h2.2.symm.trans this.2⟩
    have HB := Lib.hid hbad
    clear hbad HV
    go_enter Tryz.func34, Tryz.ntmps34
    go_wp2_with (first
      | (go_at_call 45; refine (fatoi_bad s _ HS.out HA.out HB).mono ?_; rintro e w1 ⟨q, N, rfl, k1⟩))
    go_ret2
    exact ⟨rfl, k1⟩
  · obtain ⟨n, hn⟩ : ∃ n, Lib.atoiAll s = .ok n := by
      refine Classical.byContradiction fun h => hbad fun n hn => h ⟨n, hn⟩
    obtain ⟨hb1, hb2⟩ := Lib.atoiAll_bounds hn
    have HN := Lib.hid hn
    clear hbad hn
    obtain ⟨D, hD⟩ : ∃ D, Lib.itoa n = D := ⟨_, rfl⟩
    have HD := Lib.hid hD
    clear hD
    have AT : Hid (∀ W : World, Calls Tryz.prog 45 #[.string ⟨s.toArray⟩] W fun e w' => e = .returned (.tuple #[.int .i64 n, .nilIface]) ∧ Below W.heap.size W w') := Lib.hid fun W => fatoi_ok s n W HS.out HN
    by_cases hds : D = s
    · by_cases r1 : n < 1
      · obtain ⟨rfl, rfl⟩ : v = 0 ∧ e0 = 12 := by
          have := dn_none (dn_no (s := s) fun m hm _ h1 => by
            have h3 := HN.out
            rw [hm] at h3
            injection h3 with h3
            omega)
          have h2 := HV.out
          exact ⟨h2.1.symm.trans this.1, h2.2.symm.trans this.2⟩
        subst hds
        clear HV HN HS
        go_enter Tryz.func34, Tryz.ntmps34
        go_wp2_with (first
          | (go_at_call 45; refine (AT.out _).mono ?_; rintro e w1 ⟨rfl, k1⟩
             have HA1 := Lib.hid (HA.out.next k1)
             have K1 := Lib.hid k1
             clear k1)
          | (go_at_call 17; refine (fitoa_is n D _ hb1 hb2 HA1.out.pow HD).mono ?_; rintro e w2 ⟨rfl, k2⟩))
        go_ret2
        exact ⟨rfl, K1.out.trans (k2.mono K1.out.size)⟩
      · by_cases r2 : 100 ≤ n
        · obtain ⟨rfl, rfl⟩ : v = 0 ∧ e0 = 12 := by
            have := dn_none (dn_no (s := s) fun m hm _ _ => by
              have h3 := HN.out
              rw [hm] at h3
              injection h3 with h3
              omega)
            have h2 := HV.out
            exact ⟨h2.1.symm.trans this.1, h2.2.symm.trans this.2⟩
          subst hds
          clear HV HN HS
          go_enter Tryz.func34, Tryz.ntmps34
          go_wp2_with (first
            | (go_at_call 45; refine (AT.out _).mono ?_; rintro e w1 ⟨rfl, k1⟩
               have HA1 := Lib.hid (HA.out.next k1)
               have K1 := Lib.hid k1
               clear k1)
            | (go_at_call 17; refine (fitoa_is n D _ hb1 hb2 HA1.out.pow HD).mono ?_; rintro e w2 ⟨rfl, k2⟩))
          go_ret2
          exact ⟨rfl, K1.out.trans (k2.mono K1.out.size)⟩
        · have hy := dn_yes (s := s) (HD.out.trans hds) (by omega) (by omega)
          subst hds
          by_cases r3 : 31 < n
          · obtain ⟨rfl, rfl⟩ : v = 0 ∧ e0 = 10 := by
              have := dn_big hy (by omega)
              have h2 := HV.out
              exact ⟨h2.1.symm.trans this.1, h2.2.symm.trans this.2⟩
            clear HV HN HS hy
            go_enter Tryz.func34, Tryz.ntmps34
            go_wp2_with (first
              | (go_at_call 45; refine (AT.out _).mono ?_; rintro e w1 ⟨rfl, k1⟩
                 have HA1 := Lib.hid (HA.out.next k1)
                 have K1 := Lib.hid k1
                 clear k1)
              | (go_at_call 17; refine (fitoa_is n D _ hb1 hb2 HA1.out.pow HD).mono ?_; rintro e w2 ⟨rfl, k2⟩))
            go_ret2
            exact ⟨rfl, K1.out.trans (k2.mono K1.out.size)⟩
          · obtain ⟨rfl, rfl⟩ : v = n ∧ e0 = 0 := by
              have := dn_fine hy (by omega)
              have h2 := HV.out
              exact ⟨h2.1.symm.trans (this.1.trans (by omega)), h2.2.symm.trans this.2⟩
            clear HV HN HS hy
            go_enter Tryz.func34, Tryz.ntmps34
            go_wp2_with (first
              | (go_at_call 45; refine (AT.out _).mono ?_; rintro e w1 ⟨rfl, k1⟩
                 have HA1 := Lib.hid (HA.out.next k1)
                 have K1 := Lib.hid k1
                 clear k1)
              | (go_at_call 17; refine (fitoa_is v D _ hb1 hb2 HA1.out.pow HD).mono ?_; rintro e w2 ⟨rfl, k2⟩))
            go_ret2
            exact ⟨rfl, K1.out.trans (k2.mono K1.out.size)⟩
    · obtain ⟨rfl, rfl⟩ : v = 0 ∧ e0 = 12 := by
        have := dn_none (dn_no (s := s) fun m hm hi _ => by
          have h3 := HN.out
          rw [hm] at h3
          injection h3 with h3
          subst h3
          exact absurd (HD.out.symm.trans hi) hds)
        have h2 := HV.out
        exact ⟨h2.1.symm.trans this.1, h2.2.symm.trans this.2⟩
      have hds' : (D == s) = false := by simp [hds]
      have hds2 : (D != s) = true := by simp [hds]
      clear hds HV HN HS
      go_enter Tryz.func34, Tryz.ntmps34
      go_wp2_with (first
        | (go_at_call 45; refine (AT.out _).mono ?_; rintro e w1 ⟨rfl, k1⟩
           have HA1 := Lib.hid (HA.out.next k1)
           have K1 := Lib.hid k1
           clear k1)
        | (go_at_call 17; refine (fitoa_is n D _ hb1 hb2 HA1.out.pow HD).mono ?_; rintro e w2 ⟨rfl, k2⟩))
      go_ret2
      exact ⟨rfl, K1.out.trans (k2.mono K1.out.size)⟩
end Go.Proofs.YtddoapenhlkamaaGreatDoor
