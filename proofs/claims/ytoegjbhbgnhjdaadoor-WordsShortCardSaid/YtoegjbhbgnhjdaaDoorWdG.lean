/- The contracts of words.number and words.Year, and of the reference's Number: which number, and which year, a word is; nothing that was in memory changes. The tables read as they are laid. -/
import Derived.Test.YtoegjbhbgnhjdaaDoorWdF
import Derived.Test.YtoegjbhbgnhjdaaDoorNmb
import Derived.Lib.SmallJoins
namespace Go.Proofs.YtoegjbhbgnhjdaaDoor
open Go.RowKit

/-- What number answers. -/
def numZ (s : List UInt8) : Int := (numR s).getD 0
def numB (s : List UInt8) : Bool := (numR s).isSome

theorem atoi_ok (s : List UInt8) (v : Int) (w : World) (hs : s.length ≤ 1000) (h : Hid (Lib.atoiAll s = .ok v)) :
    Calls Tryd.prog 28 #[.string ⟨s.toArray⟩] w fun e w' => e = .returned (.tuple #[.int .i64 v, .nilIface]) ∧ Below w.heap.size w w' :=
  (Tryd.strconv_Atoi_ok ⟨s.toArray⟩ (by rw [wsize]; omega) v h.out w).mono fun e w' ⟨h1, h2⟩ => ⟨h1, by
    rcases h2 with rfl | ⟨t, rfl⟩
    · exact Below.refl _ _
    · exact Lib.bytesWorld_below w _ t⟩
/-- Atoi tells an error. -/
def AtoiBad (w : World) (e : Ending) (w' : World) : Prop := ∃ (v : Int) (N : Nat), e = .returned (.tuple #[.int .i64 v, .iface 76 (.pointer (some ⟨N, 0, none⟩))]) ∧ Below w.heap.size w w'
theorem atoi_bad (s : List UInt8) (w : World) (hs : s.length ≤ 1000) (hA : LaidW w) (h : Hid (∀ v, Lib.atoiAll s ≠ .ok v)) :
    Calls Tryd.prog 28 #[.string ⟨s.toArray⟩] w (AtoiBad w) := by
  rcases hc : Lib.atoiAll s with v | _ | _
  · exact absurd hc (h.out v)
  · obtain ⟨ev, h1, h2⟩ := hA.syn
    exact (Any.strconv_Atoi_syntax Tryd.laysC172 ⟨s.toArray⟩ (by rw [wsize]; omega) hc ev w h1 h2).mono fun e w' ⟨N, a, _, _, b⟩ => ⟨_, N, a, b⟩
  · obtain ⟨ev, h1, h2⟩ := hA.ran
    exact (Tryd.strconv_Atoi_range ⟨s.toArray⟩ (by rw [wsize]; omega) hc ev w h1 h2).mono fun e w' ⟨N, a, _, _, b⟩ => ⟨_, N, a, b⟩
theorem witoa_is (n : Int) (D : List UInt8) (w : World) (h0 : -9223372036854775808 ≤ n) (h1 : n ≤ 9223372036854775807) (ht : PowW w) (hD : Hid (Lib.itoa n = D)) :
    Calls Tryd.prog 29 #[.int .i64 n] w fun e w' => e = .returned (.string ⟨D.toArray⟩) ∧ Below w.heap.size w w' := by
  have := Tryd.strconv_Itoa n h0 h1 w ht
  rw [hD.out] at this
  exact this.mono fun e w' ⟨a, k, os, b⟩ => ⟨a, by
    rw [b]
    exact ⟨rfl, rfl, rfl, by show w.heap.size ≤ (w.heap ++ os).size; rw [Array.size_append]; omega, fun j hj => by
      show (w.heap ++ os)[j]? = _
      rw [Array.getElem?_append_left hj]⟩⟩

set_option maxHeartbeats 1600000 in
theorem number_is (s : List UInt8) (v : Int) (z : Bool) (w : World) (hs : s.length ≤ 1000) (hA : LaidW w) (HV : Hid (numZ s = v ∧ numB s = z)) :
    Calls Tryd.prog 25 #[.string ⟨s.toArray⟩] w fun e w' => e = .returned (.tuple #[.int .i64 v, .bool z]) ∧ Below w.heap.size w w' := by
  have HA := Lib.hid hA
  have HS := Lib.hid hs
  clear hA hs
  by_cases hbad : ∀ n, Lib.atoiAll s ≠ .ok n
  · have E : Hid (v = 0 ∧ z = false) := Lib.hid (by
      have hn : numR s = none := by
        cases h : numR s with
        | none => rfl
        | some n =>
          obtain ⟨h1, h2, h3⟩ := numR_some h
          exact absurd (h1 ▸ atoi_itoa h2 h3) (hbad n)
      have := HV.out
      unfold numZ numB at this
      rw [hn] at this
      exact ⟨this.1.symm, this.2.symm⟩)
    have HB := Lib.hid hbad
    clear hbad
    go_enter Tryd.func25, Tryd.ntmps25
    go_wp2_with (first
      | (go_at_call 28; refine (atoi_bad s _ HS.out HA.out HB).mono ?_; rintro e w1 ⟨q, N, rfl, k1⟩))
    go_ret2
    rw [E.out.1, E.out.2]
    exact ⟨rfl, k1⟩
  · obtain ⟨n, hn⟩ : ∃ n, Lib.atoiAll s = .ok n := by
      refine Classical.byContradiction fun h => hbad fun n hn => h ⟨n, hn⟩
    have hb := Lib.atoiAll_bounds hn
    obtain ⟨hb1, hb2⟩ := hb
    have HN := Lib.hid hn
    clear hbad hn
    obtain ⟨D, hD⟩ : ∃ D, Lib.itoa n = D := ⟨_, rfl⟩
    have HD := Lib.hid hD
    clear hD
    by_cases hds : D = s
    · by_cases hr : -1000000000 < n ∧ n < 1000000000
      · have E : Hid (v = n ∧ z = true) := Lib.hid (by
          have hn : numR s = some n := by rw [← hds, ← HD.out]; exact numR_itoa hr.1 hr.2
          have := HV.out
          unfold numZ numB at this
          rw [hn] at this
          exact ⟨this.1.symm, this.2.symm⟩)
        obtain ⟨r1, r2⟩ := hr
        have r1' : ¬ n ≤ -1000000000 := by omega
        have r2' : ¬ 1000000000 ≤ n := by omega
        subst hds
        clear r1 r2
        go_enter Tryd.func25, Tryd.ntmps25
        go_wp2_with (first
          | (go_at_call 28; refine (atoi_ok D n _ HS.out HN).mono ?_; rintro e w1 ⟨rfl, k1⟩
             have HA1 := Lib.hid (HA.out.next k1)
             have K1 := Lib.hid k1
             clear k1)
          | (go_at_call 29; refine (witoa_is n D _ hb1 hb2 HA1.out.pow HD).mono ?_; rintro e w2 ⟨rfl, k2⟩))
        go_ret2
        rw [E.out.1, E.out.2]
        exact ⟨rfl, K1.out.trans (k2.mono K1.out.size)⟩
      · have E : Hid (v = 0 ∧ z = false) := Lib.hid (by
          have hn : numR s = none := by
            cases h : numR s with
            | none => rfl
            | some m =>
              obtain ⟨h1, h2, h3⟩ := numR_some h
              have h4 := HN.out
              rw [← h1, atoi_itoa h2 h3] at h4
              injection h4 with h4
              omega
          have := HV.out
          unfold numZ numB at this
          rw [hn] at this
          exact ⟨this.1.symm, this.2.symm⟩)
        subst hds
        by_cases r1 : n ≤ -1000000000
        · clear hr
          go_enter Tryd.func25, Tryd.ntmps25
          go_wp2_with (first
            | (go_at_call 28; refine (atoi_ok D n _ HS.out HN).mono ?_; rintro e w1 ⟨rfl, k1⟩
               have HA1 := Lib.hid (HA.out.next k1)
               have K1 := Lib.hid k1
               clear k1)
            | (go_at_call 29; refine (witoa_is n D _ hb1 hb2 HA1.out.pow HD).mono ?_; rintro e w2 ⟨rfl, k2⟩))
          go_ret2
          rw [E.out.1, E.out.2]
          exact ⟨rfl, K1.out.trans (k2.mono K1.out.size)⟩
        · have r2 : 1000000000 ≤ n := by omega
          clear hr
          go_enter Tryd.func25, Tryd.ntmps25
          go_wp2_with (first
            | (go_at_call 28; refine (atoi_ok D n _ HS.out HN).mono ?_; rintro e w1 ⟨rfl, k1⟩
               have HA1 := Lib.hid (HA.out.next k1)
               have K1 := Lib.hid k1
               clear k1)
            | (go_at_call 29; refine (witoa_is n D _ hb1 hb2 HA1.out.pow HD).mono ?_; rintro e w2 ⟨rfl, k2⟩))
          go_ret2
          rw [E.out.1, E.out.2]
          exact ⟨rfl, K1.out.trans (k2.mono K1.out.size)⟩
    · have E : Hid (v = 0 ∧ z = false) := Lib.hid (by
        have hn : numR s = none := by
          cases h : numR s with
          | none => rfl
          | some m =>
            obtain ⟨h1, h2, h3⟩ := numR_some h
            have h4 := HN.out
            rw [← h1, atoi_itoa h2 h3] at h4
            injection h4 with h4
            exact absurd (by rw [← HD.out, ← h4]; exact h1) hds
        have := HV.out
        unfold numZ numB at this
        rw [hn] at this
        exact ⟨this.1.symm, this.2.symm⟩)
      have hds' : (D == s) = false := by simp [hds]
      clear hds
      go_enter Tryd.func25, Tryd.ntmps25
      go_wp2_with (first
        | (go_at_call 28; refine (atoi_ok s n _ HS.out HN).mono ?_; rintro e w1 ⟨rfl, k1⟩
           have HA1 := Lib.hid (HA.out.next k1)
           have K1 := Lib.hid k1
           clear k1)
        | (go_at_call 29; refine (witoa_is n D _ hb1 hb2 HA1.out.pow HD).mono ?_; rintro e w2 ⟨rfl, k2⟩))
      go_ret2
      rw [E.out.1, E.out.2]
      exact ⟨rfl, K1.out.trans (k2.mono K1.out.size)⟩
end Go.Proofs.YtoegjbhbgnhjdaaDoor
