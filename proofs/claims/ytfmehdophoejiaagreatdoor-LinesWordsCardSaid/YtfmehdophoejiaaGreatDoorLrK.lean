/- The contracts of the reference's kind, number and off: which word tells a kind, a year, an offset; nothing that was in memory changes. -/
import Derived.Test.YtfmehdophoejiaaGreatDoorMO
import Derived.Test.YtfmehdophoejiaaGreatDoorMN
import Derived.Test.YtfmehdophoejiaaGreatDoorMC
import Derived.Test.YtfmehdophoejiaaGreatDoorMF
import Derived.Test.YtfmehdophoejiaaGreatDoorMR
namespace Go.Proofs.YtfmehdophoejiaaGreatDoor
open Go Go.RowKit

theorem want_iff {s : List UInt8} {k : Nat} : wantZ (findL (low s) kindsL) = (k : Int) ↔ findL (low s) kindsL = some k := by
  unfold wantZ
  cases findL (low s) kindsL with
  | none => simp
  | some p => simp; omega
theorem kinds_100 : ∀ p ∈ kindsL, p.length ≤ 100 := by decide
theorem months_100 : ∀ p ∈ monthsL, p.length ≤ 100 := by decide
theorem ends_100 : ∀ p ∈ endsL, p.length ≤ 100 := by decide
set_option maxHeartbeats 800000 in
theorem rkind_is (s : List UInt8) (k : Nat) (v : Bool) (w : World) (hs : s.length ≤ 100) (hk : k ≤ 2) (hv : Hid (decide (knE k s = 0) = v)) :
    Calls Tryz.prog 60 #[.string ⟨s.toArray⟩, .int .i64 ((k : Int) + 1)] w fun e w' => e = .returned (.bool v) ∧ Below w.heap.size w w' := by
  obtain ⟨f, hf⟩ : ∃ f, wantZ (findL (low s) kindsL) = f := ⟨_, rfl⟩
  have HF := Lib.hid hf
  have E : Hid ((f == (k : Int)) = v) := Lib.hid (by
    rw [← hv.out, ← hf]
    unfold knE
    by_cases h : findL (low s) kindsL = some k
    · rw [if_pos h, want_iff.2 h]; simp
    · rw [if_neg h]
      have : ¬ wantZ (findL (low s) kindsL) = (k : Int) := fun c => h (want_iff.1 c)
      simp [this])
  have sub : ((k : Int) + 1 - 1) = (k : Int) := by omega
  have e := E.out
  clear hf hv
  go_enter Tryz.func60, Tryz.ntmps60
  go_wp2_with (first
    | (go_at_call 97; refine (rkinds_any _).mono ?_; rintro e w1 ⟨L, rfl, hL1, hL2, k1⟩
       have HL := Lib.hid hL2
       have K1 := Lib.hid k1
       clear hL1 hL2 k1
       simp only [])
    | (go_at_call 62; refine (rfind_is s kindsL L 3 f _ hs rfl (by omega) kinds_100 HL.out HF).mono ?_; rintro e w2 ⟨rfl, k2⟩
       have K2 := Lib.hid (bthen K1.out k2)
       clear k2
       simp only []))
  go_ret
  exact ⟨by first | rfl | rw [E.out], K2.out⟩

def nrV (s : List UInt8) : Int := if numB s = true ∧ 1 ≤ numZ s ∧ numZ s ≤ 4000 then numZ s else 0
def nrE (s : List UInt8) : Int := if numB s = true then (if 1 ≤ numZ s ∧ numZ s ≤ 4000 then 0 else 10) else 12
theorem nr_ends {s : List UInt8} {p : Nat} (h : findL (low s) endsL = some p) : numB s = false := by
  unfold numB
  cases e : numR s with
  | none => rfl
  | some v =>
    rw [← (numR_some e).1, itoa_ends] at h
    cases h
theorem yr_nr (s : List UInt8) : yrV s = nrV s ∧ yrE s = nrE s := by
  unfold yrV yrE nrV nrE yearV yearE
  cases h : findL (low s) endsL with
  | none => exact ⟨rfl, rfl⟩
  | some p =>
    have := nr_ends h
    simp [this]
theorem rnumber_is (s : List UInt8) (v e0 : Int) (w : World) (hs : s.length ≤ 1000) (hv : Hid (nrV s = v ∧ nrE s = e0)) :
    Calls Tryz.prog 61 #[.string ⟨s.toArray⟩] w fun e w' => e = .returned (.tuple #[.int .i64 v, .int .i64 e0]) ∧ w = w' := by
  obtain ⟨h1, h2⟩ := hv.out
  obtain ⟨n, hn⟩ : ∃ n, numZ s = n := ⟨_, rfl⟩
  unfold nrV at h1
  unfold nrE at h2
  rw [hn] at h1 h2
  clear hv
  cases hb : numB s with
  | false =>
    have HN : Hid (numZ s = n ∧ numB s = false) := Lib.hid ⟨hn, hb⟩
    rw [hb] at h1 h2
    obtain rfl : 0 = v := by simpa using h1
    obtain rfl : 12 = e0 := by simpa using h2
    clear h1 h2 hn hb
    go_enter Tryz.func61, Tryz.ntmps61
    go_wp2_with (go_at_call 98; refine (rnum_is s n false _ hs HN).mono ?_; rintro e w1 ⟨rfl, rfl⟩; simp only [])
    go_ret2
    exact ⟨rfl, by first | rfl | trivial⟩
  | true =>
    have HN : Hid (numZ s = n ∧ numB s = true) := Lib.hid ⟨hn, hb⟩
    rw [hb] at h1 h2
    by_cases c1 : n < 1
    · obtain rfl : 0 = v := by rw [if_neg (by omega)] at h1; exact h1
      obtain rfl : 10 = e0 := by rw [if_pos rfl, if_neg (by omega)] at h2; exact h2
      clear h1 h2 hn hb
      go_enter Tryz.func61, Tryz.ntmps61
      go_wp2_with (go_at_call 98; refine (rnum_is s n true _ hs HN).mono ?_; rintro e w1 ⟨rfl, rfl⟩; simp only [])
      go_ret2
      exact ⟨rfl, by first | rfl | trivial⟩
    · by_cases c2 : 4000 < n
      · obtain rfl : 0 = v := by rw [if_neg (by omega)] at h1; exact h1
        obtain rfl : 10 = e0 := by rw [if_pos rfl, if_neg (by omega)] at h2; exact h2
        clear h1 h2 hn hb
        go_enter Tryz.func61, Tryz.ntmps61
        go_wp2_with (go_at_call 98; refine (rnum_is s n true _ hs HN).mono ?_; rintro e w1 ⟨rfl, rfl⟩; simp only [])
        go_ret2
        exact ⟨rfl, by first | rfl | trivial⟩
      · obtain rfl : n = v := by rw [if_pos ⟨rfl, by omega, by omega⟩] at h1; exact h1
        obtain rfl : 0 = e0 := by rw [if_pos rfl, if_pos ⟨by omega, by omega⟩] at h2; exact h2
        clear h1 h2 hn hb
        go_enter Tryz.func61, Tryz.ntmps61
        go_wp2_with (go_at_call 98; refine (rnum_is s n true _ hs HN).mono ?_; rintro e w1 ⟨rfl, rfl⟩; simp only [])
        go_ret2
        exact ⟨rfl, by first | rfl | trivial⟩
theorem roff_is (s : List UInt8) (v e0 : Int) (w : World) (hs : s.length ≤ 900) (hv : Hid (ofV s = v ∧ ofE s = e0)) :
    Calls Tryz.prog 66 #[.string ⟨s.toArray⟩] w fun e w' => e = .returned (.tuple #[.int .i64 v, .int .i64 e0]) ∧ Below w.heap.size w w' := by
  obtain ⟨h1, h2⟩ := hv.out
  obtain ⟨n, hn⟩ : ∃ n, spanN s = n := ⟨_, rfl⟩
  obtain ⟨x, hx⟩ : ∃ x, spanE s = x := ⟨_, rfl⟩
  have HS : Hid (spanN s = n ∧ spanE s = x) := Lib.hid ⟨hn, hx⟩
  clear hv
  rcases of_cases s with ⟨a1, a2, a3, a4, a5⟩ | ⟨a1, a2, a4, a5⟩ | ⟨a1, a4, a5⟩
  · obtain rfl : n = v := by rw [← hn, ← a4, h1]
    obtain rfl : 0 = e0 := by rw [← a5, h2]
    obtain rfl : 0 = x := by rw [← hx, a1]
    rw [hn] at a2 a3
    have b1 : ¬ (90000 : Int) ≤ n := by omega
    have b2 : ¬ n ≤ (-90000 : Int) := by omega
    clear h1 h2 hn hx a1 a2 a3 a4 a5
    go_enter Tryz.func66, Tryz.ntmps66
    go_wp2_with (go_at_call 102; refine (rspan_is s n 0 _ hs HS).mono ?_; rintro e w1 ⟨rfl, k1⟩; have K1 := Lib.hid k1; clear k1; simp only [])
    go_ret2
    exact ⟨rfl, K1.out⟩
  · obtain rfl : 0 = v := by rw [← a4, h1]
    obtain rfl : 10 = e0 := by rw [← a5, h2]
    obtain rfl : 0 = x := by rw [← hx, a1]
    rw [hn] at a2
    by_cases b : (90000 : Int) ≤ n
    · clear h1 h2 hn hx a1 a2 a4 a5
      go_enter Tryz.func66, Tryz.ntmps66
      go_wp2_with (go_at_call 102; refine (rspan_is s n 0 _ hs HS).mono ?_; rintro e w1 ⟨rfl, k1⟩; have K1 := Lib.hid k1; clear k1; simp only [])
      go_ret2
      exact ⟨rfl, K1.out⟩
    · have b2 : n ≤ (-90000 : Int) := by omega
      clear h1 h2 hn hx a1 a2 a4 a5
      go_enter Tryz.func66, Tryz.ntmps66
      go_wp2_with (go_at_call 102; refine (rspan_is s n 0 _ hs HS).mono ?_; rintro e w1 ⟨rfl, k1⟩; have K1 := Lib.hid k1; clear k1; simp only [])
      go_ret2
      exact ⟨rfl, K1.out⟩
  · obtain rfl : n = v := by rw [← hn, ← a4, h1]
    obtain rfl : x = e0 := by rw [← hx, ← a5, h2]
    have hx0 : (x == 0) = false := by rw [← hx]; simpa using a1
    clear h1 h2 hn hx a1 a4 a5
    go_enter Tryz.func66, Tryz.ntmps66
    go_wp2_with (go_at_call 102; refine (rspan_is s n x _ hs HS).mono ?_; rintro e w1 ⟨rfl, k1⟩; have K1 := Lib.hid k1; clear k1; simp only [])
    go_ret2
    exact ⟨rfl, K1.out⟩
theorem rpars_is (s : List UInt8) (n k x : Int) (w : World) (hs : s.length ≤ 900) (h : Hid (parN s = n ∧ parK s = k ∧ parE s = x)) :
    Calls Tryz.prog 65 #[.string ⟨s.toArray⟩] w fun e w' => e = .returned (.tuple #[.agg #[.int .i64 n, .int .i64 k], .int .i64 x]) ∧ Below w.heap.size w w' := by
  obtain ⟨rfl, rfl, rfl⟩ := h.out
  exact rparse_any s w hs
end Go.Proofs.YtfmehdophoejiaaGreatDoor
