/- The contracts of cmp.Compare at whole numbers, and of the closure by which firings are put in order. -/
import Derived.Test.YtblamffdlclomaaDoorFrT
import Derived.Test.YtblamffdlclomaaDoorSoH
namespace Go.Proofs.YtblamffdlclomaaDoor
open Go Go.RowKit Go.Sort

def cmpI (a b : Int) : Int := if a < b then -1 else if b < a then 1 else 0
theorem fcmp_is (a b v : Int) (w : World) (hv : cmpI a b = v) : Calls Tryd.prog 21 #[.int .i64 a, .int .i64 b] w fun e w' => e = .returned (.int .i64 v) ∧ w = w' := by
  subst hv
  have NN : ∀ (x : Int) W, Calls Tryd.prog 34 #[.int .i64 x] W fun e w' => e = .returned (.bool false) ∧ W = w' := by
    intro x W
    go_enter Tryd.func34, Tryd.ntmps34
    go_wp2
    go_ret
    exact ⟨by simp, rfl⟩
  unfold cmpI
  rcases Int.lt_trichotomy a b with h | rfl | h
  · rw [if_pos h]
    go_enter Tryd.func21, Tryd.ntmps21
    go_wp2_with (go_at_call 34; refine (NN _ _).mono ?_; (rintro e w1 ⟨rfl, rfl⟩); simp only [])
    go_ret
    exact ⟨rfl, rfl⟩
  · have h1 : ¬ a < a := by omega
    have h2 : ¬ a > a := by omega
    rw [if_neg h1, if_neg h1]
    go_enter Tryd.func21, Tryd.ntmps21
    go_wp2_with (go_at_call 34; refine (NN _ _).mono ?_; (rintro e w1 ⟨rfl, rfl⟩); simp only [])
    go_ret
    exact ⟨rfl, rfl⟩
  · have h1 : ¬ a < b := by omega
    have h2 : a > b := by omega
    rw [if_neg h1, if_pos h]
    go_enter Tryd.func21, Tryd.ntmps21
    go_wp2_with (go_at_call 34; refine (NN _ _).mono ?_; (rintro e w1 ⟨rfl, rfl⟩); simp only [])
    go_ret
    exact ⟨rfl, rfl⟩

def cfF (x y : FV) : Int := cmpI x.nm y.nm
theorem lt_cfF (x y : FV) : ltOf cfF x y = decide (x.nm < y.nm) := by
  unfold ltOf cfF cmpI
  split
  · simp [*]
  · split <;> simp [*]
theorem wordF : WOrd (ltOf cfF) where
  asym a b h := by rw [lt_cfF] at h ⊢; simp at h ⊢; omega
  trans a b c h1 h2 := by rw [lt_cfF] at h1 h2 ⊢; simp at h1 h2 ⊢; omega

theorem fless_is (x y : FV) (w : World) : Calls Tryd.prog 25 #[.agg (cF x).toArray, .agg (cF y).toArray] w fun e w' => e = .returned (.int .i64 (cfF x y)) ∧ ∃ q os, w' = grow (w.drewN q) os := by
  have CM := Lib.hid (fun W => fcmp_is x.nm y.nm _ W rfl)
  have e0 : ((w.alloc (.cells #[.int .i64 x.nm, .int .i64 x.kd, .int .i64 x.sv, .string ⟨x.lt.toArray⟩] 36)).alloc (.cells #[.int .i64 y.nm, .int .i64 y.kd, .int .i64 y.sv, .string ⟨y.lt.toArray⟩] 36)) = grow (w.drewN 0) (#[.cells #[.int .i64 x.nm, .int .i64 x.kd, .int .i64 x.sv, .string ⟨x.lt.toArray⟩] 36] ++ #[.cells #[.int .i64 y.nm, .int .i64 y.kd, .int .i64 y.sv, .string ⟨y.lt.toArray⟩] 36]) := by
    rw [alloc_eq_grow, alloc_eq_grow, grow_grow]; rfl
  have E0 := Lib.hid e0
  clear e0
  unfold cF
  go_enter Tryd.func25, Tryd.ntmps25
  go_wp2_with (go_at_call 21; refine (CM.out _).mono ?_; (rintro e w1 ⟨rfl, rfl⟩); simp only [])
  go_ret
  exact ⟨rfl, 0, _, E0.out⟩
theorem cF_len (x : FV) : (cF x).length = 4 := rfl
theorem cF_one (x : FV) : ∀ v ∈ cF x, v.oneCell' = true := by
  intro v hv
  simp [cF] at hv
  rcases hv with rfl | rfl | rfl | rfl <;> rfl
theorem cmpF_lays (blk off n : Nat) (w : World) : CmpLays Tryd.prog 25 #[] cF 4 cfF blk off n w := fun m os dk _ x y => by
  have := fless_is x y (sortWorldK cF 4 w blk off m dk os)
  simpa using this
theorem sizeF (w : World) : (Go.sizeOf 36).run Tryd.prog w = .ok 4 w := by simp [go_sem]
end Go.Proofs.YtblamffdlclomaaDoor
