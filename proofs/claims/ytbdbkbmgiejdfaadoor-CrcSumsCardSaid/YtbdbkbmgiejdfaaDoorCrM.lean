/- For every bytes and every place the law CrcSums returns true, and nothing that was in memory changes. -/
import Derived.Deep.RegionHeld3
import Derived.Test.YtbdbkbmgiejdfaaDoorCrC
import Derived.Test.YtbdbkbmgiejdfaaDoorCrR
namespace Go.Proofs.YtbdbkbmgiejdfaaDoor
open Go.RowKit
attribute [local go_sem] Oper.semAt_some

theorem take_run (a : Option Addr) (n c k : Nat) (h : k ≤ c) (W : World) : (Instr.slice 22 (.slice a n c) none (some (.int .i64 (k : Int))) none).run Tryd.prog W = .ok (.slice (sh a c 0) k c) W := by
  have e : Tryd.prog.elem 22 = 5 := by kernel_rfl
  have hs : (sizeOf 5).run Tryd.prog W = .ok 1 W := by kernel_rfl
  rw [run_slice_h W 22 a n c (by rw [e]; exact Tryd.underlying22) .i64 k (by omega) (by omega), e, hs]
  simp [Result.andThen, sliced, sh]

/-- One row, behind a draw. -/
theorem sum_drew (A : Option Addr) (c n v : Nat) (l : List UInt8) (W : World) (g : Nat) (hg : W.heap.size = g) (hT : FoAt W) (hy : By W A l) (h : Hid (l.length = n ∧ n ≤ 100000 ∧ su l = v)) :
    Calls Tryd.prog 11 #[.slice (some ⟨g, 0, none⟩) 1 1] (W.alloc (.cells #[.slice A n c] 22)).drew fun e w' => e = .returned (.int .i64 (v : Int)) ∧ Below W.heap.size W w' := by
  subst hg
  have ha : Below W.heap.size W (W.alloc (.cells #[.slice A n c] 22)).drew := ((Below.refl _ _).alloc (Nat.le_refl _) _).drew
  refine (sum_any (some ⟨W.heap.size, 0, none⟩) 1 1 v [l] (W.alloc (.cells #[.slice A n c] 22)).drew (hT.next ha) ((Rows2.new [l] #[.slice A n c] ?_).next (Below.refl _ _).drew) rfl (by omega) ?_ ?_).mono fun e w' ⟨he, hb⟩ => ⟨he, ha.trans (hb.mono ha.size)⟩
  · intro k hk
    obtain rfl : k = 0 := by simpa using hk
    exact ⟨A, c, by rw [← h.out.1]; rfl, hy⟩
  · intro r hr
    obtain rfl : r = l := by simpa using hr
    have := h.out; omega
  · exact Lib.hid (by simpa using h.out.2.2)

set_option maxRecDepth 20000 in
set_option maxHeartbeats 2000000 in
theorem sums_main (a : Option Addr) (ca n k : Nat) (l : List UInt8) (w : World) (hT : FoAt w) (hy : By w a l) (hn : l.length = n) (hl : n ≤ 600) (hk : k ≤ n) (hc : n ≤ ca) :
    Calls Tryd.prog 3 #[.slice a n ca, .int .i64 (k : Int)] w fun e w' => e = .returned (.bool true) ∧ Below w.heap.size w w' := by
  have HT := Lib.hid hT
  have HY := Lib.hid hy
  have HN := Lib.hid hn
  obtain ⟨x, hx⟩ : ∃ x, su l = x := ⟨_, rfl⟩
  have HX := Lib.hid hx
  have H1 : Hid (l.length = n ∧ n ≤ 100000 ∧ su l = x) := Lib.hid ⟨hn, by omega, hx⟩
  have hs : ∀ W, (Instr.slice 22 (.slice a n ca) none (some (.int .i64 (k : Int))) none).run Tryd.prog W =   .ok (.slice (sh a ca 0) k ca) W := fun W => take_run a n ca k (by omega) W
  have ht : ∀ W, (Instr.slice 22 (.slice a n ca) (some (.int .i64 (k : Int))) none none).run Tryd.prog W = .ok (.slice (sh a ca k) (n - k) (ca - k)) W := fun W => bdrop_run a n ca k hk W
  have H2 : Hid ((l.take k).length = k ∧ (l.drop k).length = n - k ∧ k ≤ 100000 ∧ n - k ≤ 100000 ∧ su (l.take k ++ l.drop k) = x) := Lib.hid ⟨by rw [List.length_take, hn]; omega, by rw [List.length_drop, hn], by omega, by omega, by rw [List.take_append_drop]; exact hx⟩
  have H3 : Hid (([] : List UInt8).length = 0 ∧ l.length = n ∧ 0 ≤ 100000 ∧ n ≤ 100000 ∧ su ([] ++ l) = x) := Lib.hid ⟨rfl, hn, by omega, by omega, hx⟩
  have YA : Hid (∀ W, By W a l → By W (sh a ca 0) (l.take k)) := Lib.hid fun W h => (h.drop (c := ca) (k := 0) (by rw [hn]; exact hc)).take k
  have YB : Hid (∀ W, By W a l → By W (sh a ca k) (l.drop k)) := Lib.hid fun W h => h.drop (by rw [hn]; exact hc)
  clear hT hy hn hx
  go_enter Tryd.func3, Tryd.ntmps3
  go_wp2_with (first
    | (go_at_call 10; (with_reducible refine (rsum_any a ca n x l _ HY.out HN.out (by omega) HX).mono ?_); rintro e w1 ⟨rfl, k1⟩
       have B1 := Lib.hid k1
       clear k1
       simp only []))
  go_region_held3 (fun _ => True) (exact trivial) (first
    | (go_at_call 11; (with_reducible refine (sum_drew a ca n x l _ _ (by simp) (HT.out.next B1.out) (HY.out.next B1.out) H1).mono ?_); rintro e w2 ⟨rfl, k2⟩
       have B2 := Lib.hid (B1.out.trans (k2.mono B1.out.size))
       clear k2
       simp only [])
    | (go_at_call 11; (with_reducible refine (sum_two (sh a ca 0) (sh a ca k) ca (ca - k) k (n - k) x (l.take k) (l.drop k) _ _ (by simp) (HT.out.next B2.out) (YA.out _ (HY.out.next B2.out)) (YB.out _ (HY.out.next B2.out)) H2).mono ?_); rintro e w3 ⟨rfl, k3⟩
       have B3 := Lib.hid (B2.out.trans (k3.mono B2.out.size))
       clear k3
       simp only [])
    | (go_at_call 11; (with_reducible refine (sum_two none a 0 ca 0 n x [] l _ _ (by simp) (HT.out.next B3.out) (By.nil _ _) (HY.out.next B3.out) H3).mono ?_); rintro e w4 ⟨rfl, k4⟩
       have B4 := Lib.hid (B3.out.trans (k4.mono B3.out.size))
       clear k4
       simp only [])
    | (go_at_call 9; refine (cawake_yes _ (HT.out.next B4.out)).mono ?_; rintro e w5 ⟨rfl, k5⟩
       have B5 := Lib.hid (B4.out.trans (k5.mono B4.out.size))
       clear k5
       simp only [])
    | (go_at_call 11; trace_state; fail))
  all_goals go_wp2
  all_goals go_ret
  all_goals exact ⟨rfl, B5.out⟩

set_option maxRecDepth 20000 in
set_option maxHeartbeats 2000000 in
theorem crcSums_walk (a : Option Addr) (ca : Nat) (l : List UInt8) (at' : Int) (w : World) (hT : FoAt w) (hc : l.length ≤ ca) (hy : By w a l) (a1 : -9223372036854775808 ≤ at') (a2 : at' ≤ 9223372036854775807) :
    Calls Tryd.prog 3 #[.slice a l.length ca, .int .i64 at'] w fun e w' => e = .returned (.bool true) ∧ Below w.heap.size w w' := by
  have HT := Lib.hid hT
  obtain ⟨n, hn⟩ : ∃ n, l.length = n := ⟨_, rfl⟩
  rw [hn] at hc ⊢
  by_cases hl : 600 < n ∨ at' < 0 ∨ (n : Int) < at'
  · clear hT hy hn hc
    by_cases h1 : 600 < n
    · go_enter Tryd.func3, Tryd.ntmps3
      go_wp2_with (go_at_call 9; refine (cawake_yes _ HT.out).mono ?_; rintro e w1 ⟨rfl, k1⟩; simp only [])
      go_ret
      exact ⟨rfl, k1⟩
    · have h2 : n ≤ 600 := by omega
      have h3 : at' < 0 ∨ (n : Int) < at' := by omega
      clear hl h1
      rcases h3 with h3 | h3
      all_goals
        go_enter Tryd.func3, Tryd.ntmps3
        go_wp2_with (go_at_call 9; refine (cawake_yes _ HT.out).mono ?_; rintro e w1 ⟨rfl, k1⟩; simp only [])
        all_goals
          go_ret
          exact ⟨rfl, k1⟩
  · obtain ⟨k, rfl⟩ : ∃ k : Nat, at' = (k : Int) := ⟨at'.toNat, by omega⟩
    exact sums_main a ca n k l w hT hy hn (by omega) (by omega) hc
end Go.Proofs.YtbdbkbmgiejdfaaDoor
