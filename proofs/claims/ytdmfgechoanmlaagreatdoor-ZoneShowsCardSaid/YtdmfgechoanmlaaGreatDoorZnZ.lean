/- The contracts of fire.span, fire.summer, and of between: which variables its iterator has. -/
import Derived.Test.YtdmfgechoanmlaaGreatDoorMZI
import Derived.Test.YtdmfgechoanmlaaGreatDoorMZM
import Derived.Test.YtdmfgechoanmlaaGreatDoorMZN
import Derived.Lib.MinMax
namespace Go.Proofs.YtdmfgechoanmlaaGreatDoor
open Go Go.RowKit
attribute [local go_sem] Oper.semAt_some

theorem fmin2 (P : Program) (ty : TypeId) (x y m : Int) (h : min x y = m) (W : World) : (Builtin.min_ #[ty, ty] ty #[.int .i64 x, .int .i64 y]).run P W = .ok (.int .i64 m) W := by
  subst h
  have e1 : (if y < x then y else x) = min x y := by rw [Int.min_def]; split <;> split <;> omega
  simp [Builtin.min_, Builtin.min2, e1]
theorem fmax2 (P : Program) (ty : TypeId) (x y m : Int) (h : max x y = m) (W : World) : (Builtin.max_ #[ty, ty] ty #[.int .i64 x, .int .i64 y]).run P W = .ok (.int .i64 m) W := by
  subst h
  have e1 : (if x < y then y else x) = max x y := by rw [Int.max_def]; split <;> split <;> omega
  simp [Builtin.max_, Builtin.max2, e1]
theorem summer_is (y s : Int) (w : World) (hA : AhAt w) (h1 : -100000 ≤ y) (h2 : y ≤ 100000) (hs : smS y = s) : Calls Tryz.prog 144 #[.int .i64 y] w fun e w' => e = .returned (.int .i64 s) ∧ Below w.heap.size w w' := by
  have ok : okD y 7 1 := ⟨h1, h2, by omega, by omega, by omega, by have := (dim_bd y 7 (by omega) (by omega)).1; omega⟩
  have JN : Hid (Calls Tryz.prog 93 #[.agg #[.int .i64 y, .int .i64 7, .int .i64 1], .int .i64 0] w fun e w' => e = .returned (.tuple #[.int .i64 s, .int .i64 0]) ∧ Below w.heap.size w w') := by
    have h := Join_yes y 7 1 0 w hA ok (by omega) (by omega)
    rw [Int.add_zero] at h
    rw [← hs]; exact h
  clear hA ok h1 h2 hs
  go_enter Tryz.func144, Tryz.ntmps144
  go_wp2_with (first | (go_at_call 93; refine JN.out.mono ?_; rintro e w1 ⟨rfl, k1⟩; simp only []))
  go_ret
  exact ⟨rfl, k1⟩
set_option maxRecDepth 20000 in
set_option maxHeartbeats 1000000 in
theorem span_is (A0 : Option Addr) (n c0 : Nat) (rs : List RV) (a b : Int) (w : World) (hR : RowsAt 11 cR A0 rs w) (hn : rs.length = n) (hn1 : n ≤ 1000) (ha : max (spA rs) (-100000) = a) (hb : min (spB rs) 100000 = b) :
    Calls Tryz.prog 143 #[.slice A0 n c0] w fun e w' => e = .returned (.tuple #[.int .i64 a, .int .i64 b]) ∧ Below w.heap.size w w' := by
  have HR := Lib.hid hR
  have HN := Lib.hid hn
  have HAB := Lib.hid (And.intro ha hb)
  have mixed : Tryz.prog.follows .mixedOrders = true := by kernel_rfl
  clear hR hn ha hb
  go_enter Tryz.func143, Tryz.ntmps143
  go_wp2
  go_loopw [4, 5, 9] (fun v4 v5 vi wr => ∃ i : Nat, vi = .int .i64 i ∧ i ≤ n ∧ v4 = .int .i64 ((rs.take i).foldl (fun m r => min m r.fr) 100001) ∧ v5 = .int .i64 ((rs.take i).foldl (fun m r => max m r.tl) (-100001)) ∧ Below w.heap.size w wr) (fun _ _ vi _ => n - (intOf vi).toNat)
  case atStart => exact ⟨0, rfl, Nat.zero_le _, rfl, rfl, Below.refl _ _⟩
  case round =>
    obtain ⟨i, rfl, hi, rfl, rfl, hb⟩ := hrel
    have HB := Lib.hid hb
    clear hb
    obtain ⟨m, hm⟩ : ∃ m, (rs.take i).foldl (fun m r => min m r.fr) 100001 = m := ⟨_, rfl⟩
    obtain ⟨M, hM⟩ : ∃ M, (rs.take i).foldl (fun m r => max m r.tl) (-100001) = M := ⟨_, rfl⟩
    simp only [hm, hM]
    have HM := Lib.hid (And.intro hm hM)
    clear hm hM
    by_cases hlt : i < n
    · have hltz : (i : Int) < (n : Int) := by omega
      obtain ⟨r, hr⟩ : ∃ r, rs[i]? = some r := ⟨_, List.getElem?_eq_getElem (by rw [HN.out]; exact hlt)⟩
      obtain ⟨L, off, rfl, hrul⟩ := rul_at HR.out hr
      obtain ⟨-, r1, r2, -⟩ := (hrul.next HB.out).cells
      have q1 := fmin2 Tryz.prog 3 m r.fr _ rfl
      have q2 := fmax2 Tryz.prog 3 M r.tl _ rfl
      have d1 := fun y : Bel wr => (y.k.cell (p := ⟨L, off + i * 11 + 1, none⟩) (cell_lt r1)).trans r1
      have d2 := fun y : Bel wr => (y.k.cell (p := ⟨L, off + i * 11 + 2, none⟩) (cell_lt r2)).trans r2
      have e1 : (rs.take (i + 1)).foldl (fun m r => min m r.fr) 100001 = min m r.fr ∧ (rs.take (i + 1)).foldl (fun m r => max m r.tl) (-100001) = max M r.tl := by
        have h := List.getElem?_eq_some_iff.1 hr
        rw [List.take_succ_eq_append_getElem h.1, h.2, List.foldl_append, List.foldl_append, HM.out.1, HM.out.2]
        exact ⟨rfl, rfl⟩
      have E1 := Lib.hid e1
      clear hrul hr r1 r2 e1
      go_wp2_with fail
      refine region_bel mixed (by kernel_rfl) ?_
      repeat (quiet_step ((fail)))
      refine wpQuiet_nil ?_
      rintro w6 ⟨x6, hx6⟩
      have k6 : Below wr.heap.size wr w6 := hx6 ▸ x6.k
      have K6 := Lib.hid (HB.out.trans (k6.mono HB.out.size))
      clear hx6 x6 k6 d1 d2
      go_wp2
      go_roundw
      case rel => exact ⟨i + 1, by go_num, by omega, by rw [E1.out.1], by rw [E1.out.2], K6.out⟩
      case measure => simp [intOf]; omega
    · obtain rfl : i = n := by omega
      have hltz : ¬ (i : Int) < (i : Int) := by omega
      have e0 : rs.take i = rs := List.take_of_length_le (by rw [HN.out]; exact Nat.le_refl _)
      have ea : max m (-100000) = a := by have := HM.out.1; rw [e0] at this; rw [← this]; exact HAB.out.1
      have eb : min M 100000 = b := by have := HM.out.2; rw [e0] at this; rw [← this]; exact HAB.out.2
      have q1 := fmax2 Tryz.prog 3 m (-100000) a ea
      have q2 := fmin2 Tryz.prog 3 M 100000 b eb
      clear ea eb e0
      go_wp2
      go_ret2
      exact ⟨rfl, HB.out⟩
end Go.Proofs.YtdmfgechoanmlaaGreatDoor
