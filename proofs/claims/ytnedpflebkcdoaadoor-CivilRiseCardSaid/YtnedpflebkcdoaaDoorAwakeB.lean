/- The contract of meridianlaw02's awake: it returns true; nothing that was in memory changes. The tables of days ahead of months and of powers of ten read as they are laid. -/
import Derived.Test.YtnedpflebkcdoaaDoorPrC
namespace Go.Proofs.YtnedpflebkcdoaaDoor
open Go.RowKit

/-- The two tables read as they are laid. -/
structure Laid2 (w : World) : Prop where
  ah : AhAt w
  pow : PowAt w
theorem Laid2.next {w w' : World} (h : Laid2 w) (k : Below w.heap.size w w') : Laid2 w' := ⟨h.ah.next k, h.pow.next k⟩

theorem ok_ex1 : okD 2000 3 1 := by unfold okD; decide
theorem ok_ex2 : okD 1969 12 31 := by unfold okD; decide
theorem ok_ex3 : okD (-5) 3 9 := by unfold okD; decide

theorem days_ex (w : World) (h : Laid2 w) : Calls Tryd.prog 16 #[.agg #[.int .i64 2000, .int .i64 3, .int .i64 1]] w fun e w' => e = .returned (.tuple #[.int .i64 11017, .int .i64 0]) ∧ Below w.heap.size w w' := by
  have := Days_yes 2000 3 1 w h.ah ok_ex1
  rw [show dayN 2000 3 1 = 11017 by decide] at this; exact this
theorem of_ex (w : World) (h : Laid2 w) : Calls Tryd.prog 18 #[.int .i64 (-1)] w fun e w' => e = .returned (.tuple #[.agg #[.int .i64 1969, .int .i64 12, .int .i64 31], .int .i64 0]) ∧ Below w.heap.size w w' := by
  refine (Of_yes (-1) w h.ah (by omega) (by omega)).mono ?_
  rintro e w' ⟨y, m, d, ho, hd, rfl, k⟩
  obtain ⟨rfl, rfl, rfl⟩ := day_inj ho ok_ex2 (hd.trans (by decide))
  exact ⟨rfl, k⟩
theorem dateL_ex : dateL (-5) 3 9 = [45, 48, 48, 48, 53, 45, 48, 51, 45, 48, 57] := by
  unfold dateL
  rw [show (-5 : Int).natAbs = 5 from rfl, show (3 : Int).toNat = 3 from rfl, show (9 : Int).toNat = 9 from rfl, pd_dec 5 4 (by omega), pd_dec 3 2 (by omega), pd_dec 9 2 (by omega), Lib.decDigits_one (by omega), Lib.decDigits_one (by omega), Lib.decDigits_one (by omega)]
  rfl
theorem print_ex (w : World) (h : Laid2 w) : Calls Tryd.prog 20 #[.agg #[.int .i64 (-5), .int .i64 3, .int .i64 9]] w fun e w' => e = .returned (.tuple #[.string ⟨#[45, 48, 48, 48, 53, 45, 48, 51, 45, 48, 57]⟩, .int .i64 0]) ∧ Below w.heap.size w w' := by
  have := Print_yes (-5) 3 9 w h.ah h.pow ok_ex3
  rw [dateL_ex] at this; exact this
theorem week_ex (w : World) : Calls Tryd.prog 21 #[.int .i64 0] w fun e w' => e = .returned (.int .i64 4) ∧ w = w' := weekday_any 0 w (by omega) (by omega)

set_option maxHeartbeats 800000 in
theorem awake_yes (w : World) (h : Laid2 w) :
    Calls Tryd.prog 14 #[] w fun e w' => e = .returned (.bool true) ∧ Below w.heap.size w w' := by
  have H := Lib.hid h
  clear h
  go_enter Tryd.func14, Tryd.ntmps14
  go_wp2_with (first
    | (go_at_call 16; refine (days_ex _ H.out).mono ?_; rintro e w1 ⟨rfl, k1⟩
       have K1 := Lib.hid k1
       clear k1)
    | (go_at_call 18; refine (of_ex _ (H.out.next K1.out)).mono ?_; rintro e w2 ⟨rfl, k2⟩
       have K2 := Lib.hid (K1.out.trans (k2.mono K1.out.size))
       clear k2 K1)
    | (go_at_call 20
       have K3 := Lib.hid (K2.out.alloc K2.out.size (.cells #[.int .i64 1969, .int .i64 12, .int .i64 31] 23))
       refine (print_ex _ (H.out.next K3.out)).mono ?_; rintro e w3 ⟨rfl, k3⟩
       have K4 := Lib.hid (K3.out.trans (k3.mono K3.out.size))
       have c0 : w3.cell? ⟨w2.heap.size, 0, none⟩ = some (.int .i64 1969) := by rw [k3.cell (by simp)]; simp
       have c1 : w3.cell? ⟨w2.heap.size, 1, none⟩ = some (.int .i64 12) := by rw [k3.cell (by simp)]; simp
       have c2 : w3.cell? ⟨w2.heap.size, 2, none⟩ = some (.int .i64 31) := by rw [k3.cell (by simp)]; simp
       clear k3 K3 K2)
    | (go_at_call 21; refine (week_ex _).mono ?_; rintro e w4 ⟨rfl, rfl⟩))
  go_ret
  exact ⟨rfl, K4.out⟩
end Go.Proofs.YtnedpflebkcdoaaDoor
