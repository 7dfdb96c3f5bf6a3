/- The contract of meridianlaw03's awake: it returns true; nothing that was in memory changes. The tables read as they are laid; internal/bytealg.MaxLen holds some number. -/
import Derived.Test.YtjafbopmedbhcaaDoorTxt
import Derived.Test.YtjafbopmedbhcaaDoorSpa
namespace Go.Proofs.YtjafbopmedbhcaaDoor
open Go.RowKit

/-- The tables read as they are laid. -/
structure Laid3 (w : World) : Prop where
  ah : AhAt w
  pow : PowAt w
  fld : FldAt w
  let_ : LetAt w
  mx : MaxAt w
theorem Laid3.next {w w' : World} (h : Laid3 w) (k : Below w.heap.size w w') : Laid3 w' := ⟨h.ah.next k, h.pow.next k, h.fld.next k, h.let_.next k, h.mx.next k⟩

theorem ok_ex70 : okD 1970 1 2 := by unfold okD; decide
theorem join_ex (w : World) (h : Laid3 w) : Calls Tryd.prog 9 #[.agg #[.int .i64 1970, .int .i64 1, .int .i64 2], .int .i64 (-1)] w fun e w' => e = .returned (.tuple #[.int .i64 86399, .int .i64 0]) ∧ Below w.heap.size w w' := by
  have := Join_yes 1970 1 2 (-1) w h.ah ok_ex70 (by omega) (by omega)
  rwa [show dayN 1970 1 2 * 86400 + -1 = 86399 by decide] at this
theorem textL_ex : textL (-5400) = [45, 49, 58, 51, 48] := by
  unfold textL textN hms
  rw [show (-5400 : Int).natAbs = 5400 from rfl, show 5400 / 3600 = 1 from rfl, show 5400 % 3600 / 60 = 30 from rfl, show 5400 % 60 = 0 from rfl, pd_step (by omega), pd_step (l := 2) (by omega), show (1 : Nat) / 10 = 0 from rfl, show 1 - 1 = 0 from rfl, pd_nil, show 30 / 10 = 3 from rfl, pd_step (by omega), show 3 / 10 = 0 from rfl, show 2 - 1 - 1 = 0 from rfl, pd_nil]
  decide
theorem text_ex (w : World) (h : Laid3 w) : Calls Tryd.prog 17 #[.int .i64 (-5400)] w fun e w' => e = .returned (.tuple #[.string ⟨#[45, 49, 58, 51, 48]⟩, .int .i64 0]) ∧ Below w.heap.size w w' := by
  have := text_yes (-5400) w h.pow (by omega) (by omega)
  rwa [textL_ex] at this
theorem par_ex : parN [50, 58, 48, 48, 115] = 7200 ∧ parK [50, 58, 48, 48, 115] = 1 ∧ parE [50, 58, 48, 48, 115] = 0 := by
  have j : kJ [50, 58, 48, 48, 115] = 1 := by decide
  have e1 : kS [50, 58, 48, 48, 115] = [50, 58, 48, 48] := by rw [kS, j]; rfl
  have e2 : kN [50, 58, 48, 48, 115] = 1 := by rw [kN, j]; rfl
  have t : Lib.trimPrefix ([50, 58, 48, 48] : List UInt8) [45] = [50, 58, 48, 48] := by decide
  have hp : Lib.hasPrefix ([50, 58, 48, 48] : List UInt8) [45] = false := by decide
  have r : readOk [50, 58, 48, 48] = true := by decide
  have v : readV [50, 58, 48, 48] = 7200 := by decide
  have := span_pos (s := [50, 58, 48, 48]) (by decide) (by rw [t]; exact r) (by rw [t, v]; omega) hp
  rw [t, v] at this
  rw [parN, parK, parE, e1, e2, this.1, this.2]
  exact ⟨rfl, rfl, rfl⟩
theorem parse_ex (w : World) (h : Laid3 w) : Calls Tryd.prog 22 #[.string ⟨#[50, 58, 48, 48, 115]⟩] w fun e w' => e = .returned (.tuple #[.agg #[.int .i64 7200, .int .i64 1], .int .i64 0]) ∧ Below w.heap.size w w' := by
  have := parse_any [50, 58, 48, 48, 115] w (by simp) h.mx h.fld h.let_
  rwa [par_ex.1, par_ex.2.1, par_ex.2.2] at this

set_option maxHeartbeats 800000 in
theorem awake_yes (w : World) (h : Laid3 w) :
    Calls Tryd.prog 16 #[] w fun e w' => e = .returned (.bool true) ∧ Below w.heap.size w w' := by
  have H := Lib.hid h
  clear h
  go_enter Tryd.func16, Tryd.ntmps16
  go_wp2_with (first
    | (go_at_call 9; refine (join_ex _ H.out).mono ?_; rintro e w1 ⟨rfl, k1⟩; simp only []
       have K1 := Lib.hid k1
       clear k1)
    | (go_at_call 17; refine (text_ex _ (H.out.next K1.out)).mono ?_; rintro e w2 ⟨rfl, k2⟩; simp only []
       have K2 := Lib.hid (K1.out.trans (k2.mono K1.out.size))
       clear k2 K1)
    | (go_at_call 22; refine (parse_ex _ (H.out.next K2.out)).mono ?_; rintro e w3 ⟨rfl, k3⟩; simp only []
       have K3 := Lib.hid (K2.out.trans (k3.mono K2.out.size))
       clear k3 K2))
  go_ret
  exact ⟨rfl, K3.out.alloc K3.out.size _⟩
end Go.Proofs.YtjafbopmedbhcaaDoor
