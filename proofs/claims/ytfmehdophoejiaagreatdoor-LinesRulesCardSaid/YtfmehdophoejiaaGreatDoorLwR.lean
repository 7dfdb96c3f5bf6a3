/- The walk of LinesRules: for all words it returns true, and nothing that was in memory changes. Written by wip/tools/genlwr.py. -/
import Derived.Test.YtfmehdophoejiaaGreatDoorLrU
namespace Go.Proofs.YtfmehdophoejiaaGreatDoor
open Go Go.RowKit

set_option maxRecDepth 20000 in
set_option maxHeartbeats 3200000 in
theorem linesRules_many (A : Option Addr) (n c : Nat) (ws : List (List UInt8)) (w : World) (H : LaidL w) (hn : ws.length = n) (hm : n ≤ maxLen) (_ : n ≤ c) (hW : ArgW A ws w) (HF : Hid (fewB ws = false)) :
    Calls Tryz.prog 4 #[.slice A n c] w fun e w' => e = .returned (.bool true) ∧ Below w.heap.size w w' := by
  have HA := Lib.hid H
  have HN := Lib.hid hn
  have HW := Lib.hid hW
  have HMX : Hid (n ≤ 9223372036854775807) := Lib.hid hm
  clear H hn hW hm
  go_enter Tryz.func4, Tryz.ntmps4
  go_wp2_with (first
    | (go_at_call 18; refine (few_is A n c ws false _ HN.out HMX.out HW.out HF).mono ?_; rintro e w0 ⟨rfl, rfl⟩; simp only [])
    | (go_at_call 10; refine (lawake_any _ HA.out).mono ?_; rintro e w1 ⟨rfl, k1⟩; have K1 := Lib.hid k1; clear k1; simp only []))
  go_ret
  exact ⟨rfl, K1.out⟩
set_option maxRecDepth 20000 in
set_option maxHeartbeats 3200000 in
theorem linesRules_few (A : Option Addr) (n c : Nat) (ws : List (List UInt8)) (w : World) (H : LaidL w) (hn : ws.length = n) (hm : n ≤ maxLen) (_ : n ≤ c) (hW : ArgW A ws w) (HF : Hid (fewB ws = true)) :
    Calls Tryz.prog 4 #[.slice A n c] w fun e w' => e = .returned (.bool true) ∧ Below w.heap.size w w' := by
  have HA := Lib.hid H
  have HN := Lib.hid hn
  have HW := Lib.hid hW
  have HMX : Hid (n ≤ 9223372036854775807) := Lib.hid hm
  clear H hn hW hm
  have HL1 : Hid (∀ p ∈ ws, p.length ≤ 100) := Lib.hid fun p hp => Nat.le_trans ((few_yes HF.out).1 p hp) (by omega)
  have HL5 : Hid (∀ p ∈ ws, p.length ≤ 500) := Lib.hid fun p hp => Nat.le_trans ((few_yes HF.out).1 p hp) (by omega)
  obtain ⟨r, hr⟩ : ∃ r, rlS ws = r := ⟨_, rfl⟩
  obtain ⟨v, hv⟩ : ∃ v, rlX ws = v := ⟨_, rfl⟩
  have HR : Hid (rlS ws = r ∧ rlX ws = v) := Lib.hid ⟨hr, hv⟩
  clear hr hv
  go_enter Tryz.func4, Tryz.ntmps4
  go_wp2_with (first
    | (go_at_call 18; refine (few_is A n c ws true _ HN.out HMX.out HW.out HF).mono ?_; rintro e w0 ⟨rfl, rfl⟩; simp only [])
    | (go_at_call 19; refine (lrule_is A n c ws _ HN.out HL5.out HW.out HA.out r v HR).mono ?_; rintro e w1 ⟨rfl, k1⟩; have K1 := Lib.hid k1; clear k1; simp only [rvV])
    | (go_at_call 20
       refine (rrule_is A n c ws _ HN.out HL1.out (HW.out.next (bmk K1.out _)) r v HR).mono ?_
       rintro e w2 ⟨rfl, k2⟩
       have X := Lib.hid ((BlkN.make K1.out _ _).next k2)
       have K2 := Lib.hid X.out.bel
       have xc0 := cell_of_row _ _ 0 _ _ (0, 0) X.out.blk
       have xc1 := cell_of_row _ _ 1 _ _ (0, 0) X.out.blk
       have xc2 := cell_of_row _ _ 2 _ _ (0, 0) X.out.blk
       have xc3 := cell_of_row _ _ 3 _ _ (0, 0) X.out.blk
       have xc4 := cell_of_row _ _ 4 _ _ (0, 0) X.out.blk
       have xc5 := cell_of_row _ _ 5 _ _ (0, 0) X.out.blk
       have xc6 := cell_of_row _ _ 6 _ _ (0, 0) X.out.blk
       have xc7 := cell_of_row _ _ 7 _ _ (0, 0) X.out.blk
       have xc8 := cell_of_row _ _ 8 _ _ (0, 0) X.out.blk
       have xc9 := cell_of_row _ _ 9 _ _ (0, 0) X.out.blk
       have xc10 := cell_of_row _ _ 10 _ _ (0, 0) X.out.blk
       have xcq := row_lt X.out.blk
       clear k2 K1
       simp only [rvV])
    | (go_at_call 10; refine (lawake_any _ (HA.out.next (bmk K2.out _))).mono ?_; rintro e w9 ⟨rfl, k9⟩; have K9 := Lib.hid (bthen (bmk K2.out _) k9); clear k9; simp only []))
  go_ret
  exact ⟨rfl, K9.out⟩
theorem linesRules_walk (A : Option Addr) (c : Nat) (ws : List (List UInt8)) (w : World) (H : LaidL w) (hm : ws.length ≤ maxLen) (hc : ws.length ≤ c) (hW : ArgW A ws w) :
    Calls Tryz.prog 4 #[.slice A ws.length c] w fun e w' => e = .returned (.bool true) ∧ Below w.heap.size w w' := by
  cases hf : fewB ws with
  | false => exact linesRules_many A _ c ws w H rfl hm hc hW (Lib.hid hf)
  | true => exact linesRules_few A _ c ws w H rfl hm hc hW (Lib.hid hf)
end Go.Proofs.YtfmehdophoejiaaGreatDoor
