/- The walk of LinesEras: for all words it returns true, and nothing that was in memory changes. Written by wip/tools/genlwr.py. -/
import Derived.Test.YtfmehdophoejiaaGreatDoorLrZ
namespace Go.Proofs.YtfmehdophoejiaaGreatDoor
open Go Go.RowKit

set_option maxRecDepth 20000 in
set_option maxHeartbeats 3200000 in
theorem linesEras_many (A : Option Addr) (n c : Nat) (ws : List (List UInt8)) (w : World) (H : LaidL w) (hn : ws.length = n) (hm : n ≤ maxLen) (_ : n ≤ c) (hW : ArgW A ws w) (HF : Hid (fewB ws = false)) :
    Calls Tryz.prog 5 #[.slice A n c] w fun e w' => e = .returned (.bool true) ∧ Below w.heap.size w w' := by
  have HA := Lib.hid H
  have HN := Lib.hid hn
  have HW := Lib.hid hW
  have HMX : Hid (n ≤ 9223372036854775807) := Lib.hid hm
  clear H hn hW hm
  go_enter Tryz.func5, Tryz.ntmps5
  go_wp2_with (first
    | (go_at_call 18; refine (few_is A n c ws false _ HN.out HMX.out HW.out HF).mono ?_; rintro e w0 ⟨rfl, rfl⟩; simp only [])
    | (go_at_call 10; refine (lawake_any _ HA.out).mono ?_; rintro e w1 ⟨rfl, k1⟩; have K1 := Lib.hid k1; clear k1; simp only []))
  go_ret
  exact ⟨rfl, K1.out⟩
set_option maxRecDepth 20000 in
set_option maxHeartbeats 3200000 in
theorem linesEras_few (A : Option Addr) (n c : Nat) (ws : List (List UInt8)) (w : World) (H : LaidL w) (hn : ws.length = n) (hm : n ≤ maxLen) (hc : n ≤ c) (hW : ArgW A ws w) (HF : Hid (fewB ws = true)) :
    Calls Tryz.prog 5 #[.slice A n c] w fun e w' => e = .returned (.bool true) ∧ Below w.heap.size w w' := by
  have HA := Lib.hid H
  have HN := Lib.hid hn
  have HW := Lib.hid hW
  have HMX : Hid (n ≤ 9223372036854775807) := Lib.hid hm
  clear H hn hW hm
  have HL1 : Hid (∀ p ∈ ws, p.length ≤ 100) := Lib.hid fun p hp => Nat.le_trans ((few_yes HF.out).1 p hp) (by omega)
  have HL5 : Hid (∀ p ∈ ws, p.length ≤ 500) := Lib.hid fun p hp => Nat.le_trans ((few_yes HF.out).1 p hp) (by omega)
  obtain ⟨r, hr⟩ : ∃ r, erS ws = r := ⟨_, rfl⟩
  obtain ⟨v, hv⟩ : ∃ v, erX ws = v := ⟨_, rfl⟩
  obtain ⟨N, hN⟩ : ∃ N, znN ws = N := ⟨_, rfl⟩
  obtain ⟨z, hz⟩ : ∃ z, znS ws = z := ⟨_, rfl⟩
  obtain ⟨f, hf⟩ : ∃ f, znX ws = f := ⟨_, rfl⟩
  obtain ⟨a, ha⟩ : ∃ a, lkT ws = a := ⟨_, rfl⟩
  obtain ⟨b, hb⟩ : ∃ b, lkN ws = b := ⟨_, rfl⟩
  obtain ⟨g, hg⟩ : ∃ g, lkX ws = g := ⟨_, rfl⟩
  have HR : Hid (erS ws = r ∧ erX ws = v) := Lib.hid ⟨hr, hv⟩
  have HZ : Hid (znN ws = N ∧ znS ws = z ∧ znX ws = f) := Lib.hid ⟨hN, hz, hf⟩
  have HK : Hid (lkT ws = a ∧ lkN ws = b ∧ lkX ws = g) := Lib.hid ⟨ha, hb, hg⟩
  clear hr hv hN hz hf ha hb hg
  go_enter Tryz.func5, Tryz.ntmps5
  go_wp2_with (first
    | (go_at_call 18; refine (few_is A n c ws true _ HN.out HMX.out HW.out HF).mono ?_; rintro e w0 ⟨rfl, rfl⟩; simp only [])
    | (go_at_call 21
       refine (lera_is A n c ws _ HN.out HL5.out HW.out HA.out r v HR).mono ?_
       rintro e w1 ⟨rfl, k1⟩
       have K1 := Lib.hid k1
       clear k1
       simp only [evV])
    | (go_at_call 22
       refine (rera_is A n c ws _ HN.out HL1.out (HW.out.next (bmk K1.out _)) r v HR).mono ?_
       rintro e w2 ⟨rfl, k2⟩
       have X1 := Lib.hid ((BlkN.make K1.out _ _).next k2)
       have K2 := Lib.hid X1.out.bel
       clear k2 K1
       simp only [evV])
    | (go_at_call 23
       refine (lzone_is A n c ws _ HN.out hc HL5.out (HW.out.next (bmk K2.out _)) (HA.out.next (bmk K2.out _)) N z f HZ).mono ?_
       rintro e w3 ⟨rfl, k3⟩
       replace X1 := Lib.hid ((X1.out.more _).next k3)
       have X2 := Lib.hid ((BlkN.make K2.out _ _).next k3)
       have K3 := Lib.hid X2.out.bel
       clear k3 K2
       simp only [evV])
    | (go_at_call 24
       refine (rzone_is A n c ws _ HN.out hc HL1.out (HW.out.next (bmk K3.out _)) N z f HZ).mono ?_
       rintro e w4 ⟨rfl, k4⟩
       replace X1 := Lib.hid ((X1.out.more _).next k4)
       replace X2 := Lib.hid ((X2.out.more _).next k4)
       have X3 := Lib.hid ((BlkN.make K3.out _ _).next k4)
       have K4 := Lib.hid X3.out.bel
       clear k4 K3
       simp only [evV])
    | (go_at_call 25
       refine (llink_is A n c ws _ HN.out HL5.out (HW.out.next (bmk K4.out _)) (HA.out.next (bmk K4.out _)) a b g HK).mono ?_
       rintro e w5 ⟨rfl, k5⟩
       replace X1 := Lib.hid ((X1.out.more _).next k5)
       replace X2 := Lib.hid ((X2.out.more _).next k5)
       replace X3 := Lib.hid ((X3.out.more _).next k5)
       have X4 := Lib.hid ((BlkN.make K4.out _ _).next k5)
       have K5 := Lib.hid X4.out.bel
       clear k5 K4
       simp only [lvV])
    | (go_at_call 26
       refine (rlink_is A n c ws _ HN.out HL1.out (HW.out.next (bmk K5.out _)) a b g HK).mono ?_
       rintro e w6 ⟨rfl, k6⟩
       replace X1 := Lib.hid ((X1.out.more _).next k6)
       replace X2 := Lib.hid ((X2.out.more _).next k6)
       replace X3 := Lib.hid ((X3.out.more _).next k6)
       replace X4 := Lib.hid ((X4.out.more _).next k6)
       have X5 := Lib.hid ((BlkN.make K5.out _ _).next k6)
       have K6 := Lib.hid X5.out.bel
       have xa0 := cell_of_row _ _ 0 _ _ (0, 0) X1.out.blk
       have xa1 := cell_of_row _ _ 1 _ _ (0, 0) X1.out.blk
       have xa2 := cell_of_row _ _ 2 _ _ (0, 0) X1.out.blk
       have xa3 := cell_of_row _ _ 3 _ _ (0, 0) X1.out.blk
       have xa4 := cell_of_row _ _ 4 _ _ (0, 0) X1.out.blk
       have xa5 := cell_of_row _ _ 5 _ _ (0, 0) X1.out.blk
       have xa6 := cell_of_row _ _ 6 _ _ (0, 0) X1.out.blk
       have xa7 := cell_of_row _ _ 7 _ _ (0, 0) X1.out.blk
       have xa8 := cell_of_row _ _ 8 _ _ (0, 0) X1.out.blk
       have xa9 := cell_of_row _ _ 9 _ _ (0, 0) X1.out.blk
       have xa10 := cell_of_row _ _ 10 _ _ (0, 0) X1.out.blk
       have xa11 := cell_of_row _ _ 11 _ _ (0, 0) X1.out.blk
       have xaq := row_lt X1.out.blk
       have xb0 := cell_of_row _ _ 0 _ _ (0, 0) X2.out.blk
       have xb1 := cell_of_row _ _ 1 _ _ (0, 0) X2.out.blk
       have xb2 := cell_of_row _ _ 2 _ _ (0, 0) X2.out.blk
       have xb3 := cell_of_row _ _ 3 _ _ (0, 0) X2.out.blk
       have xb4 := cell_of_row _ _ 4 _ _ (0, 0) X2.out.blk
       have xb5 := cell_of_row _ _ 5 _ _ (0, 0) X2.out.blk
       have xb6 := cell_of_row _ _ 6 _ _ (0, 0) X2.out.blk
       have xb7 := cell_of_row _ _ 7 _ _ (0, 0) X2.out.blk
       have xb8 := cell_of_row _ _ 8 _ _ (0, 0) X2.out.blk
       have xb9 := cell_of_row _ _ 9 _ _ (0, 0) X2.out.blk
       have xb10 := cell_of_row _ _ 10 _ _ (0, 0) X2.out.blk
       have xb11 := cell_of_row _ _ 11 _ _ (0, 0) X2.out.blk
       have xbq := row_lt X2.out.blk
       have xc0 := cell_of_row _ _ 0 _ _ (0, 0) X3.out.blk
       have xc1 := cell_of_row _ _ 1 _ _ (0, 0) X3.out.blk
       have xc2 := cell_of_row _ _ 2 _ _ (0, 0) X3.out.blk
       have xc3 := cell_of_row _ _ 3 _ _ (0, 0) X3.out.blk
       have xc4 := cell_of_row _ _ 4 _ _ (0, 0) X3.out.blk
       have xc5 := cell_of_row _ _ 5 _ _ (0, 0) X3.out.blk
       have xc6 := cell_of_row _ _ 6 _ _ (0, 0) X3.out.blk
       have xc7 := cell_of_row _ _ 7 _ _ (0, 0) X3.out.blk
       have xc8 := cell_of_row _ _ 8 _ _ (0, 0) X3.out.blk
       have xc9 := cell_of_row _ _ 9 _ _ (0, 0) X3.out.blk
       have xc10 := cell_of_row _ _ 10 _ _ (0, 0) X3.out.blk
       have xc11 := cell_of_row _ _ 11 _ _ (0, 0) X3.out.blk
       have xcq := row_lt X3.out.blk
       have xd0 := cell_of_row _ _ 0 _ _ (0, 0) X4.out.blk
       have xd1 := cell_of_row _ _ 1 _ _ (0, 0) X4.out.blk
       have xd2 := cell_of_row _ _ 2 _ _ (0, 0) X4.out.blk
       have xd3 := cell_of_row _ _ 3 _ _ (0, 0) X4.out.blk
       have xd4 := cell_of_row _ _ 4 _ _ (0, 0) X4.out.blk
       have xd5 := cell_of_row _ _ 5 _ _ (0, 0) X4.out.blk
       have xd6 := cell_of_row _ _ 6 _ _ (0, 0) X4.out.blk
       have xd7 := cell_of_row _ _ 7 _ _ (0, 0) X4.out.blk
       have xd8 := cell_of_row _ _ 8 _ _ (0, 0) X4.out.blk
       have xd9 := cell_of_row _ _ 9 _ _ (0, 0) X4.out.blk
       have xd10 := cell_of_row _ _ 10 _ _ (0, 0) X4.out.blk
       have xd11 := cell_of_row _ _ 11 _ _ (0, 0) X4.out.blk
       have xdq := row_lt X4.out.blk
       have xe0 := cell_of_row _ _ 0 _ _ (0, 0) X5.out.blk
       have xe1 := cell_of_row _ _ 1 _ _ (0, 0) X5.out.blk
       have xeq := row_lt X5.out.blk
       clear k6 K5
       simp only [lvV])
    | (go_at_call 10; refine (lawake_any _ (HA.out.next (bmk K6.out _))).mono ?_; rintro e w9 ⟨rfl, k9⟩; have K9 := Lib.hid (bthen (bmk K6.out _) k9); clear k9; simp only []))
  go_ret
  exact ⟨rfl, K9.out⟩
theorem linesEras_walk (A : Option Addr) (c : Nat) (ws : List (List UInt8)) (w : World) (H : LaidL w) (hm : ws.length ≤ maxLen) (hc : ws.length ≤ c) (hW : ArgW A ws w) :
    Calls Tryz.prog 5 #[.slice A ws.length c] w fun e w' => e = .returned (.bool true) ∧ Below w.heap.size w w' := by
  cases hf : fewB ws with
  | false => exact linesEras_many A _ c ws w H rfl hm hc hW (Lib.hid hf)
  | true => exact linesEras_few A _ c ws w H rfl hm hc hW (Lib.hid hf)
end Go.Proofs.YtfmehdophoejiaaGreatDoor
