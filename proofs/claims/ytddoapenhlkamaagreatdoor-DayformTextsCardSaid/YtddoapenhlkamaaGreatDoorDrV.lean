/- The law DayformTexts, walked: it returns true for every input, and nothing that was in memory changes. Written by wip/tools/gentxl.py. -/
import Derived.Test.YtddoapenhlkamaaGreatDoorDrU
namespace Go.Proofs.YtddoapenhlkamaaGreatDoor
open Go.RowKit

theorem dfT_len (k n : Int) (kk : Nat) (h : kk < 7) : (dfT k (kk : Int) n).length ≤ 100 := by
  have h1 := numT_len n
  have h2 := dname_len kk h
  unfold dfT
  split
  · omega
  · split
    · simp [lastW4]; omega
    · split <;> (simp; omega)

set_option maxHeartbeats 3200000 in
theorem dayformTexts_walk (k wk n : Int) (w : World) (hA : LaidF w) :
    Calls Tryz.prog 3 #[.agg #[.int .i64 k, .int .i64 wk, .int .i64 n]] w fun e w' => e = .returned (.bool true) ∧ Below w.heap.size w w' := by
  have HA := Lib.hid hA
  clear hA
  by_cases hd : dfD k wk n
  · obtain ⟨kk, rfl⟩ : ∃ kk : Nat, wk = (kk : Int) := ⟨wk.toNat, by unfold dfD at hd; omega⟩
    have hk7 : kk < 7 := by unfold dfD at hd; omega
    obtain ⟨T, hT⟩ : ∃ T, dfT k (kk : Int) n = T := ⟨_, rfl⟩
    have hTl : T.length ≤ 100 := hT ▸ dfT_len k n kk hk7
    have hp : parsF T = (k, (kk : Int), n, 0) := hT ▸ pars_text hd
    have P0 := Lib.hid (Trp.new w k (kk : Int) n 23)
    have PR : Hid (∀ W, LaidF W → Calls Tryz.prog 6 #[.agg #[.int .i64 k, .int .i64 (kk : Int), .int .i64 n]] W fun e w' => e = .returned (.tuple #[.string ⟨T.toArray⟩, .int .i64 0]) ∧ Below W.heap.size W w') := Lib.hid fun W h => dprint_yes k n kk T W h hd (Lib.hid hT)
    have RG : Hid (∀ W, Calls Tryz.prog 7 #[.agg #[.int .i64 k, .int .i64 (kk : Int), .int .i64 n]] W fun e w' => e = .returned (.bool true) ∧ Below W.heap.size W w') := Lib.hid fun W => dright_is k kk n true W (Lib.hid (dfB_iff.2 hd))
    have PA : Hid (∀ W, LaidF W → Calls Tryz.prog 10 #[.string ⟨T.toArray⟩] W fun e w' => e = .returned (.tuple #[.agg #[.int .i64 k, .int .i64 (kk : Int), .int .i64 n], .int .i64 0]) ∧ Below W.heap.size W w') := Lib.hid fun W h => dparse_is T k kk n 0 W (by omega) h (Lib.hid hp)
    have CK : Hid (∀ W, Calls Tryz.prog 8 #[.agg #[.int .i64 k, .int .i64 (kk : Int), .int .i64 n]] W fun e w' => e = .returned (.int .i64 0) ∧ Below W.heap.size W w') := Lib.hid fun W => dcheck_is k kk n 0 W (Lib.hid (dfE_yes hd))
    have TX : Hid (∀ W, Calls Tryz.prog 11 #[.agg #[.int .i64 k, .int .i64 (kk : Int), .int .i64 n]] W fun e w' => e = .returned (.string ⟨T.toArray⟩) ∧ Below W.heap.size W w') := Lib.hid fun W => rtext_is k n kk T W hd (Lib.hid hT)
    clear hd hk7 hT hTl hp
    go_enter Tryz.func3, Tryz.ntmps3
    go_wp2_with (first
      | (go_at_call 6; with_reducible refine (PR.out _ (HA.out.next P0.out.bel)).mono ?_; rintro e w1 ⟨rfl, k1⟩
         have P1 := Lib.hid (P0.out.next k1)
         clear k1
         have plt := P1.out.lt
         have pc0 := P1.out.c0
         have pc1 := P1.out.c1
         have pc2 := P1.out.c2)
      | (go_at_call 7; with_reducible refine (RG.out _).mono ?_; rintro e w2 ⟨rfl, k2⟩
         have P2 := Lib.hid (P1.out.next k2)
         clear k2 P1 plt pc0 pc1 pc2
         have plt := P2.out.lt
         have pc0 := P2.out.c0
         have pc1 := P2.out.c1
         have pc2 := P2.out.c2)
      | (go_at_call 10; with_reducible refine (PA.out _ (HA.out.next P2.out.bel)).mono ?_; rintro e w3 ⟨rfl, k3⟩
         have P3 := Lib.hid (P2.out.next k3)
         have X3 := Lib.hid (Trp.make P3.out.bel k (kk : Int) n 23)
         clear k3 P2 plt pc0 pc1 pc2
         have plt := P3.out.lt
         have pc0 := P3.out.c0
         have pc1 := P3.out.c1
         have pc2 := P3.out.c2)
      | (go_at_call 8; with_reducible refine (CK.out _).mono ?_; rintro e w4 ⟨rfl, k4⟩
         have P4 := Lib.hid ((P3.out.more _).next k4)
         have X4 := Lib.hid (X3.out.next k4)
         clear k4 P3 X3 plt pc0 pc1 pc2
         have plt := P4.out.lt
         have pc0 := P4.out.c0
         have pc1 := P4.out.c1
         have pc2 := P4.out.c2
         have xlt := X4.out.lt
         have xc0 := X4.out.c0
         have xc1 := X4.out.c1
         have xc2 := X4.out.c2)
      | (go_at_call 11; with_reducible refine (TX.out _).mono ?_; rintro e w5 ⟨rfl, k5⟩
         have P5 := Lib.hid (P4.out.next k5)
         have X5 := Lib.hid (X4.out.next k5)
         clear k5 P4 X4 plt pc0 pc1 pc2 xlt xc0 xc1 xc2
         have plt := P5.out.lt
         have pc0 := P5.out.c0
         have pc1 := P5.out.c1
         have pc2 := P5.out.c2
         have xlt := X5.out.lt
         have xc0 := X5.out.c0
         have xc1 := X5.out.c1
         have xc2 := X5.out.c2)
      | (go_at_call 9; refine (dawake_any _ (HA.out.next X5.out.bel)).mono ?_; rintro e w6 ⟨rfl, k6⟩
         have X6 := Lib.hid (X5.out.next k6)
         clear k6))
    go_ret
    exact ⟨rfl, X6.out.bel⟩
  · have P0 := Lib.hid (Trp.new w k wk n 23)
    have PR : Hid (∀ W, LaidF W → Calls Tryz.prog 6 #[.agg #[.int .i64 k, .int .i64 wk, .int .i64 n]] W fun e w' => e = .returned (.tuple #[.string ⟨#[]⟩, .int .i64 10]) ∧ Below W.heap.size W w') := Lib.hid fun W _ => dprint_no k wk n W hd
    have RG : Hid (∀ W, Calls Tryz.prog 7 #[.agg #[.int .i64 k, .int .i64 wk, .int .i64 n]] W fun e w' => e = .returned (.bool false) ∧ Below W.heap.size W w') := Lib.hid fun W => dright_is k wk n false W (Lib.hid (dfB_not hd))
    have CK : Hid (∀ W, Calls Tryz.prog 8 #[.agg #[.int .i64 k, .int .i64 wk, .int .i64 n]] W fun e w' => e = .returned (.int .i64 10) ∧ Below W.heap.size W w') := Lib.hid fun W => dcheck_is k wk n 10 W (Lib.hid (dfE_no hd))
    clear hd
    go_enter Tryz.func3, Tryz.ntmps3
    go_wp2_with (first
      | (go_at_call 6; with_reducible refine (PR.out _ (HA.out.next P0.out.bel)).mono ?_; rintro e w1 ⟨rfl, k1⟩
         have P1 := Lib.hid (P0.out.next k1)
         clear k1
         have plt := P1.out.lt
         have pc0 := P1.out.c0
         have pc1 := P1.out.c1
         have pc2 := P1.out.c2)
      | (go_at_call 7; with_reducible refine (RG.out _).mono ?_; rintro e w2 ⟨rfl, k2⟩
         have P2 := Lib.hid (P1.out.next k2)
         clear k2 P1 plt pc0 pc1 pc2
         have plt := P2.out.lt
         have pc0 := P2.out.c0
         have pc1 := P2.out.c1
         have pc2 := P2.out.c2)
      | (go_at_call 8; with_reducible refine (CK.out _).mono ?_; rintro e w3 ⟨rfl, k3⟩
         have P3 := Lib.hid (P2.out.next k3)
         clear k3 P2 plt pc0 pc1 pc2)
      | (go_at_call 9; refine (dawake_any _ (HA.out.next P3.out.bel)).mono ?_; rintro e w4 ⟨rfl, k4⟩
         have P4 := Lib.hid (P3.out.next k4)
         clear k4))
    go_ret
    exact ⟨rfl, P4.out.bel⟩
end Go.Proofs.YtddoapenhlkamaaGreatDoor
