/- The contracts of words.WeekdayName, dayform.Print, and the reference's Text: the text of a day of a month; nothing that was in memory changes.
The contract of the reference's Text: the text of a day of a month that may be; nothing that was in memory changes. Written by wip/tools/gentx8.py. -/
import Derived.Test.YtfmehdophoejiaaGreatDoorMT
namespace Go.Proofs.YtfmehdophoejiaaGreatDoor
open Go.RowKit

theorem dname_cap (kk : Nat) : dname (kk : Int) = capL (weeksL.getD kk []) := rfl
theorem fweeks_nm : ∀ p ∈ weeksL, nameOk p = true := List.all_eq_true.1 (by decide)
theorem week_get {kk : Nat} (h : kk < 7) : ∃ p, weeksL[kk]? = some p ∧ nameOk p = true ∧ capL p = dname (kk : Int) := by
  obtain ⟨p, hp⟩ : ∃ p, weeksL[kk]? = some p := ⟨_, List.getElem?_eq_getElem (show kk < weeksL.length from h)⟩
  exact ⟨p, hp, fweeks_nm p (List.mem_of_getElem? hp), by rw [dname_cap, List.getD_eq_getElem?_getD, hp]; rfl⟩
theorem dname_len (kk : Nat) (h : kk < 7) : (dname (kk : Int)).length = 3 := by
  have : ∀ k : Fin 7, (dname (k.val : Int)).length = 3 := by decide
  exact this ⟨kk, h⟩

theorem fwname_is (kk : Nat) (N : List UInt8) (w : World) (hk : kk < 7) (hA : LaidF w) (hN : Hid (dname (kk : Int) = N)) :
    Calls Tryz.prog 106 #[.int .i64 (kk : Int)] w fun e w' => e = .returned (.tuple #[.string ⟨N.toArray⟩, .int .i64 0]) ∧ Below w.heap.size w w' := by
  obtain ⟨p, hp, h1, h2⟩ := week_get hk
  have hc := hA.wee.cell kk p hp
  have hpl := wcell_lt hc
  have NM : Hid (∀ W, Calls Tryz.prog 104 #[.string ⟨p.toArray⟩] W fun e w' => e = .returned (.string ⟨N.toArray⟩) ∧ Below W.heap.size W w') := Lib.hid fun W => by rw [← hN.out, ← h2]; exact name_any p W h1
  have h7 : ¬ 7 ≤ (kk : Int) := by omega
  have h7' : decide (7 ≤ kk) = false := decide_eq_false (by omega)
  clear hp hA hN h1 h2
  go_enter Tryz.func106, Tryz.ntmps106
  go_wp2_with (go_at_call 104; refine (NM.out _).mono ?_; rintro e w1 ⟨rfl, k1⟩)
  go_ret2
  exact ⟨rfl, k1⟩

theorem numT_len (n : Int) : (numT n).length ≤ 2 := by unfold numT; split <;> simp

set_option maxHeartbeats 1600000 in
theorem dprint_no (k wk n : Int) (w : World) (hd : ¬ dfD k wk n) :
    Calls Tryz.prog 69 #[.agg #[.int .i64 k, .int .i64 wk, .int .i64 n]] w fun e w' => e = .returned (.tuple #[.string ⟨#[]⟩, .int .i64 10]) ∧ Below w.heap.size w w' := by
  have T0 := Lib.hid (Trp.new w k wk n 30)
  have CK : Hid (∀ W, Calls Tryz.prog 105 #[.agg #[.int .i64 k, .int .i64 wk, .int .i64 n]] W fun e w' => e = .returned (.int .i64 10) ∧ Below W.heap.size W w') := Lib.hid fun W => dcheck_is k wk n 10 W (Lib.hid (dfE_no hd))
  clear hd
  go_enter Tryz.func69, Tryz.ntmps69
  go_wp2_with (go_at_call 105; refine (CK.out _).mono ?_; rintro e w1 ⟨rfl, k1⟩)
  go_ret2
  exact ⟨rfl, (T0.out.next k1).bel⟩
set_option maxHeartbeats 1600000 in
theorem dprint_yes (k n : Int) (kk : Nat) (T : List UInt8) (w : World) (hA : LaidF w) (hd : dfD k (kk : Int) n) (hT : Hid (dfT k (kk : Int) n = T)) :
    Calls Tryz.prog 69 #[.agg #[.int .i64 k, .int .i64 (kk : Int), .int .i64 n]] w fun e w' => e = .returned (.tuple #[.string ⟨T.toArray⟩, .int .i64 0]) ∧ Below w.heap.size w w' := by
  have T0 := Lib.hid (Trp.new w k (kk : Int) n 30)
  have CK : Hid (∀ W, Calls Tryz.prog 105 #[.agg #[.int .i64 k, .int .i64 (kk : Int), .int .i64 n]] W fun e w' => e = .returned (.int .i64 0) ∧ Below W.heap.size W w') := Lib.hid fun W => dcheck_is k kk n 0 W (Lib.hid (dfE_yes hd))
  have hk7 : kk < 7 := by unfold dfD at hd; omega
  obtain ⟨N, hN⟩ : ∃ N, dname (kk : Int) = N := ⟨_, rfl⟩
  have hNl : N.length = 3 := hN ▸ dname_len kk hk7
  have WN : Hid (∀ W, LaidF W → Calls Tryz.prog 106 #[.int .i64 (kk : Int)] W fun e w' => e = .returned (.tuple #[.string ⟨N.toArray⟩, .int .i64 0]) ∧ Below W.heap.size W w') := Lib.hid fun W h => fwname_is kk N W hk7 h (Lib.hid hN)
  obtain ⟨D, hD⟩ : ∃ D, numT n = D := ⟨_, rfl⟩
  have hDl : D.length ≤ 2 := hD ▸ numT_len n
  have IT : Hid (k ≠ 1 → ∀ W, LaidF W → Calls Tryz.prog 72 #[.int .i64 n] W fun e w' => e = .returned (.string ⟨D.toArray⟩) ∧ Below W.heap.size W w') := Lib.hid fun h1 W hW => by
    have hn : 1 ≤ n ∧ n ≤ 31 := by unfold dfD at hd; omega
    exact fitoa_is n D W (by omega) (by omega) hW.pow (Lib.hid ((numT_itoa hn.1 hn.2).trans hD))
  have hk4 : k = 0 ∨ k = 1 ∨ k = 2 ∨ k = 3 := by unfold dfD at hd; omega
  have HT : Hid (T = if k = 0 then D else if k = 1 then lastW4 ++ N else if k = 2 then N ++ [62, 61] ++ D else N ++ [60, 61] ++ D) := Lib.hid (by rw [← hT.out]; unfold dfT; rw [hN, hD])
  have HA := Lib.hid hA
  have K0 : Hid (∀ W, LaidF W → (W.cell? ⟨1, 0, none⟩ = some (.string ⟨#[62, 61]⟩) ∧ W.cell? ⟨1, 1, none⟩ = some (.string ⟨#[60, 61]⟩))) := Lib.hid fun W h => ⟨h.sig.cell 0 _ rfl, h.sig.cell 1 _ rfl⟩
  clear hd hA hN hD hT hk7
  rcases hk4 with rfl | rfl | rfl | rfl
  · obtain rfl : T = D := HT.out
    have IT1 := Lib.hid (IT.out (by decide))
    have ad0 : ∀ W : World, (Op.stringOp .add ⟨#[]⟩ ⟨T.toArray⟩).run Tryz.prog W = .ok (.string ⟨T.toArray⟩) W := wadd_lists [] T (by simp) (by omega)
    clear IT HT hNl hDl
    go_enter Tryz.func69, Tryz.ntmps69
    go_wp2_with (first
      | (go_at_call 105; refine (CK.out _).mono ?_; rintro e w1 ⟨rfl, k1⟩
         have T1 := Lib.hid (T0.out.next k1)
         clear k1 T0
         have lt := T1.out.lt
         have c0 := T1.out.c0
         have c1 := T1.out.c1
         have c2 := T1.out.c2)
      | (go_at_call 106; refine (WN.out _ (HA.out.next T1.out.bel)).mono ?_; rintro e w2 ⟨rfl, k2⟩
         have T2 := Lib.hid (T1.out.next k2)
         clear k2 T1 lt c0 c1 c2
         have lt := T2.out.lt
         have c0 := T2.out.c0
         have c1 := T2.out.c1
         have c2 := T2.out.c2)
      | (go_at_call 72; refine (IT1.out _ (HA.out.next T2.out.bel)).mono ?_; rintro e w3 ⟨rfl, k3⟩))
    go_ret2
    exact ⟨rfl, (T2.out.next k3).bel⟩
  · obtain rfl : T = lastW4 ++ N := HT.out
    have ad0 : ∀ W : World, (Op.stringOp .add ⟨#[108, 97, 115, 116]⟩ ⟨N.toArray⟩).run Tryz.prog W = .ok (.string ⟨(lastW4 ++ N).toArray⟩) W := wadd_lists [108, 97, 115, 116] N (by simp) (by omega)
    clear IT HT hNl hDl
    go_enter Tryz.func69, Tryz.ntmps69
    go_wp2_with (first
      | (go_at_call 105; refine (CK.out _).mono ?_; rintro e w1 ⟨rfl, k1⟩
         have T1 := Lib.hid (T0.out.next k1)
         clear k1 T0
         have lt := T1.out.lt
         have c0 := T1.out.c0
         have c1 := T1.out.c1
         have c2 := T1.out.c2)
      | (go_at_call 106; refine (WN.out _ (HA.out.next T1.out.bel)).mono ?_; rintro e w2 ⟨rfl, k2⟩
         have T2 := Lib.hid (T1.out.next k2)
         clear k2 T1 lt c0 c1 c2
         have lt := T2.out.lt
         have c0 := T2.out.c0
         have c1 := T2.out.c1
         have c2 := T2.out.c2))
    go_ret2
    exact ⟨rfl, T2.out.bel⟩
  · obtain rfl : T = N ++ [62, 61] ++ D := HT.out
    have IT1 := Lib.hid (IT.out (by decide))
    obtain ⟨M, hM⟩ : ∃ M, N ++ [62, 61] = M := ⟨_, rfl⟩
    obtain ⟨R, hR⟩ : ∃ R, M ++ D = R := ⟨_, rfl⟩
    have hMl : M.length ≤ 1000 := by rw [← hM]; simp; omega
    have ad0 : ∀ W : World, (Op.stringOp .add ⟨N.toArray⟩ ⟨#[62, 61]⟩).run Tryz.prog W = .ok (.string ⟨M.toArray⟩) W := hM ▸ wadd_lists N [62, 61] (by omega) (by simp)
    have ad1 : ∀ W : World, (Op.stringOp .add ⟨M.toArray⟩ ⟨D.toArray⟩).run Tryz.prog W = .ok (.string ⟨R.toArray⟩) W := hR ▸ wadd_lists M D hMl (by omega)
    rw [hM, hR]
    clear IT HT hNl hDl hM hR hMl
    go_enter Tryz.func69, Tryz.ntmps69
    go_wp2_with (first
      | (go_at_call 105; refine (CK.out _).mono ?_; rintro e w1 ⟨rfl, k1⟩
         have T1 := Lib.hid (T0.out.next k1)
         clear k1 T0
         have lt := T1.out.lt
         have c0 := T1.out.c0
         have c1 := T1.out.c1
         have c2 := T1.out.c2)
      | (go_at_call 106; refine (WN.out _ (HA.out.next T1.out.bel)).mono ?_; rintro e w2 ⟨rfl, k2⟩
         have T2 := Lib.hid (T1.out.next k2)
         clear k2 T1 lt c0 c1 c2
         obtain ⟨cs0, cs1⟩ := K0.out _ (HA.out.next T2.out.bel)
         have lt := T2.out.lt
         have c0 := T2.out.c0
         have c1 := T2.out.c1
         have c2 := T2.out.c2)
      | (go_at_call 72; refine (IT1.out _ (HA.out.next T2.out.bel)).mono ?_; rintro e w3 ⟨rfl, k3⟩))
    go_ret2
    exact ⟨rfl, (T2.out.next k3).bel⟩
  · obtain rfl : T = N ++ [60, 61] ++ D := HT.out
    have IT1 := Lib.hid (IT.out (by decide))
    obtain ⟨M, hM⟩ : ∃ M, N ++ [60, 61] = M := ⟨_, rfl⟩
    obtain ⟨R, hR⟩ : ∃ R, M ++ D = R := ⟨_, rfl⟩
    have hMl : M.length ≤ 1000 := by rw [← hM]; simp; omega
    have ad0 : ∀ W : World, (Op.stringOp .add ⟨N.toArray⟩ ⟨#[60, 61]⟩).run Tryz.prog W = .ok (.string ⟨M.toArray⟩) W := hM ▸ wadd_lists N [60, 61] (by omega) (by simp)
    have ad1 : ∀ W : World, (Op.stringOp .add ⟨M.toArray⟩ ⟨D.toArray⟩).run Tryz.prog W = .ok (.string ⟨R.toArray⟩) W := hR ▸ wadd_lists M D hMl (by omega)
    rw [hM, hR]
    clear IT HT hNl hDl hM hR hMl
    go_enter Tryz.func69, Tryz.ntmps69
    go_wp2_with (first
      | (go_at_call 105; refine (CK.out _).mono ?_; rintro e w1 ⟨rfl, k1⟩
         have T1 := Lib.hid (T0.out.next k1)
         clear k1 T0
         have lt := T1.out.lt
         have c0 := T1.out.c0
         have c1 := T1.out.c1
         have c2 := T1.out.c2)
      | (go_at_call 106; refine (WN.out _ (HA.out.next T1.out.bel)).mono ?_; rintro e w2 ⟨rfl, k2⟩
         have T2 := Lib.hid (T1.out.next k2)
         clear k2 T1 lt c0 c1 c2
         obtain ⟨cs0, cs1⟩ := K0.out _ (HA.out.next T2.out.bel)
         have lt := T2.out.lt
         have c0 := T2.out.c0
         have c1 := T2.out.c1
         have c2 := T2.out.c2)
      | (go_at_call 72; refine (IT1.out _ (HA.out.next T2.out.bel)).mono ?_; rintro e w3 ⟨rfl, k3⟩))
    go_ret2
    exact ⟨rfl, (T2.out.next k3).bel⟩
end Go.Proofs.YtfmehdophoejiaaGreatDoor

namespace Go.Proofs.YtfmehdophoejiaaGreatDoor
open Go.RowKit

theorem low_byte {n : Int} (h : 0 ≤ n) : ((UInt8.ofNat (48 + n.toNat % 10)).toNat : Int) = 48 + n % 10 := by
  rw [UInt8.toNat_ofNat']
  omega
theorem high_byte {n : Int} (h : 0 ≤ n ∧ n ≤ 31) : ((UInt8.ofNat (48 + n.toNat / 10)).toNat : Int) = 48 + n / 10 := by
  rw [UInt8.toNat_ofNat']
  omega
theorem digits_one {n : Int} (h : 0 ≤ n ∧ n ≤ 9) : ∃ b : UInt8, (b.toNat : Int) = 48 + n % 10 ∧ numT n = [b] := by
  refine ⟨UInt8.ofNat (48 + n.toNat % 10), low_byte h.1, ?_⟩
  unfold numT
  rw [if_pos h.2, show n.toNat % 10 = n.toNat by omega]
theorem digits_two {n : Int} (h : 9 < n ∧ n ≤ 31) : ∃ c b : UInt8, (c.toNat : Int) = 48 + n / 10 ∧ (b.toNat : Int) = 48 + n % 10 ∧ numT n = [c, b] := by
  refine ⟨UInt8.ofNat (48 + n.toNat / 10), UInt8.ofNat (48 + n.toNat % 10), high_byte ⟨by omega, h.2⟩, low_byte (by omega), ?_⟩
  unfold numT
  rw [if_neg (by omega)]

set_option maxHeartbeats 3200000 in
theorem rdtext_is (k n : Int) (kk : Nat) (T : List UInt8) (w : World) (hd : dfD k (kk : Int) n) (hT : Hid (dfT k (kk : Int) n = T)) :
    Calls Tryz.prog 114 #[.agg #[.int .i64 k, .int .i64 (kk : Int), .int .i64 n]] w fun e w' => e = .returned (.string ⟨T.toArray⟩) ∧ Below w.heap.size w w' := by
  have hk7 : kk < 7 := by unfold dfD at hd; omega
  obtain ⟨p, hp, hp1, hp2⟩ := week_get hk7
  obtain ⟨N, hN⟩ : ∃ N, dname (kk : Int) = N := ⟨_, rfl⟩
  have hNl : N.length = 3 := hN ▸ dname_len kk hk7
  have NM : Hid (∀ W, Calls Tryz.prog 112 #[.string ⟨p.toArray⟩] W fun e w' => e = .returned (.string ⟨N.toArray⟩) ∧ Below W.heap.size W w') := Lib.hid fun W => by rw [← hN, ← hp2]; exact rname_any p W hp1
  obtain ⟨D, hD0⟩ : ∃ D, numT n = D := ⟨_, rfl⟩
  have hDl : D.length ≤ 2 := hD0 ▸ numT_len n
  have hT1 := Lib.hid hD0
  have HP := Lib.hid hp
  have h1 : 0 ≤ n := by unfold dfD at hd; omega
  have h2 : n ≤ 31 := by unfold dfD at hd; omega
  have hk4 : k = 0 ∨ k = 1 ∨ k = 2 ∨ k = 3 := by unfold dfD at hd; omega
  have HT : Hid (T = if k = 0 then D else if k = 1 then lastW4 ++ N else if k = 2 then N ++ [62, 61] ++ D else N ++ [60, 61] ++ D) := Lib.hid (by rw [← hT.out]; unfold dfT; rw [hN, hD0])
  have hk7' : (kk : Int) < 7 := by omega
  have hk0' : 0 ≤ (kk : Int) := by omega
  clear hd hp hp1 hp2 hN hD0 hT
  by_cases h9 : n ≤ 9
  · rcases hk4 with rfl | rfl | rfl | rfl
    · obtain ⟨b, hb, hD⟩ := digits_one ⟨h1, h9⟩
      have hcv := wone_byte (w.alloc (.cells #[.int .i64 0, .int .i64 (kk : Int), .int .i64 n] 30)) b
      rw [hb, World.size_alloc] at hcv
      obtain rfl : D = [b] := by rw [← hT1.out, hD]
      have L1 : decide (9 < n) = false := decide_eq_false (by omega)
      have X0 := Lib.hid ((Trp.new w 0 (kk : Int) n 30).more (.cells #[.int .u8 (48 + n % 10)] 5))
      clear hb hD h9
      obtain rfl : T = [b] := HT.out
      clear HT hT1 hNl hDl
      go_enter Tryz.func114, Tryz.ntmps114
      go_wp2
      go_ret
      exact ⟨rfl, X0.out.bel⟩
    · obtain ⟨b, hb, hD⟩ := digits_one ⟨h1, h9⟩
      have hcv := wone_byte (w.alloc (.cells #[.int .i64 1, .int .i64 (kk : Int), .int .i64 n] 30)) b
      rw [hb, World.size_alloc] at hcv
      obtain rfl : D = [b] := by rw [← hT1.out, hD]
      have L1 : decide (9 < n) = false := decide_eq_false (by omega)
      have X0 := Lib.hid ((Trp.new w 1 (kk : Int) n 30).more (.cells #[.int .u8 (48 + n % 10)] 5))
      clear hb hD h9
      have ad0 : ∀ W : World, (Op.stringOp .add ⟨#[108, 97, 115, 116]⟩ ⟨N.toArray⟩).run Tryz.prog W = .ok (.string ⟨T.toArray⟩) W := by rw [HT.out]; exact wadd_lists [108, 97, 115, 116] N (by simp) (by omega)
      clear HT hT1 hNl hDl
      go_enter Tryz.func114, Tryz.ntmps114
      go_wp2
      have lt := X0.out.lt
      have x0 := X0.out.c0
      have x1 := X0.out.c1
      go_region_with (first
          | (go_at_call 100; refine (rweeks_any _).mono ?_; rintro e w2 ⟨L, rfl, hL1, hL2, k1⟩
             have d1 : w2.cell? ⟨w.heap.size, 1, none⟩ = some (.int .i64 (kk : Int)) := (k1.cell (p := ⟨w.heap.size, 1, none⟩) lt).trans x1
             have hcl := hL2.cell kk p HP.out
             have lt2 := Nat.lt_of_lt_of_le lt k1.size)
          | (go_at_call 112; refine (NM.out _).mono ?_; rintro e w3 ⟨rfl, k2⟩
             have d2 : w3.cell? ⟨w.heap.size, 1, none⟩ = some (.int .i64 (kk : Int)) := (k2.cell (p := ⟨w.heap.size, 1, none⟩) lt2).trans d1))
      all_goals
        have X3 := Lib.hid ((X0.out.drawn.next k1).next k2)
        clear k1 k2 hL1 hL2 d1 d2 hcl lt lt2 x0 x1 X0
        have lt := X3.out.lt
        have x0 := X3.out.c0
        have x1 := X3.out.c1
        have x2 := X3.out.c2
        go_wp2
        go_ret
        exact ⟨rfl, X3.out.bel⟩
    · obtain ⟨b, hb, hD⟩ := digits_one ⟨h1, h9⟩
      have hcv := wone_byte (w.alloc (.cells #[.int .i64 2, .int .i64 (kk : Int), .int .i64 n] 30)) b
      rw [hb, World.size_alloc] at hcv
      obtain rfl : D = [b] := by rw [← hT1.out, hD]
      have L1 : decide (9 < n) = false := decide_eq_false (by omega)
      have X0 := Lib.hid ((Trp.new w 2 (kk : Int) n 30).more (.cells #[.int .u8 (48 + n % 10)] 5))
      clear hb hD h9
      obtain ⟨M, hM⟩ : ∃ M, N ++ [62, 61] = M := ⟨_, rfl⟩
      have hMl : M.length ≤ 1000 := by rw [← hM]; simp; omega
      have ad0 : ∀ W : World, (Op.stringOp .add ⟨N.toArray⟩ ⟨#[62, 61]⟩).run Tryz.prog W = .ok (.string ⟨M.toArray⟩) W := hM ▸ wadd_lists N [62, 61] (by omega) (by simp)
      have ad1 : ∀ W : World, (Op.stringOp .add ⟨M.toArray⟩ ⟨#[b]⟩).run Tryz.prog W = .ok (.string ⟨T.toArray⟩) W := by rw [HT.out, hM]; exact wadd_lists M [b] hMl (by first | omega | simp)
      clear hM hMl
      clear HT hT1 hNl hDl
      go_enter Tryz.func114, Tryz.ntmps114
      go_wp2
      have lt := X0.out.lt
      have x0 := X0.out.c0
      have x1 := X0.out.c1
      go_region_with (first
          | (go_at_call 100; refine (rweeks_any _).mono ?_; rintro e w2 ⟨L, rfl, hL1, hL2, k1⟩
             have d1 : w2.cell? ⟨w.heap.size, 1, none⟩ = some (.int .i64 (kk : Int)) := (k1.cell (p := ⟨w.heap.size, 1, none⟩) lt).trans x1
             have hcl := hL2.cell kk p HP.out
             have lt2 := Nat.lt_of_lt_of_le lt k1.size)
          | (go_at_call 112; refine (NM.out _).mono ?_; rintro e w3 ⟨rfl, k2⟩
             have d2 : w3.cell? ⟨w.heap.size, 1, none⟩ = some (.int .i64 (kk : Int)) := (k2.cell (p := ⟨w.heap.size, 1, none⟩) lt2).trans d1))
      all_goals
        have X3 := Lib.hid ((X0.out.drawn.next k1).next k2)
        clear k1 k2 hL1 hL2 d1 d2 hcl lt lt2 x0 x1 X0
        have lt := X3.out.lt
        have x0 := X3.out.c0
        have x1 := X3.out.c1
        have x2 := X3.out.c2
        go_wp2
        go_ret
        exact ⟨rfl, X3.out.bel⟩
    · obtain ⟨b, hb, hD⟩ := digits_one ⟨h1, h9⟩
      have hcv := wone_byte (w.alloc (.cells #[.int .i64 3, .int .i64 (kk : Int), .int .i64 n] 30)) b
      rw [hb, World.size_alloc] at hcv
      obtain rfl : D = [b] := by rw [← hT1.out, hD]
      have L1 : decide (9 < n) = false := decide_eq_false (by omega)
      have X0 := Lib.hid ((Trp.new w 3 (kk : Int) n 30).more (.cells #[.int .u8 (48 + n % 10)] 5))
      clear hb hD h9
      obtain ⟨M, hM⟩ : ∃ M, N ++ [60, 61] = M := ⟨_, rfl⟩
      have hMl : M.length ≤ 1000 := by rw [← hM]; simp; omega
      have ad0 : ∀ W : World, (Op.stringOp .add ⟨N.toArray⟩ ⟨#[60, 61]⟩).run Tryz.prog W = .ok (.string ⟨M.toArray⟩) W := hM ▸ wadd_lists N [60, 61] (by omega) (by simp)
      have ad1 : ∀ W : World, (Op.stringOp .add ⟨M.toArray⟩ ⟨#[b]⟩).run Tryz.prog W = .ok (.string ⟨T.toArray⟩) W := by rw [HT.out, hM]; exact wadd_lists M [b] hMl (by first | omega | simp)
      clear hM hMl
      clear HT hT1 hNl hDl
      go_enter Tryz.func114, Tryz.ntmps114
      go_wp2
      have lt := X0.out.lt
      have x0 := X0.out.c0
      have x1 := X0.out.c1
      go_region_with (first
          | (go_at_call 100; refine (rweeks_any _).mono ?_; rintro e w2 ⟨L, rfl, hL1, hL2, k1⟩
             have d1 : w2.cell? ⟨w.heap.size, 1, none⟩ = some (.int .i64 (kk : Int)) := (k1.cell (p := ⟨w.heap.size, 1, none⟩) lt).trans x1
             have hcl := hL2.cell kk p HP.out
             have lt2 := Nat.lt_of_lt_of_le lt k1.size)
          | (go_at_call 112; refine (NM.out _).mono ?_; rintro e w3 ⟨rfl, k2⟩
             have d2 : w3.cell? ⟨w.heap.size, 1, none⟩ = some (.int .i64 (kk : Int)) := (k2.cell (p := ⟨w.heap.size, 1, none⟩) lt2).trans d1))
      all_goals
        have X3 := Lib.hid ((X0.out.drawn.next k1).next k2)
        clear k1 k2 hL1 hL2 d1 d2 hcl lt lt2 x0 x1 X0
        have lt := X3.out.lt
        have x0 := X3.out.c0
        have x1 := X3.out.c1
        have x2 := X3.out.c2
        go_wp2
        go_ret
        exact ⟨rfl, X3.out.bel⟩
  · have h9' : 9 < n := by omega
    clear h9
    rcases hk4 with rfl | rfl | rfl | rfl
    · obtain ⟨c, b, hc, hb, hD⟩ := digits_two ⟨h9', h2⟩
      have hcv := wone_byte (w.alloc (.cells #[.int .i64 0, .int .i64 (kk : Int), .int .i64 n] 30)) b
      rw [hb, World.size_alloc] at hcv
      have hcw := wone_byte ((w.alloc (.cells #[.int .i64 0, .int .i64 (kk : Int), .int .i64 n] 30)).alloc (.cells #[.int .u8 (48 + n % 10)] 5)) c
      rw [hc, World.size_alloc, World.size_alloc] at hcw
      have adn : ∀ W : World, (Op.stringOp .add ⟨#[c]⟩ ⟨#[b]⟩).run Tryz.prog W = .ok (.string ⟨D.toArray⟩) W := by rw [← hT1.out, hD]; exact wadd_lists [c] [b] (by simp) (by simp)
      have L1 : decide (9 < n) = true := decide_eq_true h9'
      have X0 := Lib.hid (((Trp.new w 0 (kk : Int) n 30).more (.cells #[.int .u8 (48 + n % 10)] 5)).more (.cells #[.int .u8 (48 + n / 10)] 5))
      clear hb hc hD h9'
      obtain rfl : T = D := HT.out
      clear HT hT1 hNl hDl
      go_enter Tryz.func114, Tryz.ntmps114
      go_wp2
      go_ret
      exact ⟨rfl, X0.out.bel⟩
    · obtain ⟨c, b, hc, hb, hD⟩ := digits_two ⟨h9', h2⟩
      have hcv := wone_byte (w.alloc (.cells #[.int .i64 1, .int .i64 (kk : Int), .int .i64 n] 30)) b
      rw [hb, World.size_alloc] at hcv
      have hcw := wone_byte ((w.alloc (.cells #[.int .i64 1, .int .i64 (kk : Int), .int .i64 n] 30)).alloc (.cells #[.int .u8 (48 + n % 10)] 5)) c
      rw [hc, World.size_alloc, World.size_alloc] at hcw
      have adn : ∀ W : World, (Op.stringOp .add ⟨#[c]⟩ ⟨#[b]⟩).run Tryz.prog W = .ok (.string ⟨D.toArray⟩) W := by rw [← hT1.out, hD]; exact wadd_lists [c] [b] (by simp) (by simp)
      have L1 : decide (9 < n) = true := decide_eq_true h9'
      have X0 := Lib.hid (((Trp.new w 1 (kk : Int) n 30).more (.cells #[.int .u8 (48 + n % 10)] 5)).more (.cells #[.int .u8 (48 + n / 10)] 5))
      clear hb hc hD h9'
      have ad0 : ∀ W : World, (Op.stringOp .add ⟨#[108, 97, 115, 116]⟩ ⟨N.toArray⟩).run Tryz.prog W = .ok (.string ⟨T.toArray⟩) W := by rw [HT.out]; exact wadd_lists [108, 97, 115, 116] N (by simp) (by omega)
      clear HT hT1 hNl hDl
      go_enter Tryz.func114, Tryz.ntmps114
      go_wp2
      have lt := X0.out.lt
      have x0 := X0.out.c0
      have x1 := X0.out.c1
      go_region_with (first
          | (go_at_call 100; refine (rweeks_any _).mono ?_; rintro e w2 ⟨L, rfl, hL1, hL2, k1⟩
             have d1 : w2.cell? ⟨w.heap.size, 1, none⟩ = some (.int .i64 (kk : Int)) := (k1.cell (p := ⟨w.heap.size, 1, none⟩) lt).trans x1
             have hcl := hL2.cell kk p HP.out
             have lt2 := Nat.lt_of_lt_of_le lt k1.size)
          | (go_at_call 112; refine (NM.out _).mono ?_; rintro e w3 ⟨rfl, k2⟩
             have d2 : w3.cell? ⟨w.heap.size, 1, none⟩ = some (.int .i64 (kk : Int)) := (k2.cell (p := ⟨w.heap.size, 1, none⟩) lt2).trans d1))
      all_goals
        have X3 := Lib.hid ((X0.out.drawn.next k1).next k2)
        clear k1 k2 hL1 hL2 d1 d2 hcl lt lt2 x0 x1 X0
        have lt := X3.out.lt
        have x0 := X3.out.c0
        have x1 := X3.out.c1
        have x2 := X3.out.c2
        go_wp2
        go_ret
        exact ⟨rfl, X3.out.bel⟩
    · obtain ⟨c, b, hc, hb, hD⟩ := digits_two ⟨h9', h2⟩
      have hcv := wone_byte (w.alloc (.cells #[.int .i64 2, .int .i64 (kk : Int), .int .i64 n] 30)) b
      rw [hb, World.size_alloc] at hcv
      have hcw := wone_byte ((w.alloc (.cells #[.int .i64 2, .int .i64 (kk : Int), .int .i64 n] 30)).alloc (.cells #[.int .u8 (48 + n % 10)] 5)) c
      rw [hc, World.size_alloc, World.size_alloc] at hcw
      have adn : ∀ W : World, (Op.stringOp .add ⟨#[c]⟩ ⟨#[b]⟩).run Tryz.prog W = .ok (.string ⟨D.toArray⟩) W := by rw [← hT1.out, hD]; exact wadd_lists [c] [b] (by simp) (by simp)
      have L1 : decide (9 < n) = true := decide_eq_true h9'
      have X0 := Lib.hid (((Trp.new w 2 (kk : Int) n 30).more (.cells #[.int .u8 (48 + n % 10)] 5)).more (.cells #[.int .u8 (48 + n / 10)] 5))
      clear hb hc hD h9'
      obtain ⟨M, hM⟩ : ∃ M, N ++ [62, 61] = M := ⟨_, rfl⟩
      have hMl : M.length ≤ 1000 := by rw [← hM]; simp; omega
      have ad0 : ∀ W : World, (Op.stringOp .add ⟨N.toArray⟩ ⟨#[62, 61]⟩).run Tryz.prog W = .ok (.string ⟨M.toArray⟩) W := hM ▸ wadd_lists N [62, 61] (by omega) (by simp)
      have ad1 : ∀ W : World, (Op.stringOp .add ⟨M.toArray⟩ ⟨D.toArray⟩).run Tryz.prog W = .ok (.string ⟨T.toArray⟩) W := by rw [HT.out, hM]; exact wadd_lists M D hMl (by first | omega | simp)
      clear hM hMl
      clear HT hT1 hNl hDl
      go_enter Tryz.func114, Tryz.ntmps114
      go_wp2
      have lt := X0.out.lt
      have x0 := X0.out.c0
      have x1 := X0.out.c1
      go_region_with (first
          | (go_at_call 100; refine (rweeks_any _).mono ?_; rintro e w2 ⟨L, rfl, hL1, hL2, k1⟩
             have d1 : w2.cell? ⟨w.heap.size, 1, none⟩ = some (.int .i64 (kk : Int)) := (k1.cell (p := ⟨w.heap.size, 1, none⟩) lt).trans x1
             have hcl := hL2.cell kk p HP.out
             have lt2 := Nat.lt_of_lt_of_le lt k1.size)
          | (go_at_call 112; refine (NM.out _).mono ?_; rintro e w3 ⟨rfl, k2⟩
             have d2 : w3.cell? ⟨w.heap.size, 1, none⟩ = some (.int .i64 (kk : Int)) := (k2.cell (p := ⟨w.heap.size, 1, none⟩) lt2).trans d1))
      all_goals
        have X3 := Lib.hid ((X0.out.drawn.next k1).next k2)
        clear k1 k2 hL1 hL2 d1 d2 hcl lt lt2 x0 x1 X0
        have lt := X3.out.lt
        have x0 := X3.out.c0
        have x1 := X3.out.c1
        have x2 := X3.out.c2
        go_wp2
        go_ret
        exact ⟨rfl, X3.out.bel⟩
    · obtain ⟨c, b, hc, hb, hD⟩ := digits_two ⟨h9', h2⟩
      have hcv := wone_byte (w.alloc (.cells #[.int .i64 3, .int .i64 (kk : Int), .int .i64 n] 30)) b
      rw [hb, World.size_alloc] at hcv
      have hcw := wone_byte ((w.alloc (.cells #[.int .i64 3, .int .i64 (kk : Int), .int .i64 n] 30)).alloc (.cells #[.int .u8 (48 + n % 10)] 5)) c
      rw [hc, World.size_alloc, World.size_alloc] at hcw
      have adn : ∀ W : World, (Op.stringOp .add ⟨#[c]⟩ ⟨#[b]⟩).run Tryz.prog W = .ok (.string ⟨D.toArray⟩) W := by rw [← hT1.out, hD]; exact wadd_lists [c] [b] (by simp) (by simp)
      have L1 : decide (9 < n) = true := decide_eq_true h9'
      have X0 := Lib.hid (((Trp.new w 3 (kk : Int) n 30).more (.cells #[.int .u8 (48 + n % 10)] 5)).more (.cells #[.int .u8 (48 + n / 10)] 5))
      clear hb hc hD h9'
      obtain ⟨M, hM⟩ : ∃ M, N ++ [60, 61] = M := ⟨_, rfl⟩
      have hMl : M.length ≤ 1000 := by rw [← hM]; simp; omega
      have ad0 : ∀ W : World, (Op.stringOp .add ⟨N.toArray⟩ ⟨#[60, 61]⟩).run Tryz.prog W = .ok (.string ⟨M.toArray⟩) W := hM ▸ wadd_lists N [60, 61] (by omega) (by simp)
      have ad1 : ∀ W : World, (Op.stringOp .add ⟨M.toArray⟩ ⟨D.toArray⟩).run Tryz.prog W = .ok (.string ⟨T.toArray⟩) W := by rw [HT.out, hM]; exact wadd_lists M D hMl (by first | omega | simp)
      clear hM hMl
      clear HT hT1 hNl hDl
      go_enter Tryz.func114, Tryz.ntmps114
      go_wp2
      have lt := X0.out.lt
      have x0 := X0.out.c0
      have x1 := X0.out.c1
      go_region_with (first
          | (go_at_call 100; refine (rweeks_any _).mono ?_; rintro e w2 ⟨L, rfl, hL1, hL2, k1⟩
             have d1 : w2.cell? ⟨w.heap.size, 1, none⟩ = some (.int .i64 (kk : Int)) := (k1.cell (p := ⟨w.heap.size, 1, none⟩) lt).trans x1
             have hcl := hL2.cell kk p HP.out
             have lt2 := Nat.lt_of_lt_of_le lt k1.size)
          | (go_at_call 112; refine (NM.out _).mono ?_; rintro e w3 ⟨rfl, k2⟩
             have d2 : w3.cell? ⟨w.heap.size, 1, none⟩ = some (.int .i64 (kk : Int)) := (k2.cell (p := ⟨w.heap.size, 1, none⟩) lt2).trans d1))
      all_goals
        have X3 := Lib.hid ((X0.out.drawn.next k1).next k2)
        clear k1 k2 hL1 hL2 d1 d2 hcl lt lt2 x0 x1 X0
        have lt := X3.out.lt
        have x0 := X3.out.c0
        have x1 := X3.out.c1
        have x2 := X3.out.c2
        go_wp2
        go_ret
        exact ⟨rfl, X3.out.bel⟩
end Go.Proofs.YtfmehdophoejiaaGreatDoor
