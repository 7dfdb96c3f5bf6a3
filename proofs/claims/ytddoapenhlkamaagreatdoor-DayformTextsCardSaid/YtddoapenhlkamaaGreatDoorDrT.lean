/- The contracts of words.WeekdayName, dayform.Print, and the reference's Text: the text of a day of a month; nothing that was in memory changes. -/
import Derived.Test.YtddoapenhlkamaaGreatDoorDrA
namespace Go.Proofs.YtddoapenhlkamaaGreatDoor
open Go.RowKit

theorem dname_cap (kk : Nat) : dname (kk : Int) = capL (weeksL.getD kk []) := rfl
theorem fweeks_nm : ∀ p ∈ weeksL, nameOk p = true := List.all_eq_true.1 (by decide)
theorem week_get {kk : Nat} (h : kk < 7) : ∃ p, weeksL[kk]? = some p ∧ nameOk p = true ∧ capL p = dname (kk : Int) := by
  obtain ⟨p, hp⟩ : ∃ p, weeksL[kk]? = some p := ⟨_, List.getElem?_eq_getElem (show kk < weeksL.length from h)⟩
  exact ⟨p, hp, fweeks_nm p (List.mem_of_getElem? hp), by rw [dname_cap, List.getD_eq_getElem?_getD, hp]; rfl⟩
theorem dname_len (kk : Nat) (h : kk < 7) : (dname (kk : Int)).length = 3 := by
  have : ∀ k : Fin 7, (dname (k.val : Int)).length = 3 := by decide
  exact this ⟨kk, h⟩

theorem fwname_is (kk : Nat) (N : List UInt8) (w : World) (hk : kk < 7) (hA : LaidF w) (hN : Hid (dname (kk : Int) = N)) :
    Calls Tryz.prog 16 #[.int .i64 (kk : Int)] w fun e w' => e = .returned (.tuple #[.string ⟨N.toArray⟩, .int .i64 0]) ∧ Below w.heap.size w w' := by
  obtain ⟨p, hp, h1, h2⟩ := week_get hk
  have hc := hA.wee.cell kk p hp
  have hpl := wcell_lt hc
  have NM : Hid (∀ W, Calls Tryz.prog 30 #[.string ⟨p.toArray⟩] W fun e w' => e = .returned (.string ⟨N.toArray⟩) ∧ Below W.heap.size W w') := Lib.hid fun W => by rw [← hN.out, ← h2]; exact name_any p W h1
  have h7 : ¬ 7 ≤ (kk : Int) := by omega
  have h7' : decide (7 ≤ kk) = false := decide_eq_false (by omega)
  clear hp hA hN h1 h2
  go_enter Tryz.func16, Tryz.ntmps16
  go_wp2_with (go_at_call 30; refine (NM.out _).mono ?_; rintro e w1 ⟨rfl, k1⟩)
  go_ret2
  exact ⟨rfl, k1⟩

theorem numT_len (n : Int) : (numT n).length ≤ 2 := by unfold numT; split <;> simp

set_option maxHeartbeats 1600000 in
theorem dprint_no (k wk n : Int) (w : World) (hd : ¬ dfD k wk n) :
    Calls Tryz.prog 6 #[.agg #[.int .i64 k, .int .i64 wk, .int .i64 n]] w fun e w' => e = .returned (.tuple #[.string ⟨#[]⟩, .int .i64 10]) ∧ Below w.heap.size w w' := by
  have T0 := Lib.hid (Trp.new w k wk n 23)
  have CK : Hid (∀ W, Calls Tryz.prog 8 #[.agg #[.int .i64 k, .int .i64 wk, .int .i64 n]] W fun e w' => e = .returned (.int .i64 10) ∧ Below W.heap.size W w') := Lib.hid fun W => dcheck_is k wk n 10 W (Lib.hid (dfE_no hd))
  clear hd
  go_enter Tryz.func6, Tryz.ntmps6
  go_wp2_with (go_at_call 8; refine (CK.out _).mono ?_; rintro e w1 ⟨rfl, k1⟩)
  go_ret2
  exact ⟨rfl, (T0.out.next k1).bel⟩
set_option maxHeartbeats 1600000 in
theorem dprint_yes (k n : Int) (kk : Nat) (T : List UInt8) (w : World) (hA : LaidF w) (hd : dfD k (kk : Int) n) (hT : Hid (dfT k (kk : Int) n = T)) :
    Calls Tryz.prog 6 #[.agg #[.int .i64 k, .int .i64 (kk : Int), .int .i64 n]] w fun e w' => e = .returned (.tuple #[.string ⟨T.toArray⟩, .int .i64 0]) ∧ Below w.heap.size w w' := by
  have T0 := Lib.hid (Trp.new w k (kk : Int) n 23)
  have CK : Hid (∀ W, Calls Tryz.prog 8 #[.agg #[.int .i64 k, .int .i64 (kk : Int), .int .i64 n]] W fun e w' => e = .returned (.int .i64 0) ∧ Below W.heap.size W w') := Lib.hid fun W => dcheck_is k kk n 0 W (Lib.hid (dfE_yes hd))
  have hk7 : kk < 7 := by unfold dfD at hd; omega
  obtain ⟨N, hN⟩ : ∃ N, dname (kk : Int) = N := ⟨_, rfl⟩
  have hNl : N.length = 3 := hN ▸ dname_len kk hk7
  have WN : Hid (∀ W, LaidF W → Calls Tryz.prog 16 #[.int .i64 (kk : Int)] W fun e w' => e = .returned (.tuple #[.string ⟨N.toArray⟩, .int .i64 0]) ∧ Below W.heap.size W w') := Lib.hid fun W h => fwname_is kk N W hk7 h (Lib.hid hN)
  obtain ⟨D, hD⟩ : ∃ D, numT n = D := ⟨_, rfl⟩
  have hDl : D.length ≤ 2 := hD ▸ numT_len n
  have IT : Hid (k ≠ 1 → ∀ W, LaidF W → Calls Tryz.prog 17 #[.int .i64 n] W fun e w' => e = .returned (.string ⟨D.toArray⟩) ∧ Below W.heap.size W w') := Lib.hid fun h1 W hW => by
    have hn : 1 ≤ n ∧ n ≤ 31 := by unfold dfD at hd; omega
    exact fitoa_is n D W (by omega) (by omega) hW.pow (Lib.hid ((numT_itoa hn.1 hn.2).trans hD))
  have hk4 : k = 0 ∨ k = 1 ∨ k = 2 ∨ k = 3 := by unfold dfD at hd; omega
  have HT : Hid (T = if k = 0 then D else if k = 1 then lastW4 ++ N else if k = 2 then N ++ [62, 61] ++ D else N ++ [60, 61] ++ D) := Lib.hid (by rw [← hT.out]; unfold dfT; rw [hN, hD])
  have HA := Lib.hid hA
  have K0 : Hid (∀ W, LaidF W → (W.cell? ⟨0, 0, none⟩ = some (.string ⟨#[62, 61]⟩) ∧ W.cell? ⟨0, 1, none⟩ = some (.string ⟨#[60, 61]⟩))) := Lib.hid fun W h => ⟨h.sig.cell 0 _ rfl, h.sig.cell 1 _ rfl⟩
  clear hd hA hN hD hT hk7
  rcases hk4 with rfl | rfl | rfl | rfl
  · obtain rfl : T = D := HT.out
    have IT1 := Lib.hid (IT.out (by decide))
    have ad0 : ∀ W : World, (Op.stringOp .add ⟨#[]⟩ ⟨T.toArray⟩).run Tryz.prog W = .ok (.string ⟨T.toArray⟩) W := wadd_lists [] T (by simp) (by omega)
    clear IT HT hNl hDl
    go_enter Tryz.func6, Tryz.ntmps6
    go_wp2_with (first
      | (go_at_call 8; refine (CK.out _).mono ?_; rintro e w1 ⟨rfl, k1⟩
         have T1 := Lib.hid (T0.out.next k1)
         clear k1 T0
         have lt := T1.out.lt
         have c0 := T1.out.c0
         have c1 := T1.out.c1
         have c2 := T1.out.c2)
      | (go_at_call 16; refine (WN.out _ (HA.out.next T1.out.bel)).mono ?_; rintro e w2 ⟨rfl, k2⟩
         have T2 := Lib.hid (T1.out.next k2)
         clear k2 T1 lt c0 c1 c2
         have lt := T2.out.lt
         have c0 := T2.out.c0
         have c1 := T2.out.c1
         have c2 := T2.out.c2)
      | (go_at_call 17; refine (IT1.out _ (HA.out.next T2.out.bel)).mono ?_; rintro e w3 ⟨rfl, k3⟩))
    go_ret2
    exact ⟨rfl, (T2.out.next k3).bel⟩
  · obtain rfl : T = lastW4 ++ N := HT.out
    have ad0 : ∀ W : World, (Op.stringOp .add ⟨#[108, 97, 115, 116]⟩ ⟨N.toArray⟩).run Tryz.prog W = .ok (.string ⟨(lastW4 ++ N).toArray⟩) W := wadd_lists [108, 97, 115, 116] N (by simp) (by omega)
    clear IT HT hNl hDl
    go_enter Tryz.func6, Tryz.ntmps6
    go_wp2_with (first
      | (go_at_call 8; refine (CK.out _).mono ?_; rintro e w1 ⟨rfl, k1⟩
         have T1 := Lib.hid (T0.out.next k1)
         clear k1 T0
         have lt := T1.out.lt
         have c0 := T1.out.c0
         have c1 := T1.out.c1
         have c2 := T1.out.c2)
      | (go_at_call 16; refine (WN.out _ (HA.out.next T1.out.bel)).mono ?_; rintro e w2 ⟨rfl, k2⟩
         have T2 := Lib.hid (T1.out.next k2)
         clear k2 T1 lt c0 c1 c2
         have lt := T2.out.lt
         have c0 := T2.out.c0
         have c1 := T2.out.c1
         have c2 := T2.out.c2))
    go_ret2
    exact ⟨rfl, T2.out.bel⟩
  · obtain rfl : T = N ++ [62, 61] ++ D := HT.out
    have IT1 := Lib.hid (IT.out (by decide))
    obtain ⟨M, hM⟩ : ∃ M, N ++ [62, 61] = M := ⟨_, rfl⟩
    obtain ⟨R, hR⟩ : ∃ R, M ++ D = R := ⟨_, rfl⟩
    have hMl : M.length ≤ 1000 := by rw [← hM]; simp; omega
    have ad0 : ∀ W : World, (Op.stringOp .add ⟨N.toArray⟩ ⟨#[62, 61]⟩).run Tryz.prog W = .ok (.string ⟨M.toArray⟩) W := hM ▸ wadd_lists N [62, 61] (by omega) (by simp)
    have ad1 : ∀ W : World, (Op.stringOp .add ⟨M.toArray⟩ ⟨D.toArray⟩).run Tryz.prog W = .ok (.string ⟨R.toArray⟩) W := hR ▸ wadd_lists M D hMl (by omega)
    rw [hM, hR]
    clear IT HT hNl hDl hM hR hMl
    go_enter Tryz.func6, Tryz.ntmps6
    go_wp2_with (first
      | (go_at_call 8; refine (CK.out _).mono ?_; rintro e w1 ⟨rfl, k1⟩
         have T1 := Lib.hid (T0.out.next k1)
         clear k1 T0
         have lt := T1.out.lt
         have c0 := T1.out.c0
         have c1 := T1.out.c1
         have c2 := T1.out.c2)
      | (go_at_call 16; refine (WN.out _ (HA.out.next T1.out.bel)).mono ?_; rintro e w2 ⟨rfl, k2⟩
         have T2 := Lib.hid (T1.out.next k2)
         clear k2 T1 lt c0 c1 c2
         obtain ⟨cs0, cs1⟩ := K0.out _ (HA.out.next T2.out.bel)
         have lt := T2.out.lt
         have c0 := T2.out.c0
         have c1 := T2.out.c1
         have c2 := T2.out.c2)
      | (go_at_call 17; refine (IT1.out _ (HA.out.next T2.out.bel)).mono ?_; rintro e w3 ⟨rfl, k3⟩))
    go_ret2
    exact ⟨rfl, (T2.out.next k3).bel⟩
  · obtain rfl : T = N ++ [60, 61] ++ D := HT.out
    have IT1 := Lib.hid (IT.out (by decide))
    obtain ⟨M, hM⟩ : ∃ M, N ++ [60, 61] = M := ⟨_, rfl⟩
    obtain ⟨R, hR⟩ : ∃ R, M ++ D = R := ⟨_, rfl⟩
    have hMl : M.length ≤ 1000 := by rw [← hM]; simp; omega
    have ad0 : ∀ W : World, (Op.stringOp .add ⟨N.toArray⟩ ⟨#[60, 61]⟩).run Tryz.prog W = .ok (.string ⟨M.toArray⟩) W := hM ▸ wadd_lists N [60, 61] (by omega) (by simp)
    have ad1 : ∀ W : World, (Op.stringOp .add ⟨M.toArray⟩ ⟨D.toArray⟩).run Tryz.prog W = .ok (.string ⟨R.toArray⟩) W := hR ▸ wadd_lists M D hMl (by omega)
    rw [hM, hR]
    clear IT HT hNl hDl hM hR hMl
    go_enter Tryz.func6, Tryz.ntmps6
    go_wp2_with (first
      | (go_at_call 8; refine (CK.out _).mono ?_; rintro e w1 ⟨rfl, k1⟩
         have T1 := Lib.hid (T0.out.next k1)
         clear k1 T0
         have lt := T1.out.lt
         have c0 := T1.out.c0
         have c1 := T1.out.c1
         have c2 := T1.out.c2)
      | (go_at_call 16; refine (WN.out _ (HA.out.next T1.out.bel)).mono ?_; rintro e w2 ⟨rfl, k2⟩
         have T2 := Lib.hid (T1.out.next k2)
         clear k2 T1 lt c0 c1 c2
         obtain ⟨cs0, cs1⟩ := K0.out _ (HA.out.next T2.out.bel)
         have lt := T2.out.lt
         have c0 := T2.out.c0
         have c1 := T2.out.c1
         have c2 := T2.out.c2)
      | (go_at_call 17; refine (IT1.out _ (HA.out.next T2.out.bel)).mono ?_; rintro e w3 ⟨rfl, k3⟩))
    go_ret2
    exact ⟨rfl, (T2.out.next k3).bel⟩
end Go.Proofs.YtddoapenhlkamaaGreatDoor
