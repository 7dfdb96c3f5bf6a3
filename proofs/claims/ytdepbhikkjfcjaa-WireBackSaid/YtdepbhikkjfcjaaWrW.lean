/- For every number and every size the law WireWrites returns true, and nothing that was in memory changes. -/
import Derived.Test.YtdepbhikkjfcjaaWrS
namespace Go.Proofs.Ytdepbhikkjfcjaa
open Go.RowKit Go.Shelf
attribute [local go_sem] Oper.semAt_some

theorem fL_len (n s : Int) : (fL n s).length ≤ 8 := by
  unfold fL
  split
  · rw [fx_len]; omega
  · simp

namespace wireWrites
set_option maxRecDepth 20000 in
set_option maxHeartbeats 2000000 in
theorem walk_yes (k : Nat) (s : Int) (w : World) (hk : k < 9223372036854775808) :
    Calls Try.prog 3 #[.int .i64 (k : Int), .int .i64 s] w fun e w' => e = .returned (.bool true) ∧ Below w.heap.size w w' := by
  obtain ⟨L, hL⟩ : ∃ L, pc k = L := ⟨_, rfl⟩
  obtain ⟨M, hM⟩ : ∃ M, pc (tz k) = M := ⟨_, rfl⟩
  obtain ⟨F, hF⟩ : ∃ F, fL k s = F := ⟨_, rfl⟩
  obtain ⟨B, hB⟩ : ∃ B, bt 63 k = B := ⟨_, rfl⟩
  obtain ⟨T, hT⟩ : ∃ T, bt 64 (tz k) = T := ⟨_, rfl⟩
  have ht := tz_lt (n := (k : Int)) (by omega) (by omega)
  have lL : L.length ≤ 100 := by rw [← hL]; have := pc_len9 hk; omega
  have lM : M.length ≤ 100 := by rw [← hM]; have := pc_len10 ht; omega
  have lF : F.length ≤ 100 := by rw [← hF]; have := fL_len k s; omega
  have CU := Lib.hid (fun w => hL ▸ uint_yes k hk w)
  have CI := Lib.hid (fun w => hM ▸ int_any k w (by omega) (by omega))
  have CF := Lib.hid (fun w => hF ▸ fixed_any k s w)
  have CR := Lib.hid (fun w => hF ▸ rfixed_any k s w (by omega))
  have CB := Lib.hid (fun w => hB ▸ bits_any k w hk)
  have CT := Lib.hid (fun w => hT ▸ rturned_any k w (by omega) (by omega))
  have CP : Hid (∀ a cc w, Nu w a B → Calls Try.prog 9 #[.slice a B.length cc] w (Coll L w)) := Lib.hid fun a cc w h => by
    have := rpieces_any a cc B w h (by rw [← hB]; exact bt_b _ _) (by rw [← hB, bt_len]; omega)
    rw [← hB, bv_bt, Nat.mod_eq_of_lt hk, hL] at this
    rw [← hB]; exact this
  have CQ : Hid (∀ a cc w, Nu w a T → Calls Try.prog 9 #[.slice a T.length cc] w (Coll M w)) := Lib.hid fun a cc w h => by
    have := rpieces_any a cc T w h (by rw [← hT]; exact bt_b _ _) (by rw [← hT, bt_len]; omega)
    rw [← hT, bv_bt, Nat.mod_eq_of_lt ht, hM] at this
    rw [← hT]; exact this
  have TL : Hid (decide (L = L) = true) := Lib.hid (by simp)
  have TM : Hid (decide (M = M) = true) := Lib.hid (by simp)
  have TF : Hid (decide (F = F) = true) := Lib.hid (by simp)
  clear hL hM hF hB hT ht hk
  go_enter Try.func3, Try.ntmps3
  go_wp2_with (first
    | (go_at_call 10; refine (CB.out _).mono ?_; rintro e w1 ⟨A1, c1, rfl, o1, k1⟩
       have N1 := Lib.hid (Nu.of_own o1)
       have B1 := Lib.hid k1
       clear o1 k1
       simp only [])
    | (go_at_call 9; (with_reducible refine (CP.out A1 c1 _ N1.out).mono ?_); rintro e w2 ⟨A2, c2, rfl, o2, k2⟩
       have Y2 := Lib.hid (By.of_own o2)
       have B2 := Lib.hid (B1.out.trans (k2.mono B1.out.size))
       clear o2 k2
       simp only [])
    | (go_at_call 12; refine (CU.out _).mono ?_; rintro e w3 ⟨A3, c3, rfl, o3, k3⟩
       have Y3 := Lib.hid (By.of_own o3)
       have Z3 := Lib.hid (Y2.out.next k3)
       have B3 := Lib.hid (B2.out.trans (k3.mono B2.out.size))
       clear o3 k3 Y2
       simp only [])
    | (go_at_call 11; (with_reducible refine (bytes_any A3 A2 c3 c2 L L true _ Y3.out Z3.out (by omega) TL).mono ?_); rintro e w4 ⟨rfl, k4⟩
       have B4 := Lib.hid (B3.out.trans (k4.mono B3.out.size))
       clear k4
       simp only [])
    | (go_at_call 13; refine (CI.out _).mono ?_; rintro e w5 ⟨A5, c5, rfl, o5, k5⟩
       have Y5 := Lib.hid (By.of_own o5)
       have B5 := Lib.hid (B4.out.trans (k5.mono B4.out.size))
       clear o5 k5
       simp only [])
    | (go_at_call 14; refine (CT.out _).mono ?_; rintro e w6 ⟨A6, c6, rfl, o6, k6⟩
       have N6 := Lib.hid (Nu.of_own o6)
       have Z6 := Lib.hid (Y5.out.next k6)
       have B6 := Lib.hid (B5.out.trans (k6.mono B5.out.size))
       clear o6 k6 Y5
       simp only [])
    | (go_at_call 9; (with_reducible refine (CQ.out A6 c6 _ N6.out).mono ?_); rintro e w7 ⟨A7, c7, rfl, o7, k7⟩
       have Y7 := Lib.hid (By.of_own o7)
       have Z7 := Lib.hid (Z6.out.next k7)
       have B7 := Lib.hid (B6.out.trans (k7.mono B6.out.size))
       clear o7 k7
       simp only [])
    | (go_at_call 11; (with_reducible refine (bytes_any A5 A7 c5 c7 M M true _ Z7.out Y7.out (by omega) TM).mono ?_); rintro e w8 ⟨rfl, k8⟩
       have B8 := Lib.hid (B7.out.trans (k8.mono B7.out.size))
       clear k8
       simp only [])
    | (go_at_call 15; refine (CF.out _).mono ?_; rintro e w9 ⟨A9, c9, rfl, o9, k9⟩
       have Y9 := Lib.hid (By.of_own o9)
       have B9 := Lib.hid (B8.out.trans (k9.mono B8.out.size))
       clear o9 k9
       simp only [])
    | (go_at_call 16; refine (CR.out _).mono ?_; rintro e w10 ⟨A10, c10, rfl, o10, k10⟩
       have Y10 := Lib.hid (By.of_own o10)
       have Z10 := Lib.hid (Y9.out.next k10)
       have B10 := Lib.hid (B9.out.trans (k10.mono B9.out.size))
       clear o10 k10
       simp only [])
    | (go_at_call 11; (with_reducible refine (bytes_any A9 A10 c9 c10 F F true _ Z10.out Y10.out (by omega) TF).mono ?_); rintro e w11 ⟨rfl, k11⟩
       have B11 := Lib.hid (B10.out.trans (k11.mono B10.out.size))
       clear k11
       simp only [])
    | (go_at_call 17; refine (awake_yes _).mono ?_; rintro e w12 ⟨rfl, k12⟩
       have B12 := Lib.hid (B11.out.trans (k12.mono B11.out.size))
       clear k12
       simp only []))
  go_ret
  exact ⟨rfl, B12.out⟩

set_option maxRecDepth 20000 in
set_option maxHeartbeats 2000000 in
theorem walk_no (n : Int) (s : Int) (w : World) (hn : n < 0) (h1 : -9223372036854775808 ≤ n) :
    Calls Try.prog 3 #[.int .i64 n, .int .i64 s] w fun e w' => e = .returned (.bool true) ∧ Below w.heap.size w w' := by
  obtain ⟨M, hM⟩ : ∃ M, pc (tz n) = M := ⟨_, rfl⟩
  obtain ⟨F, hF⟩ : ∃ F, fL n s = F := ⟨_, rfl⟩
  obtain ⟨T, hT⟩ : ∃ T, bt 64 (tz n) = T := ⟨_, rfl⟩
  have ht := tz_lt (n := n) (by omega) (by omega)
  have lM : M.length ≤ 100 := by rw [← hM]; have := pc_len10 ht; omega
  have lF : F.length ≤ 100 := by rw [← hF]; have := fL_len n s; omega
  have CU := Lib.hid (fun w => uint_no n hn w)
  have CI := Lib.hid (fun w => hM ▸ int_any n w (by omega) (by omega))
  have CF := Lib.hid (fun w => hF ▸ fixed_any n s w)
  have CR := Lib.hid (fun w => hF ▸ rfixed_any n s w (by omega))
  have CT := Lib.hid (fun w => hT ▸ rturned_any n w (by omega) (by omega))
  have CQ : Hid (∀ a cc w, Nu w a T → Calls Try.prog 9 #[.slice a T.length cc] w (Coll M w)) := Lib.hid fun a cc w h => by
    have := rpieces_any a cc T w h (by rw [← hT]; exact bt_b _ _) (by rw [← hT, bt_len]; omega)
    rw [← hT, bv_bt, Nat.mod_eq_of_lt ht, hM] at this
    rw [← hT]; exact this
  have TL : Hid (decide (([] : List UInt8) = []) = true) := Lib.hid (by simp)
  have TM : Hid (decide (M = M) = true) := Lib.hid (by simp)
  have TF : Hid (decide (F = F) = true) := Lib.hid (by simp)
  clear hM hF hT ht h1
  go_enter Try.func3, Try.ntmps3
  go_wp2_with (first
    | (go_at_call 12; refine (CU.out _).mono ?_; rintro e w3 ⟨A3, c3, rfl, o3, k3⟩
       have Y3 := Lib.hid (By.of_own o3)
       have B3 := Lib.hid k3
       clear o3 k3
       simp only [])
    | (go_at_call 11; (with_reducible refine (bytes_n A3 none c3 0 0 0 [] [] true _ rfl rfl Y3.out (By.nil _ _) (by omega) TL).mono ?_); rintro e w4 ⟨rfl, k4⟩
       have B4 := Lib.hid (B3.out.trans (k4.mono B3.out.size))
       clear k4
       simp only [])
    | (go_at_call 13; refine (CI.out _).mono ?_; rintro e w5 ⟨A5, c5, rfl, o5, k5⟩
       have Y5 := Lib.hid (By.of_own o5)
       have B5 := Lib.hid (B4.out.trans (k5.mono B4.out.size))
       clear o5 k5
       simp only [])
    | (go_at_call 14; refine (CT.out _).mono ?_; rintro e w6 ⟨A6, c6, rfl, o6, k6⟩
       have N6 := Lib.hid (Nu.of_own o6)
       have Z6 := Lib.hid (Y5.out.next k6)
       have B6 := Lib.hid (B5.out.trans (k6.mono B5.out.size))
       clear o6 k6 Y5
       simp only [])
    | (go_at_call 9; (with_reducible refine (CQ.out A6 c6 _ N6.out).mono ?_); rintro e w7 ⟨A7, c7, rfl, o7, k7⟩
       have Y7 := Lib.hid (By.of_own o7)
       have Z7 := Lib.hid (Z6.out.next k7)
       have B7 := Lib.hid (B6.out.trans (k7.mono B6.out.size))
       clear o7 k7
       simp only [])
    | (go_at_call 11; (with_reducible refine (bytes_any A5 A7 c5 c7 M M true _ Z7.out Y7.out (by omega) TM).mono ?_); rintro e w8 ⟨rfl, k8⟩
       have B8 := Lib.hid (B7.out.trans (k8.mono B7.out.size))
       clear k8
       simp only [])
    | (go_at_call 15; refine (CF.out _).mono ?_; rintro e w9 ⟨A9, c9, rfl, o9, k9⟩
       have Y9 := Lib.hid (By.of_own o9)
       have B9 := Lib.hid (B8.out.trans (k9.mono B8.out.size))
       clear o9 k9
       simp only [])
    | (go_at_call 16; refine (CR.out _).mono ?_; rintro e w10 ⟨A10, c10, rfl, o10, k10⟩
       have Y10 := Lib.hid (By.of_own o10)
       have Z10 := Lib.hid (Y9.out.next k10)
       have B10 := Lib.hid (B9.out.trans (k10.mono B9.out.size))
       clear o10 k10
       simp only [])
    | (go_at_call 11; (with_reducible refine (bytes_any A9 A10 c9 c10 F F true _ Z10.out Y10.out (by omega) TF).mono ?_); rintro e w11 ⟨rfl, k11⟩
       have B11 := Lib.hid (B10.out.trans (k11.mono B10.out.size))
       clear k11
       simp only [])
    | (go_at_call 17; refine (awake_yes _).mono ?_; rintro e w12 ⟨rfl, k12⟩
       have B12 := Lib.hid (B11.out.trans (k12.mono B11.out.size))
       clear k12
       simp only []))
  go_ret
  exact ⟨rfl, B12.out⟩

theorem walk (n s : Int) (w : World) (h1 : -9223372036854775808 ≤ n ∧ n ≤ 9223372036854775807) (_ : -9223372036854775808 ≤ s ∧ s ≤ 9223372036854775807) :
    Calls Try.prog 3 #[.int .i64 n, .int .i64 s] w fun e w' => e = .returned (.bool true) ∧ Below w.heap.size w w' := by
  by_cases h : n < 0
  · exact walk_no n s w h h1.1
  · obtain ⟨k, rfl⟩ : ∃ k : Nat, n = (k : Int) := ⟨n.toNat, by omega⟩
    exact walk_yes k s w (by omega)
end wireWrites
end Go.Proofs.Ytdepbhikkjfcjaa
