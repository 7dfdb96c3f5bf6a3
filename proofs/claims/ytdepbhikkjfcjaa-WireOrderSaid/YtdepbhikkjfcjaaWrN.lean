/- For every two numbers the law WireOrder returns true, and nothing that was in memory changes. -/
import Derived.Test.YtdepbhikkjfcjaaWrW
import Derived.Test.YtdepbhikkjfcjaaWrO
namespace Go.Proofs.Ytdepbhikkjfcjaa
open Go.RowKit Go.Shelf
attribute [local go_sem] Oper.semAt_some

theorem take_run (a : Option Addr) (n c k : Nat) (h : k ≤ c) (hc : 0 < c) (W : World) : (Instr.slice 22 (.slice a n c) none (some (.int .i64 (k : Int))) none).run Try.prog W = .ok (.slice a k c) W := by
  have e : Try.prog.elem 22 = 5 := by kernel_rfl
  have hs : (sizeOf 5).run Try.prog W = .ok 1 W := by kernel_rfl
  rw [run_slice_h W 22 a n c (by rw [e]; exact Try.underlying22) .i64 k (by omega) (by omega), e, hs]
  have h0 : ¬ c = 0 := by omega
  simp only [Result.andThen, sliced, Int.toNat_natCast, Nat.zero_mul, Nat.sub_zero, if_neg h0]
  congr 2
  cases a with
  | none => rfl
  | some x => simp [Addr.add]

theorem own_le {w : World} {base n c : Nat} {A : Option Addr} {e : TypeId} {xs : List Value} (h : w.ownsRow base e 1 (.slice A n c) n xs) : n ≤ c := by
  rcases h.2 with ⟨h1, h2⟩ | ⟨g', cap, cur, hv, hb, hg, h1, h2, h3, h4⟩
  · omega
  · injection hv with e1 e2 e3; omega

namespace wireOrder
/-- What the law asks of the two turned numbers' pieces. -/
theorem pre_is {n m : Int} (h : (pc (tz n)).length ≤ (pc (tz m)).length) : decide (pc (tz n) = (pc (tz m)).take (pc (tz n)).length) = decide (n = m) := by
  by_cases e : n = m
  · subst e; simp
  · have : ¬ pc (tz n) = (pc (tz m)).take (pc (tz n)).length := fun h2 => e (by
      have h3 : pc (tz m) = pc (tz n) ++ (pc (tz m)).drop (pc (tz n)).length := by
        conv => lhs; rw [← List.take_append_drop (pc (tz n)).length (pc (tz m)), ← h2]
      have := congrArg tb (pc_pre h3)
      rwa [tb_tz, tb_tz] at this)
    simp [e, this]

theorem uL_no {n : Int} (h : n < 0) : uL n = [] := if_pos h
theorem uL_yes {n : Int} (h : 0 ≤ n) : uL n = pc n.toNat := if_neg (by omega)

set_option maxRecDepth 20000 in
set_option maxHeartbeats 4000000 in
theorem walk (n m : Int) (w : World) (hn : in64 n) (hm : in64 m) :
    Calls Try.prog 7 #[.int .i64 n, .int .i64 m] w fun e w' => e = .returned (.bool true) ∧ Below w.heap.size w w' := by
  have hn1 := hn.1
  have hn2 := hn.2
  have hm1 := hm.1
  have hm2 := hm.2
  clear hn hm
  obtain ⟨A, hA⟩ : ∃ A, pc (tz n) = A := ⟨_, rfl⟩
  obtain ⟨B, hB⟩ : ∃ B, pc (tz m) = B := ⟨_, rfl⟩
  obtain ⟨X, hX⟩ : ∃ X, uL n = X := ⟨_, rfl⟩
  obtain ⟨Y, hY⟩ : ∃ Y, uL m = Y := ⟨_, rfl⟩
  have CA := Lib.hid (fun w => hA ▸ int_any n w hn1 hn2)
  have CB := Lib.hid (fun w => hB ▸ int_any m w hm1 hm2)
  have CX := Lib.hid (fun w => hX ▸ uint_any n w hn2)
  have CY := Lib.hid (fun w => hY ▸ uint_any m w hm2)
  have a1 : 1 ≤ A.length := hA ▸ pc_pos _
  have a2 : A.length ≤ 10 := hA ▸ pc_len10 (tz_lt hn1 hn2)
  have b1 : 1 ≤ B.length := hB ▸ pc_pos _
  have b2 : B.length ≤ 10 := hB ▸ pc_len10 (tz_lt hm1 hm2)
  have PR : Hid (A.length ≤ B.length → decide (A = B.take A.length) = decide (n = m)) := Lib.hid fun h => by rw [← hA, ← hB] at h ⊢; exact pre_is h
  have LE : Hid (n = m → A.length ≤ B.length) := Lib.hid (by rintro rfl; rw [← hA, ← hB]; exact Nat.le_refl _)
  have xn : n < 0 → X.length = 0 := fun h => by rw [← hX, uL_no h]; rfl
  have yn : m < 0 → Y.length = 0 := fun h => by rw [← hY, uL_no h]; rfl
  have x1 : 0 ≤ n → 1 ≤ X.length ∧ X.length ≤ 9 := fun h => by rw [← hX, uL_yes h]; exact ⟨pc_pos _, pc_len9 (by omega)⟩
  have xy : 0 ≤ m → m ≤ n → Y.length ≤ X.length := fun h1 h2 => by rw [← hX, ← hY, uL_yes h1, uL_yes (by omega)]; exact pc_mono _ _ (by omega)
  have XN := Lib.hid xn
  have YN := Lib.hid yn
  have X1 := Lib.hid x1
  have XY := Lib.hid xy
  clear xn yn x1 xy hA hB hX hY hn1 hn2 hm1 hm2
  have three : (n = m ∧ A.length ≤ B.length) ∨ (n ≠ m ∧ A.length ≤ B.length) ∨ (n ≠ m ∧ B.length < A.length) := by
    by_cases h : n = m
    · exact .inl ⟨h, LE.out h⟩
    · rcases Nat.lt_or_ge B.length A.length with h2 | h2
      · exact .inr (.inr ⟨h, h2⟩)
      · exact .inr (.inl ⟨h, h2⟩)
  obtain ⟨v, hv⟩ : ∃ v, decide (n = m) = v := ⟨_, rfl⟩
  have hnm : (n == m) = v := by rw [← hv]; by_cases h : n = m <;> simp [h]
  have PV : Hid (A.length ≤ B.length → decide (A = B.take A.length) = v) := Lib.hid (by rw [← hv]; exact PR.out)
  clear PR LE
  have HN : Hid (n ≤ m ∨ v = false) := Lib.hid (by by_cases h : n = m <;> simp [← hv, h])
  clear three hv HN
  have casea0 : A.length ≤ B.length → n < 0 → m < 0 → Calls Try.prog 7 #[.int .i64 n, .int .i64 m] w fun e w' => e = .returned (.bool true) ∧ Below w.heap.size w w' := by
    intro hab hn hm
    have hab2 : (A.length : Int) ≤ (B.length : Int) := by omega
    have PW := Lib.hid (PV.out hab)
    clear PV
    obtain rfl : X = [] := List.length_eq_zero_iff.1 (XN.out hn)
    obtain rfl : Y = [] := List.length_eq_zero_iff.1 (YN.out hm)
    clear XN YN X1 XY
    go_enter Try.func7, Try.ntmps7
    go_wp2_with (first
      | (go_at_call 13; (with_reducible refine (CA.out w).mono ?_); rintro e w1 ⟨A1, c1, rfl, o1, k1⟩
         have Y1 := Lib.hid (By.of_own o1)
         have B1 := Lib.hid k1
         clear o1 k1
         simp only [])
      | (go_at_call 13; (with_reducible refine (CB.out w1).mono ?_); rintro e w2 ⟨A2, c2, rfl, o2, k2⟩
         have Y2 := Lib.hid (By.of_own o2)
         have Z2 := Lib.hid (Y1.out.next k2)
         have B2 := Lib.hid (B1.out.trans (k2.mono B1.out.size))
         have hc2 := own_le o2
         have htk := take_run A2 B.length c2 A.length (by omega) (by omega)
         clear o2 k2
         simp only [])
      | (go_at_call 11; (with_reducible refine (bytes_n A1 A2 c1 c2 A.length A.length A (B.take A.length) v _ rfl (by rw [List.length_take]; omega) Z2.out (Y2.out.take _) (by omega) PW).mono ?_); rintro e w3 ⟨rfl, k3⟩
         have B3 := Lib.hid (B2.out.trans (k3.mono B2.out.size))
         clear k3
         simp only [])
      | (go_at_call 12; (with_reducible refine (CX.out w3).mono ?_); rintro e w4 ⟨A4, c4, rfl, o4, k4⟩
         have B4 := Lib.hid (B3.out.trans (k4.mono B3.out.size))
         clear o4 k4
         simp only [])
      | (go_at_call 12; (with_reducible refine (CY.out w4).mono ?_); rintro e w5 ⟨A5, c5, rfl, o5, k5⟩
         have B5 := Lib.hid (B4.out.trans (k5.mono B4.out.size))
         clear o5 k5
         simp only [])
      | (go_at_call 17; refine (awake_yes _).mono ?_; rintro e w6 ⟨rfl, k6⟩
         have B6 := Lib.hid (B5.out.trans (k6.mono B5.out.size))
         clear k6
         simp only []))
    go_ret
    exact ⟨rfl, B6.out⟩
  have casea1 : A.length ≤ B.length → n < 0 → 0 ≤ m → Calls Try.prog 7 #[.int .i64 n, .int .i64 m] w fun e w' => e = .returned (.bool true) ∧ Below w.heap.size w w' := by
    intro hab hn hm
    have hab2 : (A.length : Int) ≤ (B.length : Int) := by omega
    have PW := Lib.hid (PV.out hab)
    clear PV
    obtain rfl : X = [] := List.length_eq_zero_iff.1 (XN.out hn)
    clear XN YN X1 XY
    go_enter Try.func7, Try.ntmps7
    go_wp2_with (first
      | (go_at_call 13; (with_reducible refine (CA.out w).mono ?_); rintro e w1 ⟨A1, c1, rfl, o1, k1⟩
         have Y1 := Lib.hid (By.of_own o1)
         have B1 := Lib.hid k1
         clear o1 k1
         simp only [])
      | (go_at_call 13; (with_reducible refine (CB.out w1).mono ?_); rintro e w2 ⟨A2, c2, rfl, o2, k2⟩
         have Y2 := Lib.hid (By.of_own o2)
         have Z2 := Lib.hid (Y1.out.next k2)
         have B2 := Lib.hid (B1.out.trans (k2.mono B1.out.size))
         have hc2 := own_le o2
         have htk := take_run A2 B.length c2 A.length (by omega) (by omega)
         clear o2 k2
         simp only [])
      | (go_at_call 11; (with_reducible refine (bytes_n A1 A2 c1 c2 A.length A.length A (B.take A.length) v _ rfl (by rw [List.length_take]; omega) Z2.out (Y2.out.take _) (by omega) PW).mono ?_); rintro e w3 ⟨rfl, k3⟩
         have B3 := Lib.hid (B2.out.trans (k3.mono B2.out.size))
         clear k3
         simp only [])
      | (go_at_call 12; (with_reducible refine (CX.out w3).mono ?_); rintro e w4 ⟨A4, c4, rfl, o4, k4⟩
         have B4 := Lib.hid (B3.out.trans (k4.mono B3.out.size))
         clear o4 k4
         simp only [])
      | (go_at_call 12; (with_reducible refine (CY.out w4).mono ?_); rintro e w5 ⟨A5, c5, rfl, o5, k5⟩
         have B5 := Lib.hid (B4.out.trans (k5.mono B4.out.size))
         clear o5 k5
         simp only [])
      | (go_at_call 17; refine (awake_yes _).mono ?_; rintro e w6 ⟨rfl, k6⟩
         have B6 := Lib.hid (B5.out.trans (k6.mono B5.out.size))
         clear k6
         simp only []))
    go_ret
    exact ⟨rfl, B6.out⟩
  have casea2 : A.length ≤ B.length → 0 ≤ n → m < 0 → Calls Try.prog 7 #[.int .i64 n, .int .i64 m] w fun e w' => e = .returned (.bool true) ∧ Below w.heap.size w w' := by
    intro hab hn hm
    have hab2 : (A.length : Int) ≤ (B.length : Int) := by omega
    have PW := Lib.hid (PV.out hab)
    clear PV
    obtain rfl : Y = [] := List.length_eq_zero_iff.1 (YN.out hm)
    clear XN YN X1 XY
    go_enter Try.func7, Try.ntmps7
    go_wp2_with (first
      | (go_at_call 13; (with_reducible refine (CA.out w).mono ?_); rintro e w1 ⟨A1, c1, rfl, o1, k1⟩
         have Y1 := Lib.hid (By.of_own o1)
         have B1 := Lib.hid k1
         clear o1 k1
         simp only [])
      | (go_at_call 13; (with_reducible refine (CB.out w1).mono ?_); rintro e w2 ⟨A2, c2, rfl, o2, k2⟩
         have Y2 := Lib.hid (By.of_own o2)
         have Z2 := Lib.hid (Y1.out.next k2)
         have B2 := Lib.hid (B1.out.trans (k2.mono B1.out.size))
         have hc2 := own_le o2
         have htk := take_run A2 B.length c2 A.length (by omega) (by omega)
         clear o2 k2
         simp only [])
      | (go_at_call 11; (with_reducible refine (bytes_n A1 A2 c1 c2 A.length A.length A (B.take A.length) v _ rfl (by rw [List.length_take]; omega) Z2.out (Y2.out.take _) (by omega) PW).mono ?_); rintro e w3 ⟨rfl, k3⟩
         have B3 := Lib.hid (B2.out.trans (k3.mono B2.out.size))
         clear k3
         simp only [])
      | (go_at_call 12; (with_reducible refine (CX.out w3).mono ?_); rintro e w4 ⟨A4, c4, rfl, o4, k4⟩
         have B4 := Lib.hid (B3.out.trans (k4.mono B3.out.size))
         clear o4 k4
         simp only [])
      | (go_at_call 12; (with_reducible refine (CY.out w4).mono ?_); rintro e w5 ⟨A5, c5, rfl, o5, k5⟩
         have B5 := Lib.hid (B4.out.trans (k5.mono B4.out.size))
         clear o5 k5
         simp only [])
      | (go_at_call 17; refine (awake_yes _).mono ?_; rintro e w6 ⟨rfl, k6⟩
         have B6 := Lib.hid (B5.out.trans (k6.mono B5.out.size))
         clear k6
         simp only []))
    go_ret
    exact ⟨rfl, B6.out⟩
  have casea3 : A.length ≤ B.length → 0 ≤ n → 0 ≤ m → n < m → Calls Try.prog 7 #[.int .i64 n, .int .i64 m] w fun e w' => e = .returned (.bool true) ∧ Below w.heap.size w w' := by
    intro hab hn hm hlt0
    have hab2 : (A.length : Int) ≤ (B.length : Int) := by omega
    have PW := Lib.hid (PV.out hab)
    clear PV
    have hlt : n < m := hlt0
    have x1 : 1 ≤ (X.length : Int) := by have := X1.out hn; omega
    have x9 : (X.length : Int) ≤ 9 := by have := X1.out hn; omega
    clear hlt0
    clear XN YN X1 XY
    go_enter Try.func7, Try.ntmps7
    go_wp2_with (first
      | (go_at_call 13; (with_reducible refine (CA.out w).mono ?_); rintro e w1 ⟨A1, c1, rfl, o1, k1⟩
         have Y1 := Lib.hid (By.of_own o1)
         have B1 := Lib.hid k1
         clear o1 k1
         simp only [])
      | (go_at_call 13; (with_reducible refine (CB.out w1).mono ?_); rintro e w2 ⟨A2, c2, rfl, o2, k2⟩
         have Y2 := Lib.hid (By.of_own o2)
         have Z2 := Lib.hid (Y1.out.next k2)
         have B2 := Lib.hid (B1.out.trans (k2.mono B1.out.size))
         have hc2 := own_le o2
         have htk := take_run A2 B.length c2 A.length (by omega) (by omega)
         clear o2 k2
         simp only [])
      | (go_at_call 11; (with_reducible refine (bytes_n A1 A2 c1 c2 A.length A.length A (B.take A.length) v _ rfl (by rw [List.length_take]; omega) Z2.out (Y2.out.take _) (by omega) PW).mono ?_); rintro e w3 ⟨rfl, k3⟩
         have B3 := Lib.hid (B2.out.trans (k3.mono B2.out.size))
         clear k3
         simp only [])
      | (go_at_call 12; (with_reducible refine (CX.out w3).mono ?_); rintro e w4 ⟨A4, c4, rfl, o4, k4⟩
         have B4 := Lib.hid (B3.out.trans (k4.mono B3.out.size))
         clear o4 k4
         simp only [])
      | (go_at_call 12; (with_reducible refine (CY.out w4).mono ?_); rintro e w5 ⟨A5, c5, rfl, o5, k5⟩
         have B5 := Lib.hid (B4.out.trans (k5.mono B4.out.size))
         clear o5 k5
         simp only [])
      | (go_at_call 17; refine (awake_yes _).mono ?_; rintro e w6 ⟨rfl, k6⟩
         have B6 := Lib.hid (B5.out.trans (k6.mono B5.out.size))
         clear k6
         simp only []))
    go_ret
    exact ⟨rfl, B6.out⟩
  have casea4 : A.length ≤ B.length → 0 ≤ n → 0 ≤ m → ¬ n < m → Calls Try.prog 7 #[.int .i64 n, .int .i64 m] w fun e w' => e = .returned (.bool true) ∧ Below w.heap.size w w' := by
    intro hab hn hm hlt0
    have hab2 : (A.length : Int) ≤ (B.length : Int) := by omega
    have PW := Lib.hid (PV.out hab)
    clear PV
    have hlt : ¬ n < m := hlt0
    have x1 : 1 ≤ (X.length : Int) := by have := X1.out hn; omega
    have x9 : (X.length : Int) ≤ 9 := by have := X1.out hn; omega
    have yx : (Y.length : Int) ≤ (X.length : Int) := by have := XY.out hm (by omega); omega
    clear hlt0
    clear XN YN X1 XY
    go_enter Try.func7, Try.ntmps7
    go_wp2_with (first
      | (go_at_call 13; (with_reducible refine (CA.out w).mono ?_); rintro e w1 ⟨A1, c1, rfl, o1, k1⟩
         have Y1 := Lib.hid (By.of_own o1)
         have B1 := Lib.hid k1
         clear o1 k1
         simp only [])
      | (go_at_call 13; (with_reducible refine (CB.out w1).mono ?_); rintro e w2 ⟨A2, c2, rfl, o2, k2⟩
         have Y2 := Lib.hid (By.of_own o2)
         have Z2 := Lib.hid (Y1.out.next k2)
         have B2 := Lib.hid (B1.out.trans (k2.mono B1.out.size))
         have hc2 := own_le o2
         have htk := take_run A2 B.length c2 A.length (by omega) (by omega)
         clear o2 k2
         simp only [])
      | (go_at_call 11; (with_reducible refine (bytes_n A1 A2 c1 c2 A.length A.length A (B.take A.length) v _ rfl (by rw [List.length_take]; omega) Z2.out (Y2.out.take _) (by omega) PW).mono ?_); rintro e w3 ⟨rfl, k3⟩
         have B3 := Lib.hid (B2.out.trans (k3.mono B2.out.size))
         clear k3
         simp only [])
      | (go_at_call 12; (with_reducible refine (CX.out w3).mono ?_); rintro e w4 ⟨A4, c4, rfl, o4, k4⟩
         have B4 := Lib.hid (B3.out.trans (k4.mono B3.out.size))
         clear o4 k4
         simp only [])
      | (go_at_call 12; (with_reducible refine (CY.out w4).mono ?_); rintro e w5 ⟨A5, c5, rfl, o5, k5⟩
         have B5 := Lib.hid (B4.out.trans (k5.mono B4.out.size))
         clear o5 k5
         simp only [])
      | (go_at_call 17; refine (awake_yes _).mono ?_; rintro e w6 ⟨rfl, k6⟩
         have B6 := Lib.hid (B5.out.trans (k6.mono B5.out.size))
         clear k6
         simp only []))
    go_ret
    exact ⟨rfl, B6.out⟩
  have caseb0 : ¬ A.length ≤ B.length → n < 0 → m < 0 → Calls Try.prog 7 #[.int .i64 n, .int .i64 m] w fun e w' => e = .returned (.bool true) ∧ Below w.heap.size w w' := by
    intro hab hn hm
    have hab2 : ¬ ((A.length : Int) ≤ (B.length : Int)) := by omega
    clear PV
    obtain rfl : X = [] := List.length_eq_zero_iff.1 (XN.out hn)
    obtain rfl : Y = [] := List.length_eq_zero_iff.1 (YN.out hm)
    clear XN YN X1 XY
    go_enter Try.func7, Try.ntmps7
    go_wp2_with (first
      | (go_at_call 13; (with_reducible refine (CA.out w).mono ?_); rintro e w1 ⟨A1, c1, rfl, o1, k1⟩
         have Y1 := Lib.hid (By.of_own o1)
         have B1 := Lib.hid k1
         clear o1 k1
         simp only [])
      | (go_at_call 13; (with_reducible refine (CB.out w1).mono ?_); rintro e w2 ⟨A2, c2, rfl, o2, k2⟩
         have Y2 := Lib.hid (By.of_own o2)
         have Z2 := Lib.hid (Y1.out.next k2)
         have B2 := Lib.hid (B1.out.trans (k2.mono B1.out.size))
         have hc2 := own_le o2
         clear o2 k2
         simp only [])
      | (go_at_call 12; (with_reducible refine (CX.out w2).mono ?_); rintro e w4 ⟨A4, c4, rfl, o4, k4⟩
         have B4 := Lib.hid (B2.out.trans (k4.mono B2.out.size))
         clear o4 k4
         simp only [])
      | (go_at_call 12; (with_reducible refine (CY.out w4).mono ?_); rintro e w5 ⟨A5, c5, rfl, o5, k5⟩
         have B5 := Lib.hid (B4.out.trans (k5.mono B4.out.size))
         clear o5 k5
         simp only [])
      | (go_at_call 17; refine (awake_yes _).mono ?_; rintro e w6 ⟨rfl, k6⟩
         have B6 := Lib.hid (B5.out.trans (k6.mono B5.out.size))
         clear k6
         simp only []))
    go_ret
    exact ⟨rfl, B6.out⟩
  have caseb1 : ¬ A.length ≤ B.length → n < 0 → 0 ≤ m → Calls Try.prog 7 #[.int .i64 n, .int .i64 m] w fun e w' => e = .returned (.bool true) ∧ Below w.heap.size w w' := by
    intro hab hn hm
    have hab2 : ¬ ((A.length : Int) ≤ (B.length : Int)) := by omega
    clear PV
    obtain rfl : X = [] := List.length_eq_zero_iff.1 (XN.out hn)
    clear XN YN X1 XY
    go_enter Try.func7, Try.ntmps7
    go_wp2_with (first
      | (go_at_call 13; (with_reducible refine (CA.out w).mono ?_); rintro e w1 ⟨A1, c1, rfl, o1, k1⟩
         have Y1 := Lib.hid (By.of_own o1)
         have B1 := Lib.hid k1
         clear o1 k1
         simp only [])
      | (go_at_call 13; (with_reducible refine (CB.out w1).mono ?_); rintro e w2 ⟨A2, c2, rfl, o2, k2⟩
         have Y2 := Lib.hid (By.of_own o2)
         have Z2 := Lib.hid (Y1.out.next k2)
         have B2 := Lib.hid (B1.out.trans (k2.mono B1.out.size))
         have hc2 := own_le o2
         clear o2 k2
         simp only [])
      | (go_at_call 12; (with_reducible refine (CX.out w2).mono ?_); rintro e w4 ⟨A4, c4, rfl, o4, k4⟩
         have B4 := Lib.hid (B2.out.trans (k4.mono B2.out.size))
         clear o4 k4
         simp only [])
      | (go_at_call 12; (with_reducible refine (CY.out w4).mono ?_); rintro e w5 ⟨A5, c5, rfl, o5, k5⟩
         have B5 := Lib.hid (B4.out.trans (k5.mono B4.out.size))
         clear o5 k5
         simp only [])
      | (go_at_call 17; refine (awake_yes _).mono ?_; rintro e w6 ⟨rfl, k6⟩
         have B6 := Lib.hid (B5.out.trans (k6.mono B5.out.size))
         clear k6
         simp only []))
    go_ret
    exact ⟨rfl, B6.out⟩
  have caseb2 : ¬ A.length ≤ B.length → 0 ≤ n → m < 0 → Calls Try.prog 7 #[.int .i64 n, .int .i64 m] w fun e w' => e = .returned (.bool true) ∧ Below w.heap.size w w' := by
    intro hab hn hm
    have hab2 : ¬ ((A.length : Int) ≤ (B.length : Int)) := by omega
    clear PV
    obtain rfl : Y = [] := List.length_eq_zero_iff.1 (YN.out hm)
    clear XN YN X1 XY
    go_enter Try.func7, Try.ntmps7
    go_wp2_with (first
      | (go_at_call 13; (with_reducible refine (CA.out w).mono ?_); rintro e w1 ⟨A1, c1, rfl, o1, k1⟩
         have Y1 := Lib.hid (By.of_own o1)
         have B1 := Lib.hid k1
         clear o1 k1
         simp only [])
      | (go_at_call 13; (with_reducible refine (CB.out w1).mono ?_); rintro e w2 ⟨A2, c2, rfl, o2, k2⟩
         have Y2 := Lib.hid (By.of_own o2)
         have Z2 := Lib.hid (Y1.out.next k2)
         have B2 := Lib.hid (B1.out.trans (k2.mono B1.out.size))
         have hc2 := own_le o2
         clear o2 k2
         simp only [])
      | (go_at_call 12; (with_reducible refine (CX.out w2).mono ?_); rintro e w4 ⟨A4, c4, rfl, o4, k4⟩
         have B4 := Lib.hid (B2.out.trans (k4.mono B2.out.size))
         clear o4 k4
         simp only [])
      | (go_at_call 12; (with_reducible refine (CY.out w4).mono ?_); rintro e w5 ⟨A5, c5, rfl, o5, k5⟩
         have B5 := Lib.hid (B4.out.trans (k5.mono B4.out.size))
         clear o5 k5
         simp only [])
      | (go_at_call 17; refine (awake_yes _).mono ?_; rintro e w6 ⟨rfl, k6⟩
         have B6 := Lib.hid (B5.out.trans (k6.mono B5.out.size))
         clear k6
         simp only []))
    go_ret
    exact ⟨rfl, B6.out⟩
  have caseb3 : ¬ A.length ≤ B.length → 0 ≤ n → 0 ≤ m → n < m → Calls Try.prog 7 #[.int .i64 n, .int .i64 m] w fun e w' => e = .returned (.bool true) ∧ Below w.heap.size w w' := by
    intro hab hn hm hlt0
    have hab2 : ¬ ((A.length : Int) ≤ (B.length : Int)) := by omega
    clear PV
    have hlt : n < m := hlt0
    have x1 : 1 ≤ (X.length : Int) := by have := X1.out hn; omega
    have x9 : (X.length : Int) ≤ 9 := by have := X1.out hn; omega
    clear hlt0
    clear XN YN X1 XY
    go_enter Try.func7, Try.ntmps7
    go_wp2_with (first
      | (go_at_call 13; (with_reducible refine (CA.out w).mono ?_); rintro e w1 ⟨A1, c1, rfl, o1, k1⟩
         have Y1 := Lib.hid (By.of_own o1)
         have B1 := Lib.hid k1
         clear o1 k1
         simp only [])
      | (go_at_call 13; (with_reducible refine (CB.out w1).mono ?_); rintro e w2 ⟨A2, c2, rfl, o2, k2⟩
         have Y2 := Lib.hid (By.of_own o2)
         have Z2 := Lib.hid (Y1.out.next k2)
         have B2 := Lib.hid (B1.out.trans (k2.mono B1.out.size))
         have hc2 := own_le o2
         clear o2 k2
         simp only [])
      | (go_at_call 12; (with_reducible refine (CX.out w2).mono ?_); rintro e w4 ⟨A4, c4, rfl, o4, k4⟩
         have B4 := Lib.hid (B2.out.trans (k4.mono B2.out.size))
         clear o4 k4
         simp only [])
      | (go_at_call 12; (with_reducible refine (CY.out w4).mono ?_); rintro e w5 ⟨A5, c5, rfl, o5, k5⟩
         have B5 := Lib.hid (B4.out.trans (k5.mono B4.out.size))
         clear o5 k5
         simp only [])
      | (go_at_call 17; refine (awake_yes _).mono ?_; rintro e w6 ⟨rfl, k6⟩
         have B6 := Lib.hid (B5.out.trans (k6.mono B5.out.size))
         clear k6
         simp only []))
    go_ret
    exact ⟨rfl, B6.out⟩
  have caseb4 : ¬ A.length ≤ B.length → 0 ≤ n → 0 ≤ m → ¬ n < m → Calls Try.prog 7 #[.int .i64 n, .int .i64 m] w fun e w' => e = .returned (.bool true) ∧ Below w.heap.size w w' := by
    intro hab hn hm hlt0
    have hab2 : ¬ ((A.length : Int) ≤ (B.length : Int)) := by omega
    clear PV
    have hlt : ¬ n < m := hlt0
    have x1 : 1 ≤ (X.length : Int) := by have := X1.out hn; omega
    have x9 : (X.length : Int) ≤ 9 := by have := X1.out hn; omega
    have yx : (Y.length : Int) ≤ (X.length : Int) := by have := XY.out hm (by omega); omega
    clear hlt0
    clear XN YN X1 XY
    go_enter Try.func7, Try.ntmps7
    go_wp2_with (first
      | (go_at_call 13; (with_reducible refine (CA.out w).mono ?_); rintro e w1 ⟨A1, c1, rfl, o1, k1⟩
         have Y1 := Lib.hid (By.of_own o1)
         have B1 := Lib.hid k1
         clear o1 k1
         simp only [])
      | (go_at_call 13; (with_reducible refine (CB.out w1).mono ?_); rintro e w2 ⟨A2, c2, rfl, o2, k2⟩
         have Y2 := Lib.hid (By.of_own o2)
         have Z2 := Lib.hid (Y1.out.next k2)
         have B2 := Lib.hid (B1.out.trans (k2.mono B1.out.size))
         have hc2 := own_le o2
         clear o2 k2
         simp only [])
      | (go_at_call 12; (with_reducible refine (CX.out w2).mono ?_); rintro e w4 ⟨A4, c4, rfl, o4, k4⟩
         have B4 := Lib.hid (B2.out.trans (k4.mono B2.out.size))
         clear o4 k4
         simp only [])
      | (go_at_call 12; (with_reducible refine (CY.out w4).mono ?_); rintro e w5 ⟨A5, c5, rfl, o5, k5⟩
         have B5 := Lib.hid (B4.out.trans (k5.mono B4.out.size))
         clear o5 k5
         simp only [])
      | (go_at_call 17; refine (awake_yes _).mono ?_; rintro e w6 ⟨rfl, k6⟩
         have B6 := Lib.hid (B5.out.trans (k6.mono B5.out.size))
         clear k6
         simp only []))
    go_ret
    exact ⟨rfl, B6.out⟩
  by_cases hab : A.length ≤ B.length
  · by_cases hn : n < 0
    · by_cases hm : m < 0
      · exact casea0 hab hn hm
      · exact casea1 hab hn (by omega)
    · by_cases hm : m < 0
      · exact casea2 hab (by omega) hm
      · by_cases hl : n < m
        · exact casea3 hab (by omega) (by omega) hl
        · exact casea4 hab (by omega) (by omega) hl
  · by_cases hn : n < 0
    · by_cases hm : m < 0
      · exact caseb0 hab hn hm
      · exact caseb1 hab hn (by omega)
    · by_cases hm : m < 0
      · exact caseb2 hab (by omega) hm
      · by_cases hl : n < m
        · exact caseb3 hab (by omega) (by omega) hl
        · exact caseb4 hab (by omega) (by omega) hl
end wireOrder
end Go.Proofs.Ytdepbhikkjfcjaa
