/- The contracts of the reference's decimal, year, month, day, clock, span: the texts of a rule's words; nothing that was in memory changes. -/
import Derived.Test.YtfmehdophoejiaaGreatDoorMN
import Derived.Test.YtfmehdophoejiaaGreatDoorMU
import Derived.Test.YtfmehdophoejiaaGreatDoorMV
import Derived.Test.YtfmehdophoejiaaGreatDoorMF
import Derived.Test.YtfmehdophoejiaaGreatDoorMG
namespace Go.Proofs.YtfmehdophoejiaaGreatDoor
open Go Go.RowKit

theorem dec_one {n : Nat} (h : n ≤ 9) : Lib.decDigits n = [UInt8.ofNat (48 + n % 10)] := by
  have a := pd_dec n 1 (by omega)
  have c := pd_step (l := 1) (n := n) (by omega)
  have d := (dec_ok n).2.2.1
  rw [show 1 - (Lib.decDigits n).length = 0 by omega, List.replicate_zero, List.nil_append] at a
  rw [← a, c, show n / 10 = 0 by omega, show 1 - 1 = 0 from rfl, pd_nil, List.nil_append]
theorem dec_more {n : Nat} (h : 9 < n) : Lib.decDigits n = Lib.decDigits (n / 10) ++ [UInt8.ofNat (48 + n % 10)] := by
  have a := pd_dec n 0 (by omega)
  have b := pd_dec (n / 10) 0 (by omega)
  have c := pd_step (l := 0) (n := n) (by omega)
  rw [Nat.zero_sub, List.replicate_zero, List.nil_append] at a b
  rw [← a, c, Nat.zero_sub, b]
theorem dec_byte (n : Nat) : ((UInt8.ofNat (48 + n % 10)).toNat : Int) = 48 + (n : Int) % 10 := by
  rw [UInt8.toNat_ofNat']
  omega
theorem dec_short {n : Nat} (h : n ≤ 100000) : (Lib.decDigits n).length ≤ 1000 := by
  have := dec_len (n := n) (by omega)
  by_cases c : (Lib.decDigits n).length ≤ 1000
  · exact c
  · have : 10 ^ 10 ≤ 10 ^ (Lib.decDigits n).length := Nat.pow_le_pow_right (by omega) (by omega)
    omega

set_option maxHeartbeats 1600000 in
theorem rdec_is : ∀ (n : Nat) (T : List UInt8) (w : World), n ≤ 100000 → Hid (Lib.decDigits n = T) →
    Calls Tryz.prog 111 #[.int .i64 (n : Int)] w fun e w' => e = .returned (.string ⟨T.toArray⟩) ∧ Below w.heap.size w w' := by
  intro n
  induction n using Nat.strongRecOn with
  | ind n ih =>
    intro T w hn hT
    obtain ⟨b, hb⟩ : ∃ b : UInt8, UInt8.ofNat (48 + n % 10) = b := ⟨_, rfl⟩
    have hbn : (b.toNat : Int) = 48 + (n : Int) % 10 := hb ▸ dec_byte n
    have hcv := wone_byte w b
    rw [hbn] at hcv
    have n0 : (0 : Int) ≤ (n : Int) := by omega
    have n1 : (n : Int) ≤ 100000 := by omega
    by_cases h : n ≤ 9
    · obtain rfl : T = [b] := by rw [← hT.out, dec_one h, hb]
      have L1 : decide (9 < (n : Int)) = false := decide_eq_false (by omega)
      clear ih hT hb hbn h hn
      generalize (n : Int) = m at *
      go_enter Tryz.func111, Tryz.ntmps111
      go_wp2
      go_ret
      exact ⟨rfl, (Below.refl _ _).alloc (Nat.le_refl _) _⟩
    · obtain ⟨D, hD⟩ : ∃ D, Lib.decDigits (n / 10) = D := ⟨_, rfl⟩
      have hDl : D.length ≤ 1000 := hD ▸ dec_short (by omega)
      have hTD : T = D ++ [b] := by rw [← hT.out, dec_more (by omega), hb, hD]
      have L1 : decide (9 < (n : Int)) = true := decide_eq_true (by omega)
      have ad : ∀ W : World, (Op.stringOp .add ⟨D.toArray⟩ ⟨#[b]⟩).run Tryz.prog W = .ok (.string ⟨T.toArray⟩) W := by rw [hTD]; exact wadd_lists D [b] hDl (by simp)
      have C : Hid (∀ W, Calls Tryz.prog 111 #[.int .i64 ((n : Int) / 10)] W fun e w' => e = .returned (.string ⟨D.toArray⟩) ∧ Below W.heap.size W w') := Lib.hid fun W => ih (n / 10) (by omega) D W (by omega) (Lib.hid hD)
      clear ih hT hb hbn h hn hTD hD hDl
      generalize (n : Int) = m at *
      go_enter Tryz.func111, Tryz.ntmps111
      go_wp2_with (go_at_call 111; refine (C.out _).mono ?_; rintro e w1 ⟨rfl, k1⟩; simp only [])
      go_ret
      exact ⟨rfl, (((Below.refl _ _).alloc (Nat.le_refl _) _).trans (k1.mono (by simp)))⟩

theorem ok_first (n : Int) : okD n 1 1 ↔ -100000 ≤ n ∧ n ≤ 100000 := by
  have e : dim n 1 = 31 := by rw [← rdim_dim n 1 (by omega) (by omega)]; rfl
  unfold okD
  rw [e]
  omega
theorem ryear_is (n : Int) (T : List UInt8) (w : World) (hT : Hid (yrR n = T)) :
    Calls Tryz.prog 75 #[.int .i64 n] w fun e w' => e = .returned (.string ⟨T.toArray⟩) ∧ Below w.heap.size w w' := by
  have R : Hid (∀ W, Calls Tryz.prog 110 #[.agg #[.int .i64 n, .int .i64 1, .int .i64 1]] W fun e w' => e = .returned (.bool (okB n 1 1)) ∧ Below W.heap.size W w') := Lib.hid fun W => right_any n 1 1 W
  by_cases h : 0 ≤ n ∧ n ≤ 100000
  · have e : okB n 1 1 = true := (okB_iff n 1 1).2 ((ok_first n).2 (by omega))
    obtain ⟨k, rfl⟩ : ∃ k : Nat, n = (k : Int) := ⟨n.toNat, by omega⟩
    have C : Hid (∀ W, Calls Tryz.prog 111 #[.int .i64 (k : Int)] W fun e w' => e = .returned (.string ⟨T.toArray⟩) ∧ Below W.heap.size W w') := Lib.hid fun W => rdec_is k T W (by omega) (Lib.hid (by rw [← hT.out, yrR, if_pos h, itoa_nat]))
    have L0 : decide ((k : Int) < 0) = false := decide_eq_false (by omega)
    rw [e] at R
    clear e h hT
    generalize (k : Int) = m at *
    go_enter Tryz.func75, Tryz.ntmps75
    go_wp2_with (first
      | (go_at_call 110; refine (R.out _).mono ?_; rintro e w1 ⟨rfl, k1⟩; simp only [])
      | (go_at_call 111; refine (C.out _).mono ?_; rintro e w2 ⟨rfl, k2⟩; simp only []))
    go_ret
    exact ⟨rfl, k1.trans (k2.mono k1.size)⟩
  · obtain rfl : T = [] := by rw [← hT.out, yrR, if_neg h]
    by_cases h0 : n < 0
    · cases e : okB n 1 1 <;> rw [e] at R <;> clear e h hT
      all_goals
        have L0 : decide (n < 0) = true := decide_eq_true h0
        clear h0
        go_enter Tryz.func75, Tryz.ntmps75
        go_wp2_with (go_at_call 110; refine (R.out _).mono ?_; rintro e w1 ⟨rfl, k1⟩; simp only [])
        go_ret
        exact ⟨rfl, k1⟩
    · have e : okB n 1 1 = false := by rw [← Bool.not_eq_true, okB_iff, ok_first]; omega
      rw [e] at R
      clear e h hT h0
      go_enter Tryz.func75, Tryz.ntmps75
      go_wp2_with (go_at_call 110; refine (R.out _).mono ?_; rintro e w1 ⟨rfl, k1⟩; simp only [])
      go_ret
      exact ⟨rfl, k1⟩

theorem rday_is (k wk n : Int) (T : List UInt8) (w : World) (hT : Hid (dyT k wk n = T)) :
    Calls Tryz.prog 77 #[.agg #[.int .i64 k, .int .i64 wk, .int .i64 n]] w fun e w' => e = .returned (.string ⟨T.toArray⟩) ∧ Below w.heap.size w w' := by
  obtain ⟨v, hv⟩ : ∃ v, dfB k wk n = v := ⟨_, rfl⟩
  have R : Hid (∀ W, Calls Tryz.prog 113 #[.agg #[.int .i64 k, .int .i64 wk, .int .i64 n]] W fun e w' => e = .returned (.bool v) ∧ Below W.heap.size W w') := Lib.hid fun W => dright_is k wk n v W (Lib.hid hv)
  have X0 := Lib.hid (Trp.new w k wk n 30)
  cases v with
  | true =>
    have hd := dfB_iff.1 hv
    obtain ⟨kk, rfl⟩ : ∃ kk : Nat, wk = (kk : Int) := ⟨wk.toNat, by unfold dfD at hd; omega⟩
    have C : Hid (∀ W, Calls Tryz.prog 114 #[.agg #[.int .i64 k, .int .i64 (kk : Int), .int .i64 n]] W fun e w' => e = .returned (.string ⟨T.toArray⟩) ∧ Below W.heap.size W w') := Lib.hid fun W => rdtext_is k n kk T W hd (Lib.hid (by rw [← hT.out, dyT, if_pos hv]))
    clear hv hd hT
    generalize (kk : Int) = m at *
    go_enter Tryz.func77, Tryz.ntmps77
    go_wp2_with (first
      | (go_at_call 113; refine (R.out _).mono ?_; rintro e w1 ⟨rfl, k1⟩
         have X1 := Lib.hid (X0.out.next k1)
         clear k1 X0
         have lt := X1.out.lt
         have x0 := X1.out.c0
         have x1 := X1.out.c1
         have x2 := X1.out.c2
         simp only [])
      | (go_at_call 114; refine (C.out _).mono ?_; rintro e w2 ⟨rfl, k2⟩; simp only []))
    go_ret
    exact ⟨rfl, (X1.out.next k2).bel⟩
  | false =>
    obtain rfl : T = [] := by rw [← hT.out, dyT, if_neg (by rw [hv]; decide)]
    clear hv hT
    go_enter Tryz.func77, Tryz.ntmps77
    go_wp2_with (go_at_call 113; refine (R.out _).mono ?_; rintro e w1 ⟨rfl, k1⟩; simp only [])
    go_ret
    exact ⟨rfl, (X0.out.next k1).bel⟩

theorem rmonth_is (n : Int) (T : List UInt8) (w : World) (hT : Hid (mnameL n = T)) :
    Calls Tryz.prog 76 #[.int .i64 n] w fun e w' => e = .returned (.string ⟨T.toArray⟩) ∧ Below w.heap.size w w' := by
  by_cases h : 1 ≤ n ∧ n ≤ 12
  · obtain ⟨k, rfl⟩ : ∃ k : Nat, n = (k : Int) + 1 := ⟨(n - 1).toNat, by omega⟩
    have hk2 : k < 12 := by omega
    obtain ⟨p, hp⟩ : ∃ p, monthsL[k]? = some p := ⟨monthsL[k]'(by show k < 12; omega), List.getElem?_eq_getElem _⟩
    have hT2 : capL p = T := by
      rw [← hT.out, mnameL, if_pos h, show ((k : Int) + 1 - 1).toNat = k by omega, List.getD_eq_getElem?_getD, hp]; rfl
    have C : Hid (∀ W, Calls Tryz.prog 112 #[.string ⟨p.toArray⟩] W fun e w' => e = .returned (.string ⟨T.toArray⟩) ∧ Below W.heap.size W w') := Lib.hid fun W => hT2 ▸ rname_any p W (months_nm p (List.mem_of_getElem? hp))
    have HP := Lib.hid hp
    have L0 : decide ((k : Int) + 1 < 1) = false := decide_eq_false (by omega)
    have L1 : decide (12 < (k : Int) + 1) = false := decide_eq_false (by omega)
    have q0 : (0 : Int) ≤ (k : Int) := by omega
    have q1 : (k : Int) < 12 := by omega
    have q2 : (k : Int) + 1 - 1 = (k : Int) := by omega
    have q3 : (((k : Int) + 1 - 1).toNat) = k := by omega
    clear hT hT2 hp h hk2
    go_enter Tryz.func76, Tryz.ntmps76
    go_wp2_with (first
      | (go_at_call 63; refine (rmonths_any _).mono ?_; rintro e w1 ⟨L, rfl, hL1, hL2, k1⟩
         have hcl := hL2.cell k p HP.out
         have lt := hL2.lt
         simp only [])
      | (go_at_call 112; refine (C.out _).mono ?_; rintro e w2 ⟨rfl, k2⟩; simp only []))
    go_ret
    exact ⟨rfl, k1.trans (k2.mono k1.size)⟩
  · obtain rfl : T = [] := by rw [← hT.out, mnameL, if_neg h]
    by_cases h1 : n < 1
    · have L0 : decide (n < 1) = true := decide_eq_true h1
      clear h hT h1
      go_enter Tryz.func76, Tryz.ntmps76
      go_wp2
      go_ret
      exact ⟨rfl, Below.refl _ _⟩
    · have L0 : decide (n < 1) = false := decide_eq_false h1
      have L1 : decide (12 < n) = true := decide_eq_true (by omega)
      clear h hT h1
      go_enter Tryz.func76, Tryz.ntmps76
      go_wp2
      go_ret
      exact ⟨rfl, Below.refl _ _⟩

theorem rclock_bad (n k : Int) (w : World) (h : ¬ ((-604800 < n ∧ n < 604800) ∧ (k = 0 ∨ k = 1 ∨ k = 2))) :
    Calls Tryz.prog 78 #[.agg #[.int .i64 n, .int .i64 k]] w fun e w' => e = .returned (.string ⟨([] : List UInt8).toArray⟩) ∧ Below w.heap.size w w' := by
  by_cases h1 : 604800 ≤ n
  · have L1 : decide (604800 ≤ n) = true := decide_eq_true h1
    clear h h1
    go_enter Tryz.func78, Tryz.ntmps78
    go_wp2
    go_ret
    exact ⟨rfl, (Below.refl _ _).alloc (Nat.le_refl _) _⟩
  have L1 : decide (604800 ≤ n) = false := decide_eq_false h1
  by_cases h2 : n ≤ -604800
  · have L2 : decide (n ≤ -604800) = true := decide_eq_true h2
    clear h h1 h2
    go_enter Tryz.func78, Tryz.ntmps78
    go_wp2
    go_ret
    exact ⟨rfl, (Below.refl _ _).alloc (Nat.le_refl _) _⟩
  have L2 : decide (n ≤ -604800) = false := decide_eq_false h2
  by_cases h3 : k < 0
  · have L3 : decide (k < 0) = true := decide_eq_true h3
    clear h h1 h2 h3
    go_enter Tryz.func78, Tryz.ntmps78
    go_wp2
    go_ret
    exact ⟨rfl, (Below.refl _ _).alloc (Nat.le_refl _) _⟩
  have L3 : decide (k < 0) = false := decide_eq_false h3
  have L4 : decide (2 < k) = true := decide_eq_true (by omega)
  clear h h1 h2 h3
  go_enter Tryz.func78, Tryz.ntmps78
  go_wp2
  go_ret
  exact ⟨rfl, (Below.refl _ _).alloc (Nat.le_refl _) _⟩

set_option maxHeartbeats 25600000 in
theorem rclock_ok (n k : Int) (T M : List UInt8) (w : World) (h1 : -604800 < n) (h2 : n < 604800) (hk : k = 0 ∧ M = [] ∨ k = 1 ∧ M = [115] ∨ k = 2 ∧ M = [117]) (hT : Hid (textL n ++ M = T)) :
    Calls Tryz.prog 78 #[.agg #[.int .i64 n, .int .i64 k]] w fun e w' => e = .returned (.string ⟨T.toArray⟩) ∧ Below w.heap.size w w' := by
  obtain ⟨S, hS⟩ : ∃ S, textL n = S := ⟨_, rfl⟩
  have tl := textL_len h1 h2
  rw [hS] at tl
  have C : Hid (∀ W, Calls Tryz.prog 115 #[.int .i64 n] W fun e w' => e = .returned (.string ⟨S.toArray⟩) ∧ Below W.heap.size W w') := Lib.hid fun W => rtext_any n S W h1 h2 (Lib.hid hS)
  have ad : ∀ W : World, (Op.stringOp .add ⟨S.toArray⟩ ⟨M.toArray⟩).run Tryz.prog W = .ok (.string ⟨T.toArray⟩) W := by
    rw [← hT.out, hS]
    exact wadd_lists S M (by omega) (by rcases hk with h | h | h <;> rw [h.2] <;> decide)
  have L1 : decide (604800 ≤ n) = false := decide_eq_false (by omega)
  have L2 : decide (n ≤ -604800) = false := decide_eq_false (by omega)
  have B := Lib.hid (Blk2.new w n k 32)
  clear h1 h2 tl hT hS
  rcases hk with ⟨rfl, rfl⟩ | ⟨rfl, rfl⟩ | ⟨rfl, rfl⟩
  all_goals
    have B1 := Lib.hid ((B.out.more (.cells #[.string ⟨#[]⟩, .string ⟨#[115]⟩, .string ⟨#[117]⟩] 9)).next (Below.refl _ _).drew)
    have S1 := Lib.hid ((BlkN.make B.out.bel #[.string ⟨#[]⟩, .string ⟨#[115]⟩, .string ⟨#[117]⟩] 9).next (Below.refl _ _).drew)
    rw [World.size_alloc] at S1
    go_enter Tryz.func78, Tryz.ntmps78
    go_wp2
    have lt := B.out.lt
    have c0 := B.out.c0
    have c1 := B.out.c1
    go_region_with (first
      | (go_at_call 115
         with_reducible refine (C.out ((w.alloc _).alloc _).drew).mono ?_
         rintro e w2 ⟨rfl, k2⟩
         have B2 := Lib.hid (B1.out.next k2)
         have S2 := Lib.hid (S1.out.next k2)
         have d1 := B2.out.c1
         have lt2 := B2.out.lt
         have s0 := cell_of_row _ (w.heap.size + 1) 0 _ _ (0, 0) S2.out.blk
         have s1 := cell_of_row _ (w.heap.size + 1) 1 _ _ (0, 0) S2.out.blk
         have s2 := cell_of_row _ (w.heap.size + 1) 2 _ _ (0, 0) S2.out.blk
         have lq := row_lt S2.out.blk)
      | (go_at_call 115
         with_reducible refine (C.out (w.alloc _).drew).mono ?_
         rintro e w2 ⟨rfl, k2⟩
         have B2 := Lib.hid ((B.out.next (Below.refl _ _).drew).next k2)
         have d1 := B2.out.c1
         have lt2 := B2.out.lt))
    all_goals
      go_wp2
      go_ret
      first
        | with_reducible exact ⟨rfl, B2.out.bel⟩
        | with_reducible exact ⟨rfl, (B2.out.more _).bel⟩
theorem rclock_is (n k : Int) (T : List UInt8) (w : World) (hT : Hid (ckT n k = T)) :
    Calls Tryz.prog 78 #[.agg #[.int .i64 n, .int .i64 k]] w fun e w' => e = .returned (.string ⟨T.toArray⟩) ∧ Below w.heap.size w w' := by
  by_cases h : (-604800 < n ∧ n < 604800) ∧ (k = 0 ∨ k = 1 ∨ k = 2)
  · have e : textL n ++ markL k = T := by rw [← hT.out, ckT, if_pos h]; rfl
    refine rclock_ok n k T (markL k) w h.1.1 h.1.2 ?_ (Lib.hid e)
    rcases h.2 with rfl | rfl | rfl
    · exact .inl ⟨rfl, rfl⟩
    · exact .inr (.inl ⟨rfl, rfl⟩)
    · exact .inr (.inr ⟨rfl, rfl⟩)
  · obtain rfl : T = [] := by rw [← hT.out, ckT, if_neg h]
    exact rclock_bad n k w h
theorem rspt_is (n : Int) (T : List UInt8) (w : World) (hT : Hid (svT n = T)) :
    Calls Tryz.prog 79 #[.int .i64 n] w fun e w' => e = .returned (.string ⟨T.toArray⟩) ∧ Below w.heap.size w w' := by
  have e : ckT n 0 = T := by
    rw [← hT.out]
    unfold ckT svT
    by_cases h : -604800 < n ∧ n < 604800
    · rw [if_pos ⟨h, .inl rfl⟩, if_pos h]; show textL n ++ [] = _; rw [List.append_nil]
    · rw [if_neg (fun c => h c.1), if_neg h]
  have C : Hid (∀ W, Calls Tryz.prog 78 #[.agg #[.int .i64 n, .int .i64 0]] W fun e w' => e = .returned (.string ⟨T.toArray⟩) ∧ Below W.heap.size W w') := Lib.hid fun W => rclock_is n 0 T W (Lib.hid e)
  clear e hT
  go_enter Tryz.func79, Tryz.ntmps79
  go_wp2_with (go_at_call 78; refine (C.out _).mono ?_; rintro e w1 ⟨rfl, k1⟩; simp only [])
  go_ret
  exact ⟨rfl, k1⟩
end Go.Proofs.YtfmehdophoejiaaGreatDoor
