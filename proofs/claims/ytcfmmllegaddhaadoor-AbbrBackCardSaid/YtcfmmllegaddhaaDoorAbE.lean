/- For every input the law AbbrBack returns true, and nothing that was in memory changes. -/
import Derived.Test.YtcfmmllegaddhaaDoorAbH
namespace Go.Proofs.YtcfmmllegaddhaaDoor
open Go.RowKit

theorem u8_lt (a b : Nat) (ha : a < 10) (hb : b < 10) : (UInt8.ofNat (48 + a) < UInt8.ofNat (48 + b)) ↔ a < b := by
  rw [UInt8.lt_iff_toNat_lt, UInt8.toNat_ofNat', UInt8.toNat_ofNat']; omega
theorem u8_eq (a b : Nat) (ha : a < 10) (hb : b < 10) : (UInt8.ofNat (48 + a) = UInt8.ofNat (48 + b)) ↔ a = b := by
  rw [← UInt8.toNat_inj, UInt8.toNat_ofNat', UInt8.toNat_ofNat']; omega
theorem two_less (m n : Nat) (x y : List UInt8) (hm : m < 100) (hn : n < 100) : Op.bytesLess (two m ++ x) (two n ++ y) = (decide (m < n) || (decide (m = n) && Op.bytesLess x y)) := by
  show (decide (UInt8.ofNat (48 + m / 10) < UInt8.ofNat (48 + n / 10)) || ((UInt8.ofNat (48 + m / 10) == UInt8.ofNat (48 + n / 10)) && (decide (UInt8.ofNat (48 + m % 10) < UInt8.ofNat (48 + n % 10)) || ((UInt8.ofNat (48 + m % 10) == UInt8.ofNat (48 + n % 10)) && Op.bytesLess x y)))) = _
  have d1 : decide (UInt8.ofNat (48 + m / 10) < UInt8.ofNat (48 + n / 10)) = decide (m / 10 < n / 10) := by rw [decide_eq_decide]; exact u8_lt _ _ (by omega) (by omega)
  have d2 : decide (UInt8.ofNat (48 + m % 10) < UInt8.ofNat (48 + n % 10)) = decide (m % 10 < n % 10) := by rw [decide_eq_decide]; exact u8_lt _ _ (by omega) (by omega)
  have d3 : (UInt8.ofNat (48 + m / 10) == UInt8.ofNat (48 + n / 10)) = decide (m / 10 = n / 10) := by rw [Bool.eq_iff_iff, beq_iff_eq, decide_eq_true_eq]; exact u8_eq _ _ (by omega) (by omega)
  have d4 : (UInt8.ofNat (48 + m % 10) == UInt8.ofNat (48 + n % 10)) = decide (m % 10 = n % 10) := by rw [Bool.eq_iff_iff, beq_iff_eq, decide_eq_true_eq]; exact u8_eq _ _ (by omega) (by omega)
  rw [d1, d2, d3, d4]
  cases Op.bytesLess x y <;> rw [Bool.eq_iff_iff] <;> simp <;> omega
theorem less_nil : Op.bytesLess [] [] = false := rfl
/-- Of texts of one length that of the later offset is the later one. -/
theorem tx_less (m n : Nat) (hm : m < 360000) (hn : n < 360000) (hl : (txO 43 m).length = (txO 43 n).length) : Op.bytesLess (txO 43 m) (txO 43 n) = decide (m < n) := by
  rw [txO_len, txO_len] at hl
  unfold txO
  show (decide ((43 : UInt8) < 43) || (((43 : UInt8) == 43) && Op.bytesLess _ _)) = _
  rw [show decide ((43 : UInt8) < 43) = false from by decide, show ((43 : UInt8) == 43) = true from by decide, Bool.false_or, Bool.true_and, two_less _ _ _ _ (by omega) (by omega)]
  by_cases h1 : m % 3600 = 0
  · have h2 : n % 3600 = 0 := by
      rw [if_pos h1] at hl
      by_cases h : n % 3600 = 0
      · exact h
      · rw [if_neg h] at hl; split at hl <;> cases hl
    rw [if_pos h1, if_pos h2, less_nil, Bool.and_false, Bool.or_false, decide_eq_decide]
    omega
  · have h2 : ¬ n % 3600 = 0 := by
      intro h
      rw [if_neg h1, if_pos h] at hl
      split at hl <;> cases hl
    rw [if_neg h1, if_neg h2, two_less _ _ _ _ (by omega) (by omega)]
    rw [if_neg h1, if_neg h2] at hl
    by_cases h3 : m % 60 = 0
    · have h4 : n % 60 = 0 := by
        rw [if_pos h3] at hl
        by_cases h : n % 60 = 0
        · exact h
        · rw [if_neg h] at hl; cases hl
      rw [if_pos h3, if_pos h4, less_nil, Bool.and_false, Bool.or_false]
      rw [Bool.eq_iff_iff]; simp; omega
    · have h4 : ¬ n % 60 = 0 := by
        intro h
        rw [if_neg h3, if_pos h] at hl; cases hl
      rw [if_neg h3, if_neg h4, ← List.append_nil (two (m % 60)), ← List.append_nil (two (n % 60)), two_less _ _ _ _ (by omega) (by omega), less_nil, Bool.and_false, Bool.or_false]
      rw [Bool.eq_iff_iff]; simp; omega
theorem of_less (a b : Int) (ha : 0 ≤ a) (ha2 : a < 360000) (hb : 0 ≤ b) (hb2 : b < 360000) (hl : (ofT a).length = (ofT b).length) : Op.bytesLess (ofT a) (ofT b) = decide (a < b) := by
  unfold ofT at hl ⊢
  rw [if_neg (by omega), if_neg (by omega)] at hl ⊢
  rw [tx_less _ _ (by omega) (by omega) hl, decide_eq_decide]
  omega
/-- What the law's first tests come to. -/
def BkW (a b : Int) (T1 T2 : List UInt8) (e1 e2 : Int) : Prop :=
  e1 = 10 ∨ (e1 = 0 ∧ psV T1 = a ∧ psE T1 = 0 ∧ (e2 = 10 ∨ (e2 = 0 ∧ (((T1.length : Int) == (T2.length : Int)) = false ∨ (((T1.length : Int) == (T2.length : Int)) = true ∧ (a < 0 ∨ (0 ≤ a ∧ (b < 0 ∨ (0 ≤ b ∧ ((a < b ∧ Op.bytesLess T1 T2 = true) ∨ (¬ a < b ∧ Op.bytesLess T1 T2 = false)))))))))))
theorem bk_ways (a b : Int) : BkW a b (ofS a) (ofS b) (ofE a) (ofE b) := by
  unfold BkW ofE ofS
  by_cases ha : a ≤ -360000 ∨ 360000 ≤ a
  · rw [if_pos ha]; exact .inl rfl
  · rw [if_neg ha, if_neg ha]
    have p := ps_of (off := a) (by omega) (by omega)
    have q : psV (ofT a) = a ∧ psE (ofT a) = 0 := by unfold psV psE; rw [p]; exact ⟨sc_of (by omega) (by omega), rfl⟩
    refine .inr ⟨rfl, q.1, q.2, ?_⟩
    by_cases hb : b ≤ -360000 ∨ 360000 ≤ b
    · rw [if_pos hb]; exact .inl rfl
    · rw [if_neg hb, if_neg hb]
      refine .inr ⟨rfl, ?_⟩
      by_cases hl : (ofT a).length = (ofT b).length
      · refine .inr ⟨by rw [hl]; simp, ?_⟩
        by_cases a0 : a < 0
        · exact .inl a0
        · refine .inr ⟨by omega, ?_⟩
          by_cases b0 : b < 0
          · exact .inl b0
          · refine .inr ⟨by omega, ?_⟩
            have k := of_less a b (by omega) (by omega) (by omega) (by omega) hl
            by_cases l : a < b
            · exact .inl ⟨l, by rw [k]; simpa using l⟩
            · exact .inr ⟨l, by rw [k]; simpa using l⟩
      · exact .inl (by simpa using fun h : ((ofT a).length : Int) = (ofT b).length => hl (by omega))
theorem back_long (a b : Int) (s : List UInt8) (w : World) (HA : Hid (LaidB w)) (h : 40 < s.length) :
    Calls Tryd.prog 6 #[.int .i64 a, .int .i64 b, .string ⟨s.toArray⟩] w fun e w' => e = .returned (.bool true) ∧ Below w.heap.size w w' := by
  have h' : (40 : Int) < (s.length : Int) := by omega
  go_enter Tryd.func6, Tryd.ntmps6
  go_wp2_with (first | (go_at_call 10; refine (awake_is _ HA).mono ?_; rintro e w1 ⟨rfl, k1⟩; simp only []))
  go_ret
  exact ⟨rfl, k1⟩
set_option maxHeartbeats 6400000 in
theorem back_in (a b : Int) (s : List UInt8) (T1 T2 : List UInt8) (e1 e2 v ve : Int) (w : World) (HA : Hid (LaidB w)) (hs : s.length ≤ 40) (O1 : Hid (ofS a = T1 ∧ ofE a = e1)) (O2 : Hid (ofS b = T2 ∧ ofE b = e2)) (hT : T1.length ≤ 7) (V : BkW a b T1 T2 e1 e2)
    (PS : Hid (psV s = v ∧ psE s = ve)) (X : (v = 0 ∧ ve = 12) ∨ (ve = 0 ∧ ofS v = s ∧ ofE v = 0)) :
    Calls Tryd.prog 6 #[.int .i64 a, .int .i64 b, .string ⟨s.toArray⟩] w fun e w' => e = .returned (.bool true) ∧ Below w.heap.size w w' := by
  have h' : ¬ (40 : Int) < (s.length : Int) := by omega
  have HS : Hid (s.length ≤ 1000 ∧ T1.length ≤ 1000) := Lib.hid ⟨by omega, by omega⟩
  clear hs hT
  rcases V with rfl | ⟨rfl, v1, v2, rfl | ⟨rfl, tl | ⟨tl, a0 | ⟨a0, b0 | ⟨b0, ⟨l, bl⟩ | ⟨l, bl⟩⟩⟩⟩⟩⟩
  all_goals first | have P1 := Lib.hid (And.intro v1 v2) | skip
  all_goals first | clear v1 v2 | skip
  all_goals rcases X with ⟨rfl, rfl⟩ | ⟨rfl, x1, x2⟩
  all_goals first | have O3 := Lib.hid (And.intro x1 x2) | skip
  all_goals first | clear x1 x2 | skip
  all_goals go_enter Tryd.func6, Tryd.ntmps6
  all_goals go_wp2_with (first
    | (go_at_call 13; refine (offset_is a _ _ _ O1).mono ?_; rintro e w1 ⟨rfl, k1⟩; simp only []
       have K := Lib.hid k1
       clear k1 O1)
    | (go_at_call 13; refine (offset_is b _ _ _ O2).mono ?_; rintro e w2 ⟨rfl, k2⟩; simp only []
       have K2 := Lib.hid (K.out.trans (k2.mono K.out.size))
       clear k2 O2 K)
    | (go_at_call 15; refine (parse_is T1 _ _ _ HS.out.2 P1).mono ?_; rintro e w3 ⟨rfl, k3⟩; simp only []
       have K3 := Lib.hid (K2.out.trans (k3.mono K2.out.size))
       clear k3 K2 P1
       have K2 := K3
       clear K3)
    | (go_at_call 15; refine (parse_is s _ _ _ HS.out.1 PS).mono ?_; rintro e w4 ⟨rfl, k4⟩; simp only []
       have K4 := Lib.hid (K2.out.trans (k4.mono K2.out.size))
       clear k4 K2 PS
       have K2 := K4
       clear K4)
    | (go_at_call 13; refine (offset_is v _ _ _ O3).mono ?_; rintro e w5 ⟨rfl, k5⟩; simp only []
       have K5 := Lib.hid (K2.out.trans (k5.mono K2.out.size))
       clear k5 O3 K2
       have K2 := K5
       clear K5)
    | (go_at_call 10; refine (awake_is _ (Lib.hid (HA.out.next K2.out))).mono ?_; rintro e w6 ⟨rfl, k6⟩; simp only []))
  all_goals go_ret
  all_goals exact ⟨rfl, K2.out.trans (k6.mono K2.out.size)⟩
theorem abbrBack_walk (a b : Int) (s : List UInt8) (w : World) (hA : LaidB w) :
    Calls Tryd.prog 6 #[.int .i64 a, .int .i64 b, .string ⟨s.toArray⟩] w fun e w' => e = .returned (.bool true) ∧ Below w.heap.size w w' := by
  have HA := Lib.hid hA
  by_cases h : 40 < s.length
  · exact back_long a b s w HA h
  · have hT : (ofS a).length ≤ 7 := by unfold ofS; split; exact Nat.zero_le _; exact ofT_le a
    refine back_in a b s _ _ _ _ _ _ w HA (by omega) (Lib.hid ⟨rfl, rfl⟩) (Lib.hid ⟨rfl, rfl⟩) hT (bk_ways a b) (Lib.hid ⟨rfl, rfl⟩) ?_
    cases hp : psO s with
    | false => left; unfold psV psE; rw [hp]; exact ⟨rfl, rfl⟩
    | true =>
      right
      obtain ⟨h1, h2, h3⟩ := ps_out hp
      unfold psV psE ofS ofE
      rw [hp, if_pos rfl, if_pos rfl, if_neg (by omega), if_neg (by omega)]
      exact ⟨rfl, h3, rfl⟩
end Go.Proofs.YtcfmmllegaddhaaDoor
