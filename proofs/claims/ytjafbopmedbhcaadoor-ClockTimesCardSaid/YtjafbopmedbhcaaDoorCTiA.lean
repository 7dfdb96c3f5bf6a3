/- The walk of ClockTimes: it returns true, for every time of a day and every text; nothing that was in memory changes. The tables read as they are laid. -/
import Derived.Test.YtjafbopmedbhcaaDoorCSpA
import Derived.Test.YtjafbopmedbhcaaDoorRfE
namespace Go.Proofs.YtjafbopmedbhcaaDoor
open Go.RowKit

theorem times_long (n k : Int) (s : List UInt8) (w : World) (H : Laid3 w) (hs : 40 < s.length) :
    Calls Tryd.prog 5 #[.agg #[.int .i64 n, .int .i64 k], .string ⟨s.toArray⟩] w fun e w' => e = .returned (.bool true) ∧ Below w.heap.size w w' := by
  have B := Lib.hid (Blk2.new w n k 44)
  have HL := Lib.hid (H.next B.out.bel)
  have hz : (⟨s.toArray⟩ : ByteArray).size = s.length := by simp [ByteArray.size]
  clear H
  go_enter Tryd.func5, Tryd.ntmps5
  go_wp2_with (go_at_call 16; refine (awake_yes _ HL.out).mono ?_; rintro e w3 ⟨rfl, k3⟩; simp only [])
  go_ret
  exact ⟨rfl, (B.out.next k3).bel⟩

theorem print_no (n k : Int) (w : World) (h : ¬ inB n ∨ (k < 0 ∨ 2 < k)) :
    Calls Tryd.prog 21 #[.agg #[.int .i64 n, .int .i64 k]] w fun e w' => e = .returned (.tuple #[.string ⟨#[]⟩, .int .i64 10]) ∧ Below w.heap.size w w' := by
  by_cases hk : k < 0 ∨ 2 < k
  · exact print_kind n k w hk
  · rcases h with h | h
    · exact print_far n k w h (by omega)
    · exact absurd h hk
theorem parse_is (s : List UInt8) (a b x : Int) (w : World) (hs : s.length ≤ 1000) (H : Laid3 w) (h : Hid (parN s = a ∧ parK s = b ∧ parE s = x)) :
    Calls Tryd.prog 22 #[.string ⟨s.toArray⟩] w fun e w' => e = .returned (.tuple #[.agg #[.int .i64 a, .int .i64 b], .int .i64 x]) ∧ Below w.heap.size w w' := by
  have := parse_any s w hs H.mx H.fld H.let_
  rwa [h.out.1, h.out.2.1, h.out.2.2] at this
theorem rparse_is (s : List UInt8) (a b x : Int) (w : World) (hs : s.length ≤ 900) (h : Hid (parN s = a ∧ parK s = b ∧ parE s = x)) :
    Calls Tryd.prog 23 #[.string ⟨s.toArray⟩] w fun e w' => e = .returned (.tuple #[.agg #[.int .i64 a, .int .i64 b], .int .i64 x]) ∧ Below w.heap.size w w' := by
  have := rparse_any s w hs
  rwa [h.out.1, h.out.2.1, h.out.2.2] at this

set_option maxRecDepth 100000 in
set_option maxHeartbeats 1600000 in
theorem times_far (n k : Int) (s : List UInt8) (a b x : Int) (w : World) (H : Laid3 w) (hs : s.length ≤ 40) (hf : ¬ inB n)  (HP : Hid (parN s = a ∧ parK s = b ∧ parE s = x)) :
    Calls Tryd.prog 5 #[.agg #[.int .i64 n, .int .i64 k], .string ⟨s.toArray⟩] w fun e w' => e = .returned (.bool true) ∧ Below w.heap.size w w' := by
  have B0 := Lib.hid (Blk2.new w n k 44)
  have HL0 := Lib.hid (H.next B0.out.bel)
  have HF := Lib.hid hf
  have HNO : Hid (¬ inB n ∨ (k < 0 ∨ 2 < k)) := Lib.hid (.inl hf)
  have hz : (⟨s.toArray⟩ : ByteArray).size = s.length := by simp [ByteArray.size]
  have sl : s.length ≤ 1000 := by omega
  have sl9 : s.length ≤ 900 := by omega
  clear H hf
  go_enter Tryd.func5, Tryd.ntmps5
  go_wp2_with (first
    | (go_at_call 21; ((with_reducible refine (print_no n k _ HNO.out).mono ?_)); rintro e w1 ⟨rfl, kk⟩; simp only []
       have B1 := Lib.hid (B0.out.next kk)
       have HL1 := Lib.hid (HL0.out.next kk)
       clear kk B0 HL0
       have lt := B1.out.lt
       have c0 := B1.out.c0
       have c1 := B1.out.c1)
    | (go_at_call 11; ((with_reducible refine (far_yes n _ HF.out).mono ?_)); rintro e wf ⟨rfl, rfl⟩; simp only [])
    | (go_at_call 22; ((with_reducible refine (parse_is s a b x _ sl HL1.out HP).mono ?_)); rintro e w2 ⟨rfl, kk⟩; simp only []
       have BB := Lib.hid (B1.out.next kk)
       have B2 := Lib.hid (BB.out.more (.cells #[.int .i64 a, .int .i64 b] 44))
       have X2 := Lib.hid (Blk2.make BB.out.bel a b 44)
       have HL2 := Lib.hid ((HL1.out.next kk).next ((Below.refl _ _).alloc (Nat.le_refl _) (.cells #[.int .i64 a, .int .i64 b] 44)))
       clear kk B1 HL1 BB lt c0 c1)
    | (go_at_call 23; ((with_reducible refine (rparse_is s a b x _ sl9 HP).mono ?_)); rintro e w3 ⟨rfl, kk⟩; simp only []
       have B3 := Lib.hid ((B2.out.next kk).more (.cells #[.int .i64 a, .int .i64 b] 44))
       have X3 := Lib.hid (X2.out.next kk)
       have HL3 := Lib.hid ((HL2.out.next kk).next ((Below.refl _ _).alloc (Nat.le_refl _) (.cells #[.int .i64 a, .int .i64 b] 44)))
       clear kk B2 HL2 X2
       have lt := X3.out.lt
       have c0 := X3.out.c0
       have c1 := X3.out.c1)
    | (go_at_call 16; refine (awake_yes _ HL3.out).mono ?_; rintro e w99 ⟨rfl, kk⟩; simp only []
       have B99 := Lib.hid (B3.out.next kk)
       clear kk))
  go_ret
  exact ⟨rfl, B99.out.bel⟩

set_option maxRecDepth 100000 in
set_option maxHeartbeats 1600000 in
theorem times_kneg (n k : Int) (s : List UInt8) (a b x : Int) (w : World) (H : Laid3 w) (hs : s.length ≤ 40) (hf : inB n) (hk : k < 0) (HP : Hid (parN s = a ∧ parK s = b ∧ parE s = x)) :
    Calls Tryd.prog 5 #[.agg #[.int .i64 n, .int .i64 k], .string ⟨s.toArray⟩] w fun e w' => e = .returned (.bool true) ∧ Below w.heap.size w w' := by
  have B0 := Lib.hid (Blk2.new w n k 44)
  have HL0 := Lib.hid (H.next B0.out.bel)
  have HF := Lib.hid hf
  have HNO : Hid (¬ inB n ∨ (k < 0 ∨ 2 < k)) := Lib.hid (.inr (by omega))
  have hz : (⟨s.toArray⟩ : ByteArray).size = s.length := by simp [ByteArray.size]
  have sl : s.length ≤ 1000 := by omega
  have sl9 : s.length ≤ 900 := by omega
  clear H hf
  go_enter Tryd.func5, Tryd.ntmps5
  go_wp2_with (first
    | (go_at_call 21; ((with_reducible refine (print_no n k _ HNO.out).mono ?_)); rintro e w1 ⟨rfl, kk⟩; simp only []
       have B1 := Lib.hid (B0.out.next kk)
       have HL1 := Lib.hid (HL0.out.next kk)
       clear kk B0 HL0
       have lt := B1.out.lt
       have c0 := B1.out.c0
       have c1 := B1.out.c1)
    | (go_at_call 11; ((with_reducible refine (far_no n _ HF.out).mono ?_)); rintro e wf ⟨rfl, rfl⟩; simp only [])
    | (go_at_call 22; ((with_reducible refine (parse_is s a b x _ sl HL1.out HP).mono ?_)); rintro e w2 ⟨rfl, kk⟩; simp only []
       have BB := Lib.hid (B1.out.next kk)
       have B2 := Lib.hid (BB.out.more (.cells #[.int .i64 a, .int .i64 b] 44))
       have X2 := Lib.hid (Blk2.make BB.out.bel a b 44)
       have HL2 := Lib.hid ((HL1.out.next kk).next ((Below.refl _ _).alloc (Nat.le_refl _) (.cells #[.int .i64 a, .int .i64 b] 44)))
       clear kk B1 HL1 BB lt c0 c1)
    | (go_at_call 23; ((with_reducible refine (rparse_is s a b x _ sl9 HP).mono ?_)); rintro e w3 ⟨rfl, kk⟩; simp only []
       have B3 := Lib.hid ((B2.out.next kk).more (.cells #[.int .i64 a, .int .i64 b] 44))
       have X3 := Lib.hid (X2.out.next kk)
       have HL3 := Lib.hid ((HL2.out.next kk).next ((Below.refl _ _).alloc (Nat.le_refl _) (.cells #[.int .i64 a, .int .i64 b] 44)))
       clear kk B2 HL2 X2
       have lt := X3.out.lt
       have c0 := X3.out.c0
       have c1 := X3.out.c1)
    | (go_at_call 16; refine (awake_yes _ HL3.out).mono ?_; rintro e w99 ⟨rfl, kk⟩; simp only []
       have B99 := Lib.hid (B3.out.next kk)
       clear kk))
  go_ret
  exact ⟨rfl, B99.out.bel⟩

set_option maxRecDepth 100000 in
set_option maxHeartbeats 1600000 in
theorem times_kbig (n k : Int) (s : List UInt8) (a b x : Int) (w : World) (H : Laid3 w) (hs : s.length ≤ 40) (hf : inB n) (hk : 2 < k) (HP : Hid (parN s = a ∧ parK s = b ∧ parE s = x)) :
    Calls Tryd.prog 5 #[.agg #[.int .i64 n, .int .i64 k], .string ⟨s.toArray⟩] w fun e w' => e = .returned (.bool true) ∧ Below w.heap.size w w' := by
  have B0 := Lib.hid (Blk2.new w n k 44)
  have HL0 := Lib.hid (H.next B0.out.bel)
  have HF := Lib.hid hf
  have HNO : Hid (¬ inB n ∨ (k < 0 ∨ 2 < k)) := Lib.hid (.inr (by omega))
  have hz : (⟨s.toArray⟩ : ByteArray).size = s.length := by simp [ByteArray.size]
  have sl : s.length ≤ 1000 := by omega
  have sl9 : s.length ≤ 900 := by omega
  clear H hf
  go_enter Tryd.func5, Tryd.ntmps5
  go_wp2_with (first
    | (go_at_call 21; ((with_reducible refine (print_no n k _ HNO.out).mono ?_)); rintro e w1 ⟨rfl, kk⟩; simp only []
       have B1 := Lib.hid (B0.out.next kk)
       have HL1 := Lib.hid (HL0.out.next kk)
       clear kk B0 HL0
       have lt := B1.out.lt
       have c0 := B1.out.c0
       have c1 := B1.out.c1)
    | (go_at_call 11; ((with_reducible refine (far_no n _ HF.out).mono ?_)); rintro e wf ⟨rfl, rfl⟩; simp only [])
    | (go_at_call 22; ((with_reducible refine (parse_is s a b x _ sl HL1.out HP).mono ?_)); rintro e w2 ⟨rfl, kk⟩; simp only []
       have BB := Lib.hid (B1.out.next kk)
       have B2 := Lib.hid (BB.out.more (.cells #[.int .i64 a, .int .i64 b] 44))
       have X2 := Lib.hid (Blk2.make BB.out.bel a b 44)
       have HL2 := Lib.hid ((HL1.out.next kk).next ((Below.refl _ _).alloc (Nat.le_refl _) (.cells #[.int .i64 a, .int .i64 b] 44)))
       clear kk B1 HL1 BB lt c0 c1)
    | (go_at_call 23; ((with_reducible refine (rparse_is s a b x _ sl9 HP).mono ?_)); rintro e w3 ⟨rfl, kk⟩; simp only []
       have B3 := Lib.hid ((B2.out.next kk).more (.cells #[.int .i64 a, .int .i64 b] 44))
       have X3 := Lib.hid (X2.out.next kk)
       have HL3 := Lib.hid ((HL2.out.next kk).next ((Below.refl _ _).alloc (Nat.le_refl _) (.cells #[.int .i64 a, .int .i64 b] 44)))
       clear kk B2 HL2 X2
       have lt := X3.out.lt
       have c0 := X3.out.c0
       have c1 := X3.out.c1)
    | (go_at_call 16; refine (awake_yes _ HL3.out).mono ?_; rintro e w99 ⟨rfl, kk⟩; simp only []
       have B99 := Lib.hid (B3.out.next kk)
       clear kk))
  go_ret
  exact ⟨rfl, B99.out.bel⟩

set_option maxRecDepth 100000 in
set_option maxHeartbeats 1600000 in
theorem times_k0 (n : Int) (s : List UInt8) (T S M : List UInt8) (a b x : Int) (w : World) (H : Laid3 w) (Hm : MarkAt w) (hs : s.length ≤ 40) (hf : inB n) (HT : Hid (textL n = T)) (HM : Hid (markL 0 = M)) (HS : Hid (T ++ M = S)) (HP : Hid (parN s = a ∧ parK s = b ∧ parE s = x)) :
    Calls Tryd.prog 5 #[.agg #[.int .i64 n, .int .i64 0], .string ⟨s.toArray⟩] w fun e w' => e = .returned (.bool true) ∧ Below w.heap.size w w' := by
  have B0 := Lib.hid (Blk2.new w n 0 44)
  have HL0 := Lib.hid (H.next B0.out.bel)
  have HF := Lib.hid hf
  have HMK := Lib.hid Hm
  have HK : Hid ((0 : Int) = 0 ∨ (0 : Int) = 1 ∨ (0 : Int) = 2) := Lib.hid (by omega)
  have tl : T.length ≤ 10 := by rw [← HT.out]; exact textL_len hf.1 hf.2
  have hz : (⟨s.toArray⟩ : ByteArray).size = s.length := by simp [ByteArray.size]
  have sl : s.length ≤ 1000 := by omega
  have sl9 : s.length ≤ 900 := by omega
  obtain rfl : T = S := by rw [← HS.out, ← HM.out]; simp [markL]
  clear H hf Hm
  go_enter Tryd.func5, Tryd.ntmps5
  go_wp2_with (first
    | (go_at_call 21; ((with_reducible refine (print_is n 0 T T M _ HF.out HK.out HL0.out.pow (HMK.out.next B0.out.bel) HT HM HS).mono ?_)); rintro e w1 ⟨rfl, kk⟩; simp only []
       have B1 := Lib.hid (B0.out.next kk)
       have HL1 := Lib.hid (HL0.out.next kk)
       clear kk B0 HL0
       have lt := B1.out.lt
       have c0 := B1.out.c0
       have c1 := B1.out.c1)
    | (go_at_call 11; ((with_reducible refine (far_no n _ HF.out).mono ?_)); rintro e wf ⟨rfl, rfl⟩; simp only [])
    | (go_at_call 18; ((with_reducible refine (rtext_is n T _ HF.out HT).mono ?_)); rintro e w2 ⟨rfl, kk⟩; simp only []
       have B2 := Lib.hid (B1.out.next kk)
       have HL2 := Lib.hid (HL1.out.next kk)
       clear kk B1 HL1
       clear lt c0 c1
       have lt := B2.out.lt
       have c0 := B2.out.c0
       have c1 := B2.out.c1)
    | (go_at_call 22; ((with_reducible refine (parse_is s a b x _ sl HL2.out HP).mono ?_)); rintro e w3 ⟨rfl, kk⟩; simp only []
       have BB := Lib.hid (B2.out.next kk)
       have B3 := Lib.hid (BB.out.more (.cells #[.int .i64 a, .int .i64 b] 44))
       have X3 := Lib.hid (Blk2.make BB.out.bel a b 44)
       have HL3 := Lib.hid ((HL2.out.next kk).next ((Below.refl _ _).alloc (Nat.le_refl _) (.cells #[.int .i64 a, .int .i64 b] 44)))
       clear kk B2 HL2 BB lt c0 c1)
    | (go_at_call 23; ((with_reducible refine (rparse_is s a b x _ sl9 HP).mono ?_)); rintro e w4 ⟨rfl, kk⟩; simp only []
       have B4 := Lib.hid ((B3.out.next kk).more (.cells #[.int .i64 a, .int .i64 b] 44))
       have X4 := Lib.hid (X3.out.next kk)
       have HL4 := Lib.hid ((HL3.out.next kk).next ((Below.refl _ _).alloc (Nat.le_refl _) (.cells #[.int .i64 a, .int .i64 b] 44)))
       clear kk B3 HL3 X3
       have lt := X4.out.lt
       have c0 := X4.out.c0
       have c1 := X4.out.c1)
    | (go_at_call 16; refine (awake_yes _ HL4.out).mono ?_; rintro e w99 ⟨rfl, kk⟩; simp only []
       have B99 := Lib.hid (B4.out.next kk)
       clear kk))
  go_ret
  exact ⟨rfl, B99.out.bel⟩

set_option maxRecDepth 100000 in
set_option maxHeartbeats 1600000 in
theorem times_k1 (n : Int) (s : List UInt8) (T S M : List UInt8) (a b x : Int) (w : World) (H : Laid3 w) (Hm : MarkAt w) (hs : s.length ≤ 40) (hf : inB n) (HT : Hid (textL n = T)) (HM : Hid (markL 1 = M)) (HS : Hid (T ++ M = S)) (HP : Hid (parN s = a ∧ parK s = b ∧ parE s = x)) :
    Calls Tryd.prog 5 #[.agg #[.int .i64 n, .int .i64 1], .string ⟨s.toArray⟩] w fun e w' => e = .returned (.bool true) ∧ Below w.heap.size w w' := by
  have B0 := Lib.hid (Blk2.new w n 1 44)
  have HL0 := Lib.hid (H.next B0.out.bel)
  have HF := Lib.hid hf
  have HMK := Lib.hid Hm
  have HK : Hid ((1 : Int) = 0 ∨ (1 : Int) = 1 ∨ (1 : Int) = 2) := Lib.hid (by omega)
  have tl : T.length ≤ 10 := by rw [← HT.out]; exact textL_len hf.1 hf.2
  have hz : (⟨s.toArray⟩ : ByteArray).size = s.length := by simp [ByteArray.size]
  have sl : s.length ≤ 1000 := by omega
  have sl9 : s.length ≤ 900 := by omega
  have a1 := add_lists T [115] (by omega) (by simp)
  rw [show T ++ [115] = S by rw [← HS.out, ← HM.out]; rfl] at a1
  clear H hf Hm
  go_enter Tryd.func5, Tryd.ntmps5
  go_wp2_with (first
    | (go_at_call 21; ((with_reducible refine (print_is n 1 T S M _ HF.out HK.out HL0.out.pow (HMK.out.next B0.out.bel) HT HM HS).mono ?_)); rintro e w1 ⟨rfl, kk⟩; simp only []
       have B1 := Lib.hid (B0.out.next kk)
       have HL1 := Lib.hid (HL0.out.next kk)
       clear kk B0 HL0
       have lt := B1.out.lt
       have c0 := B1.out.c0
       have c1 := B1.out.c1)
    | (go_at_call 11; ((with_reducible refine (far_no n _ HF.out).mono ?_)); rintro e wf ⟨rfl, rfl⟩; simp only [])
    | (go_at_call 18; ((with_reducible refine (rtext_is n T _ HF.out HT).mono ?_)); rintro e w2 ⟨rfl, kk⟩; simp only []
       have B2 := Lib.hid (B1.out.next kk)
       have HL2 := Lib.hid (HL1.out.next kk)
       clear kk B1 HL1
       clear lt c0 c1
       have lt := B2.out.lt
       have c0 := B2.out.c0
       have c1 := B2.out.c1)
    | (go_at_call 22; ((with_reducible refine (parse_is s a b x _ sl HL2.out HP).mono ?_)); rintro e w3 ⟨rfl, kk⟩; simp only []
       have BB := Lib.hid (B2.out.next kk)
       have B3 := Lib.hid (BB.out.more (.cells #[.int .i64 a, .int .i64 b] 44))
       have X3 := Lib.hid (Blk2.make BB.out.bel a b 44)
       have HL3 := Lib.hid ((HL2.out.next kk).next ((Below.refl _ _).alloc (Nat.le_refl _) (.cells #[.int .i64 a, .int .i64 b] 44)))
       clear kk B2 HL2 BB lt c0 c1)
    | (go_at_call 23; ((with_reducible refine (rparse_is s a b x _ sl9 HP).mono ?_)); rintro e w4 ⟨rfl, kk⟩; simp only []
       have B4 := Lib.hid ((B3.out.next kk).more (.cells #[.int .i64 a, .int .i64 b] 44))
       have X4 := Lib.hid (X3.out.next kk)
       have HL4 := Lib.hid ((HL3.out.next kk).next ((Below.refl _ _).alloc (Nat.le_refl _) (.cells #[.int .i64 a, .int .i64 b] 44)))
       clear kk B3 HL3 X3
       have lt := X4.out.lt
       have c0 := X4.out.c0
       have c1 := X4.out.c1)
    | (go_at_call 16; refine (awake_yes _ HL4.out).mono ?_; rintro e w99 ⟨rfl, kk⟩; simp only []
       have B99 := Lib.hid (B4.out.next kk)
       clear kk))
  go_ret
  exact ⟨rfl, B99.out.bel⟩

set_option maxRecDepth 100000 in
set_option maxHeartbeats 1600000 in
theorem times_k2 (n : Int) (s : List UInt8) (T S M : List UInt8) (a b x : Int) (w : World) (H : Laid3 w) (Hm : MarkAt w) (hs : s.length ≤ 40) (hf : inB n) (HT : Hid (textL n = T)) (HM : Hid (markL 2 = M)) (HS : Hid (T ++ M = S)) (HP : Hid (parN s = a ∧ parK s = b ∧ parE s = x)) :
    Calls Tryd.prog 5 #[.agg #[.int .i64 n, .int .i64 2], .string ⟨s.toArray⟩] w fun e w' => e = .returned (.bool true) ∧ Below w.heap.size w w' := by
  have B0 := Lib.hid (Blk2.new w n 2 44)
  have HL0 := Lib.hid (H.next B0.out.bel)
  have HF := Lib.hid hf
  have HMK := Lib.hid Hm
  have HK : Hid ((2 : Int) = 0 ∨ (2 : Int) = 1 ∨ (2 : Int) = 2) := Lib.hid (by omega)
  have tl : T.length ≤ 10 := by rw [← HT.out]; exact textL_len hf.1 hf.2
  have hz : (⟨s.toArray⟩ : ByteArray).size = s.length := by simp [ByteArray.size]
  have sl : s.length ≤ 1000 := by omega
  have sl9 : s.length ≤ 900 := by omega
  have a1 := add_lists T [117] (by omega) (by simp)
  rw [show T ++ [117] = S by rw [← HS.out, ← HM.out]; rfl] at a1
  clear H hf Hm
  go_enter Tryd.func5, Tryd.ntmps5
  go_wp2_with (first
    | (go_at_call 21; ((with_reducible refine (print_is n 2 T S M _ HF.out HK.out HL0.out.pow (HMK.out.next B0.out.bel) HT HM HS).mono ?_)); rintro e w1 ⟨rfl, kk⟩; simp only []
       have B1 := Lib.hid (B0.out.next kk)
       have HL1 := Lib.hid (HL0.out.next kk)
       clear kk B0 HL0
       have lt := B1.out.lt
       have c0 := B1.out.c0
       have c1 := B1.out.c1)
    | (go_at_call 11; ((with_reducible refine (far_no n _ HF.out).mono ?_)); rintro e wf ⟨rfl, rfl⟩; simp only [])
    | (go_at_call 18; ((with_reducible refine (rtext_is n T _ HF.out HT).mono ?_)); rintro e w2 ⟨rfl, kk⟩; simp only []
       have B2 := Lib.hid (B1.out.next kk)
       have HL2 := Lib.hid (HL1.out.next kk)
       clear kk B1 HL1
       clear lt c0 c1
       have lt := B2.out.lt
       have c0 := B2.out.c0
       have c1 := B2.out.c1)
    | (go_at_call 22; ((with_reducible refine (parse_is s a b x _ sl HL2.out HP).mono ?_)); rintro e w3 ⟨rfl, kk⟩; simp only []
       have BB := Lib.hid (B2.out.next kk)
       have B3 := Lib.hid (BB.out.more (.cells #[.int .i64 a, .int .i64 b] 44))
       have X3 := Lib.hid (Blk2.make BB.out.bel a b 44)
       have HL3 := Lib.hid ((HL2.out.next kk).next ((Below.refl _ _).alloc (Nat.le_refl _) (.cells #[.int .i64 a, .int .i64 b] 44)))
       clear kk B2 HL2 BB lt c0 c1)
    | (go_at_call 23; ((with_reducible refine (rparse_is s a b x _ sl9 HP).mono ?_)); rintro e w4 ⟨rfl, kk⟩; simp only []
       have B4 := Lib.hid ((B3.out.next kk).more (.cells #[.int .i64 a, .int .i64 b] 44))
       have X4 := Lib.hid (X3.out.next kk)
       have HL4 := Lib.hid ((HL3.out.next kk).next ((Below.refl _ _).alloc (Nat.le_refl _) (.cells #[.int .i64 a, .int .i64 b] 44)))
       clear kk B3 HL3 X3
       have lt := X4.out.lt
       have c0 := X4.out.c0
       have c1 := X4.out.c1)
    | (go_at_call 16; refine (awake_yes _ HL4.out).mono ?_; rintro e w99 ⟨rfl, kk⟩; simp only []
       have B99 := Lib.hid (B4.out.next kk)
       clear kk))
  go_ret
  exact ⟨rfl, B99.out.bel⟩

theorem clockTimes_walk (n k : Int) (s : ByteArray) (w : World) (H : Laid4 w) (_ : -9223372036854775808 ≤ n) (_ : n ≤ 9223372036854775807) (_ : -9223372036854775808 ≤ k) (_ : k ≤ 9223372036854775807) (_ : s.size ≤ maxLen) :
    Calls Tryd.prog 5 #[.agg #[.int .i64 n, .int .i64 k], .string s] w fun e w' => e = .returned (.bool true) ∧ Below w.heap.size w w' := by
  obtain ⟨l, rfl⟩ : ∃ l : List UInt8, s = ⟨l.toArray⟩ := ⟨s.data.toList, by simp⟩
  by_cases hs : l.length ≤ 40
  · by_cases hf : inB n
    · by_cases h0 : k < 0
      · exact times_kneg n k l _ _ _ w H.l3 hs hf h0 (Lib.hid ⟨rfl, rfl, rfl⟩)
      · by_cases h2 : 2 < k
        · exact times_kbig n k l _ _ _ w H.l3 hs hf h2 (Lib.hid ⟨rfl, rfl, rfl⟩)
        · obtain rfl | rfl | rfl : k = 0 ∨ k = 1 ∨ k = 2 := by omega
          · exact times_k0 n l _ _ _ _ _ _ w H.l3 H.mark hs hf (Lib.hid rfl) (Lib.hid rfl) (Lib.hid rfl) (Lib.hid ⟨rfl, rfl, rfl⟩)
          · exact times_k1 n l _ _ _ _ _ _ w H.l3 H.mark hs hf (Lib.hid rfl) (Lib.hid rfl) (Lib.hid rfl) (Lib.hid ⟨rfl, rfl, rfl⟩)
          · exact times_k2 n l _ _ _ _ _ _ w H.l3 H.mark hs hf (Lib.hid rfl) (Lib.hid rfl) (Lib.hid rfl) (Lib.hid ⟨rfl, rfl, rfl⟩)
    · exact times_far n k l _ _ _ w H.l3 hs hf (Lib.hid ⟨rfl, rfl, rfl⟩)
  · exact times_long n k l w H.l3 (by omega)
end Go.Proofs.YtjafbopmedbhcaaDoor
