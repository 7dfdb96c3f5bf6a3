/- Plain facts on numbers in pieces by seven bits, in so many bytes, and in bits; no program is named. -/
import Derived.Lib.Hide
namespace Go.Proofs.YtjpppffgebecdaaGreatDoor
open Go

theorem u8_of (n : Nat) (h : n < 256) : (UInt8.ofNat n).toNat = n := by rw [UInt8.toNat_ofNat']; omega
theorem u8_to (b : UInt8) : UInt8.ofNat b.toNat = b := by simp
theorem u8_bd (b : UInt8) : b.toNat < 256 := b.toNat_lt

/-- A number in pieces, the lowest ones first. -/
def pc (n : Nat) : List UInt8 := if _h : n < 128 then [UInt8.ofNat n] else UInt8.ofNat (n % 128 + 128) :: pc (n / 128)
termination_by n
decreasing_by omega

theorem pc_small {n : Nat} (h : n < 128) : pc n = [UInt8.ofNat n] := by rw [pc, dif_pos h]
theorem pc_big {n : Nat} (h : 128 ≤ n) : pc n = UInt8.ofNat (n % 128 + 128) :: pc (n / 128) := by rw [pc, dif_neg (by omega)]

/-- What pieces come to. -/
def vl : List UInt8 → Nat
  | [] => 0
  | b :: l => b.toNat % 128 + 128 * vl l

theorem vl_pc (n : Nat) : vl (pc n) = n := by
  induction n using Nat.strongRecOn with
  | _ n ih =>
    by_cases h : n < 128
    · rw [pc_small h]; simp only [vl]; rw [u8_of n (by omega)]; omega
    · rw [pc_big (by omega)]; simp only [vl]; rw [u8_of _ (by omega), ih _ (by omega)]; omega
theorem vl_snoc (l : List UInt8) (b : UInt8) : vl (l ++ [b]) = vl l + b.toNat % 128 * 128 ^ l.length := by
  induction l with
  | nil => simp [vl]
  | cons a l ih =>
    simp only [List.cons_append, vl, List.length_cons]
    rw [ih, Nat.pow_succ, Nat.mul_add, ← Nat.mul_assoc, Nat.mul_comm 128 (b.toNat % 128), Nat.mul_assoc (b.toNat % 128) 128, Nat.mul_comm 128 (128 ^ l.length), Nat.add_assoc]
theorem vl_lt (l : List UInt8) : vl l < 128 ^ l.length := by
  induction l with
  | nil => simp [vl]
  | cons a l ih =>
    simp only [vl, List.length_cons, Nat.pow_succ]
    omega
theorem pc_pos (n : Nat) : 1 ≤ (pc n).length := by
  by_cases h : n < 128
  · rw [pc_small h]; simp
  · rw [pc_big (by omega)]; simp
theorem pc_len : ∀ (k n : Nat), n < 128 ^ (k + 1) → (pc n).length ≤ k + 1
  | 0, n, h => by rw [pc_small (by simpa using h)]; simp
  | k + 1, n, h => by
    by_cases hn : n < 128
    · rw [pc_small hn]; simp
    · rw [pc_big (by omega), List.length_cons]
      have := pc_len k (n / 128) (by rw [Nat.pow_succ] at h; omega)
      omega
theorem pc_mono (n : Nat) : ∀ m, n ≤ m → (pc n).length ≤ (pc m).length := by
  induction n using Nat.strongRecOn with
  | _ n ih =>
    intro m h
    by_cases hn : n < 128
    · rw [pc_small hn]; exact pc_pos m
    · rw [pc_big (by omega), pc_big (n := m) (by omega), List.length_cons, List.length_cons]
      have := ih (n / 128) (by omega) (m / 128) (by omega)
      omega
theorem pc_len10 {n : Nat} (h : n < 18446744073709551616) : (pc n).length ≤ 10 := pc_len 9 n (by omega)
theorem pc_len9 {n : Nat} (h : n < 9223372036854775808) : (pc n).length ≤ 9 := pc_len 8 n (by omega)

/-- How many pieces there are that are not the last one. -/
def rn : List UInt8 → Nat
  | [] => 0
  | b :: l => if b.toNat < 128 then 0 else rn l + 1
theorem rn_le : ∀ l : List UInt8, rn l ≤ l.length
  | [] => by simp [rn]
  | b :: l => by have := rn_le l; simp only [rn, List.length_cons]; split <;> omega
theorem rn_at : ∀ (l : List UInt8), rn l < l.length → (l.getD (rn l) 0).toNat < 128
  | [], h => by simp at h
  | b :: l, h => by
    by_cases hb : b.toNat < 128
    · simp only [rn, if_pos hb]; simpa using hb
    · simp only [rn, if_neg hb] at h ⊢
      have := rn_at l (by simpa using h)
      simpa using this
theorem rn_before : ∀ (l : List UInt8) (k : Nat), k < rn l → 128 ≤ (l.getD k 0).toNat
  | [], k, h => by simp [rn] at h
  | b :: l, k, h => by
    by_cases hb : b.toNat < 128
    · simp [rn, hb] at h
    · cases k with
      | zero => simp; omega
      | succ k =>
        simp only [rn, if_neg hb] at h
        simpa using rn_before l k (by omega)
theorem rn_is : ∀ (l : List UInt8) (k : Nat), k ≤ l.length → (∀ i, i < k → 128 ≤ (l.getD i 0).toNat) → (k < l.length → (l.getD k 0).toNat < 128) → rn l = k
  | [], k, h, _, _ => by simp at h; simp [rn, h]
  | b :: l, 0, _, _, h2 => by
    have := h2 (by simp)
    simp at this
    simp [rn, this]
  | b :: l, k + 1, h, h1, h2 => by
    have hb := h1 0 (by omega)
    simp at hb
    simp only [rn, if_neg (show ¬ b.toNat < 128 by omega)]
    rw [rn_is l k (by simpa using h) (fun i hi => by simpa using h1 (i + 1) (by omega)) (fun hk => by simpa using h2 (by simpa using hk))]
theorem rn_ge : ∀ (l : List UInt8) (k : Nat), k ≤ l.length → (∀ i, i < k → 128 ≤ (l.getD i 0).toNat) → k ≤ rn l
  | _, 0, _, _ => Nat.zero_le _
  | [], k + 1, h, _ => by simp at h
  | b :: l, k + 1, h, h1 => by
    have hb := h1 0 (by omega)
    simp at hb
    simp only [rn, if_neg (show ¬ b.toNat < 128 by omega)]
    have := rn_ge l k (by simpa using h) (fun i hi => by simpa using h1 (i + 1) (by omega))
    omega
theorem rn_pc (n : Nat) (r : List UInt8) : rn (pc n ++ r) + 1 = (pc n).length := by
  induction n using Nat.strongRecOn with
  | _ n ih =>
    by_cases h : n < 128
    · rw [pc_small h]; simp only [List.cons_append, rn]; rw [u8_of n (by omega), if_pos h]; simp
    · rw [pc_big (by omega)]; simp only [List.cons_append, rn]; rw [u8_of _ (by omega), if_neg (by omega), ih _ (by omega)]; simp
/-- The last piece of more than one is not nought. -/
theorem pc_last (n : Nat) (r : List UInt8) (h : 1 ≤ rn (pc n ++ r)) : ((pc n ++ r).getD (rn (pc n ++ r)) 0).toNat ≠ 0 := by
  induction n using Nat.strongRecOn with
  | _ n ih =>
    by_cases hn : n < 128
    · have h1 := rn_pc n r
      have h2 : (pc n).length = 1 := by rw [pc_small hn]; rfl
      omega
    · rw [pc_big (by omega)] at h ⊢
      simp only [List.cons_append, rn] at h ⊢
      rw [u8_of _ (by omega), if_neg (by omega), List.getD_cons_succ]
      by_cases h1 : 1 ≤ rn (pc (n / 128) ++ r)
      · exact ih _ (by omega) h1
      · have h2 := rn_pc (n / 128) r
        have h3 : rn (pc (n / 128) ++ r) = 0 := by omega
        rw [h3] at h2 ⊢
        by_cases hs : n / 128 < 128
        · rw [pc_small hs]; simp only [List.cons_append, List.getD_cons_zero]; rw [u8_of _ (by omega)]; omega
        · have h4 := pc_pos (n / 128 / 128)
          have h5 : (pc (n / 128)).length = (pc (n / 128 / 128)).length + 1 := by rw [pc_big (n := n / 128) (by omega)]; rfl
          omega
theorem pc_pre {n m : Nat} {r : List UInt8} (h : pc m = pc n ++ r) : n = m := by
  have h1 := rn_pc n r
  have h2 := rn_pc m []
  rw [List.append_nil] at h2
  rw [← h] at h1
  have h3 : r.length = 0 := by have := congrArg List.length h; rw [List.length_append] at this; omega
  rw [List.length_eq_zero_iff.1 h3, List.append_nil] at h
  have := congrArg vl h
  rw [vl_pc, vl_pc] at this
  exact this.symm
/-- Pieces that are as few as may be are their number's. -/
theorem pc_vl : ∀ (l : List UInt8), rn l + 1 = l.length → (1 ≤ rn l → (l.getD (rn l) 0).toNat ≠ 0) → pc (vl l) = l ∧ (1 ≤ rn l → vl l ≠ 0)
  | [], h, _ => by simp [rn] at h
  | b :: l, h, h2 => by
    by_cases hb : b.toNat < 128
    · simp only [rn, if_pos hb] at h h2 ⊢
      have hl : l = [] := List.length_eq_zero_iff.1 (by simpa using h.symm)
      subst hl
      refine ⟨?_, fun h => by omega⟩
      simp only [vl]
      rw [Nat.mod_eq_of_lt hb, pc_small (by omega)]
      simp
    · simp only [rn, if_neg hb] at h h2 ⊢
      simp only [List.length_cons] at h
      have h3 := h2 (by omega)
      rw [List.getD_cons_succ] at h3
      obtain ⟨i1, i2⟩ := pc_vl l (by omega) (fun _ => h3)
      have hv : vl l ≠ 0 := by
        by_cases h1 : 1 ≤ rn l
        · exact i2 h1
        · have h0 : rn l = 0 := by omega
          rw [h0] at h3 h
          match l, h with
          | [c], _ =>
            simp at h3
            simp only [vl]
            have : c.toNat < 128 := by
              by_cases hc : c.toNat < 128
              · exact hc
              · simp [rn, hc] at h0
            omega
      have hbb := u8_bd b
      refine ⟨?_, fun _ => by simp only [vl]; omega⟩
      simp only [vl]
      rw [pc_big (by omega), show (b.toNat % 128 + 128 * vl l) % 128 + 128 = b.toNat by omega, show (b.toNat % 128 + 128 * vl l) / 128 = vl l by omega, i1, u8_to]

/-- What is wrong with the pieces at the beginning of bytes; how many they are; what they come to. -/
def rdE (b : List UInt8) : Nat :=
  if 10 ≤ rn b then 12 else if b.length ≤ rn b then 20 else if 1 ≤ rn b ∧ (b.getD (rn b) 0).toNat = 0 then 12 else if rn b = 9 ∧ 1 < (b.getD (rn b) 0).toNat then 12 else 0
def rdN (b : List UInt8) : Nat := if rdE b = 0 then rn b + 1 else 0
def rdV (b : List UInt8) : Nat := if rdE b = 0 then vl (b.take (rn b + 1)) else 0

theorem rdE_ok {b : List UInt8} (h : rdE b = 0) : rn b < 10 ∧ rn b < b.length ∧ (1 ≤ rn b → (b.getD (rn b) 0).toNat ≠ 0) ∧ (rn b = 9 → (b.getD (rn b) 0).toNat ≤ 1) := by
  unfold rdE at h
  by_cases h1 : 10 ≤ rn b
  · rw [if_pos h1] at h; omega
  by_cases h2 : b.length ≤ rn b
  · rw [if_neg h1, if_pos h2] at h; omega
  by_cases h3 : 1 ≤ rn b ∧ (b.getD (rn b) 0).toNat = 0
  · rw [if_neg h1, if_neg h2, if_pos h3] at h; omega
  by_cases h4 : rn b = 9 ∧ 1 < (b.getD (rn b) 0).toNat
  · rw [if_neg h1, if_neg h2, if_neg h3, if_pos h4] at h; omega
  exact ⟨by omega, by omega, fun h5 h6 => h3 ⟨h5, h6⟩, fun h5 => by
    rcases Nat.lt_or_ge 1 (b.getD (rn b) 0).toNat with h6 | h6
    · exact absurd ⟨h5, h6⟩ h4
    · exact h6⟩
theorem rdE_of {b : List UInt8} (h1 : rn b < 10) (h2 : rn b < b.length) (h3 : 1 ≤ rn b → (b.getD (rn b) 0).toNat ≠ 0) (h4 : rn b = 9 → (b.getD (rn b) 0).toNat ≤ 1) : rdE b = 0 := by
  unfold rdE
  rw [if_neg (by omega), if_neg (by omega), if_neg (fun h => h3 h.1 h.2), if_neg (fun h => by have := h4 h.1; omega)]
theorem rdE_cases (b : List UInt8) : rdE b = 0 ∨ rdE b = 12 ∨ rdE b = 20 := by
  unfold rdE
  split
  · exact .inr (.inl rfl)
  split
  · exact .inr (.inr rfl)
  split
  · exact .inr (.inl rfl)
  split
  · exact .inr (.inl rfl)
  exact .inl rfl
theorem rdN_le (b : List UInt8) : rdN b ≤ b.length := by
  unfold rdN; split
  · have := rdE_ok ‹_›; omega
  · omega
theorem rn_take {b : List UInt8} (h : rn b < b.length) : rn (b.take (rn b + 1)) = rn b := by
  refine rn_is _ _ (by simp; omega) (fun i hi => ?_) (fun _ => ?_)
  · have := rn_before b i hi
    rwa [List.getD_eq_getElem?_getD, List.getElem?_take_of_lt (by omega), ← List.getD_eq_getElem?_getD]
  · have := rn_at b h
    rwa [List.getD_eq_getElem?_getD, List.getElem?_take_of_lt (by omega), ← List.getD_eq_getElem?_getD]
theorem btake_snoc {l : List UInt8} {k : Nat} (h : k < l.length) : l.take (k + 1) = l.take k ++ [l.getD k 0] := by
  rw [List.take_succ_eq_append_getElem h]; simp [List.getD, List.getElem?_eq_getElem h]
theorem rdV_lt (b : List UInt8) : rdV b < 18446744073709551616 := by
  unfold rdV; split
  · obtain ⟨h1, h2, _, h4⟩ := rdE_ok ‹_›
    have hl : (b.take (rn b)).length = rn b := by simp; omega
    rw [btake_snoc h2, vl_snoc, hl]
    have := vl_lt (b.take (rn b))
    rw [hl] at this
    by_cases h9 : rn b = 9
    · have h5 := h4 h9
      rw [h9] at this h5 ⊢
      have : (b.getD 9 0).toNat % 128 ≤ 1 := by omega
      omega
    · have h6 : (b.getD (rn b) 0).toNat % 128 * 128 ^ rn b ≤ 127 * 128 ^ rn b := Nat.mul_le_mul_right _ (by omega)
      have h7 : 128 ^ rn b ≤ 128 ^ 8 := Nat.pow_le_pow_right (by omega) (by omega)
      omega
  · omega
/-- What was written is read. -/
theorem rd_pc {n : Nat} (hn : n < 18446744073709551616) (r : List UInt8) : rdE (pc n ++ r) = 0 ∧ rdN (pc n ++ r) = (pc n).length ∧ rdV (pc n ++ r) = n := by
  have h1 := rn_pc n r
  have h2 := pc_len10 hn
  have h3 := pc_last n r
  have ht : (pc n ++ r).take (rn (pc n ++ r) + 1) = pc n := by rw [h1, List.take_left']; rfl
  have h4 : rdE (pc n ++ r) = 0 := by
    refine rdE_of (by omega) (by rw [List.length_append]; omega) h3 (fun h9 => ?_)
    have hv := vl_pc n
    rw [← ht, btake_snoc (by rw [List.length_append]; omega), vl_snoc, h9] at hv
    have hl : ((pc n ++ r).take 9).length = 9 := by rw [List.length_take, List.length_append]; omega
    rw [hl] at hv
    have := rn_at (pc n ++ r) (by rw [List.length_append]; omega)
    rw [h9] at this ⊢
    rcases Nat.lt_or_ge 1 ((pc n ++ r).getD 9 0).toNat with h6 | h6
    · have : 2 * 128 ^ 9 ≤ ((pc n ++ r).getD 9 0).toNat % 128 * 128 ^ 9 := Nat.mul_le_mul_right _ (by omega)
      omega
    · exact h6
  refine ⟨h4, ?_, ?_⟩
  · rw [rdN, if_pos h4, h1]
  · rw [rdV, if_pos h4, ht, vl_pc]
/-- What was read is written so. -/
theorem rd_same {b : List UInt8} (h : rdE b = 0) : pc (rdV b) = b.take (rdN b) := by
  obtain ⟨h1, h2, h3, _⟩ := rdE_ok h
  rw [rdV, if_pos h, rdN, if_pos h]
  refine (pc_vl _ ?_ ?_).1
  · rw [rn_take h2]; simp; omega
  · rw [rn_take h2]
    intro h5
    rw [List.getD_eq_getElem?_getD, List.getElem?_take_of_lt (by omega), ← List.getD_eq_getElem?_getD]
    exact h3 h5

/-- A number in so many bytes. -/
def fx : Nat → Nat → List UInt8
  | 0, _ => []
  | k + 1, n => UInt8.ofNat (n % 256) :: fx k (n / 256)
def fv : List UInt8 → Nat
  | [] => 0
  | b :: l => b.toNat + 256 * fv l
theorem fx_len : ∀ k n, (fx k n).length = k
  | 0, _ => rfl
  | k + 1, n => by simp [fx, fx_len k]
theorem fv_fx : ∀ k n, fv (fx k n) = n % 256 ^ k
  | 0, n => by simp [fx, fv]; omega
  | k + 1, n => by
    simp only [fx, fv]
    rw [fv_fx k, u8_of _ (by omega), Nat.pow_succ, Nat.mul_comm (256 ^ k) 256, Nat.mod_mul]
theorem fv_lt : ∀ l : List UInt8, fv l < 256 ^ l.length
  | [] => by simp [fv]
  | b :: l => by
    have := fv_lt l
    have hb := u8_bd b
    simp only [fv, List.length_cons, Nat.pow_succ]
    omega
theorem fx_fv : ∀ l : List UInt8, fx l.length (fv l) = l
  | [] => rfl
  | b :: l => by
    have hb := u8_bd b
    simp only [fv, List.length_cons, fx]
    rw [show (b.toNat + 256 * fv l) % 256 = b.toNat by omega, show (b.toNat + 256 * fv l) / 256 = fv l by omega, fx_fv l, u8_to]
theorem fx_snoc : ∀ k n, fx (k + 1) n = fx k n ++ [UInt8.ofNat (n / 256 ^ k % 256)]
  | 0, n => by simp [fx]
  | k + 1, n => by
    rw [fx, fx_snoc k (n / 256), fx, List.cons_append, Nat.div_div_eq_div_mul, Nat.pow_succ, Nat.mul_comm (256 ^ k) 256]
theorem fv_snoc (l : List UInt8) (b : UInt8) : fv (l ++ [b]) = fv l + b.toNat * 256 ^ l.length := by
  induction l with
  | nil => simp [fv]
  | cons a l ih =>
    simp only [List.cons_append, fv, List.length_cons]
    rw [ih, Nat.pow_succ, Nat.mul_add, ← Nat.mul_assoc, Nat.mul_comm 256 b.toNat, Nat.mul_assoc b.toNat 256, Nat.mul_comm 256 (256 ^ l.length), Nat.add_assoc]

/-- A number's bits, and what bits come to. -/
def bt : Nat → Nat → List Nat
  | 0, _ => []
  | k + 1, n => n % 2 :: bt k (n / 2)
def bv : List Nat → Nat
  | [] => 0
  | b :: l => b + 2 * bv l
def isB (l : List Nat) : Prop := ∀ b ∈ l, b ≤ 1
theorem bt_len : ∀ k n, (bt k n).length = k
  | 0, _ => rfl
  | k + 1, n => by simp [bt, bt_len k]
theorem bt_b : ∀ k n, isB (bt k n)
  | 0, _ => by simp [isB, bt]
  | k + 1, n => by
    intro b hb
    rw [bt, List.mem_cons] at hb
    rcases hb with rfl | hb
    · omega
    · exact bt_b k _ b hb
theorem bv_bt : ∀ k n, bv (bt k n) = n % 2 ^ k
  | 0, n => by simp [bt, bv]; omega
  | k + 1, n => by
    simp only [bt, bv]
    rw [bv_bt k, Nat.pow_succ, Nat.mul_comm (2 ^ k) 2, Nat.mod_mul]
theorem bt_snoc : ∀ k n, bt (k + 1) n = bt k n ++ [n / 2 ^ k % 2]
  | 0, n => by simp [bt]
  | k + 1, n => by
    rw [bt, bt_snoc k (n / 2), bt, List.cons_append, Nat.div_div_eq_div_mul, Nat.pow_succ, Nat.mul_comm (2 ^ k) 2]
theorem bv_lt : ∀ l : List Nat, isB l → bv l < 2 ^ l.length
  | [], _ => by simp [bv]
  | b :: l, h => by
    have := bv_lt l (fun x hx => h x (by simp [hx]))
    have hb := h b (by simp)
    simp only [bv, List.length_cons, Nat.pow_succ]
    omega
theorem bv_app : ∀ l m : List Nat, bv (l ++ m) = bv l + 2 ^ l.length * bv m
  | [], m => by simp [bv]
  | b :: l, m => by
    simp only [List.cons_append, bv, List.length_cons]
    rw [bv_app l m, Nat.pow_succ, Nat.mul_add, ← Nat.mul_assoc, Nat.mul_comm 2 (2 ^ l.length), Nat.add_assoc]

/-- What a number is turned to, and back. -/
def tz (n : Int) : Nat := if n < 0 then 2 * (-(n + 1)).toNat + 1 else 2 * n.toNat
def tb (m : Nat) : Int := if m % 2 = 1 then -((m / 2 : Nat) : Int) - 1 else ((m / 2 : Nat) : Int)
theorem tb_tz (n : Int) : tb (tz n) = n := by unfold tb tz; split <;> split <;> omega
theorem tz_lt {n : Int} (h1 : -9223372036854775808 ≤ n) (h2 : n ≤ 9223372036854775807) : tz n < 18446744073709551616 := by unfold tz; split <;> omega
theorem tz_tb (m : Nat) : tz (tb m) = m := by unfold tb tz; split <;> split <;> omega
theorem tb_bd {m : Nat} (h : m < 18446744073709551616) : -9223372036854775808 ≤ tb m ∧ tb m ≤ 9223372036854775807 := by unfold tb; split <;> omega
end Go.Proofs.YtjpppffgebecdaaGreatDoor
