/- Plain facts on numbers in pieces by seven bits, in so many bytes, and in bits; no program is named.
What a slice of bytes holds, seen from wherever it lies; the contract of the law's own Bytes: whether two lists of bytes are the same; nothing that was in memory changes.
Appends to lists that a call made itself: of bytes, of numbers; what is given back so. -/
import Derived.Lib.Hide
import Derived.WalkKit
import Derived.ProofKit
import Derived.Below
import Derived.LoopTactic
import Derived.LoopN
import Derived.Deep.LoopGhost
import Derived.Laws.AppendOwn
import Derived.Laws.AppendOwnNone
import Derived.KernelRfl
import Derived.Test.YtdmfgechoanmlaaGreatDoorProg
import Derived.Maps.AppendAt
import Derived.ArgAppend
import Derived.Laws.OwnMore
import Derived.OwnWalk
namespace Go.Proofs.YtdmfgechoanmlaaGreatDoor
open Go

theorem u8_of (n : Nat) (h : n < 256) : (UInt8.ofNat n).toNat = n := by rw [UInt8.toNat_ofNat']; omega
theorem u8_to (b : UInt8) : UInt8.ofNat b.toNat = b := by simp
theorem u8_bd (b : UInt8) : b.toNat < 256 := b.toNat_lt

/-- A number in pieces, the lowest ones first. -/
def pc (n : Nat) : List UInt8 := if _h : n < 128 then [UInt8.ofNat n] else UInt8.ofNat (n % 128 + 128) :: pc (n / 128)
termination_by n
decreasing_by omega

theorem pc_small {n : Nat} (h : n < 128) : pc n = [UInt8.ofNat n] := by rw [pc, dif_pos h]
theorem pc_big {n : Nat} (h : 128 ≤ n) : pc n = UInt8.ofNat (n % 128 + 128) :: pc (n / 128) := by rw [pc, dif_neg (by omega)]

/-- What pieces come to. -/
def vl : List UInt8 → Nat
  | [] => 0
  | b :: l => b.toNat % 128 + 128 * vl l

theorem vl_pc (n : Nat) : vl (pc n) = n := by
  induction n using Nat.strongRecOn with
  | _ n ih =>
    by_cases h : n < 128
    · rw [pc_small h]; simp only [vl]; rw [u8_of n (by omega)]; omega
    · rw [pc_big (by omega)]; simp only [vl]; rw [u8_of _ (by omega), ih _ (by omega)]; omega
theorem vl_snoc (l : List UInt8) (b : UInt8) : vl (l ++ [b]) = vl l + b.toNat % 128 * 128 ^ l.length := by
  induction l with
  | nil => simp [vl]
  | cons a l ih =>
    simp only [List.cons_append, vl, List.length_cons]
    rw [ih, Nat.pow_succ, Nat.mul_add, ← Nat.mul_assoc, Nat.mul_comm 128 (b.toNat % 128), Nat.mul_assoc (b.toNat % 128) 128, Nat.mul_comm 128 (128 ^ l.length), Nat.add_assoc]
theorem vl_lt (l : List UInt8) : vl l < 128 ^ l.length := by
  induction l with
  | nil => simp [vl]
  | cons a l ih =>
    simp only [vl, List.length_cons, Nat.pow_succ]
    omega
theorem pc_pos (n : Nat) : 1 ≤ (pc n).length := by
  by_cases h : n < 128
  · rw [pc_small h]; simp
  · rw [pc_big (by omega)]; simp
theorem pc_len : ∀ (k n : Nat), n < 128 ^ (k + 1) → (pc n).length ≤ k + 1
  | 0, n, h => by rw [pc_small (by simpa using h)]; simp
  | k + 1, n, h => by
    by_cases hn : n < 128
    · rw [pc_small hn]; simp
    · rw [pc_big (by omega), List.length_cons]
      have := pc_len k (n / 128) (by rw [Nat.pow_succ] at h; omega)
      omega
theorem pc_mono (n : Nat) : ∀ m, n ≤ m → (pc n).length ≤ (pc m).length := by
  induction n using Nat.strongRecOn with
  | _ n ih =>
    intro m h
    by_cases hn : n < 128
    · rw [pc_small hn]; exact pc_pos m
    · rw [pc_big (by omega), pc_big (n := m) (by omega), List.length_cons, List.length_cons]
      have := ih (n / 128) (by omega) (m / 128) (by omega)
      omega
theorem pc_len10 {n : Nat} (h : n < 18446744073709551616) : (pc n).length ≤ 10 := pc_len 9 n (by omega)
theorem pc_len9 {n : Nat} (h : n < 9223372036854775808) : (pc n).length ≤ 9 := pc_len 8 n (by omega)

/-- How many pieces there are that are not the last one. -/
def rn : List UInt8 → Nat
  | [] => 0
  | b :: l => if b.toNat < 128 then 0 else rn l + 1
theorem rn_le : ∀ l : List UInt8, rn l ≤ l.length
  | [] => by simp [rn]
  | b :: l => by have := rn_le l; simp only [rn, List.length_cons]; split <;> omega
theorem rn_at : ∀ (l : List UInt8), rn l < l.length → (l.getD (rn l) 0).toNat < 128
  | [], h => by simp at h
  | b :: l, h => by
    by_cases hb : b.toNat < 128
    · simp only [rn, if_pos hb]; simpa using hb
    · simp only [rn, if_neg hb] at h ⊢
      have := rn_at l (by simpa using h)
      simpa using this
theorem rn_before : ∀ (l : List UInt8) (k : Nat), k < rn l → 128 ≤ (l.getD k 0).toNat
  | [], k, h => by simp [rn] at h
  | b :: l, k, h => by
    by_cases hb : b.toNat < 128
    · simp [rn, hb] at h
    · cases k with
      | zero => simp; omega
      | succ k =>
        simp only [rn, if_neg hb] at h
        simpa using rn_before l k (by omega)
theorem rn_is : ∀ (l : List UInt8) (k : Nat), k ≤ l.length → (∀ i, i < k → 128 ≤ (l.getD i 0).toNat) → (k < l.length → (l.getD k 0).toNat < 128) → rn l = k
  | [], k, h, _, _ => by simp at h; simp [rn, h]
  | b :: l, 0, _, _, h2 => by
    have := h2 (by simp)
    simp at this
    simp [rn, this]
  | b :: l, k + 1, h, h1, h2 => by
    have hb := h1 0 (by omega)
    simp at hb
    simp only [rn, if_neg (show ¬ b.toNat < 128 by omega)]
    rw [rn_is l k (by simpa using h) (fun i hi => by simpa using h1 (i + 1) (by omega)) (fun hk => by simpa using h2 (by simpa using hk))]
theorem rn_ge : ∀ (l : List UInt8) (k : Nat), k ≤ l.length → (∀ i, i < k → 128 ≤ (l.getD i 0).toNat) → k ≤ rn l
  | _, 0, _, _ => Nat.zero_le _
  | [], k + 1, h, _ => by simp at h
  | b :: l, k + 1, h, h1 => by
    have hb := h1 0 (by omega)
    simp at hb
    simp only [rn, if_neg (show ¬ b.toNat < 128 by omega)]
    have := rn_ge l k (by simpa using h) (fun i hi => by simpa using h1 (i + 1) (by omega))
    omega
theorem rn_pc (n : Nat) (r : List UInt8) : rn (pc n ++ r) + 1 = (pc n).length := by
  induction n using Nat.strongRecOn with
  | _ n ih =>
    by_cases h : n < 128
    · rw [pc_small h]; simp only [List.cons_append, rn]; rw [u8_of n (by omega), if_pos h]; simp
    · rw [pc_big (by omega)]; simp only [List.cons_append, rn]; rw [u8_of _ (by omega), if_neg (by omega), ih _ (by omega)]; simp
/-- The last piece of more than one is not nought. -/
theorem pc_last (n : Nat) (r : List UInt8) (h : 1 ≤ rn (pc n ++ r)) : ((pc n ++ r).getD (rn (pc n ++ r)) 0).toNat ≠ 0 := by
  induction n using Nat.strongRecOn with
  | _ n ih =>
    by_cases hn : n < 128
    · have h1 := rn_pc n r
      have h2 : (pc n).length = 1 := by rw [pc_small hn]; rfl
      omega
    · rw [pc_big (by omega)] at h ⊢
      simp only [List.cons_append, rn] at h ⊢
      rw [u8_of _ (by omega), if_neg (by omega), List.getD_cons_succ]
      by_cases h1 : 1 ≤ rn (pc (n / 128) ++ r)
      · exact ih _ (by omega) h1
      · have h2 := rn_pc (n / 128) r
        have h3 : rn (pc (n / 128) ++ r) = 0 := by omega
        rw [h3] at h2 ⊢
        by_cases hs : n / 128 < 128
        · rw [pc_small hs]; simp only [List.cons_append, List.getD_cons_zero]; rw [u8_of _ (by omega)]; omega
        · have h4 := pc_pos (n / 128 / 128)
          have h5 : (pc (n / 128)).length = (pc (n / 128 / 128)).length + 1 := by rw [pc_big (n := n / 128) (by omega)]; rfl
          omega
theorem pc_pre {n m : Nat} {r : List UInt8} (h : pc m = pc n ++ r) : n = m := by
  have h1 := rn_pc n r
  have h2 := rn_pc m []
  rw [List.append_nil] at h2
  rw [← h] at h1
  have h3 : r.length = 0 := by have := congrArg List.length h; rw [List.length_append] at this; omega
  rw [List.length_eq_zero_iff.1 h3, List.append_nil] at h
  have := congrArg vl h
  rw [vl_pc, vl_pc] at this
  exact this.symm
/-- Pieces that are as few as may be are their number's. -/
theorem pc_vl : ∀ (l : List UInt8), rn l + 1 = l.length → (1 ≤ rn l → (l.getD (rn l) 0).toNat ≠ 0) → pc (vl l) = l ∧ (1 ≤ rn l → vl l ≠ 0)
  | [], h, _ => by simp [rn] at h
  | b :: l, h, h2 => by
    by_cases hb : b.toNat < 128
    · simp only [rn, if_pos hb] at h h2 ⊢
      have hl : l = [] := List.length_eq_zero_iff.1 (by simpa using h.symm)
      subst hl
      refine ⟨?_, fun h => by omega⟩
      simp only [vl]
      rw [Nat.mod_eq_of_lt hb, pc_small (by omega)]
      simp
    · simp only [rn, if_neg hb] at h h2 ⊢
      simp only [List.length_cons] at h
      have h3 := h2 (by omega)
      rw [List.getD_cons_succ] at h3
      obtain ⟨i1, i2⟩ := pc_vl l (by omega) (fun _ => h3)
      have hv : vl l ≠ 0 := by
        by_cases h1 : 1 ≤ rn l
        · exact i2 h1
        · have h0 : rn l = 0 := by omega
          rw [h0] at h3 h
          match l, h with
          | [c], _ =>
            simp at h3
            simp only [vl]
            have : c.toNat < 128 := by
              by_cases hc : c.toNat < 128
              · exact hc
              · simp [rn, hc] at h0
            omega
      have hbb := u8_bd b
      refine ⟨?_, fun _ => by simp only [vl]; omega⟩
      simp only [vl]
      rw [pc_big (by omega), show (b.toNat % 128 + 128 * vl l) % 128 + 128 = b.toNat by omega, show (b.toNat % 128 + 128 * vl l) / 128 = vl l by omega, i1, u8_to]

/-- What is wrong with the pieces at the beginning of bytes; how many they are; what they come to. -/
def rdE (b : List UInt8) : Nat :=
  if 10 ≤ rn b then 12 else if b.length ≤ rn b then 20 else if 1 ≤ rn b ∧ (b.getD (rn b) 0).toNat = 0 then 12 else if rn b = 9 ∧ 1 < (b.getD (rn b) 0).toNat then 12 else 0
def rdN (b : List UInt8) : Nat := if rdE b = 0 then rn b + 1 else 0
def rdV (b : List UInt8) : Nat := if rdE b = 0 then vl (b.take (rn b + 1)) else 0

theorem rdE_ok {b : List UInt8} (h : rdE b = 0) : rn b < 10 ∧ rn b < b.length ∧ (1 ≤ rn b → (b.getD (rn b) 0).toNat ≠ 0) ∧ (rn b = 9 → (b.getD (rn b) 0).toNat ≤ 1) := by
  unfold rdE at h
  by_cases h1 : 10 ≤ rn b
  · rw [if_pos h1] at h; omega
  by_cases h2 : b.length ≤ rn b
  · rw [if_neg h1, if_pos h2] at h; omega
  by_cases h3 : 1 ≤ rn b ∧ (b.getD (rn b) 0).toNat = 0
  · rw [if_neg h1, if_neg h2, if_pos h3] at h; omega
  by_cases h4 : rn b = 9 ∧ 1 < (b.getD (rn b) 0).toNat
  · rw [if_neg h1, if_neg h2, if_neg h3, if_pos h4] at h; omega
  exact ⟨by omega, by omega, fun h5 h6 => h3 ⟨h5, h6⟩, fun h5 => by
    rcases Nat.lt_or_ge 1 (b.getD (rn b) 0).toNat with h6 | h6
    · exact absurd ⟨h5, h6⟩ h4
    · exact h6⟩
theorem rdE_of {b : List UInt8} (h1 : rn b < 10) (h2 : rn b < b.length) (h3 : 1 ≤ rn b → (b.getD (rn b) 0).toNat ≠ 0) (h4 : rn b = 9 → (b.getD (rn b) 0).toNat ≤ 1) : rdE b = 0 := by
  unfold rdE
  rw [if_neg (by omega), if_neg (by omega), if_neg (fun h => h3 h.1 h.2), if_neg (fun h => by have := h4 h.1; omega)]
theorem rdE_cases (b : List UInt8) : rdE b = 0 ∨ rdE b = 12 ∨ rdE b = 20 := by
  unfold rdE
  split
  · exact .inr (.inl rfl)
  split
  · exact .inr (.inr rfl)
  split
  · exact .inr (.inl rfl)
  split
  · exact .inr (.inl rfl)
  exact .inl rfl
theorem rdN_le (b : List UInt8) : rdN b ≤ b.length := by
  unfold rdN; split
  · have := rdE_ok ‹_›; omega
  · omega
theorem rn_take {b : List UInt8} (h : rn b < b.length) : rn (b.take (rn b + 1)) = rn b := by
  refine rn_is _ _ (by simp; omega) (fun i hi => ?_) (fun _ => ?_)
  · have := rn_before b i hi
    rwa [List.getD_eq_getElem?_getD, List.getElem?_take_of_lt (by omega), ← List.getD_eq_getElem?_getD]
  · have := rn_at b h
    rwa [List.getD_eq_getElem?_getD, List.getElem?_take_of_lt (by omega), ← List.getD_eq_getElem?_getD]
theorem btake_snoc {l : List UInt8} {k : Nat} (h : k < l.length) : l.take (k + 1) = l.take k ++ [l.getD k 0] := by
  rw [List.take_succ_eq_append_getElem h]; simp [List.getD, List.getElem?_eq_getElem h]
theorem rdV_lt (b : List UInt8) : rdV b < 18446744073709551616 := by
  unfold rdV; split
  · obtain ⟨h1, h2, _, h4⟩ := rdE_ok ‹_›
    have hl : (b.take (rn b)).length = rn b := by simp; omega
    rw [btake_snoc h2, vl_snoc, hl]
    have := vl_lt (b.take (rn b))
    rw [hl] at this
    by_cases h9 : rn b = 9
    · have h5 := h4 h9
      rw [h9] at this h5 ⊢
      have : (b.getD 9 0).toNat % 128 ≤ 1 := by omega
      omega
    · have h6 : (b.getD (rn b) 0).toNat % 128 * 128 ^ rn b ≤ 127 * 128 ^ rn b := Nat.mul_le_mul_right _ (by omega)
      have h7 : 128 ^ rn b ≤ 128 ^ 8 := Nat.pow_le_pow_right (by omega) (by omega)
      omega
  · omega
/-- What was written is read. -/
theorem rd_pc {n : Nat} (hn : n < 18446744073709551616) (r : List UInt8) : rdE (pc n ++ r) = 0 ∧ rdN (pc n ++ r) = (pc n).length ∧ rdV (pc n ++ r) = n := by
  have h1 := rn_pc n r
  have h2 := pc_len10 hn
  have h3 := pc_last n r
  have ht : (pc n ++ r).take (rn (pc n ++ r) + 1) = pc n := by rw [h1, List.take_left']; rfl
  have h4 : rdE (pc n ++ r) = 0 := by
    refine rdE_of (by omega) (by rw [List.length_append]; omega) h3 (fun h9 => ?_)
    have hv := vl_pc n
    rw [← ht, btake_snoc (by rw [List.length_append]; omega), vl_snoc, h9] at hv
    have hl : ((pc n ++ r).take 9).length = 9 := by rw [List.length_take, List.length_append]; omega
    rw [hl] at hv
    have := rn_at (pc n ++ r) (by rw [List.length_append]; omega)
    rw [h9] at this ⊢
    rcases Nat.lt_or_ge 1 ((pc n ++ r).getD 9 0).toNat with h6 | h6
    · have : 2 * 128 ^ 9 ≤ ((pc n ++ r).getD 9 0).toNat % 128 * 128 ^ 9 := Nat.mul_le_mul_right _ (by omega)
      omega
    · exact h6
  refine ⟨h4, ?_, ?_⟩
  · rw [rdN, if_pos h4, h1]
  · rw [rdV, if_pos h4, ht, vl_pc]
/-- What was read is written so. -/
theorem rd_same {b : List UInt8} (h : rdE b = 0) : pc (rdV b) = b.take (rdN b) := by
  obtain ⟨h1, h2, h3, _⟩ := rdE_ok h
  rw [rdV, if_pos h, rdN, if_pos h]
  refine (pc_vl _ ?_ ?_).1
  · rw [rn_take h2]; simp; omega
  · rw [rn_take h2]
    intro h5
    rw [List.getD_eq_getElem?_getD, List.getElem?_take_of_lt (by omega), ← List.getD_eq_getElem?_getD]
    exact h3 h5

/-- A number in so many bytes. -/
def fx : Nat → Nat → List UInt8
  | 0, _ => []
  | k + 1, n => UInt8.ofNat (n % 256) :: fx k (n / 256)
def fv : List UInt8 → Nat
  | [] => 0
  | b :: l => b.toNat + 256 * fv l
theorem fx_len : ∀ k n, (fx k n).length = k
  | 0, _ => rfl
  | k + 1, n => by simp [fx, fx_len k]
theorem fv_fx : ∀ k n, fv (fx k n) = n % 256 ^ k
  | 0, n => by simp [fx, fv]; omega
  | k + 1, n => by
    simp only [fx, fv]
    rw [fv_fx k, u8_of _ (by omega), Nat.pow_succ, Nat.mul_comm (256 ^ k) 256, Nat.mod_mul]
theorem fv_lt : ∀ l : List UInt8, fv l < 256 ^ l.length
  | [] => by simp [fv]
  | b :: l => by
    have := fv_lt l
    have hb := u8_bd b
    simp only [fv, List.length_cons, Nat.pow_succ]
    omega
theorem fx_fv : ∀ l : List UInt8, fx l.length (fv l) = l
  | [] => rfl
  | b :: l => by
    have hb := u8_bd b
    simp only [fv, List.length_cons, fx]
    rw [show (b.toNat + 256 * fv l) % 256 = b.toNat by omega, show (b.toNat + 256 * fv l) / 256 = fv l by omega, fx_fv l, u8_to]
theorem fx_snoc : ∀ k n, fx (k + 1) n = fx k n ++ [UInt8.ofNat (n / 256 ^ k % 256)]
  | 0, n => by simp [fx]
  | k + 1, n => by
    rw [fx, fx_snoc k (n / 256), fx, List.cons_append, Nat.div_div_eq_div_mul, Nat.pow_succ, Nat.mul_comm (256 ^ k) 256]
theorem fv_snoc (l : List UInt8) (b : UInt8) : fv (l ++ [b]) = fv l + b.toNat * 256 ^ l.length := by
  induction l with
  | nil => simp [fv]
  | cons a l ih =>
    simp only [List.cons_append, fv, List.length_cons]
    rw [ih, Nat.pow_succ, Nat.mul_add, ← Nat.mul_assoc, Nat.mul_comm 256 b.toNat, Nat.mul_assoc b.toNat 256, Nat.mul_comm 256 (256 ^ l.length), Nat.add_assoc]

/-- A number's bits, and what bits come to. -/
def bt : Nat → Nat → List Nat
  | 0, _ => []
  | k + 1, n => n % 2 :: bt k (n / 2)
def bv : List Nat → Nat
  | [] => 0
  | b :: l => b + 2 * bv l
def isB (l : List Nat) : Prop := ∀ b ∈ l, b ≤ 1
theorem bt_len : ∀ k n, (bt k n).length = k
  | 0, _ => rfl
  | k + 1, n => by simp [bt, bt_len k]
theorem bt_b : ∀ k n, isB (bt k n)
  | 0, _ => by simp [isB, bt]
  | k + 1, n => by
    intro b hb
    rw [bt, List.mem_cons] at hb
    rcases hb with rfl | hb
    · omega
    · exact bt_b k _ b hb
theorem bv_bt : ∀ k n, bv (bt k n) = n % 2 ^ k
  | 0, n => by simp [bt, bv]; omega
  | k + 1, n => by
    simp only [bt, bv]
    rw [bv_bt k, Nat.pow_succ, Nat.mul_comm (2 ^ k) 2, Nat.mod_mul]
theorem bt_snoc : ∀ k n, bt (k + 1) n = bt k n ++ [n / 2 ^ k % 2]
  | 0, n => by simp [bt]
  | k + 1, n => by
    rw [bt, bt_snoc k (n / 2), bt, List.cons_append, Nat.div_div_eq_div_mul, Nat.pow_succ, Nat.mul_comm (2 ^ k) 2]
theorem bv_lt : ∀ l : List Nat, isB l → bv l < 2 ^ l.length
  | [], _ => by simp [bv]
  | b :: l, h => by
    have := bv_lt l (fun x hx => h x (by simp [hx]))
    have hb := h b (by simp)
    simp only [bv, List.length_cons, Nat.pow_succ]
    omega
theorem bv_app : ∀ l m : List Nat, bv (l ++ m) = bv l + 2 ^ l.length * bv m
  | [], m => by simp [bv]
  | b :: l, m => by
    simp only [List.cons_append, bv, List.length_cons]
    rw [bv_app l m, Nat.pow_succ, Nat.mul_add, ← Nat.mul_assoc, Nat.mul_comm 2 (2 ^ l.length), Nat.add_assoc]

/-- What a number is turned to, and back. -/
def tz (n : Int) : Nat := if n < 0 then 2 * (-(n + 1)).toNat + 1 else 2 * n.toNat
def tb (m : Nat) : Int := if m % 2 = 1 then -((m / 2 : Nat) : Int) - 1 else ((m / 2 : Nat) : Int)
theorem tb_tz (n : Int) : tb (tz n) = n := by unfold tb tz; split <;> split <;> omega
theorem tz_lt {n : Int} (h1 : -9223372036854775808 ≤ n) (h2 : n ≤ 9223372036854775807) : tz n < 18446744073709551616 := by unfold tz; split <;> omega
theorem tz_tb (m : Nat) : tz (tb m) = m := by unfold tb tz; split <;> split <;> omega
theorem tb_bd {m : Nat} (h : m < 18446744073709551616) : -9223372036854775808 ≤ tb m ∧ tb m ≤ 9223372036854775807 := by unfold tb; split <;> omega
end Go.Proofs.YtdmfgechoanmlaaGreatDoor

namespace Go.Proofs.YtdmfgechoanmlaaGreatDoor
open Go.RowKit
attribute [local go_sem] Oper.semAt_some

theorem wu8_info : (Tryz.prog.info? 5).map (fun i => (i.zero, i.size, i.bytes)) = some (some (.int .u8 0), 1, 1) := by kernel_rfl
theorem wint_info : (Tryz.prog.info? 3).map (fun i => (i.zero, i.size, i.bytes)) = some (some (.int .i64 0), 1, 8) := by kernel_rfl

def ubl (l : List UInt8) : List Value := l.map fun b => .int .u8 (b.toNat : Int)
theorem ubl_len (l : List UInt8) : (ubl l).length = l.length := by simp [ubl]
theorem ubl_app (l x : List UInt8) : ubl (l ++ x) = ubl l ++ ubl x := by simp [ubl]
theorem ubl_one (l : List UInt8) : ∀ u ∈ ubl l, u.oneCell' = true := by
  intro u hu
  obtain ⟨b, _, rfl⟩ := List.mem_map.1 hu
  rfl

/-- The bytes l lie at the address: a slice's elements. -/
def By (w : World) (a : Option Addr) (l : List UInt8) : Prop :=
  ∀ k, k < l.length → ∃ b off, a = some ⟨b, off, none⟩ ∧ b < w.heap.size ∧ w.cell? ⟨b, off + k, none⟩ = some (.int .u8 ((l.getD k 0).toNat : Int))
theorem By.nil (w : World) (a : Option Addr) : By w a [] := fun k hk => by simp at hk
theorem By.next {w w' : World} {a : Option Addr} {l : List UInt8} (h : By w a l) (hb : Below w.heap.size w w') : By w' a l := fun k hk => by
  obtain ⟨b, off, e, hlt, hc⟩ := h k hk
  exact ⟨b, off, e, Nat.lt_of_lt_of_le hlt hb.size, by rw [hb.cell (p := ⟨b, off + k, none⟩) hlt]; exact hc⟩
theorem By.below {w w' : World} {B : Nat} {a : Option Addr} {l : List UInt8} (h : By w a l) (hb : Below B w w') (hB : w.heap.size ≤ B) : By w' a l := h.next (hb.mono hB)
theorem By.of_own {w : World} {g : Nat} {A : Option Addr} {n c : Nat} {l : List UInt8} (h : w.ownsRow g 5 1 (.slice A n c) n (ubl l)) : By w A l := fun k hk => by
  have hn : n = l.length := by have := h.1; rw [ubl_len] at this; omega
  rcases h.2 with ⟨_, h0⟩ | ⟨g', cap, cur, hv, hb, hg, h1, h2, h3, h4⟩
  · omega
  · injection hv with e1 e2 e3
    refine ⟨g', 0, e1, (Array.getElem?_eq_some_iff.1 hg).1, ?_⟩
    have hc : cur[0 + k]? = some (.int .u8 ((l.getD k 0).toNat : Int)) := by
      have e5 : (cur.toList.take (n * 1))[k]? = (ubl l)[k]? := by rw [h4]
      rw [List.getElem?_take_of_lt (by omega)] at e5
      rw [Nat.zero_add, ← Array.getElem?_toList, e5, ubl, List.getElem?_map, List.getElem?_eq_getElem hk]
      simp [List.getD, List.getElem?_eq_getElem hk]
    rw [cell_of_row w g' (0 + k) _ _ (0, 0) hg, hc]
/-- A slice made of a literal. -/
theorem By.new (w : World) (l : List UInt8) (cs : Array Value) (hc : cs = (ubl l).toArray) : By (w.alloc (.cells cs 5)) (some ⟨w.heap.size, 0, none⟩) l := fun k hk => by
  refine ⟨_, 0, rfl, by simp, ?_⟩
  subst hc
  rw [cell_of_row _ w.heap.size (0 + k) _ 5 (0, 0) (heap_alloc_new w _)]
  simp [ubl, List.getD, List.getElem?_eq_getElem hk]

/-- The address of a slice's part that begins at k. -/
def sh (a : Option Addr) (c k : Nat) : Option Addr := if c = k then a else a.map (·.add (k * 1))
theorem By.drop {w : World} {a : Option Addr} {l : List UInt8} {c k : Nat} (h : By w a l) (hc : l.length ≤ c) : By w (sh a c k) (l.drop k) := fun j hj => by
  rw [List.length_drop] at hj
  obtain ⟨b, off, e, hlt, hh⟩ := h (k + j) (by omega)
  refine ⟨b, off + k, ?_, hlt, ?_⟩
  · unfold sh
    rw [if_neg (by omega), e]
    simp [Go.WideShapes.add_plain]
  · rw [show off + k + j = off + (k + j) by omega, hh]
    simp [List.getD]
theorem By.take {w : World} {a : Option Addr} {l : List UInt8} (h : By w a l) (k : Nat) : By w a (l.take k) := fun j hj => by
  rw [List.length_take] at hj
  obtain ⟨b, off, e, hlt, hh⟩ := h j (by omega)
  refine ⟨b, off, e, hlt, ?_⟩
  rw [hh]
  simp [List.getD, show j < k by omega]
theorem bdrop_run (a : Option Addr) (n c k : Nat) (h : k ≤ n) (W : World) : (Instr.slice 181 (.slice a n c) (some (.int .i64 (k : Int))) none none).run Tryz.prog W = .ok (.slice (sh a c k) (n - k) (c - k)) W := by
  have e : Tryz.prog.elem 181 = 5 := by kernel_rfl
  have hs : (sizeOf 5).run Tryz.prog W = .ok 1 W := by kernel_rfl
  rw [run_slice_l W 181 a n c (by rw [e]; exact Tryz.underlying181) .i64 k (by omega) (by omega), e, hs]
  simp [Result.andThen, sliced, sh]

theorem bys_ne {l m : List UInt8} {k : Nat} (h : (l.getD k 0).toNat ≠ (m.getD k 0).toNat) : l ≠ m := by rintro rfl; exact h rfl
theorem bys_eq {l m : List UInt8} (hl : l.length = m.length) (h : ∀ k, k < l.length → (l.getD k 0).toNat = (m.getD k 0).toNat) : l = m := by
  apply List.ext_getElem hl
  intro i h1 h2
  have := h i h1
  simp [List.getD, List.getElem?_eq_getElem h1, List.getElem?_eq_getElem h2] at this
  exact UInt8.toNat_inj.1 this

end Go.Proofs.YtdmfgechoanmlaaGreatDoor

namespace Go.Proofs.YtdmfgechoanmlaaGreatDoor
open Go.RowKit
attribute [local go_sem] Oper.semAt_some

theorem wown_form {W : World} {v' : Value} {base n : Nat} {e : TypeId} {xs : List Value} (h : W.ownsRow base e 1 v' n xs) : ∃ A c, v' = .slice A n c := by
  rcases h.2 with ⟨rfl, rfl⟩ | ⟨g, cap, _, rfl, _⟩
  · exact ⟨none, 0, rfl⟩
  · exact ⟨_, cap, rfl⟩

def icl (l : List Nat) : List Value := l.map (fun b : Nat => Value.int .i64 (b : Int))
theorem icl_len (l : List Nat) : (icl l).length = l.length := by simp [icl]
theorem icl_app (l x : List Nat) : icl (l ++ x) = icl l ++ icl x := by simp [icl]
theorem icl_one (l : List Nat) : ∀ u ∈ icl l, u.oneCell' = true := by
  intro u hu
  obtain ⟨b, _, rfl⟩ := List.mem_map.1 hu
  rfl
theorem grown_of_bel {W W1 : World} (h : Below W.heap.size W W1) (row : Option Nat) : W.grownBy W1 row := ⟨h.os, h.tape, h.output, h.size, fun i hi _ => h.block i hi⟩
theorem wown_keep {W W1 : World} {base n : Nat} {e : TypeId} {v : Value} {xs : List Value} (h : W.ownsRow base e 1 v n xs) (k : Below W.heap.size W W1) : W1.ownsRow base e 1 v n xs := h.kept (grown_of_bel k none) (by cases v.ownBlock <;> simp)

/-- One number behind a list of numbers that the call made itself. -/
theorem wpList_ipush {w : World} {ops : Array Oper} {rest : List Oper} {o : Oper} {a : Act} {Q : Exit → Act → World → Prop} (hgd : o.guard = none) (s x : Operand)
    (ho : o.op = .call { callee := .builtin .append, args := #[s, x], argTypes := #[28, 28] }) {base n m c : Nat} {A : Option Addr} {l : List Nat} (hn : l.length = n) (hm : n + 1 = m) (X : w.ownsRow base 3 1 (.slice A n c) n (icl l))
    (hs : a.eval s = .slice A n c) (ad : Addr) (p : Nat) (hx : a.eval x = .slice (some ad) 1 1) (hb : w.cell? ad = some (.int .i64 (p : Int))) (hl : n ≤ 100000) (hbase : base ≤ w.heap.size)
    (h : ∀ A' c' w', w'.ownsRow base 3 1 (.slice A' m c') m (icl (l ++ [p])) → Below base w w' → wpList Tryz.prog ops Q rest (a.put o.dst (.slice A' m c')) w') : wpList Tryz.prog ops Q (o :: rest) a w := by
  obtain ⟨i0, hi0, hz0, hz1, hz2⟩ := info_parts wint_info
  subst hn hm
  refine wpList_append_own_at _ hgd s x _ ho base 3 i0 _ 1 8 Tryz.underlying28 hi0 hz0 hz1 hz2 rfl (by omega) (.slice A l.length c) l.length (icl l) hs X ad 1 1 (icl [p]) hx rfl (by intro j u hu; rcases j with _ | j <;> simp [icl] at hu; subst hu; simpa [Addr.add] using hb) (icl_one _) (by simp only [maxLen]; omega) (by omega) hbase ?_
  intro v' w' hown hg _ _
  obtain ⟨A', c', rfl⟩ := wown_form hown
  rw [← icl_app] at hown
  exact h A' c' w' hown ((Below.refl base w).grown hg hbase (fun k hk => (X.lt k hk).1))
/-- One byte behind a list of bytes that the call made itself. -/
theorem wpList_bpush {w : World} {ops : Array Oper} {rest : List Oper} {o : Oper} {a : Act} {Q : Exit → Act → World → Prop} (hgd : o.guard = none) (s x : Operand)
    (ho : o.op = .call { callee := .builtin .append, args := #[s, x], argTypes := #[181, 181] }) {base n m c : Nat} {A : Option Addr} {l : List UInt8} (hn : l.length = n) (hm : n + 1 = m) (X : w.ownsRow base 5 1 (.slice A n c) n (ubl l))
    (hs : a.eval s = .slice A n c) (ad : Addr) (p : UInt8) (hx : a.eval x = .slice (some ad) 1 1) (hb : w.cell? ad = some (.int .u8 (p.toNat : Int))) (hl : n ≤ 100000) (hbase : base ≤ w.heap.size)
    (h : ∀ A' c' w', w'.ownsRow base 5 1 (.slice A' m c') m (ubl (l ++ [p])) → Below base w w' → wpList Tryz.prog ops Q rest (a.put o.dst (.slice A' m c')) w') : wpList Tryz.prog ops Q (o :: rest) a w := by
  obtain ⟨i0, hi0, hz0, hz1, hz2⟩ := info_parts wu8_info
  subst hn hm
  refine wpList_append_own_at _ hgd s x _ ho base 5 i0 _ 1 1 Tryz.underlying181 hi0 hz0 hz1 hz2 rfl (by omega) (.slice A l.length c) l.length (ubl l) hs X ad 1 1 (ubl [p]) hx rfl (by intro j u hu; rcases j with _ | j <;> simp [ubl] at hu; subst hu; simpa [Addr.add] using hb) (ubl_one _) (by simp only [maxLen]; omega) (by omega) hbase ?_
  intro v' w' hown hg _ _
  obtain ⟨A', c', rfl⟩ := wown_form hown
  rw [← ubl_app] at hown
  exact h A' c' w' hown ((Below.refl base w).grown hg hbase (fun k hk => (X.lt k hk).1))

/-- A list of numbers, of the call's own, is what is given back. -/
def CollI (l : List Nat) (w : World) (e : Ending) (w' : World) : Prop := ∃ A c, e = .returned (.slice A l.length c) ∧ w'.ownsRow w.heap.size 3 1 (.slice A l.length c) l.length (icl l) ∧ Below w.heap.size w w'
theorem CollI.of {L : List Nat} {w w' : World} {e : Ending} {A : Option Addr} {n c : Nat} (hn : L.length = n) (he : e = .returned (.slice A n c)) (h : w'.ownsRow w.heap.size 3 1 (.slice A n c) n (icl L)) (hb : Below w.heap.size w w') : CollI L w e w' := by
  subst hn
  exact ⟨A, c, he, h, hb⟩

theorem wown_cells {w : World} {base n c : Nat} {A : Option Addr} {e : TypeId} {xs : List Value} (h : w.ownsRow base e 1 (.slice A n c) n xs) (h0 : 0 < n) : ∃ g cap, A = some ⟨g, 0, none⟩ ∧ c = cap ∧ ∀ j u, xs[j]? = some u → w.cell? ⟨g, j, none⟩ = some u := by
  rcases h.2 with ⟨_, h1⟩ | ⟨g', cap, cur, hv, hb, hg, h1, h2, h3, h4⟩
  · omega
  · injection hv with e1 e2 e3
    refine ⟨g', cap, e1, e3, fun j u hu => ?_⟩
    have hj : j < xs.length := by
      rcases Nat.lt_or_ge j xs.length with h5 | h5
      · exact h5
      · rw [List.getElem?_eq_none h5] at hu; cases hu
    have hl := h.1
    rw [cell_of_row w g' j _ _ (0, 0) hg, ← Array.getElem?_toList]
    rw [← h4, List.getElem?_take_of_lt (by omega)] at hu
    exact hu

/-- A slice of numbers, seen from wherever it lies. -/
def Nu (w : World) (a : Option Addr) (l : List Nat) : Prop :=
  ∀ k, k < l.length → ∃ b off, a = some ⟨b, off, none⟩ ∧ b < w.heap.size ∧ w.cell? ⟨b, off + k, none⟩ = some (.int .i64 ((l.getD k 0 : Nat) : Int))
theorem Nu.next {w w' : World} {a : Option Addr} {l : List Nat} (h : Nu w a l) (hb : Below w.heap.size w w') : Nu w' a l := fun k hk => by
  obtain ⟨b, off, e, hlt, hc⟩ := h k hk
  exact ⟨b, off, e, Nat.lt_of_lt_of_le hlt hb.size, by rw [hb.cell (p := ⟨b, off + k, none⟩) hlt]; exact hc⟩
theorem Nu.of_own {w : World} {g : Nat} {A : Option Addr} {n c : Nat} {l : List Nat} (h : w.ownsRow g 3 1 (.slice A n c) n (icl l)) : Nu w A l := fun k hk => by
  have hn : n = l.length := by have := h.1; rw [icl_len] at this; omega
  obtain ⟨g', cap, rfl, rfl, hc⟩ := wown_cells h (by omega)
  refine ⟨g', 0, rfl, (h.lt g' rfl).2, ?_⟩
  rw [Nat.zero_add, hc k (.int .i64 ((l.getD k 0 : Nat) : Int))]
  rw [icl, List.getElem?_map, List.getElem?_eq_getElem hk]
  simp [List.getD, List.getElem?_eq_getElem hk]
theorem own_none {w : World} {base n c : Nat} {A : Option Addr} {e : TypeId} {xs : List Value} (h : w.ownsRow base e 1 (.slice A n c) n xs) : A = none → n = 0 ∧ c = 0 := by
  rintro rfl
  rcases h.2 with ⟨hv, h0⟩ | ⟨g', cap, cur, hv, _⟩
  · injection hv with e1 e2 e3; exact ⟨h0, e3⟩
  · injection hv with e1; cases e1
theorem own_le {w : World} {base n c : Nat} {A : Option Addr} {e : TypeId} {xs : List Value} (h : w.ownsRow base e 1 (.slice A n c) n xs) : n ≤ c := by
  rcases h.2 with ⟨h1, h2⟩ | ⟨g', cap, cur, hv, hb, hg, h1, h2, h3, h4⟩
  · omega
  · injection hv with e1 e2 e3; omega
theorem By.cells {w : World} {ad : Addr} {l : List UInt8} (h : By w (some ad) l) : ∀ (j : Nat) (u : Value), (ubl l)[j]? = some u → w.cell? (ad.add j) = some u := by
  intro j u hu
  have hj : j < l.length := by
    rcases Nat.lt_or_ge j l.length with h1 | h1
    · exact h1
    · rw [List.getElem?_eq_none (by rw [ubl_len]; exact h1)] at hu; cases hu
  obtain ⟨b, off, he, _, hc⟩ := h j hj
  injection he with he
  subst he
  rw [Go.WideShapes.add_plain, hc, ← hu, ubl, List.getElem?_map, List.getElem?_eq_getElem hj]
  simp [List.getD, List.getElem?_eq_getElem hj]

/-- Bytes, nil or not, behind a list of bytes that the call made itself. -/
theorem wpList_bapp {w : World} {ops : Array Oper} {rest : List Oper} {o : Oper} {a : Act} {Q : Exit → Act → World → Prop} (hgd : o.guard = none) (s x : Operand)
    (ho : o.op = .call { callee := .builtin .append, args := #[s, x], argTypes := #[181, 181] }) {base n c n2 c2 m : Nat} {A A2 : Option Addr} {l l2 : List UInt8} (hn2 : l2.length = n2) (hm : n + n2 = m) (X : w.ownsRow base 5 1 (.slice A n c) n (ubl l))
    (hs : a.eval s = .slice A n c) (hx : a.eval x = .slice A2 n2 c2) (h2 : By w A2 l2) (hc2 : A2 = none → c2 = 0) (hl : m ≤ 100000) (hbase : base ≤ w.heap.size)
    (h : ∀ A' c' w', w'.ownsRow base 5 1 (.slice A' m c') m (ubl (l ++ l2)) → Below base w w' → wpList Tryz.prog ops Q rest (a.put o.dst (.slice A' m c')) w') : wpList Tryz.prog ops Q (o :: rest) a w := by
  obtain ⟨i0, hi0, hz0, hz1, hz2⟩ := info_parts wu8_info
  subst hn2 hm
  cases A2 with
  | none =>
    have hl2 : l2 = [] := by
      cases l2 with
      | nil => rfl
      | cons y ys => obtain ⟨_, _, h, _⟩ := h2 0 (by simp); cases h
    subst hl2
    rw [hc2 rfl] at hx
    have key := h A c w (by rw [List.append_nil]; exact X) (Below.refl _ _)
    exact wpList_append_own_none hgd s x 181 ho base 5 i0 1 Tryz.underlying181 hi0 _ n (ubl l) hs X hx key
  | some ad =>
    refine wpList_append_own w hgd s x 181 ho base 5 i0 (.int .u8 0) 1 1 Tryz.underlying181 hi0 hz0 hz1 hz2 rfl (by omega) _ n (ubl l) hs X ad l2.length c2 (ubl l2) hx (by rw [ubl_len]; omega) h2.cells (ubl_one _) (by unfold maxLen; omega) (by omega) hbase fun v' w' k2 k3 _ => ?_
    obtain ⟨A', c', rfl⟩ := wown_form k2
    rw [← ubl_app] at k2
    exact h A' c' w' k2 ((Below.refl base w).grown k3 hbase (fun k hk => (X.lt k hk).1))
/-- The iterator's bytes, appended: whatever iterator. -/
def Coll (l : List UInt8) (w : World) (e : Ending) (w' : World) : Prop := ∃ A c, e = .returned (.slice A l.length c) ∧ w'.ownsRow w.heap.size 5 1 (.slice A l.length c) l.length (ubl l) ∧ Below w.heap.size w w'

theorem Coll.to {L : List UInt8} {w w1 : World} {e : Ending} {w' : World} (h : Coll L w1 e w') (hb : Below w.heap.size w w1) : Coll L w e w' := by
  obtain ⟨A, c, rfl, h1, h2⟩ := h
  refine ⟨A, c, rfl, ⟨h1.1, ?_⟩, hb.trans (h2.mono hb.size)⟩
  rcases h1.2 with hn | ⟨g, cap, cur, hv, hbg, rest⟩
  · exact .inl hn
  · exact .inr ⟨g, cap, cur, hv, Nat.le_trans hb.size hbg, rest⟩

theorem Coll.of {L : List UInt8} {w w' : World} {e : Ending} {A : Option Addr} {n c : Nat} (hn : L.length = n) (he : e = .returned (.slice A n c)) (h : w'.ownsRow w.heap.size 5 1 (.slice A n c) n (ubl L)) (hb : Below w.heap.size w w') : Coll L w e w' := by
  subst hn
  exact ⟨A, c, he, h, hb⟩
end Go.Proofs.YtdmfgechoanmlaaGreatDoor
