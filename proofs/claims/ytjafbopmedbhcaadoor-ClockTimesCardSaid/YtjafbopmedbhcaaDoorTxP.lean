/- Plain facts on the texts of spans: what they are, and that they read as the span; no program is named. -/
import Derived.Test.YtjafbopmedbhcaaDoorSpn
namespace Go.Proofs.YtjafbopmedbhcaaDoor
open Go

/-- The text of hours, minutes and seconds; of a span. -/
def hms (h m s : Nat) : List UInt8 := pd 1 h ++ [58] ++ pd 2 m ++ if s = 0 then [] else [58] ++ pd 2 s
def textN (n : Nat) : List UInt8 := hms (n / 3600) (n % 3600 / 60) (n % 60)
def textL (n : Int) : List UInt8 := (if n < 0 then [45] else []) ++ textN n.natAbs

theorem isDig_ofNat (k : Nat) : isDig (UInt8.ofNat (48 + k % 10)) = true := by
  have e : (UInt8.ofNat (48 + k % 10)).toNat = 48 + k % 10 := by rw [UInt8.toNat_ofNat']; omega
  unfold isDig
  rw [e, Bool.and_eq_true, decide_eq_true_eq, decide_eq_true_eq]; omega
theorem allDig_app (a b : List UInt8) : allDig (a ++ b) = (allDig a && allDig b) := by simp [allDig]
theorem numOf_snoc' (l : List UInt8) (b : UInt8) : numOf (l ++ [b]) = 10 * numOf l + (b.toNat - 48) := by simp [numOf]

theorem pd_dig (n : Nat) : ∀ l : Nat, allDig (pd l n) = true ∧ numOf (pd l n) = n := by
  induction n using Nat.strongRecOn with
  | _ n ih =>
    intro l
    by_cases h0 : n = 0
    · subst h0
      rw [pd_zero]
      induction l with
      | zero => exact ⟨rfl, rfl⟩
      | succ l ihl =>
        rw [List.replicate_succ', allDig_app, numOf_snoc', ihl.1, ihl.2]
        exact ⟨rfl, rfl⟩
    · rw [pd_step (by omega), allDig_app, numOf_snoc', (ih (n / 10) (by omega) (l - 1)).1, (ih (n / 10) (by omega) (l - 1)).2]
      have := isDig_ofNat n
      have e : (UInt8.ofNat (48 + n % 10)).toNat = 48 + n % 10 := by rw [UInt8.toNat_ofNat']; omega
      rw [e]
      refine ⟨?_, by omega⟩
      unfold allDig
      rw [List.all_cons, this]; rfl

theorem pd2_len {n : Nat} (h : n < 100) : (pd 2 n).length = 2 := by
  rw [pd_step (by omega), pd_step (by omega), show n / 10 / 10 = 0 by omega, show 2 - 1 - 1 = 0 from rfl, pd_nil]; rfl
theorem pd1_len {n : Nat} (h : n < 1000) : 1 ≤ (pd 1 n).length ∧ (pd 1 n).length ≤ 3 := by
  rw [pd_step (by omega), show 1 - 1 = 0 from rfl]
  by_cases h1 : n / 10 = 0
  · rw [h1, pd_nil]; simp
  · rw [pd_step (by omega), show 0 - 1 = 0 from rfl]
    by_cases h2 : n / 10 / 10 = 0
    · rw [h2, pd_nil]; simp
    · rw [pd_step (by omega), show n / 10 / 10 / 10 = 0 by omega, show 0 - 1 = 0 from rfl, pd_nil]; simp

theorem dig_ne {b : UInt8} (h : isDig b = true) : b ≠ 58 := by rintro rfl; simp [isDig] at h
theorem pcs_dig (a : List UInt8) (h : allDig a = true) : ∀ cur r, pcs cur (a ++ r) = pcs (cur ++ a) r := by
  induction a with
  | nil => intro cur r; simp
  | cons b a ih =>
    intro cur r
    simp only [allDig, List.all_cons, Bool.and_eq_true] at h
    have hb := dig_ne h.1
    show (if b = 58 then cur :: pcs [] (a ++ r) else pcs (cur ++ [b]) (a ++ r)) = _
    rw [if_neg hb, ih (by simpa [allDig] using h.2), List.append_assoc]; rfl
theorem pcs_colon (cur r : List UInt8) : pcs cur ([58] ++ r) = cur :: pcs [] r := by
  show (if (58 : UInt8) = 58 then cur :: pcs [] r else pcs (cur ++ [58]) r) = _
  simp

theorem pcs_hms (h m s : Nat) : pcs [] (hms h m s) = pd 1 h :: pd 2 m :: if s = 0 then [] else [pd 2 s] := by
  unfold hms
  have d1 := (pd_dig h 1).1
  have d2 := (pd_dig m 2).1
  have d3 := (pd_dig s 2).1
  rw [List.append_assoc, List.append_assoc, pcs_dig _ d1, pcs_colon, List.nil_append, pcs_dig _ d2, List.nil_append]
  by_cases hs : s = 0
  · simp [hs, pcs]
  · rw [if_neg hs, if_neg hs, pcs_colon]
    have := pcs_dig _ d3 [] []
    rw [List.append_nil, List.nil_append] at this
    rw [this]; rfl

theorem hms_read {h m s : Nat} (hh : h < 1000) (hm : m < 60) (hs : s < 60) : readOk (hms h m s) = true ∧ readV (hms h m s) = 3600 * h + 60 * m + s := by
  have d1 := pd_dig h 1
  have d2 := pd_dig m 2
  have d3 := pd_dig s 2
  have l1 := pd1_len hh
  have l2 := pd2_len (n := m) (by omega)
  have l3 := pd2_len (n := s) (by omega)
  unfold readOk readV
  rw [pcs_hms]
  have f1 : fldOk 0 (pd 1 h) = true := by simp [fldOk, fw, mo, bl, d1.1, d1.2, l1.1, l1.2, hh]
  have f2 : fldOk 1 (pd 2 m) = true := by simp [fldOk, fw, mo, bl, d2.1, d2.2, l2, hm]
  have f3 : fldOk 2 (pd 2 s) = true := by simp [fldOk, fw, mo, bl, d3.1, d3.2, l3, hs]
  by_cases h0 : s = 0
  · simp [h0, ix, okP, sumP, f1, f2, fldV, un, d1.2, d2.2]; omega
  · simp [h0, ix, okP, sumP, f1, f2, f3, fldV, un, d1.2, d2.2, d3.2]; omega

theorem textN_read {n : Nat} (h : n < 604800) : readOk (textN n) = true ∧ readV (textN n) = n := by
  have := hms_read (h := n / 3600) (m := n % 3600 / 60) (s := n % 60) (by omega) (by omega) (by omega)
  refine ⟨this.1, this.2.trans ?_⟩
  omega

theorem hms_len {h m s : Nat} (hh : h < 1000) (hm : m < 60) (hs : s < 60) : (hms h m s).length ≤ 9 ∧ 1 ≤ (hms h m s).length := by
  have l1 := pd1_len hh
  have l2 := pd2_len (n := m) (by omega)
  have l3 := pd2_len (n := s) (by omega)
  unfold hms
  by_cases h0 : s = 0 <;> simp [h0, l2, l3] <;> omega
theorem textL_len {n : Int} (h1 : -604800 < n) (h2 : n < 604800) : (textL n).length ≤ 10 := by
  have := hms_len (h := n.natAbs / 3600) (m := n.natAbs % 3600 / 60) (s := n.natAbs % 60) (by omega) (by omega) (by omega)
  unfold textL textN
  split <;> simp <;> omega

theorem textN_head (n : Nat) : ∃ b r, textN n = b :: r ∧ isDig b = true := by
  have key : ∀ x y : List UInt8, allDig x = true → 1 ≤ x.length → ∃ b r, x ++ y = b :: r ∧ isDig b = true := by
    intro x y hx hl
    cases x with
    | nil => simp at hl
    | cons b r =>
      simp only [allDig, List.all_cons, Bool.and_eq_true] at hx
      exact ⟨b, r ++ y, rfl, hx.1⟩
  unfold textN hms
  have d := (pd_dig (n / 3600) 1).1
  rw [List.append_assoc, List.append_assoc]
  refine key _ _ d ?_
  rw [pd_step (by omega), List.length_append]
  simp

theorem hasPre (b : UInt8) (r : List UInt8) : Lib.hasPrefix (b :: r) [45] = decide (b = 45) := by
  unfold Lib.hasPrefix
  by_cases h : b = 45
  · subst h; simp
  · simp [List.isPrefixOf, h, Ne.symm h]
theorem textL_trim (n : Int) : Lib.hasPrefix (textL n) [45] = decide (n < 0) ∧ Lib.trimPrefix (textL n) [45] = textN n.natAbs := by
  unfold Lib.trimPrefix textL
  by_cases h : n < 0
  · have e : (if n < 0 then [45] else []) ++ textN n.natAbs = (45 : UInt8) :: textN n.natAbs := by rw [if_pos h]; rfl
    rw [e, hasPre]
    simp [h]
  · rw [if_neg h, List.nil_append]
    obtain ⟨b, r, e, d⟩ := textN_head n.natAbs
    have hb : b ≠ 45 := by rintro rfl; simp [isDig] at d
    rw [e, hasPre]
    simp [h, hb]
theorem textL_ne (n : Int) : textL n ≠ [45] := by
  unfold textL
  obtain ⟨b, r, e, d⟩ := textN_head n.natAbs
  rw [e]
  have hb : b ≠ 45 := by rintro rfl; simp [isDig] at d
  split
  · simp
  · simp [hb]

/-- Span of Text is the span. -/
theorem textL_span {n : Int} (h1 : -604800 < n) (h2 : n < 604800) : spanN (textL n) = n ∧ spanE (textL n) = 0 := by
  have ht := textL_trim n
  have hr := textN_read (n := n.natAbs) (by omega)
  have hne := textL_ne n
  have hl : n.natAbs < 604800 := by omega
  simp only [spanN, spanE, hne, if_false, ht.1, ht.2, hr.1, hr.2, hl, and_self, if_true, decide_eq_true_eq]
  refine ⟨?_, trivial⟩
  split <;> omega

/-- What a text of a span ends with: a digit. -/
theorem textL_last (n : Int) : ∃ b, (textL n).getLast? = some b ∧ isDig b = true := by
  have key : ∀ (x : List UInt8) (l k : Nat), ¬ (k = 0 ∧ l = 0) → ∃ b, (x ++ pd l k).getLast? = some b ∧ isDig b = true := by
    intro x l k hk
    rw [pd_step hk, ← List.append_assoc]
    exact ⟨_, List.getLast?_concat, isDig_ofNat _⟩
  unfold textL textN hms
  by_cases hs : n.natAbs % 60 = 0
  · rw [if_pos hs, List.append_nil, ← List.append_assoc]
    exact key _ 2 _ (by omega)
  · rw [if_neg hs, ← List.append_assoc, ← List.append_assoc]
    exact key _ 2 _ (by omega)
end Go.Proofs.YtjafbopmedbhcaaDoor
