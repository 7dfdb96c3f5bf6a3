/- Plain facts on texts of spans and of times: the parts between colons, which of them are right, and what they come to; no program is named. -/
import Derived.Test.YtjafbopmedbhcaaDoorDig
import Derived.Lib.IndexMore
namespace Go.Proofs.YtjafbopmedbhcaaDoor
open Go

def isDig (b : UInt8) : Bool := decide (48 ≤ b.toNat) && decide (b.toNat ≤ 57)
def allDig (l : List UInt8) : Bool := l.all isDig
def numOf (l : List UInt8) : Nat := l.foldl (fun n b => 10 * n + (b.toNat - 48)) 0

def fw (k : Nat) : Nat := if k = 0 then 1 else 2
def mo (k : Nat) : Nat := if k = 0 then 3 else 2
def bl (k : Nat) : Nat := if k = 0 then 1000 else 60
def un (k : Nat) : Nat := if k = 0 then 3600 else if k = 1 then 60 else 1

/-- Is the part at place k as it has to be? -/
def fldOk (k : Nat) (p : List UInt8) : Bool := decide (k < 3) && (decide (fw k ≤ p.length) && (decide (p.length ≤ mo k) && (allDig p && decide (numOf p < bl k))))
def fldV (k : Nat) (p : List UInt8) : Nat := numOf p * un k
def fvI (k : Nat) (p : List UInt8) : Int := if fldOk k p then (fldV k p : Int) else 0

/-- The parts between colons of what is left, behind what has been read of the part that is under way. -/
def pcs : List UInt8 → List UInt8 → List (List UInt8)
  | cur, [] => [cur]
  | cur, b :: r => if b = 58 then cur :: pcs [] r else pcs (cur ++ [b]) r
def ix : Nat → List (List UInt8) → List (Nat × List UInt8)
  | _, [] => []
  | k, p :: r => (k, p) :: ix (k + 1) r
def okP (l : List (Nat × List UInt8)) : Bool := l.all fun x => fldOk x.1 x.2
def sumP (l : List (Nat × List UInt8)) : Nat := (l.map fun x => fldV x.1 x.2).sum

def readOk (s : List UInt8) : Bool := okP (ix 0 (pcs [] s))
def readV (s : List UInt8) : Nat := sumP (ix 0 (pcs [] s))
def spanN (s : List UInt8) : Int := if s = [45] then 0 else if readOk (Lib.trimPrefix s [45]) = true ∧ readV (Lib.trimPrefix s [45]) < 604800 then (if Lib.hasPrefix s [45] then -(readV (Lib.trimPrefix s [45]) : Int) else (readV (Lib.trimPrefix s [45]) : Int)) else 0
def spanE (s : List UInt8) : Int := if s = [45] then 0 else if readOk (Lib.trimPrefix s [45]) = true then (if readV (Lib.trimPrefix s [45]) < 604800 then 0 else 10) else 12

theorem okP_snoc (l : List (Nat × List UInt8)) (x : Nat × List UInt8) : okP (l ++ [x]) = (okP l && fldOk x.1 x.2) := by simp [okP]
theorem sumP_snoc (l : List (Nat × List UInt8)) (x : Nat × List UInt8) : sumP (l ++ [x]) = sumP l + fldV x.1 x.2 := by simp [sumP]

theorem fldV_bd {k : Nat} {p : List UInt8} (h : fldOk k p = true) : fldV k p ≤ 3600000 := by
  simp only [fldOk, Bool.and_eq_true, decide_eq_true_eq] at h
  obtain ⟨h1, h2, h3, h4, h5⟩ := h
  unfold fldV
  have : bl k ≤ 1000 ∧ un k ≤ 3600 := by unfold bl un; constructor <;> (repeat' split) <;> omega
  calc numOf p * un k ≤ 1000 * 3600 := Nat.mul_le_mul (by omega) this.2
    _ = 3600000 := rfl
theorem sumP_bd {l : List (Nat × List UInt8)} (h : okP l = true) : sumP l ≤ 3600000 * l.length := by
  induction l with
  | nil => simp [sumP]
  | cons x l ih =>
    simp only [okP, List.all_cons, Bool.and_eq_true] at h
    have := ih (by simpa [okP] using h.2)
    have := fldV_bd h.1
    simp only [sumP, List.map_cons, List.sum_cons, List.length_cons] at *
    omega

/-- What strings.Cut does, at a colon. -/
def hd1 : List UInt8 → List UInt8
  | [] => []
  | b :: r => if b = 58 then [] else b :: hd1 r
def tl1 : List UInt8 → List UInt8
  | [] => []
  | b :: r => if b = 58 then r else tl1 r
def mo1 : List UInt8 → Bool
  | [] => false
  | b :: r => if b = 58 then true else mo1 r

theorem cut_colon (s : List UInt8) : Lib.cut s [58] = (hd1 s, tl1 s, mo1 s) := by
  have pre : ∀ (b : UInt8) (r : List UInt8), [58].isPrefixOf (b :: r) = decide (b = 58) := by
    intro b r
    by_cases h : b = 58
    · subst h; simp
    · simp [List.isPrefixOf, h, Ne.symm h]
  induction s with
  | nil => simp [Lib.cut, Lib.index, hd1, tl1, mo1]
  | cons b r ih =>
    unfold Lib.cut at ih ⊢
    unfold Lib.index
    rw [pre]
    have ge := Lib.index_ge r [58]
    by_cases h : b = 58
    · subst h; simp [hd1, tl1, mo1]
    · simp only [h, decide_false, Bool.false_eq_true, if_false, hd1, tl1, mo1]
      by_cases hx : Lib.index r [58] = -1
      · rw [hx] at ih ⊢
        simp at ih ⊢
        exact ⟨ih.1, ih.2⟩
      · have h0 : 0 ≤ Lib.index r [58] := by omega
        rw [if_pos h0] at ih
        have h1 : (Lib.index r [58] == -1) = false := by simp [hx]
        simp only [h1, Bool.false_eq_true, if_false]
        rw [if_pos (by omega)]
        have e : (Lib.index r [58] + 1).toNat = (Lib.index r [58]).toNat + 1 := by omega
        rw [e]
        simp only [List.take_succ_cons, Prod.mk.injEq] at ih ⊢
        refine ⟨by rw [ih.1], ?_, ih.2.2⟩
        rw [← ih.2.1]
        simp

theorem pcs_cut (s cur : List UInt8) : pcs cur s = (cur ++ hd1 s) :: if mo1 s then pcs [] (tl1 s) else [] := by
  induction s generalizing cur with
  | nil => simp [pcs, hd1, mo1]
  | cons b r ih =>
    by_cases h : b = 58
    · subst h
      show (if (58 : UInt8) = 58 then cur :: pcs [] r else pcs (cur ++ [58]) r) = _
      simp [hd1, tl1, mo1]
    · show (if b = 58 then cur :: pcs [] r else pcs (cur ++ [b]) r) = _
      simp only [h, if_false, hd1, tl1, mo1]
      rw [ih, List.append_assoc]
      rfl
theorem tl1_len (s : List UInt8) : (tl1 s).length + (if mo1 s then 1 else 0) ≤ s.length := by
  induction s with
  | nil => simp [tl1, mo1]
  | cons b r ih =>
    unfold tl1 mo1
    by_cases h : b = 58
    · simp [h]
    · simp only [h, if_false, List.length_cons]; omega
theorem hd1_len (s : List UInt8) : (hd1 s).length ≤ s.length := by
  induction s with
  | nil => simp [hd1]
  | cons b r ih =>
    unfold hd1
    by_cases h : b = 58
    · simp [h]
    · simp only [h, if_false, List.length_cons]; omega
theorem pcs_len (s cur : List UInt8) : (pcs cur s).length ≤ s.length + 1 := by
  induction s generalizing cur with
  | nil => simp [pcs]
  | cons b r ih =>
    unfold pcs
    split
    · have := ih []; simp only [List.length_cons]; omega
    · have := ih (cur ++ [b]); simp only [List.length_cons]; omega
theorem pcs_pos (s cur : List UInt8) : 0 < (pcs cur s).length := by rw [pcs_cut]; simp
theorem ix_len (k : Nat) (l : List (List UInt8)) : (ix k l).length = l.length := by
  induction l generalizing k with
  | nil => rfl
  | cons p r ih => simp [ix, ih]
theorem ix_at (l : List (List UInt8)) : ∀ (k i : Nat), (ix k l)[i]? = (l[i]?).map fun p => (k + i, p) := by
  induction l with
  | nil => intro k i; simp [ix]
  | cons p r ih =>
    intro k i
    cases i with
    | zero => simp [ix]
    | succ i => simp only [ix, List.getElem?_cons_succ, ih]; congr 1; funext q; simp; omega
end Go.Proofs.YtjafbopmedbhcaaDoor
