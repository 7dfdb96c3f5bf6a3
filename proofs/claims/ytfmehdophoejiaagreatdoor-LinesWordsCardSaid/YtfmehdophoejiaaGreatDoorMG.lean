/- Plain facts on decimal digits, padded: what the reference's loop writes is what zeros ahead of the numeral are; no program is named.
Plain facts on texts of spans and of times: the parts between colons, which of them are right, and what they come to; no program is named.
The contracts of the reference's Right and Next: what each call returns, for every date; nothing that was in memory changes.
The contracts of the reference's Next, Start and Days: what each call returns, for every date that there is; nothing that was in memory changes.
The contracts of the reference's Days and Of: what each call returns, for every date that there is, and every number; nothing that was in memory changes.
The contracts of the reference's digits and Print: what each call returns; nothing that was in memory changes. -/
import Derived.Lib.ItoaNum
import Derived.Lib.IndexMore
import Derived.Test.YtfmehdophoejiaaGreatDoorMD
import Derived.Laws.IdiomStrings
import Derived.Laws.Concat
namespace Go.Proofs.YtfmehdophoejiaaGreatDoor
open Go

/-- The digits of n, l of them at least, zeros ahead; nothing of 0 where l is 0. -/
def pd (l n : Nat) : List UInt8 := if _h : n = 0 ∧ l = 0 then [] else pd (l - 1) (n / 10) ++ [UInt8.ofNat (48 + n % 10)]
termination_by n + l
decreasing_by omega

theorem pd_nil : pd 0 0 = [] := by rw [pd, dif_pos ⟨rfl, rfl⟩]
theorem pd_step {l n : Nat} (h : ¬ (n = 0 ∧ l = 0)) : pd l n = pd (l - 1) (n / 10) ++ [UInt8.ofNat (48 + n % 10)] := by rw [pd, dif_neg h]
theorem pd_zero (l : Nat) : pd l 0 = List.replicate l 48 := by
  induction l with
  | zero => exact pd_nil
  | succ l ih => rw [pd_step (by omega), Nat.add_sub_cancel, show 0 / 10 = 0 from rfl, ih, List.replicate_succ']; rfl

theorem pd_dec (n : Nat) : ∀ l : Nat, 1 ≤ n + l → pd l n = List.replicate (l - (Lib.decDigits n).length) 48 ++ Lib.decDigits n := by
  induction n using Nat.strongRecOn with
  | _ n ih =>
    intro l hl
    by_cases h : n < 10
    · rw [pd_step (by omega), show n / 10 = 0 by omega, pd_zero, Lib.decDigits_one h, Nat.mod_eq_of_lt h]; rfl
    · have e : Lib.decDigits n = Lib.decDigits (n / 10) ++ [UInt8.ofNat (48 + n % 10)] := by rw [Lib.decDigits, dif_neg h]
      rw [pd_step (by omega), ih (n / 10) (by omega) (l - 1) (by omega), e, List.length_append, List.append_assoc]
      congr 2
      simp only [List.length_singleton]; omega

theorem itoa_nat (n : Nat) : Lib.itoa (n : Int) = Lib.decDigits n := by unfold Lib.itoa; rw [if_neg (by omega)]; simp

theorem nd_le (n : Nat) (h : n < 10000000) : Lib.nDigits n ≤ 7 := by
  have h2 : ∀ k u : Nat, u < 10 ^ (k + 1) → Lib.nDigits u ≤ k + 1 := by
    intro k
    induction k with
    | zero => intro u hu; rw [Lib.nDigits_small (by simpa using hu)]; omega
    | succ k ih =>
      intro u hu
      by_cases c : u < 10
      · rw [Lib.nDigits_small c]; omega
      · rw [Lib.nDigits_big c]
        rw [Nat.pow_succ] at hu
        have := ih (u / 10) (by omega)
        omega
  exact h2 6 n (by omega)

theorem pd_len (l n : Nat) (h : 1 ≤ l) (hl : l ≤ 7) (hn : n < 10000000) : (pd l n).length ≤ 7 := by
  have := nd_le n hn
  rw [pd_dec n l (by omega), List.length_append, List.length_replicate, Lib.decDigits_length]
  omega
end Go.Proofs.YtfmehdophoejiaaGreatDoor

namespace Go.Proofs.YtfmehdophoejiaaGreatDoor
open Go

def isDig (b : UInt8) : Bool := decide (48 ≤ b.toNat) && decide (b.toNat ≤ 57)
def allDig (l : List UInt8) : Bool := l.all isDig
def numOf (l : List UInt8) : Nat := l.foldl (fun n b => 10 * n + (b.toNat - 48)) 0

def fw (k : Nat) : Nat := if k = 0 then 1 else 2
def mo (k : Nat) : Nat := if k = 0 then 3 else 2
def bl (k : Nat) : Nat := if k = 0 then 1000 else 60
def un (k : Nat) : Nat := if k = 0 then 3600 else if k = 1 then 60 else 1

/-- Is the part at place k as it has to be? -/
def fldOk (k : Nat) (p : List UInt8) : Bool := decide (k < 3) && (decide (fw k ≤ p.length) && (decide (p.length ≤ mo k) && (allDig p && decide (numOf p < bl k))))
def fldV (k : Nat) (p : List UInt8) : Nat := numOf p * un k
def fvI (k : Nat) (p : List UInt8) : Int := if fldOk k p then (fldV k p : Int) else 0

/-- The parts between colons of what is left, behind what has been read of the part that is under way. -/
def pcs : List UInt8 → List UInt8 → List (List UInt8)
  | cur, [] => [cur]
  | cur, b :: r => if b = 58 then cur :: pcs [] r else pcs (cur ++ [b]) r
def ix : Nat → List (List UInt8) → List (Nat × List UInt8)
  | _, [] => []
  | k, p :: r => (k, p) :: ix (k + 1) r
def okP (l : List (Nat × List UInt8)) : Bool := l.all fun x => fldOk x.1 x.2
def sumP (l : List (Nat × List UInt8)) : Nat := (l.map fun x => fldV x.1 x.2).sum

def readOk (s : List UInt8) : Bool := okP (ix 0 (pcs [] s))
def readV (s : List UInt8) : Nat := sumP (ix 0 (pcs [] s))
def spanN (s : List UInt8) : Int := if s = [45] then 0 else if readOk (Lib.trimPrefix s [45]) = true ∧ readV (Lib.trimPrefix s [45]) < 604800 then (if Lib.hasPrefix s [45] then -(readV (Lib.trimPrefix s [45]) : Int) else (readV (Lib.trimPrefix s [45]) : Int)) else 0
def spanE (s : List UInt8) : Int := if s = [45] then 0 else if readOk (Lib.trimPrefix s [45]) = true then (if readV (Lib.trimPrefix s [45]) < 604800 then 0 else 10) else 12

theorem okP_snoc (l : List (Nat × List UInt8)) (x : Nat × List UInt8) : okP (l ++ [x]) = (okP l && fldOk x.1 x.2) := by simp [okP]
theorem sumP_snoc (l : List (Nat × List UInt8)) (x : Nat × List UInt8) : sumP (l ++ [x]) = sumP l + fldV x.1 x.2 := by simp [sumP]

theorem fldV_bd {k : Nat} {p : List UInt8} (h : fldOk k p = true) : fldV k p ≤ 3600000 := by
  simp only [fldOk, Bool.and_eq_true, decide_eq_true_eq] at h
  obtain ⟨h1, h2, h3, h4, h5⟩ := h
  unfold fldV
  have : bl k ≤ 1000 ∧ un k ≤ 3600 := by unfold bl un; constructor <;> (repeat' split) <;> omega
  calc numOf p * un k ≤ 1000 * 3600 := Nat.mul_le_mul (by omega) this.2
    _ = 3600000 := rfl
theorem sumP_bd {l : List (Nat × List UInt8)} (h : okP l = true) : sumP l ≤ 3600000 * l.length := by
  induction l with
  | nil => simp [sumP]
  | cons x l ih =>
    simp only [okP, List.all_cons, Bool.and_eq_true] at h
    have := ih (by simpa [okP] using h.2)
    have := fldV_bd h.1
    simp only [sumP, List.map_cons, List.sum_cons, List.length_cons] at *
    omega

/-- What strings.Cut does, at a colon. -/
def hd1 : List UInt8 → List UInt8
  | [] => []
  | b :: r => if b = 58 then [] else b :: hd1 r
def tl1 : List UInt8 → List UInt8
  | [] => []
  | b :: r => if b = 58 then r else tl1 r
def mo1 : List UInt8 → Bool
  | [] => false
  | b :: r => if b = 58 then true else mo1 r

theorem cut_colon (s : List UInt8) : Lib.cut s [58] = (hd1 s, tl1 s, mo1 s) := by
  have pre : ∀ (b : UInt8) (r : List UInt8), [58].isPrefixOf (b :: r) = decide (b = 58) := by
    intro b r
    by_cases h : b = 58
    · subst h; simp
    · simp [List.isPrefixOf, h, Ne.symm h]
  induction s with
  | nil => simp [Lib.cut, Lib.index, hd1, tl1, mo1]
  | cons b r ih =>
    unfold Lib.cut at ih ⊢
    unfold Lib.index
    rw [pre]
    have ge := Lib.index_ge r [58]
    by_cases h : b = 58
    · subst h; simp [hd1, tl1, mo1]
    · simp only [h, decide_false, Bool.false_eq_true, if_false, hd1, tl1, mo1]
      by_cases hx : Lib.index r [58] = -1
      · rw [hx] at ih ⊢
        simp at ih ⊢
        exact ⟨ih.1, ih.2⟩
      · have h0 : 0 ≤ Lib.index r [58] := by omega
        rw [if_pos h0] at ih
        have h1 : (Lib.index r [58] == -1) = false := by simp [hx]
        simp only [h1, Bool.false_eq_true, if_false]
        rw [if_pos (by omega)]
        have e : (Lib.index r [58] + 1).toNat = (Lib.index r [58]).toNat + 1 := by omega
        rw [e]
        simp only [List.take_succ_cons, Prod.mk.injEq] at ih ⊢
        refine ⟨by rw [ih.1], ?_, ih.2.2⟩
        rw [← ih.2.1]
        simp

theorem pcs_cut (s cur : List UInt8) : pcs cur s = (cur ++ hd1 s) :: if mo1 s then pcs [] (tl1 s) else [] := by
  induction s generalizing cur with
  | nil => simp [pcs, hd1, mo1]
  | cons b r ih =>
    by_cases h : b = 58
    · subst h
      show (if (58 : UInt8) = 58 then cur :: pcs [] r else pcs (cur ++ [58]) r) = _
      simp [hd1, tl1, mo1]
    · show (if b = 58 then cur :: pcs [] r else pcs (cur ++ [b]) r) = _
      simp only [h, if_false, hd1, tl1, mo1]
      rw [ih, List.append_assoc]
      rfl
theorem tl1_len (s : List UInt8) : (tl1 s).length + (if mo1 s then 1 else 0) ≤ s.length := by
  induction s with
  | nil => simp [tl1, mo1]
  | cons b r ih =>
    unfold tl1 mo1
    by_cases h : b = 58
    · simp [h]
    · simp only [h, if_false, List.length_cons]; omega
theorem hd1_len (s : List UInt8) : (hd1 s).length ≤ s.length := by
  induction s with
  | nil => simp [hd1]
  | cons b r ih =>
    unfold hd1
    by_cases h : b = 58
    · simp [h]
    · simp only [h, if_false, List.length_cons]; omega
theorem pcs_len (s cur : List UInt8) : (pcs cur s).length ≤ s.length + 1 := by
  induction s generalizing cur with
  | nil => simp [pcs]
  | cons b r ih =>
    unfold pcs
    split
    · have := ih []; simp only [List.length_cons]; omega
    · have := ih (cur ++ [b]); simp only [List.length_cons]; omega
theorem pcs_pos (s cur : List UInt8) : 0 < (pcs cur s).length := by rw [pcs_cut]; simp
theorem ix_len (k : Nat) (l : List (List UInt8)) : (ix k l).length = l.length := by
  induction l generalizing k with
  | nil => rfl
  | cons p r ih => simp [ix, ih]
theorem ix_at (l : List (List UInt8)) : ∀ (k i : Nat), (ix k l)[i]? = (l[i]?).map fun p => (k + i, p) := by
  induction l with
  | nil => intro k i; simp [ix]
  | cons p r ih =>
    intro k i
    cases i with
    | zero => simp [ix]
    | succ i => simp only [ix, List.getElem?_cons_succ, ih]; congr 1; funext q; simp; omega
end Go.Proofs.YtfmehdophoejiaaGreatDoor

namespace Go.Proofs.YtfmehdophoejiaaGreatDoor
open Go.RowKit

theorem below_drewN {B : Nat} {a w : World} (h : Below B a w) (n : Nat) : Below B a (w.drewN n) := ⟨h.os, h.tape, h.output, h.size, h.block⟩

theorem right_0 (y m d : Int) (w : World) (a0 : decide (-100000 ≤ y) = false) :
    Calls Tryz.prog 110 #[.agg #[.int .i64 y, .int .i64 m, .int .i64 d]] w fun e w' => e = .returned (.bool false) ∧ Below w.heap.size w w' := by
  go_enter Tryz.func110, Tryz.ntmps110
  go_wp2
  go_quiet (fail)
  go_wp2
  go_ret
  exact ⟨rfl, below_drewN ((Below.refl _ _).alloc (Nat.le_refl _) _) _⟩

theorem right_1 (y m d : Int) (w : World) (a0 : decide (-100000 ≤ y) = true) (a1 : decide (y ≤ 100000) = false) :
    Calls Tryz.prog 110 #[.agg #[.int .i64 y, .int .i64 m, .int .i64 d]] w fun e w' => e = .returned (.bool false) ∧ Below w.heap.size w w' := by
  go_enter Tryz.func110, Tryz.ntmps110
  go_wp2
  go_quiet (fail)
  go_wp2
  go_ret
  exact ⟨rfl, below_drewN ((Below.refl _ _).alloc (Nat.le_refl _) _) _⟩

theorem right_2 (y m d : Int) (w : World) (a0 : decide (-100000 ≤ y) = true) (a1 : decide (y ≤ 100000) = true) (a2 : decide (1 ≤ m) = false) :
    Calls Tryz.prog 110 #[.agg #[.int .i64 y, .int .i64 m, .int .i64 d]] w fun e w' => e = .returned (.bool false) ∧ Below w.heap.size w w' := by
  go_enter Tryz.func110, Tryz.ntmps110
  go_wp2
  go_quiet (fail)
  go_wp2
  go_ret
  exact ⟨rfl, below_drewN ((Below.refl _ _).alloc (Nat.le_refl _) _) _⟩

theorem right_3 (y m d : Int) (w : World) (a0 : decide (-100000 ≤ y) = true) (a1 : decide (y ≤ 100000) = true) (a2 : decide (1 ≤ m) = true) (a3 : decide (m ≤ 12) = false) :
    Calls Tryz.prog 110 #[.agg #[.int .i64 y, .int .i64 m, .int .i64 d]] w fun e w' => e = .returned (.bool false) ∧ Below w.heap.size w w' := by
  go_enter Tryz.func110, Tryz.ntmps110
  go_wp2
  go_quiet (fail)
  go_wp2
  go_ret
  exact ⟨rfl, below_drewN ((Below.refl _ _).alloc (Nat.le_refl _) _) _⟩

theorem right_4 (y m d : Int) (w : World) (a0 : decide (-100000 ≤ y) = true) (a1 : decide (y ≤ 100000) = true) (a2 : decide (1 ≤ m) = true) (a3 : decide (m ≤ 12) = true) (a4 : decide (1 ≤ d) = false) :
    Calls Tryz.prog 110 #[.agg #[.int .i64 y, .int .i64 m, .int .i64 d]] w fun e w' => e = .returned (.bool false) ∧ Below w.heap.size w w' := by
  go_enter Tryz.func110, Tryz.ntmps110
  go_wp2
  go_quiet (fail)
  go_wp2
  go_ret
  exact ⟨rfl, below_drewN ((Below.refl _ _).alloc (Nat.le_refl _) _) _⟩

theorem right_5 (y m d : Int) (w : World) (a0 : decide (-100000 ≤ y) = true) (a1 : decide (y ≤ 100000) = true) (a2 : decide (1 ≤ m) = true) (a3 : decide (m ≤ 12) = true) (a4 : decide (1 ≤ d) = true) (a5 : decide (d ≤ rdim y m) = false) :
    Calls Tryz.prog 110 #[.agg #[.int .i64 y, .int .i64 m, .int .i64 d]] w fun e w' => e = .returned (.bool false) ∧ Below w.heap.size w w' := by
  go_enter Tryz.func110, Tryz.ntmps110
  go_wp2
  go_quiet ((go_at_call 132; exact Calls.quiet_of_same ((rlong_any _ _ _).mono fun _ _ h => ⟨h.1, h.2.symm⟩)))
  go_wp2
  go_ret
  exact ⟨rfl, below_drewN ((Below.refl _ _).alloc (Nat.le_refl _) _) _⟩

theorem right_6 (y m d : Int) (w : World) (a0 : decide (-100000 ≤ y) = true) (a1 : decide (y ≤ 100000) = true) (a2 : decide (1 ≤ m) = true) (a3 : decide (m ≤ 12) = true) (a4 : decide (1 ≤ d) = true) (a5 : decide (d ≤ rdim y m) = true) :
    Calls Tryz.prog 110 #[.agg #[.int .i64 y, .int .i64 m, .int .i64 d]] w fun e w' => e = .returned (.bool true) ∧ Below w.heap.size w w' := by
  go_enter Tryz.func110, Tryz.ntmps110
  go_wp2
  go_quiet ((go_at_call 132; exact Calls.quiet_of_same ((rlong_any _ _ _).mono fun _ _ h => ⟨h.1, h.2.symm⟩)))
  go_wp2
  go_ret
  exact ⟨rfl, below_drewN ((Below.refl _ _).alloc (Nat.le_refl _) _) _⟩

theorem right_any (y m d : Int) (w : World) :
    Calls Tryz.prog 110 #[.agg #[.int .i64 y, .int .i64 m, .int .i64 d]] w fun e w' => e = .returned (.bool (okB y m d)) ∧ Below w.heap.size w w' := by
  by_cases h0 : -100000 ≤ y
  · by_cases h1 : y ≤ 100000
    · by_cases h2 : 1 ≤ m
      · by_cases h3 : m ≤ 12
        · have e := rdim_dim y m h2 h3
          by_cases h4 : 1 ≤ d
          · by_cases h5 : d ≤ rdim y m
            · have hb : okB y m d = true := (okB_iff y m d).2 ⟨h0, h1, h2, h3, h4, by omega⟩
              rw [hb]; exact right_6 y m d w (decide_eq_true h0) (decide_eq_true h1) (decide_eq_true h2) (decide_eq_true h3) (decide_eq_true h4) (decide_eq_true h5)
            · have hb : okB y m d = false := by rw [← Bool.not_eq_true, okB_iff]; unfold okD; omega
              rw [hb]; exact right_5 y m d w (decide_eq_true h0) (decide_eq_true h1) (decide_eq_true h2) (decide_eq_true h3) (decide_eq_true h4) (decide_eq_false h5)
          · have hb : okB y m d = false := by rw [← Bool.not_eq_true, okB_iff]; unfold okD; omega
            rw [hb]; exact right_4 y m d w (decide_eq_true h0) (decide_eq_true h1) (decide_eq_true h2) (decide_eq_true h3) (decide_eq_false h4)
        · have hb : okB y m d = false := by rw [← Bool.not_eq_true, okB_iff]; unfold okD; omega
          rw [hb]; exact right_3 y m d w (decide_eq_true h0) (decide_eq_true h1) (decide_eq_true h2) (decide_eq_false h3)
      · have hb : okB y m d = false := by rw [← Bool.not_eq_true, okB_iff]; unfold okD; omega
        rw [hb]; exact right_2 y m d w (decide_eq_true h0) (decide_eq_true h1) (decide_eq_false h2)
    · have hb : okB y m d = false := by rw [← Bool.not_eq_true, okB_iff]; unfold okD; omega
      rw [hb]; exact right_1 y m d w (decide_eq_true h0) (decide_eq_false h1)
  · have hb : okB y m d = false := by rw [← Bool.not_eq_true, okB_iff]; unfold okD; omega
    rw [hb]; exact right_0 y m d w (decide_eq_false h0)

theorem right_yes (y m d : Int) (w : World) (h : okD y m d) :
    Calls Tryz.prog 110 #[.agg #[.int .i64 y, .int .i64 m, .int .i64 d]] w fun e w' => e = .returned (.bool true) ∧ Below w.heap.size w w' := by
  have := right_any y m d w
  rw [(okB_iff y m d).2 h] at this; exact this
theorem right_no (y m d : Int) (w : World) (h : ¬ okD y m d) :
    Calls Tryz.prog 110 #[.agg #[.int .i64 y, .int .i64 m, .int .i64 d]] w fun e w' => e = .returned (.bool false) ∧ Below w.heap.size w w' := by
  have := right_any y m d w
  rw [show okB y m d = false by rw [← Bool.not_eq_true, okB_iff]; exact h] at this; exact this
end Go.Proofs.YtfmehdophoejiaaGreatDoor

namespace Go.Proofs.YtfmehdophoejiaaGreatDoor
open Go.RowKit

theorem lp_bd (y : Int) : 0 ≤ lp y ∧ lp y ≤ 1 := by have := lp_01 y; omega
theorem long_quiet (y m : Int) (w : World) : Calls Tryz.prog 132 #[.int .i64 y, .int .i64 m] w fun e w' => e = .returned (.int .i64 (rdim y m)) ∧ w' = w := (rlong_any y m w).mono fun _ _ h => ⟨h.1, h.2.symm⟩

def NextTo (y m d : Int) (w : World) (e : Ending) (w' : World) : Prop := e = .returned (.agg #[.int .i64 y, .int .i64 m, .int .i64 d]) ∧ Below w.heap.size w w'

end Go.Proofs.YtfmehdophoejiaaGreatDoor

namespace Go.Proofs.YtfmehdophoejiaaGreatDoor
open Go.RowKit

def SomeRefDate (n : Int) (w : World) (e : Ending) (w' : World) : Prop := ∃ y m d : Int, okD y m d ∧ dayN y m d = n ∧ e = .returned (.tuple #[.agg #[.int .i64 y, .int .i64 m, .int .i64 d], .bool true]) ∧ Below w.heap.size w w'

theorem ny_up {y n : Int} (h : ny y ≤ n) (hn : n ≤ 35805087) : y ≤ 100000 := by
  have e2 : ny 100001 = 35805088 := by decide
  by_cases c : y ≤ 100000
  · exact c
  · have := ny_mono 100001 y (by omega); omega
theorem ny_dn {y n : Int} (h : n < ny y + 365 + lp y) (hn : -37243778 ≤ n) : -100000 ≤ y := by
  have e1 : ny (-100000) = -37243778 := by decide
  rw [← ny_succ] at h
  by_cases c : -100000 ≤ y
  · exact c
  · have := ny_mono (y + 1) (-100000) (by omega); omega

end Go.Proofs.YtfmehdophoejiaaGreatDoor

namespace Go.Proofs.YtfmehdophoejiaaGreatDoor
open Go.RowKit

def dgt (k : Nat) : UInt8 := UInt8.ofNat (48 + k % 10)
theorem digit_u8 (k : Nat) : ((dgt k).toNat : Int) = 48 + (k : Int) % 10 := by
  rw [dgt, UInt8.toNat_ofNat']; omega

theorem one_byte (W : World) (k : Nat) : (convert 116 9 (.slice (some ⟨W.heap.size, 0, none⟩) 1 1)).run Tryz.prog (W.alloc (.cells #[.int .u8 (48 + (k : Int) % 10)] 5)) = .ok (.string ⟨[dgt k].toArray⟩) (W.alloc (.cells #[.int .u8 (48 + (k : Int) % 10)] 5)) :=
  run_convert_bytes_back _ _ _ 5 ⟨W.heap.size, 0, none⟩ 1 [dgt k] Tryz.underlying116 Tryz.underlying5 Tryz.underlying9 (fun j hj => by
    obtain rfl : j = 0 := by simpa using hj
    rw [← digit_u8]; simp [Addr.add])

def strN (v : Value) : Nat := match v with | .string s => s.size | _ => 0
theorem strN_mk (x : List UInt8) : strN (.string ⟨x.toArray⟩) = x.length := by simp [strN, ByteArray.size]

theorem pd_next {l n k : Nat} {x : List UInt8} (h : pd l n = pd (l - x.length) k ++ x) (hk : ¬ (k = 0 ∧ l - x.length = 0)) : pd l n = pd (l - (dgt k :: x).length) (k / 10) ++ (dgt k :: x) := by
  rw [h, pd_step hk, List.append_assoc]
  congr 2

/-- The text of a date. -/
def dateL (y m d : Int) : List UInt8 := (if y < 0 then [45] else []) ++ pd 4 y.natAbs ++ [45] ++ pd 2 m.toNat ++ [45] ++ pd 2 d.toNat

theorem add_lists (x y : List UInt8) (hx : x.length ≤ 100) (hy : y.length ≤ 100) (W : World) : (Op.stringOp .add ⟨x.toArray⟩ ⟨y.toArray⟩).run Tryz.prog W = .ok (.string ⟨(x ++ y).toArray⟩) W :=
  run_string_add_lists W x y (by omega) (by omega)

/-- A date lies in block g, and nothing that was in w has changed. -/
structure Boxed (w : World) (g : Nat) (y m d : Int) (w' : World) : Prop where
  bel : Below w.heap.size w w'
  lt : g < w'.heap.size
  c0 : w'.cell? ⟨g, 0, none⟩ = some (.int .i64 y)
  c1 : w'.cell? ⟨g, 1, none⟩ = some (.int .i64 m)
  c2 : w'.cell? ⟨g, 2, none⟩ = some (.int .i64 d)
theorem Boxed.new (w : World) (y m d : Int) (t : TypeId) : Boxed w w.heap.size y m d (w.alloc (.cells #[.int .i64 y, .int .i64 m, .int .i64 d] t)) :=
  ⟨(Below.refl _ _).alloc (Nat.le_refl _) _, by simp, by simp, by simp, by simp⟩
theorem Boxed.next {w w' w2 : World} {g : Nat} {y m d : Int} (h : Boxed w g y m d w') (k : Below w'.heap.size w' w2) : Boxed w g y m d w2 :=
  ⟨h.bel.trans (k.mono h.bel.size), Nat.lt_of_lt_of_le h.lt k.size, by rw [k.cell h.lt]; exact h.c0, by rw [k.cell h.lt]; exact h.c1, by rw [k.cell h.lt]; exact h.c2⟩
theorem Boxed.drew {w w' : World} {g : Nat} {y m d : Int} (h : Boxed w g y m d w') : Boxed w g y m d w'.drew := ⟨h.bel.drew, h.lt, h.c0, h.c1, h.c2⟩

theorem dateL_nat (Y M D : Nat) : dateL Y M D = ([] : List UInt8) ++ pd 4 Y ++ [45] ++ pd 2 M ++ [45] ++ pd 2 D := by
  unfold dateL; rw [if_neg (by omega)]; simp
theorem dateL_neg (Y M D : Nat) (h : 0 < Y) : dateL (-(Y : Int)) M D = [45] ++ pd 4 Y ++ [45] ++ pd 2 M ++ [45] ++ pd 2 D := by
  unfold dateL; rw [if_pos (by omega)]; simp

end Go.Proofs.YtfmehdophoejiaaGreatDoor
