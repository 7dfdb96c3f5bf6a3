/- Plain facts on numbers in decimal digits: which texts the reference takes, and that these are the numerals of up to nine digits; no program is named.
Plain facts on bytes of names and formats of lines: which may be; the parts of a name between slashes; no program is named.
Plain facts on words: what is short for what, of lists of words in small letters; no program is named.
Small facts on texts and lists of words in memory, at this program.
The contracts of lines.isLetter, isDigit, isPlain, isInName, isInSetName and isText: which bytes, and which texts, may be; nothing that was in memory changes. -/
import Derived.Lib.ItoaNum
import Derived.Lib.AtoiAllCases
import Derived.Lib.IndexMore
import Derived.Lib.MapLaws
import Derived.Lib.Hide
import Derived.Test.YtfmehdophoejiaaGreatDoorChecked
import Derived.WalkKit
import Derived.IntWalk
import Derived.LoopTactic
import Derived.Below
import Derived.Deep.RegionHeld3
import Derived.Deep.QuietTactic
import Derived.BigQuiet
import Derived.Laws.IdiomStrings
import Derived.Laws.Concat
import Derived.Laws.DeepStrings4
import Derived.Laws.Strings3
import Derived.Laws.Cover4
namespace Go.Proofs.YtfmehdophoejiaaGreatDoor
open Go

def isDg (c : UInt8) : Bool := decide (48 ≤ c.toNat) && decide (c.toNat ≤ 57)
def allDg (l : List UInt8) : Bool := l.all isDg
def valD (acc : Nat) (l : List UInt8) : Nat := l.foldl (fun a c => 10 * a + (c.toNat - 48)) acc
/-- The digits that may be a number: one to nine, no 0 ahead of others. -/
def okDig (l : List UInt8) : Bool := decide (1 ≤ l.length) && decide (l.length ≤ 9) && !(decide (1 < l.length) && decide (l.head? = some 48)) && allDg l
/-- The number that a text is. -/
def numR (s : List UInt8) : Option Int :=
  if s.head? = some 45 then (if okDig (s.drop 1) = true ∧ s.drop 1 ≠ [48] then some (-(valD 0 (s.drop 1) : Int)) else none)
  else if okDig s = true then some (valD 0 s : Int) else none

theorem valD_snoc (a : Nat) (l : List UInt8) (c : UInt8) : valD a (l ++ [c]) = 10 * valD a l + (c.toNat - 48) := by simp [valD]
theorem allDg_snoc (l : List UInt8) (c : UInt8) : allDg (l ++ [c]) = (allDg l && isDg c) := by simp [allDg]
theorem isDg_iff {c : UInt8} : isDg c = true ↔ 48 ≤ c.toNat ∧ c.toNat ≤ 57 := by simp [isDg]
theorem dig_of {c : UInt8} (h : isDg c = true) : UInt8.ofNat (48 + (c.toNat - 48)) = c := by
  have := isDg_iff.1 h
  apply UInt8.toNat_inj.1
  rw [UInt8.toNat_ofNat']; omega
theorem isDg_mk {d : Nat} (h : d < 10) : isDg (UInt8.ofNat (48 + d)) = true := by
  rw [isDg_iff, UInt8.toNat_ofNat']; omega
theorem ofNat_sub {d : Nat} (h : d < 10) : (UInt8.ofNat (48 + d)).toNat - 48 = d := by rw [UInt8.toNat_ofNat']; omega

theorem valD_lt : ∀ (l : List UInt8) (a : Nat), allDg l = true → valD a l < (a + 1) * 10 ^ l.length
  | [], a, _ => by simp [valD]
  | c :: r, a, h => by
    simp only [allDg, List.all_cons, Bool.and_eq_true] at h
    have hc := isDg_iff.1 h.1
    have ih := valD_lt r (10 * a + (c.toNat - 48)) h.2
    have e : valD a (c :: r) = valD (10 * a + (c.toNat - 48)) r := rfl
    rw [e, List.length_cons, Nat.pow_succ']
    refine Nat.lt_of_lt_of_le ih ?_
    rw [← Nat.mul_assoc]
    exact Nat.mul_le_mul_right _ (by omega)
theorem valD_ge : ∀ (l : List UInt8) (a : Nat), a ≤ valD a l
  | [], a => Nat.le_refl _
  | c :: r, a => by
    have := valD_ge r (10 * a + (c.toNat - 48))
    have e : valD a (c :: r) = valD (10 * a + (c.toNat - 48)) r := rfl
    rw [e]; omega

/-- Digits with no 0 ahead of others are the numeral of their value. -/
theorem dec_val : ∀ (n : Nat) (l : List UInt8), l.length = n → 1 ≤ n → (n = 1 ∨ l.head? ≠ some 48) → allDg l = true → Lib.decDigits (valD 0 l) = l
  | 0, l, _, h, _, _ => by omega
  | n + 1, l, hl, _, hz, hd => by
    obtain ⟨t, c, rfl⟩ : ∃ t c, l = t ++ [c] := by
      have hne : l ≠ [] := by intro e; rw [e] at hl; simp at hl
      exact ⟨_, _, (List.dropLast_concat_getLast hne).symm⟩
    rw [allDg_snoc, Bool.and_eq_true] at hd
    have hc := isDg_iff.1 hd.2
    rw [valD_snoc]
    cases t with
    | nil =>
      have e : valD 0 [] = 0 := rfl
      rw [e, Nat.mul_zero, Nat.zero_add, Lib.decDigits_one (by omega), dig_of hd.2]; rfl
    | cons b t =>
      have hn : n = t.length + 1 := by simp at hl; omega
      have hb : b ≠ 48 := by
        rcases hz with hz | hz
        · omega
        · simpa using hz
      have hdb : isDg b = true := by
        have := hd.1
        simp only [allDg, List.all_cons, Bool.and_eq_true] at this
        exact this.1
      have h1 : 1 ≤ valD 0 (b :: t) := by
        have e : valD 0 (b :: t) = valD (10 * 0 + (b.toNat - 48)) t := rfl
        have := valD_ge t (10 * 0 + (b.toNat - 48))
        have := isDg_iff.1 hdb
        have : b.toNat ≠ 48 := fun e => hb (UInt8.toNat_inj.1 e)
        omega
      have ih := dec_val n (b :: t) (by simp [hn]) (by omega) (.inr (by simpa using hb)) hd.1
      rw [Lib.decDigits, dif_neg (by omega), show (10 * valD 0 (b :: t) + (c.toNat - 48)) / 10 = valD 0 (b :: t) by omega, show (10 * valD 0 (b :: t) + (c.toNat - 48)) % 10 = c.toNat - 48 by omega, ih, dig_of hd.2]
/-- The numeral of a number below 10^9. -/
theorem dec_ok : ∀ (n : Nat), allDg (Lib.decDigits n) = true ∧ valD 0 (Lib.decDigits n) = n ∧ 1 ≤ (Lib.decDigits n).length ∧ (1 ≤ n → (Lib.decDigits n).head? ≠ some 48) := by
  intro n
  induction n using Nat.strongRecOn with
  | _ n ih =>
    by_cases h : n < 10
    · rw [Lib.decDigits_one h]
      refine ⟨by show (isDg _ && true) = true; rw [isDg_mk h]; rfl, ?_, by simp, ?_⟩
      · show 10 * 0 + ((UInt8.ofNat (48 + n)).toNat - 48) = n
        rw [ofNat_sub h]; omega
      · intro h1 e
        have e2 := congrArg UInt8.toNat (Option.some.inj e)
        rw [UInt8.toNat_ofNat'] at e2
        have : (48 : UInt8).toNat = 48 := rfl
        omega
    · have e : Lib.decDigits n = Lib.decDigits (n / 10) ++ [UInt8.ofNat (48 + n % 10)] := by rw [Lib.decDigits, dif_neg h]
      obtain ⟨i1, i2, i3, i4⟩ := ih (n / 10) (by omega)
      rw [e]
      refine ⟨by rw [allDg_snoc, i1, isDg_mk (by omega)]; rfl, by rw [valD_snoc, i2, ofNat_sub (by omega)]; omega, by simp, fun _ => ?_⟩
      have := i4 (by omega)
      cases hd : Lib.decDigits (n / 10) with
      | nil => rw [hd] at i3; simp at i3
      | cons b t => rw [hd] at this; simpa using this
theorem nDig_lt : ∀ (k n : Nat), n < 10 ^ (k + 1) → Lib.nDigits n ≤ k + 1
  | 0, n, h => by rw [Lib.nDigits_small (by simpa using h)]; omega
  | k + 1, n, h => by
    by_cases c : n < 10
    · rw [Lib.nDigits_small c]; omega
    · rw [Lib.nDigits_big c]
      rw [Nat.pow_succ] at h
      have := nDig_lt k (n / 10) (by omega)
      omega

theorem okDig_dec {n : Nat} (h : n < 1000000000) : okDig (Lib.decDigits n) = true := by
  obtain ⟨h1, h2, h3, h4⟩ := dec_ok n
  have h5 : (Lib.decDigits n).length ≤ 9 := by rw [Lib.decDigits_length]; exact nDig_lt 8 n (by omega)
  unfold okDig
  rw [h1, decide_eq_true h3, decide_eq_true h5]
  by_cases hz : n = 0
  · subst hz; rw [Lib.decDigits_one (by omega)]; decide
  · simp [h4 (by omega)]
theorem okDig_of {l : List UInt8} (h : okDig l = true) : Lib.decDigits (valD 0 l) = l ∧ valD 0 l < 1000000000 := by
  simp only [okDig, Bool.and_eq_true, decide_eq_true_eq, Bool.not_eq_true', Bool.and_eq_false_iff, decide_eq_false_iff_not] at h
  obtain ⟨⟨⟨h1, h2⟩, h3⟩, h4⟩ := h
  refine ⟨dec_val l.length l rfl h1 (h3.elim (fun h => .inl (by omega)) .inr) h4, ?_⟩
  have := valD_lt l 0 h4
  have h5 : 10 ^ l.length ≤ 10 ^ 9 := Nat.pow_le_pow_right (by omega) h2
  omega

theorem itoa_pos (n : Nat) : Lib.itoa (n : Int) = Lib.decDigits n := by unfold Lib.itoa; rw [if_neg (by omega)]; simp
theorem itoa_min (n : Nat) (h : 1 ≤ n) : Lib.itoa (-(n : Int)) = 45 :: Lib.decDigits n := by unfold Lib.itoa; rw [if_pos (by omega)]; simp

/-- What the reference takes is a numeral .. -/
theorem numR_some {s : List UInt8} {v : Int} (h : numR s = some v) : Lib.itoa v = s ∧ -1000000000 < v ∧ v < 1000000000 := by
  unfold numR at h
  split at h
  · rename_i hd
    split at h
    · rename_i hk
      obtain ⟨hk, h0⟩ := hk
      injection h with h
      subst h
      obtain ⟨e, hv⟩ := okDig_of hk
      have h1 : 1 ≤ valD 0 (s.drop 1) := by
        refine Nat.one_le_iff_ne_zero.2 fun hz => h0 ?_
        rw [← e, hz]; exact Lib.decDigits_one (by omega)
      rw [itoa_min _ h1, e]
      refine ⟨?_, by omega, by omega⟩
      cases s with
      | nil => simp at hd
      | cons c r => simp at hd; simp [hd]
    · cases h
  · split at h
    · rename_i hk
      injection h with h
      subst h
      obtain ⟨e, hv⟩ := okDig_of hk
      rw [itoa_pos, e]
      exact ⟨rfl, by omega, by omega⟩
    · cases h
/-- .. and every numeral of up to nine digits is taken. -/
theorem numR_itoa {v : Int} (h1 : -1000000000 < v) (h2 : v < 1000000000) : numR (Lib.itoa v) = some v := by
  by_cases h : 0 ≤ v
  · obtain ⟨n, rfl⟩ : ∃ n : Nat, v = n := ⟨v.toNat, by omega⟩
    have hk := okDig_dec (n := n) (by omega)
    obtain ⟨d1, d2, d3, _⟩ := dec_ok n
    rw [itoa_pos]
    unfold numR
    have hh : (Lib.decDigits n).head? ≠ some 45 := by
      cases hd : Lib.decDigits n with
      | nil => simp
      | cons b t =>
        rw [hd] at d1
        simp only [allDg, List.all_cons, Bool.and_eq_true] at d1
        have := isDg_iff.1 d1.1
        simp only [List.head?_cons, ne_eq, Option.some.injEq]
        rintro rfl
        exact absurd this (by decide)
    rw [if_neg hh, if_pos hk, d2]
  · obtain ⟨n, rfl, hn⟩ : ∃ n : Nat, v = -(n : Int) ∧ 1 ≤ n := ⟨(-v).toNat, by omega, by omega⟩
    have hk := okDig_dec (n := n) (by omega)
    obtain ⟨d1, d2, d3, _⟩ := dec_ok n
    rw [itoa_min n hn]
    unfold numR
    rw [if_pos (by simp), if_pos, List.drop_one, List.tail_cons, d2]
    refine ⟨hk, ?_⟩
    show Lib.decDigits n ≠ [48]
    intro e
    rw [e] at d2
    have : valD 0 [48] = 0 := by decide
    omega

theorem parse_dig : ∀ (l : List UInt8) (a : Nat), allDg l = true → (a + 1) * 10 ^ l.length ≤ 1000000000 → Lib.parseUint10 a l = .ok (valD a l)
  | [], a, _, _ => rfl
  | c :: r, a, h, hb => by
    simp only [allDg, List.all_cons, Bool.and_eq_true] at h
    have hc := isDg_iff.1 h.1
    rw [List.length_cons, Nat.pow_succ', ← Nat.mul_assoc] at hb
    have hp : 1 ≤ 10 ^ r.length := Nat.one_le_pow _ _ (by omega)
    have h1 : (a + 1) * 10 * 1 ≤ (a + 1) * 10 * 10 ^ r.length := Nat.mul_le_mul_left _ hp
    have ih := parse_dig r (10 * a + (c.toNat - 48)) h.2 (Nat.le_trans (Nat.mul_le_mul_right _ (by omega)) hb)
    unfold Lib.parseUint10
    rw [if_pos hc, if_neg (by omega), if_neg (by omega), Nat.mul_comm a 10, ih]; rfl
theorem dec_len {n : Nat} (h : n < 1000000000) : (0 + 1) * 10 ^ (Lib.decDigits n).length ≤ 1000000000 := by
  have h5 : (Lib.decDigits n).length ≤ 9 := by rw [Lib.decDigits_length]; exact nDig_lt 8 n (by omega)
  have := Nat.pow_le_pow_right (n := 10) (by omega) h5
  omega
/-- Atoi of a numeral of up to nine digits is the number. -/
theorem atoi_itoa {v : Int} (h1 : -1000000000 < v) (h2 : v < 1000000000) : Lib.atoiAll (Lib.itoa v) = .ok v := by
  by_cases h : 0 ≤ v
  · obtain ⟨n, rfl⟩ : ∃ n : Nat, v = n := ⟨v.toNat, by omega⟩
    obtain ⟨d1, d2, d3, _⟩ := dec_ok n
    have hp := parse_dig (Lib.decDigits n) 0 d1 (dec_len (by omega))
    rw [itoa_pos]
    cases hd : Lib.decDigits n with
    | nil => rw [hd] at d3; simp at d3
    | cons b t =>
      rw [hd] at d1 d2 hp
      have hb : isDg b = true := by simp only [allDg, List.all_cons, Bool.and_eq_true] at d1; exact d1.1
      have := isDg_iff.1 hb
      rw [Lib.atoiAll_plain b t (by omega) (by omega)]
      unfold Lib.parseMag
      rw [if_neg (by simp), hp, d2]
      unfold Lib.signless
      show (if _ then _ else _) = _
      rw [if_neg (by omega)]
  · obtain ⟨n, rfl, hn⟩ : ∃ n : Nat, v = -(n : Int) ∧ 1 ≤ n := ⟨(-v).toNat, by omega, by omega⟩
    obtain ⟨d1, d2, d3, _⟩ := dec_ok n
    have hp := parse_dig (Lib.decDigits n) 0 d1 (dec_len (by omega))
    rw [itoa_min n hn, Lib.atoiAll_minus]
    unfold Lib.parseMag
    rw [if_neg (by intro e; rw [e] at d3; simp at d3), hp, d2]
    unfold Lib.signed
    show (if _ then _ else _) = _
    rw [if_neg (by omega)]

/-- Whether what Atoi answers is the number that is written so. -/
def numOk (s : List UInt8) : Bool := (numR s).isSome
def numV (s : List UInt8) : Int := (numR s).getD 0
theorem numR_none {s : List UInt8} {v : Int} (h : numR s = none) (h1 : -1000000000 < v) (h2 : v < 1000000000) : Lib.itoa v ≠ s := fun e => by
  have := numR_itoa h1 h2
  rw [e, h] at this
  cases this
end Go.Proofs.YtfmehdophoejiaaGreatDoor

namespace Go.Proofs.YtfmehdophoejiaaGreatDoor
open Go

def lnL (c : UInt8) : Bool := (decide (65 ≤ c.toNat) && decide (c.toNat ≤ 90)) || (decide (97 ≤ c.toNat) && decide (c.toNat ≤ 122))
def lnP (c : UInt8) : Bool := lnL c || isDg c || decide (c.toNat = 43) || decide (c.toNat = 45)
def lnN (c : UInt8) : Bool := lnP c || decide (c.toNat = 95) || decide (c.toNat = 47)
def lnS (c : UInt8) : Bool := lnL c || isDg c || decide (c.toNat = 95) || decide (c.toNat = 45)
/-- A text with not too few bytes, nor too many, that all may be. -/
def txOk (f : UInt8 → Bool) (lo hi : Nat) (s : List UInt8) : Bool := decide (lo ≤ s.length) && (decide (s.length ≤ hi) && s.all f)

/-- The parts between slashes of what is left, behind what has been read of the part that is under way. -/
def pc7 : List UInt8 → List UInt8 → List (List UInt8)
  | cur, [] => [cur]
  | cur, b :: r => if b = 47 then cur :: pc7 [] r else pc7 (cur ++ [b]) r
def goodP (p : List UInt8) : Bool := match p with | [] => false | c :: _ => !decide (c = 45)
/-- No part is empty, or begins with a dash: byte by byte. -/
def nmR : Bool → List UInt8 → Bool
  | fst, [] => !fst
  | fst, c :: r => if c = 47 then !fst && nmR true r else !(fst && decide (c = 45)) && nmR false r

theorem good_app {p : List UInt8} (h : p ≠ []) (q : List UInt8) : goodP (p ++ q) = goodP p := by
  cases p with
  | nil => exact absurd rfl h
  | cons c r => rfl
theorem pc7_good : ∀ (s cur : List UInt8), (pc7 cur s).all goodP = if cur = [] then nmR true s else (goodP cur && nmR false s)
  | [], cur => by
    by_cases h : cur = []
    · subst h; rfl
    · simp [pc7, nmR, h]
  | b :: r, cur => by
    unfold pc7
    by_cases hb : b = 47
    · subst hb
      rw [if_pos rfl, List.all_cons, pc7_good r []]
      by_cases h : cur = []
      · subst h; simp [nmR, goodP]
      · simp [nmR, h]
    · rw [if_neg hb, pc7_good r (cur ++ [b]), if_neg (by simp)]
      by_cases h : cur = []
      · subst h
        simp [nmR, hb, goodP]
      · rw [if_neg h, good_app h]
        simp [nmR, hb]
theorem pc7_nm (s : List UInt8) : (pc7 [] s).all goodP = nmR true s := by rw [pc7_good, if_pos rfl]

/-- May a name be; a set's name; a format? -/
def nmOk (s : List UInt8) : Bool := txOk lnN 1 64 s && nmR true s
def hdS (s : List UInt8) : Bool := match s with | c :: _ => lnL c || decide (c.toNat = 95) | [] => false
def stOk (s : List UInt8) : Bool := txOk lnS 1 64 s && hdS s
def shOk (s : List UInt8) : Bool := txOk lnP 3 8 s
def fmOk (s : List UInt8) : Bool :=
  if s = [37, 122] then true
  else if (Lib.cut s [37, 115]).2.2 then txOk lnP 1 6 ((Lib.cut s [37, 115]).1 ++ (Lib.cut s [37, 115]).2.1)
  else if (Lib.cut s [47]).2.2 then shOk (Lib.cut s [47]).1 && shOk (Lib.cut s [47]).2.1
  else shOk s

/-- What strings.Cut does, at a slash. -/
def hd7 : List UInt8 → List UInt8
  | [] => []
  | b :: r => if b = 47 then [] else b :: hd7 r
def tl7 : List UInt8 → List UInt8
  | [] => []
  | b :: r => if b = 47 then r else tl7 r
def mo7 : List UInt8 → Bool
  | [] => false
  | b :: r => if b = 47 then true else mo7 r
theorem pc7_cut (s cur : List UInt8) : pc7 cur s = (cur ++ hd7 s) :: if mo7 s then pc7 [] (tl7 s) else [] := by
  induction s generalizing cur with
  | nil => simp [pc7, hd7, mo7]
  | cons b r ih =>
    by_cases h : b = 47
    · subst h
      show (if (47 : UInt8) = 47 then cur :: pc7 [] r else pc7 (cur ++ [47]) r) = _
      simp [hd7, tl7, mo7]
    · show (if b = 47 then cur :: pc7 [] r else pc7 (cur ++ [b]) r) = _
      simp only [h, if_false, hd7, tl7, mo7]
      rw [ih, List.append_assoc]
      rfl
/-- Where the first slash stands: what is ahead of it, and behind. -/
theorem index7 (s : List UInt8) : (mo7 s = true ∧ ∃ i : Nat, Lib.index s [47] = i ∧ i < s.length ∧ s.take i = hd7 s ∧ s.drop (i + 1) = tl7 s) ∨ (mo7 s = false ∧ Lib.index s [47] = -1 ∧ hd7 s = s) := by
  have pre : ∀ (b : UInt8) (r : List UInt8), [47].isPrefixOf (b :: r) = decide (b = 47) := by
    intro b r
    by_cases h : b = 47
    · subst h; simp
    · simp [List.isPrefixOf, h, Ne.symm h]
  induction s with
  | nil => right; exact ⟨rfl, by simp [Lib.index], rfl⟩
  | cons b r ih =>
    unfold Lib.index
    rw [pre]
    by_cases h : b = 47
    · subst h
      left
      exact ⟨by simp [mo7], 0, by simp, by simp, by simp [hd7], by simp [tl7]⟩
    · simp only [h, decide_false, Bool.false_eq_true, if_false, hd7, tl7, mo7]
      rcases ih with ⟨h1, i, h2, h3, h4, h5⟩ | ⟨h1, h2, h3⟩
      · left
        refine ⟨h1, i + 1, ?_, by simp; omega, by simp [h4], by simp [h5]⟩
        rw [h2]
        have : ((i : Int) == -1) = false := by simp
        simp [this]
      · right
        exact ⟨h1, by rw [h2]; simp, by rw [h3]⟩
theorem tl7_len (s : List UInt8) : (tl7 s).length + (if mo7 s then 1 else 0) ≤ s.length := by
  induction s with
  | nil => simp [tl7, mo7]
  | cons b r ih =>
    unfold tl7 mo7
    by_cases h : b = 47
    · simp [h]
    · simp only [h, if_false, List.length_cons]; omega
theorem hd7_len (s : List UInt8) : (hd7 s).length ≤ s.length := by
  induction s with
  | nil => simp [hd7]
  | cons b r ih =>
    unfold hd7
    by_cases h : b = 47
    · simp [h]
    · simp only [h, if_false, List.length_cons]; omega
theorem pc7_len (s cur : List UInt8) : (pc7 cur s).length ≤ s.length + 1 := by
  induction s generalizing cur with
  | nil => simp [pc7]
  | cons b r ih =>
    unfold pc7
    split
    · have := ih []; simp only [List.length_cons]; omega
    · have := ih (cur ++ [b]); simp only [List.length_cons]; omega
end Go.Proofs.YtfmehdophoejiaaGreatDoor

namespace Go.Proofs.YtfmehdophoejiaaGreatDoor
open Go

/-- A letter, small. -/
def lowB (c : UInt8) : UInt8 := if 65 ≤ c.toNat ∧ c.toNat ≤ 90 then c + 32 else c
def low (l : List UInt8) : List UInt8 := l.map lowB

def begins (b w : List UInt8) : Bool := !b.isEmpty && b.isPrefixOf w
/-- Which places have words that b is short for, and whether it is all of the word. -/
def meantL (b : List UInt8) : List (List UInt8) → Nat → List (Nat × Bool)
  | [], _ => []
  | w :: ws, i => if begins b w then (i, decide (b = w)) :: meantL b ws (i + 1) else meantL b ws (i + 1)
/-- Which place is meant: the word itself, or the only one. -/
def scan (b : List UInt8) : List (List UInt8) → Nat → Nat → Nat → Option Nat
  | [], _, many, found => if many = 1 then some found else none
  | w :: ws, i, many, found => if w = b then some i else if begins b w then scan b ws (i + 1) (many + 1) i else scan b ws (i + 1) many found
def findL (b : List UInt8) (ws : List (List UInt8)) : Option Nat := scan b ws 0 0 0

theorem begins_nil (w : List UInt8) : begins [] w = false := rfl
theorem begins_self {w : List UInt8} (h : w ≠ []) : begins w w = true := by
  unfold begins
  rw [Bool.and_eq_true]
  exact ⟨by cases w <;> simp_all, List.isPrefixOf_iff_prefix.2 (List.prefix_refl w)⟩
theorem begins_iff {b w : List UInt8} : begins b w = true ↔ b ≠ [] ∧ b <+: w := by
  unfold begins
  rw [Bool.and_eq_true, List.isPrefixOf_iff_prefix]
  cases b <;> simp

/-- The last place, found so far. -/
def lastP (d : Nat) (xs : List (Nat × Bool)) : Nat := (xs.getLast?.map (·.1)).getD d
theorem lastP_snoc (d : Nat) (xs : List (Nat × Bool)) (x : Nat × Bool) : lastP d (xs ++ [x]) = x.1 := by simp [lastP]
theorem lastP_cons (d : Nat) (x : Nat × Bool) (xs : List (Nat × Bool)) : lastP d (x :: xs) = lastP x.1 xs := by
  unfold lastP
  cases xs with
  | nil => rfl
  | cons y ys =>
    rw [List.getLast?_cons_cons]
    cases h : (y :: ys).getLast? with
    | none => simp at h
    | some z => rfl
def noneW (xs : List (Nat × Bool)) : Bool := xs.all fun x => !x.2
theorem noneW_snoc (xs : List (Nat × Bool)) (x : Nat × Bool) : noneW (xs ++ [x]) = (noneW xs && !x.2) := by simp [noneW]

theorem scan_none (b : List UInt8) : ∀ (ws : List (List UInt8)) (i many found : Nat), (∀ w ∈ ws, w ≠ []) → noneW (meantL b ws i) = true →
    scan b ws i many found = if many + (meantL b ws i).length = 1 then some (lastP found (meantL b ws i)) else none
  | [], i, many, found, _, _ => rfl
  | w :: ws, i, many, found, hw, h => by
    have ih := fun m f => scan_none b ws (i + 1) m f (fun x hx => hw x (List.mem_cons_of_mem _ hx))
    unfold scan
    by_cases hb : begins b w = true
    · simp only [meantL, if_pos hb] at h ⊢
      simp only [noneW, List.all_cons, Bool.and_eq_true, Bool.not_eq_true', decide_eq_false_iff_not] at h
      rw [if_neg (fun e => h.1 e.symm), ih _ _ h.2, lastP_cons, List.length_cons]
      congr 1
      apply propext; omega
    · simp only [meantL, if_neg hb] at h ⊢
      have hne : w ≠ b := fun e => hb (e ▸ begins_self (hw w (List.mem_cons_self ..)))
      rw [if_neg hne, ih _ _ h]

theorem scan_some (b : List UInt8) : ∀ (ws : List (List UInt8)) (i many found : Nat) (pre rest : List (Nat × Bool)) (p : Nat), (∀ w ∈ ws, w ≠ []) → noneW pre = true → meantL b ws i = pre ++ (p, true) :: rest →
    scan b ws i many found = some p
  | [], i, many, found, pre, rest, p, _, _, h => by cases pre <;> simp [meantL] at h
  | w :: ws, i, many, found, pre, rest, p, hw, hn, h => by
    have ih := fun m f pre => scan_some b ws (i + 1) m f pre rest p (fun x hx => hw x (List.mem_cons_of_mem _ hx))
    unfold scan
    by_cases hb : begins b w = true
    · simp only [meantL, if_pos hb] at h
      cases pre with
      | nil =>
        simp only [List.nil_append, List.cons.injEq, Prod.mk.injEq, decide_eq_true_eq] at h
        rw [if_pos h.1.2.symm, h.1.1]
      | cons x pre =>
        simp only [List.cons_append, List.cons.injEq] at h
        obtain ⟨rfl, h⟩ := h
        simp only [noneW, List.all_cons, Bool.and_eq_true, Bool.not_eq_true', decide_eq_false_iff_not] at hn
        rw [if_neg (fun e => hn.1 e.symm), if_pos hb]
        exact ih _ _ pre hn.2 h
    · simp only [meantL, if_neg hb] at h
      have hne : w ≠ b := fun e => hb (e ▸ begins_self (hw w (List.mem_cons_self ..)))
      rw [if_neg hne, if_neg hb]
      exact ih _ _ pre hn h

theorem meantL_len (b : List UInt8) : ∀ (ws : List (List UInt8)) (i : Nat), (meantL b ws i).length ≤ ws.length
  | [], _ => by simp [meantL]
  | w :: ws, i => by
    have := meantL_len b ws (i + 1)
    unfold meantL
    split
    · simp; omega
    · simp; omega
theorem meantL_lt (b : List UInt8) : ∀ (ws : List (List UInt8)) (i : Nat), ∀ x ∈ meantL b ws i, x.1 < i + ws.length
  | [], _, x, h => by simp [meantL] at h
  | w :: ws, i, x, h => by
    have ih := meantL_lt b ws (i + 1) x
    simp only [meantL] at h
    split at h
    · rcases List.mem_cons.1 h with rfl | h
      · simp
      · have := ih h; simp; omega
    · have := ih h; simp; omega
theorem lastP_lt {d n : Nat} (xs : List (Nat × Bool)) (hd : d < n) (h : ∀ x ∈ xs, x.1 < n) : lastP d xs < n := by
  unfold lastP
  cases hx : xs.getLast? with
  | none => exact hd
  | some y => exact h y (List.mem_of_getLast? hx)

/-- What comes out of a call: the place, so many more, or that there is none. -/
def resN (o : Option Nat) (more : Nat) : Nat := match o with | some p => p + more | none => 0
def resE (o : Option Nat) : Nat := match o with | some _ => 0 | none => 13

/-! ### The small letters of strings.Map -/
def smallZ (r : Int) : Int := if 65 ≤ r ∧ r ≤ 90 then r + 32 else r
theorem smallZ_bd (x : Nat) (h : x ≤ 1114111) : 0 ≤ smallZ x ∧ smallZ x ≤ 2147483647 := by unfold smallZ; split <;> omega

def ascii (w : List UInt8) : Prop := ∀ c ∈ w, c.toNat < 128
theorem decode_one {c : UInt8} (r : List UInt8) (h : c.toNat < 128) : Lib.decodeL (c :: r) = (c.toNat, 1) := by
  unfold Lib.decodeL Utf8.decode
  have e : (⟨(c :: r).toArray⟩ : ByteArray).get! 0 = c := rfl
  have e1 : 0 < (⟨(c :: r).toArray⟩ : ByteArray).size := by simp [ByteArray.size]
  simp [e, h]
theorem decode_big {c : UInt8} (r : List UInt8) (h : ¬ c.toNat < 128) : 128 ≤ (Lib.decodeL (c :: r)).1 := by
  have hne : c :: r ≠ [] := by simp
  by_cases hv : (Lib.decodeL (c :: r)).1 = 65533 ∧ (Lib.decodeL (c :: r)).2 = 1
  · rw [hv.1]; decide
  · refine Nat.le_of_not_lt fun hlt => ?_
    have e := Lib.encode_decode (c :: r) hne hv
    have e2 : Lib.encodeRune ((Lib.decodeL (c :: r)).1 : Int) = [(Lib.decodeL (c :: r)).1.toUInt8] := by
      unfold Lib.encodeRune
      rw [Lib.encodeRuneZ_one (by omega) (by omega)]; simp
    rw [e2] at e
    have e3 := congrArg List.head? e
    have hw := Lib.width_pos ⟨(c :: r).toArray⟩ 0
    cases hk : (Lib.decodeL (c :: r)).2 with
    | zero => have : (Utf8.decode ⟨(c :: r).toArray⟩ 0).2 = 0 := hk; omega
    | succ k =>
      rw [hk] at e3
      simp only [List.take_succ_cons, List.head?_cons, Option.some.injEq] at e3
      apply h
      rw [← e3]
      have : (Lib.decodeL (c :: r)).1 % 256 = (Lib.decodeL (c :: r)).1 := Nat.mod_eq_of_lt (by omega)
      show (Lib.decodeL (c :: r)).1.toUInt8.toNat < 128
      simp only [Nat.toUInt8, UInt8.toNat_ofNat']
      omega
theorem encode_big {r : Int} (h : 128 ≤ r) : ∃ c t, Lib.encodeRune r = c :: t ∧ 128 ≤ c.toNat := by
  unfold Lib.encodeRune Lib.encodeRuneZ
  rw [if_neg (by omega)]
  have big : ∀ x : Int, 128 ≤ x → x < 256 → 128 ≤ (x.toNat.toUInt8).toNat := by
    intro x h1 h2
    simp only [Nat.toUInt8, UInt8.toNat_ofNat']
    omega
  split
  · exact ⟨_, _, rfl, big _ (by omega) (by omega)⟩
  · split
    · exact ⟨_, _, rfl, big _ (by omega) (by omega)⟩
    · split
      · exact ⟨_, _, rfl, big _ (by omega) (by omega)⟩
      · exact ⟨_, _, rfl, by decide⟩

/-- Two texts that are alike as beginnings of words. -/
def Alike (s t : List UInt8) : Prop := ∀ w, ascii w → (s <+: w ↔ t <+: w) ∧ (s = w ↔ t = w)
theorem Alike.cons {s t : List UInt8} (h : Alike s t) (c : UInt8) : Alike (c :: s) (c :: t) := by
  intro w hw
  cases w with
  | nil => simp
  | cons d w =>
    have := h w fun x hx => hw x (List.mem_cons_of_mem _ hx)
    simp only [List.cons_prefix_cons, List.cons.injEq, this.1, this.2, and_self]
theorem alike_big {c d : UInt8} {s t : List UInt8} (hc : 128 ≤ c.toNat) (hd : 128 ≤ d.toNat) : Alike (c :: s) (d :: t) := by
  intro w hw
  cases w with
  | nil => simp
  | cons e w =>
    have := hw e (List.mem_cons_self ..)
    have h1 : c ≠ e := fun h => by subst h; omega
    have h2 : d ≠ e := fun h => by subst h; omega
    simp [List.cons_prefix_cons, h1, h2]
theorem lowB_toNat (c : UInt8) : (lowB c).toNat = if 65 ≤ c.toNat ∧ c.toNat ≤ 90 then c.toNat + 32 else c.toNat := by
  unfold lowB
  split
  · rw [UInt8.toNat_add]; show (c.toNat + 32) % 256 = _; omega
  · rfl
theorem map_alike : ∀ (n : Nat) (s : List UInt8), s.length ≤ n → Alike (Lib.mapD smallZ s) (low s)
  | _, [], _ => fun w _ => by simp [Lib.mapD_nil, low]
  | 0, c :: r, h => by simp at h
  | n + 1, c :: r, h => by
    rw [Lib.mapD_step smallZ (c :: r) (by simp)]
    show Alike _ (lowB c :: low r)
    by_cases hc : c.toNat < 128
    · rw [decode_one r hc]
      have e : Lib.encodeRune (smallZ (c.toNat : Int)) = [lowB c] := by
        unfold Lib.encodeRune
        have hb : 0 ≤ smallZ c.toNat ∧ smallZ c.toNat ≤ 127 := by unfold smallZ; split <;> omega
        rw [Lib.encodeRuneZ_one hb.1 hb.2]
        show [(smallZ c.toNat).toNat.toUInt8] = _
        congr 1
        apply UInt8.toNat_inj.1
        rw [lowB_toNat]
        simp only [Nat.toUInt8, UInt8.toNat_ofNat']
        unfold smallZ
        split <;> rename_i h1 <;> split <;> omega
      rw [if_pos (by unfold smallZ; split <;> omega), e]
      exact (map_alike n r (by simpa using h)).cons _
    · have hb := decode_big r hc
      have e : smallZ ((Lib.decodeL (c :: r)).1 : Int) = (Lib.decodeL (c :: r)).1 := by unfold smallZ; rw [if_neg (by omega)]
      rw [e, if_pos (by omega)]
      obtain ⟨d, t, he, hd⟩ := encode_big (r := ((Lib.decodeL (c :: r)).1 : Int)) (by omega)
      rw [he]
      refine alike_big hd ?_
      rw [lowB_toNat]; split <;> omega
theorem alike_meant {s t : List UInt8} (h : Alike s t) : ∀ (ws : List (List UInt8)) (i : Nat), (∀ w ∈ ws, ascii w) → meantL s ws i = meantL t ws i
  | [], _, _ => rfl
  | w :: ws, i, hw => by
    have a := h w (hw w (List.mem_cons_self ..))
    have b := h [] (fun c hc => by simp at hc)
    have e : begins s w = begins t w := by
      rw [Bool.eq_iff_iff, begins_iff, begins_iff, a.1]
      simp only [ne_eq, b.2]
    have d : decide (s = w) = decide (t = w) := by simp [a.2]
    simp only [meantL, e, d, alike_meant h ws (i + 1) fun x hx => hw x (List.mem_cons_of_mem _ hx)]
theorem map_meant (s : List UInt8) (ws : List (List UInt8)) (hw : ∀ w ∈ ws, ascii w) : meantL (Lib.mapD smallZ s) ws 0 = meantL (low s) ws 0 := alike_meant (map_alike s.length s (Nat.le_refl _)) ws 0 hw
end Go.Proofs.YtfmehdophoejiaaGreatDoor

namespace Go.Proofs.YtfmehdophoejiaaGreatDoor
open Go.RowKit

theorem wcell_lt {w : World} {b o : Nat} {v : Value} (h : w.cell? ⟨b, o, none⟩ = some v) : b < w.heap.size := by
  rcases Nat.lt_or_ge b w.heap.size with h1 | h1
  · exact h1
  · have e : w.heap[b]? = none := by simp [h1]
    simp [World.cell?, e] at h

/-- A list of words lies in block L. -/
structure ListAt (L : Nat) (ws : List (List UInt8)) (w : World) : Prop where
  lt : L < w.heap.size
  cell : ∀ i p, ws[i]? = some p → w.cell? ⟨L, i, none⟩ = some (.string ⟨p.toArray⟩)
theorem ListAt.below {L B : Nat} {ws : List (List UInt8)} {w w' : World} (h : ListAt L ws w) (k : Below B w w') (hB : L < B) : ListAt L ws w' :=
  ⟨Nat.lt_of_lt_of_le h.lt k.size, fun i p hp => by rw [k.cell (p := ⟨_, _, none⟩) hB]; exact h.cell i p hp⟩
theorem ListAt.next {L : Nat} {ws : List (List UInt8)} {w w' : World} (h : ListAt L ws w) (k : Below w.heap.size w w') : ListAt L ws w' := h.below k h.lt
/-- A list of words that has just been laid. -/
theorem ListAt.new (w : World) (ws : List (List UInt8)) (t : TypeId) (cs : Array Value) (hc : cs = (ws.map fun p => Value.string ⟨p.toArray⟩).toArray) : ListAt w.heap.size ws (w.alloc (.cells cs t)) :=
  ⟨by simp, fun i p hp => by subst hc; simp [hp]⟩

theorem wbyte_at (p : List UInt8) (i : Nat) (h : i < p.length) (c : UInt8) (hc : p.getD i 0 = c) (w : World) : (Instr.index 9 (.string ⟨p.toArray⟩) (.int .i64 (i : Int))).run Tryz.prog w = .ok (.int .u8 (c.toNat : Int)) w := by
  rw [← hc]
  have hs : (⟨p.toArray⟩ : ByteArray).size = p.length := by simp [ByteArray.size]
  rw [run_index_string w _ _ _ _ Tryz.underlying9, dif_pos ⟨by omega, by omega⟩]
  have : (⟨p.toArray⟩ : ByteArray)[(i : Int).toNat]'(by rw [hs]; simpa using h) = p.getD i 0 := by
    simp [ByteArray.getElem_eq_getElem_data, h]
  rw [this]
theorem wone_byte (W : World) (c : UInt8) : (convert 116 9 (.slice (some ⟨W.heap.size, 0, none⟩) 1 1)).run Tryz.prog (W.alloc (.cells #[.int .u8 (c.toNat : Int)] 5)) = .ok (.string ⟨[c].toArray⟩) (W.alloc (.cells #[.int .u8 (c.toNat : Int)] 5)) :=
  run_convert_bytes_back _ _ _ 5 ⟨W.heap.size, 0, none⟩ 1 [c] Tryz.underlying116 Tryz.underlying5 Tryz.underlying9 (fun j hj => by
    obtain rfl : j = 0 := by simpa using hj
    simp [Addr.add])
theorem wadd_lists (x y : List UInt8) (hx : x.length ≤ 1000) (hy : y.length ≤ 1000) (W : World) : (Op.stringOp .add ⟨x.toArray⟩ ⟨y.toArray⟩).run Tryz.prog W = .ok (.string ⟨(x ++ y).toArray⟩) W :=
  run_string_add_lists W x y (by omega) (by omega)
theorem wsub_run (s : List UInt8) (i : Nat) (p : List UInt8) (hp : s.take i = p) (h2 : i ≤ s.length) (W : World) :
    (Instr.slice 9 (.string ⟨s.toArray⟩) none (some (.int .i64 (i : Int))) none).run Tryz.prog W = .ok (.string ⟨p.toArray⟩) W := by
  have hs : (⟨s.toArray⟩ : ByteArray).size = s.length := by simp [ByteArray.size]
  rw [run_slice_string_h (ht := Tryz.underlying9) (h0 := by omega) (h2 := by rw [hs]; omega)]
  subst hp
  congr 2
  simp [ByteArray.extract_mk]
theorem wsize (s : List UInt8) : (⟨s.toArray⟩ : ByteArray).size = s.length := by simp [ByteArray.size]
end Go.Proofs.YtfmehdophoejiaaGreatDoor

namespace Go.Proofs.YtfmehdophoejiaaGreatDoor
open Go.RowKit

theorem five (n : Nat) : n < 65 ∨ (65 ≤ n ∧ n ≤ 90) ∨ (90 < n ∧ n < 97) ∨ (97 ≤ n ∧ n ≤ 122) ∨ 122 < n := by omega
theorem isLet_is (c : UInt8) (v : Bool) (w : World) (hv : Hid (lnL c = v)) :
    Calls Tryz.prog 38 #[.int .u8 (c.toNat : Int)] w fun e w' => e = .returned (.bool v) ∧ Below w.heap.size w w' := by
  obtain rfl := hv.out
  rcases five c.toNat with h | h | h | h | h
  · have e : Hid (lnL c = false) := Lib.hid (by simp [lnL]; omega)
    have h1 : ¬ (65 : Int) ≤ (c.toNat : Int) := by omega
    have h2 : ¬ (97 : Int) ≤ (c.toNat : Int) := by omega
    clear h hv
    go_enter Tryz.func38, Tryz.ntmps38
    go_wp2
    go_ret
    rw [e.out]
    exact ⟨rfl, Below.refl _ _⟩
  · have e : Hid (lnL c = true) := Lib.hid (by simp [lnL]; omega)
    have h1 : (65 : Int) ≤ (c.toNat : Int) := by omega
    have h2 : (c.toNat : Int) ≤ 90 := by omega
    clear h hv
    go_enter Tryz.func38, Tryz.ntmps38
    go_wp2
    go_ret
    rw [e.out]
    exact ⟨rfl, Below.refl _ _⟩
  · have e : Hid (lnL c = false) := Lib.hid (by simp [lnL]; omega)
    have h1 : (65 : Int) ≤ (c.toNat : Int) := by omega
    have h2 : ¬ (c.toNat : Int) ≤ 90 := by omega
    have h3 : ¬ (97 : Int) ≤ (c.toNat : Int) := by omega
    clear h hv
    go_enter Tryz.func38, Tryz.ntmps38
    go_wp2
    go_ret
    rw [e.out]
    exact ⟨rfl, Below.refl _ _⟩
  · have e : Hid (lnL c = true) := Lib.hid (by simp [lnL]; omega)
    have h1 : (65 : Int) ≤ (c.toNat : Int) := by omega
    have h2 : ¬ (c.toNat : Int) ≤ 90 := by omega
    have h3 : (97 : Int) ≤ (c.toNat : Int) := by omega
    have h4 : (c.toNat : Int) ≤ 122 := by omega
    clear h hv
    go_enter Tryz.func38, Tryz.ntmps38
    go_wp2
    go_ret
    rw [e.out]
    exact ⟨rfl, Below.refl _ _⟩
  · have e : Hid (lnL c = false) := Lib.hid (by simp [lnL]; omega)
    have h1 : (65 : Int) ≤ (c.toNat : Int) := by omega
    have h2 : ¬ (c.toNat : Int) ≤ 90 := by omega
    have h3 : (97 : Int) ≤ (c.toNat : Int) := by omega
    have h4 : ¬ (c.toNat : Int) ≤ 122 := by omega
    clear h hv
    go_enter Tryz.func38, Tryz.ntmps38
    go_wp2
    go_ret
    rw [e.out]
    exact ⟨rfl, Below.refl _ _⟩
theorem isDigit_is (c : UInt8) (v : Bool) (w : World) (hv : Hid (isDg c = v)) :
    Calls Tryz.prog 82 #[.int .u8 (c.toNat : Int)] w fun e w' => e = .returned (.bool v) ∧ Below w.heap.size w w' := by
  obtain rfl := hv.out
  by_cases h : 48 ≤ c.toNat
  · by_cases k : c.toNat ≤ 57
    · have e : Hid (isDg c = true) := Lib.hid (by simp [isDg]; omega)
      have h1 : (48 : Int) ≤ (c.toNat : Int) := by omega
      have h2 : (c.toNat : Int) ≤ 57 := by omega
      clear h k hv
      go_enter Tryz.func82, Tryz.ntmps82
      go_wp2
      go_ret
      rw [e.out]
      exact ⟨rfl, Below.refl _ _⟩
    · have e : Hid (isDg c = false) := Lib.hid (by simp [isDg]; omega)
      have h1 : (48 : Int) ≤ (c.toNat : Int) := by omega
      have h2 : ¬ (c.toNat : Int) ≤ 57 := by omega
      clear h k hv
      go_enter Tryz.func82, Tryz.ntmps82
      go_wp2
      go_ret
      rw [e.out]
      exact ⟨rfl, Below.refl _ _⟩
  · have e : Hid (isDg c = false) := Lib.hid (by simp [isDg]; omega)
    have h1 : ¬ (48 : Int) ≤ (c.toNat : Int) := by omega
    clear h hv
    go_enter Tryz.func82, Tryz.ntmps82
    go_wp2
    go_ret
    rw [e.out]
    exact ⟨rfl, Below.refl _ _⟩

-- GENERATED by wip/tools/genlna.py
theorem isPlain_is (c : UInt8) (v : Bool) (w : World) (hv : Hid (lnP c = v)) :
    Calls Tryz.prog 42 #[.int .u8 (c.toNat : Int)] w fun e w' => e = .returned (.bool v) ∧ Below w.heap.size w w' := by
  cases h0 : lnL c with
  | true =>
    have H0 := Lib.hid h0
    have e : Hid (v = true) := Lib.hid (by rw [← hv.out]; simp [lnP, h0])
    clear hv h0 
    go_enter Tryz.func42, Tryz.ntmps42
    go_wp2_with (first | (go_at_call 38; refine (isLet_is c true _ H0).mono ?_; rintro e w1 ⟨rfl, k1⟩; simp only []))
    go_ret
    rw [e.out]
    exact ⟨rfl, k1⟩
  | false =>
    have H0 := Lib.hid h0
    cases h1 : isDg c with
    | true =>
      have H1 := Lib.hid h1
      have e : Hid (v = true) := Lib.hid (by rw [← hv.out]; simp [lnP, h0, h1])
      clear hv h0 h1 
      go_enter Tryz.func42, Tryz.ntmps42
      go_wp2_with (first | (go_at_call 38; refine (isLet_is c false _ H0).mono ?_; rintro e w1 ⟨rfl, k1⟩; simp only []) | (go_at_call 82; refine (isDigit_is c true _ H1).mono ?_; rintro e w2 ⟨rfl, k2⟩; simp only []))
      go_ret
      rw [e.out]
      exact ⟨rfl, k1.trans (k2.mono k1.size)⟩
    | false =>
      have H1 := Lib.hid h1
      cases b0 : ((c.toNat : Int) == 43) with
      | true =>
        have d0 : c.toNat = 43 := by simp at b0; omega
        have e : Hid (v = true) := Lib.hid (by rw [← hv.out]; simp [lnP, h0, h1, d0])
        clear hv h0 h1 d0
        go_enter Tryz.func42, Tryz.ntmps42
        go_wp2_with (first | (go_at_call 38; refine (isLet_is c false _ H0).mono ?_; rintro e w1 ⟨rfl, k1⟩; simp only []) | (go_at_call 82; refine (isDigit_is c false _ H1).mono ?_; rintro e w2 ⟨rfl, k2⟩; simp only []))
        go_ret
        rw [e.out]
        exact ⟨rfl, k1.trans (k2.mono k1.size)⟩
      | false =>
        have d0 : ¬ c.toNat = 43 := by simp at b0; omega
        cases b1 : ((c.toNat : Int) == 45) with
        | true =>
          have d1 : c.toNat = 45 := by simp at b1; omega
          have e : Hid (v = true) := Lib.hid (by rw [← hv.out]; simp [lnP, h0, h1, d1])
          clear hv h0 h1 d1 d0
          go_enter Tryz.func42, Tryz.ntmps42
          go_wp2_with (first | (go_at_call 38; refine (isLet_is c false _ H0).mono ?_; rintro e w1 ⟨rfl, k1⟩; simp only []) | (go_at_call 82; refine (isDigit_is c false _ H1).mono ?_; rintro e w2 ⟨rfl, k2⟩; simp only []))
          go_ret
          rw [e.out]
          exact ⟨rfl, k1.trans (k2.mono k1.size)⟩
        | false =>
          have d1 : ¬ c.toNat = 45 := by simp at b1; omega
          have e : Hid (v = false) := Lib.hid (by rw [← hv.out]; simp [lnP, h0, h1, d0, d1])
          clear hv h0 h1 d0 d1
          go_enter Tryz.func42, Tryz.ntmps42
          go_wp2_with (first | (go_at_call 38; refine (isLet_is c false _ H0).mono ?_; rintro e w1 ⟨rfl, k1⟩; simp only []) | (go_at_call 82; refine (isDigit_is c false _ H1).mono ?_; rintro e w2 ⟨rfl, k2⟩; simp only []))
          go_ret
          rw [e.out]
          exact ⟨rfl, k1.trans (k2.mono k1.size)⟩
theorem isSetB_is (c : UInt8) (v : Bool) (w : World) (hv : Hid (lnS c = v)) :
    Calls Tryz.prog 37 #[.int .u8 (c.toNat : Int)] w fun e w' => e = .returned (.bool v) ∧ Below w.heap.size w w' := by
  cases h0 : lnL c with
  | true =>
    have H0 := Lib.hid h0
    have e : Hid (v = true) := Lib.hid (by rw [← hv.out]; simp [lnS, h0])
    clear hv h0 
    go_enter Tryz.func37, Tryz.ntmps37
    go_wp2_with (first | (go_at_call 38; refine (isLet_is c true _ H0).mono ?_; rintro e w1 ⟨rfl, k1⟩; simp only []))
    go_ret
    rw [e.out]
    exact ⟨rfl, k1⟩
  | false =>
    have H0 := Lib.hid h0
    cases h1 : isDg c with
    | true =>
      have H1 := Lib.hid h1
      have e : Hid (v = true) := Lib.hid (by rw [← hv.out]; simp [lnS, h0, h1])
      clear hv h0 h1 
      go_enter Tryz.func37, Tryz.ntmps37
      go_wp2_with (first | (go_at_call 38; refine (isLet_is c false _ H0).mono ?_; rintro e w1 ⟨rfl, k1⟩; simp only []) | (go_at_call 82; refine (isDigit_is c true _ H1).mono ?_; rintro e w2 ⟨rfl, k2⟩; simp only []))
      go_ret
      rw [e.out]
      exact ⟨rfl, k1.trans (k2.mono k1.size)⟩
    | false =>
      have H1 := Lib.hid h1
      cases b0 : ((c.toNat : Int) == 95) with
      | true =>
        have d0 : c.toNat = 95 := by simp at b0; omega
        have e : Hid (v = true) := Lib.hid (by rw [← hv.out]; simp [lnS, h0, h1, d0])
        clear hv h0 h1 d0
        go_enter Tryz.func37, Tryz.ntmps37
        go_wp2_with (first | (go_at_call 38; refine (isLet_is c false _ H0).mono ?_; rintro e w1 ⟨rfl, k1⟩; simp only []) | (go_at_call 82; refine (isDigit_is c false _ H1).mono ?_; rintro e w2 ⟨rfl, k2⟩; simp only []))
        go_ret
        rw [e.out]
        exact ⟨rfl, k1.trans (k2.mono k1.size)⟩
      | false =>
        have d0 : ¬ c.toNat = 95 := by simp at b0; omega
        cases b1 : ((c.toNat : Int) == 45) with
        | true =>
          have d1 : c.toNat = 45 := by simp at b1; omega
          have e : Hid (v = true) := Lib.hid (by rw [← hv.out]; simp [lnS, h0, h1, d1])
          clear hv h0 h1 d1 d0
          go_enter Tryz.func37, Tryz.ntmps37
          go_wp2_with (first | (go_at_call 38; refine (isLet_is c false _ H0).mono ?_; rintro e w1 ⟨rfl, k1⟩; simp only []) | (go_at_call 82; refine (isDigit_is c false _ H1).mono ?_; rintro e w2 ⟨rfl, k2⟩; simp only []))
          go_ret
          rw [e.out]
          exact ⟨rfl, k1.trans (k2.mono k1.size)⟩
        | false =>
          have d1 : ¬ c.toNat = 45 := by simp at b1; omega
          have e : Hid (v = false) := Lib.hid (by rw [← hv.out]; simp [lnS, h0, h1, d0, d1])
          clear hv h0 h1 d0 d1
          go_enter Tryz.func37, Tryz.ntmps37
          go_wp2_with (first | (go_at_call 38; refine (isLet_is c false _ H0).mono ?_; rintro e w1 ⟨rfl, k1⟩; simp only []) | (go_at_call 82; refine (isDigit_is c false _ H1).mono ?_; rintro e w2 ⟨rfl, k2⟩; simp only []))
          go_ret
          rw [e.out]
          exact ⟨rfl, k1.trans (k2.mono k1.size)⟩
theorem isNameB_is (c : UInt8) (v : Bool) (w : World) (hv : Hid (lnN c = v)) :
    Calls Tryz.prog 34 #[.int .u8 (c.toNat : Int)] w fun e w' => e = .returned (.bool v) ∧ Below w.heap.size w w' := by
  cases h0 : lnP c with
  | true =>
    have H0 := Lib.hid h0
    have e : Hid (v = true) := Lib.hid (by rw [← hv.out]; simp [lnN, h0])
    clear hv h0 
    go_enter Tryz.func34, Tryz.ntmps34
    go_wp2_with (first | (go_at_call 42; refine (isPlain_is c true _ H0).mono ?_; rintro e w1 ⟨rfl, k1⟩; simp only []))
    go_ret
    rw [e.out]
    exact ⟨rfl, k1⟩
  | false =>
    have H0 := Lib.hid h0
    cases b0 : ((c.toNat : Int) == 95) with
    | true =>
      have d0 : c.toNat = 95 := by simp at b0; omega
      have e : Hid (v = true) := Lib.hid (by rw [← hv.out]; simp [lnN, h0, d0])
      clear hv h0 d0
      go_enter Tryz.func34, Tryz.ntmps34
      go_wp2_with (first | (go_at_call 42; refine (isPlain_is c false _ H0).mono ?_; rintro e w1 ⟨rfl, k1⟩; simp only []))
      go_ret
      rw [e.out]
      exact ⟨rfl, k1⟩
    | false =>
      have d0 : ¬ c.toNat = 95 := by simp at b0; omega
      cases b1 : ((c.toNat : Int) == 47) with
      | true =>
        have d1 : c.toNat = 47 := by simp at b1; omega
        have e : Hid (v = true) := Lib.hid (by rw [← hv.out]; simp [lnN, h0, d1])
        clear hv h0 d1 d0
        go_enter Tryz.func34, Tryz.ntmps34
        go_wp2_with (first | (go_at_call 42; refine (isPlain_is c false _ H0).mono ?_; rintro e w1 ⟨rfl, k1⟩; simp only []))
        go_ret
        rw [e.out]
        exact ⟨rfl, k1⟩
      | false =>
        have d1 : ¬ c.toNat = 47 := by simp at b1; omega
        have e : Hid (v = false) := Lib.hid (by rw [← hv.out]; simp [lnN, h0, d0, d1])
        clear hv h0 d0 d1
        go_enter Tryz.func34, Tryz.ntmps34
        go_wp2_with (first | (go_at_call 42; refine (isPlain_is c false _ H0).mono ?_; rintro e w1 ⟨rfl, k1⟩; simp only []))
        go_ret
        rw [e.out]
        exact ⟨rfl, k1⟩

theorem txOk_short {f : UInt8 → Bool} {lo hi : Nat} {s : List UInt8} (h : s.length < lo) : txOk f lo hi s = false := by
  unfold txOk
  rw [decide_eq_false (by omega)]; rfl
theorem txOk_long {f : UInt8 → Bool} {lo hi : Nat} {s : List UInt8} (h : hi < s.length) : txOk f lo hi s = false := by
  unfold txOk
  rw [decide_eq_false (p := s.length ≤ hi) (by omega)]; simp
theorem txOk_in {f : UInt8 → Bool} {lo hi : Nat} {s : List UInt8} (h1 : ¬ s.length < lo) (h2 : ¬ hi < s.length) : txOk f lo hi s = s.all f := by
  unfold txOk
  rw [decide_eq_true (by omega), decide_eq_true (p := s.length ≤ hi) (by omega)]; rfl
theorem all_cut {f : UInt8 → Bool} {s : List UInt8} {i : Nat} (h : i < s.length) (hc : f (s.getD i 0) = false) : s.all f = false := by
  have e : s.getD i 0 = s[i] := by simp [h]
  rw [List.all_eq_false]
  exact ⟨s[i], List.getElem_mem h, by rw [← e, hc]; simp⟩
theorem all_next {f : UInt8 → Bool} {s : List UInt8} {i : Nat} (h : i < s.length) (ha : (s.take i).all f = true) (hc : f (s.getD i 0) = true) : (s.take (i + 1)).all f = true := by
  have e : s.getD i 0 = s[i] := by simp [h]
  rw [e] at hc
  rw [List.take_succ_eq_append_getElem h, List.all_append, ha]
  simp [hc]

set_option maxHeartbeats 800000 in
theorem textP_is (s : List UInt8) (lo hi : Nat) (v : Bool) (w : World) (hs : s.length ≤ 1000) (_ : lo ≤ 100) (hhi : hi ≤ 100) (hv : Hid (txOk lnP lo hi s = v)) :
    Calls Tryz.prog 33 #[.string ⟨s.toArray⟩, .int .i64 (lo : Int), .int .i64 (hi : Int), .func (.func 42) #[] #[]] w fun e w' => e = .returned (.bool v) ∧ Below w.heap.size w w' := by
  have hz := wsize s
  by_cases h1 : s.length < lo
  · have e : Hid (v = false) := Lib.hid (hv.out.symm.trans (txOk_short h1))
    have h1' : (s.length : Int) < (lo : Int) := by omega
    clear hv
    go_enter Tryz.func33, Tryz.ntmps33
    go_wp2
    go_ret
    rw [e.out]
    exact ⟨rfl, Below.refl _ _⟩
  · have h1' : ¬ (s.length : Int) < (lo : Int) := by omega
    by_cases h2 : hi < s.length
    · have e : Hid (v = false) := Lib.hid (hv.out.symm.trans (txOk_long h2))
      have h2' : (hi : Int) < (s.length : Int) := by omega
      clear hv
      go_enter Tryz.func33, Tryz.ntmps33
      go_wp2
      go_ret
      rw [e.out]
      exact ⟨rfl, Below.refl _ _⟩
    · have h2' : ¬ (hi : Int) < (s.length : Int) := by omega
      have V : Hid (v = s.all lnP) := Lib.hid (hv.out.symm.trans (txOk_in h1 h2))
      clear hv
      go_enter Tryz.func33, Tryz.ntmps33
      go_wp2
      go_loopw [22] (fun vi wr => ∃ i : Nat, vi = .int .i64 i ∧ i ≤ s.length ∧ (s.take i).all lnP = true ∧ Below w.heap.size w wr) (fun vi _ => s.length - (intOf vi).toNat)
      case atStart => exact ⟨0, rfl, Nat.zero_le _, by simp, Below.refl _ _⟩
      case round =>
        obtain ⟨i, rfl, i1, ha, hB⟩ := hrel
        have HB := Lib.hid hB
        have HA := Lib.hid ha
        clear ha hB
        by_cases hi : i < s.length
        · have hii : (i : Int) < (s.length : Int) := by omega
          obtain ⟨b, hb⟩ : ∃ b, s.getD i 0 = b := ⟨_, rfl⟩
          have hix := wbyte_at s i hi b hb
          cases hc : lnP b
          · have HC := Lib.hid hc
            have e : Hid (v = false) := Lib.hid (V.out.trans (all_cut hi (by rw [hb]; exact hc)))
            clear hb hc
            go_wp2_with (go_at_call 42; refine (isPlain_is b false _ HC).mono ?_; rintro e w1 ⟨rfl, k1⟩; simp only [])
            go_ret
            rw [e.out]
            exact ⟨rfl, HB.out.trans (k1.mono HB.out.size)⟩
          · have HC := Lib.hid hc
            have HA2 := Lib.hid (all_next hi HA.out (by rw [hb]; exact hc))
            clear hb hc
            go_wp2_with (go_at_call 42; refine (isPlain_is b true _ HC).mono ?_; rintro e w1 ⟨rfl, k1⟩
                         have K1 := Lib.hid k1
                         clear k1
                         simp only [])
            go_roundw
            case rel => exact ⟨i + 1, by go_num, by omega, HA2.out, HB.out.trans (K1.out.mono HB.out.size)⟩
            case measure => simp [intOf]; omega
        · obtain rfl : i = s.length := by omega
          have hii : ¬ ((s.length : Nat) : Int) < (s.length : Int) := by omega
          have e : Hid (v = true) := Lib.hid (V.out.trans (by rw [← HA.out, List.take_length]))
          go_wp2
          go_ret
          rw [e.out]
          exact ⟨rfl, HB.out⟩

set_option maxHeartbeats 800000 in
theorem textS_is (s : List UInt8) (lo hi : Nat) (v : Bool) (w : World) (hs : s.length ≤ 1000) (_ : lo ≤ 100) (hhi : hi ≤ 100) (hv : Hid (txOk lnS lo hi s = v)) :
    Calls Tryz.prog 33 #[.string ⟨s.toArray⟩, .int .i64 (lo : Int), .int .i64 (hi : Int), .func (.func 37) #[] #[]] w fun e w' => e = .returned (.bool v) ∧ Below w.heap.size w w' := by
  have hz := wsize s
  by_cases h1 : s.length < lo
  · have e : Hid (v = false) := Lib.hid (hv.out.symm.trans (txOk_short h1))
    have h1' : (s.length : Int) < (lo : Int) := by omega
    clear hv
    go_enter Tryz.func33, Tryz.ntmps33
    go_wp2
    go_ret
    rw [e.out]
    exact ⟨rfl, Below.refl _ _⟩
  · have h1' : ¬ (s.length : Int) < (lo : Int) := by omega
    by_cases h2 : hi < s.length
    · have e : Hid (v = false) := Lib.hid (hv.out.symm.trans (txOk_long h2))
      have h2' : (hi : Int) < (s.length : Int) := by omega
      clear hv
      go_enter Tryz.func33, Tryz.ntmps33
      go_wp2
      go_ret
      rw [e.out]
      exact ⟨rfl, Below.refl _ _⟩
    · have h2' : ¬ (hi : Int) < (s.length : Int) := by omega
      have V : Hid (v = s.all lnS) := Lib.hid (hv.out.symm.trans (txOk_in h1 h2))
      clear hv
      go_enter Tryz.func33, Tryz.ntmps33
      go_wp2
      go_loopw [22] (fun vi wr => ∃ i : Nat, vi = .int .i64 i ∧ i ≤ s.length ∧ (s.take i).all lnS = true ∧ Below w.heap.size w wr) (fun vi _ => s.length - (intOf vi).toNat)
      case atStart => exact ⟨0, rfl, Nat.zero_le _, by simp, Below.refl _ _⟩
      case round =>
        obtain ⟨i, rfl, i1, ha, hB⟩ := hrel
        have HB := Lib.hid hB
        have HA := Lib.hid ha
        clear ha hB
        by_cases hi : i < s.length
        · have hii : (i : Int) < (s.length : Int) := by omega
          obtain ⟨b, hb⟩ : ∃ b, s.getD i 0 = b := ⟨_, rfl⟩
          have hix := wbyte_at s i hi b hb
          cases hc : lnS b
          · have HC := Lib.hid hc
            have e : Hid (v = false) := Lib.hid (V.out.trans (all_cut hi (by rw [hb]; exact hc)))
            clear hb hc
            go_wp2_with (go_at_call 37; refine (isSetB_is b false _ HC).mono ?_; rintro e w1 ⟨rfl, k1⟩; simp only [])
            go_ret
            rw [e.out]
            exact ⟨rfl, HB.out.trans (k1.mono HB.out.size)⟩
          · have HC := Lib.hid hc
            have HA2 := Lib.hid (all_next hi HA.out (by rw [hb]; exact hc))
            clear hb hc
            go_wp2_with (go_at_call 37; refine (isSetB_is b true _ HC).mono ?_; rintro e w1 ⟨rfl, k1⟩
                         have K1 := Lib.hid k1
                         clear k1
                         simp only [])
            go_roundw
            case rel => exact ⟨i + 1, by go_num, by omega, HA2.out, HB.out.trans (K1.out.mono HB.out.size)⟩
            case measure => simp [intOf]; omega
        · obtain rfl : i = s.length := by omega
          have hii : ¬ ((s.length : Nat) : Int) < (s.length : Int) := by omega
          have e : Hid (v = true) := Lib.hid (V.out.trans (by rw [← HA.out, List.take_length]))
          go_wp2
          go_ret
          rw [e.out]
          exact ⟨rfl, HB.out⟩

set_option maxHeartbeats 800000 in
theorem textN_is (s : List UInt8) (lo hi : Nat) (v : Bool) (w : World) (hs : s.length ≤ 1000) (_ : lo ≤ 100) (hhi : hi ≤ 100) (hv : Hid (txOk lnN lo hi s = v)) :
    Calls Tryz.prog 33 #[.string ⟨s.toArray⟩, .int .i64 (lo : Int), .int .i64 (hi : Int), .func (.func 34) #[] #[]] w fun e w' => e = .returned (.bool v) ∧ Below w.heap.size w w' := by
  have hz := wsize s
  by_cases h1 : s.length < lo
  · have e : Hid (v = false) := Lib.hid (hv.out.symm.trans (txOk_short h1))
    have h1' : (s.length : Int) < (lo : Int) := by omega
    clear hv
    go_enter Tryz.func33, Tryz.ntmps33
    go_wp2
    go_ret
    rw [e.out]
    exact ⟨rfl, Below.refl _ _⟩
  · have h1' : ¬ (s.length : Int) < (lo : Int) := by omega
    by_cases h2 : hi < s.length
    · have e : Hid (v = false) := Lib.hid (hv.out.symm.trans (txOk_long h2))
      have h2' : (hi : Int) < (s.length : Int) := by omega
      clear hv
      go_enter Tryz.func33, Tryz.ntmps33
      go_wp2
      go_ret
      rw [e.out]
      exact ⟨rfl, Below.refl _ _⟩
    · have h2' : ¬ (hi : Int) < (s.length : Int) := by omega
      have V : Hid (v = s.all lnN) := Lib.hid (hv.out.symm.trans (txOk_in h1 h2))
      clear hv
      go_enter Tryz.func33, Tryz.ntmps33
      go_wp2
      go_loopw [22] (fun vi wr => ∃ i : Nat, vi = .int .i64 i ∧ i ≤ s.length ∧ (s.take i).all lnN = true ∧ Below w.heap.size w wr) (fun vi _ => s.length - (intOf vi).toNat)
      case atStart => exact ⟨0, rfl, Nat.zero_le _, by simp, Below.refl _ _⟩
      case round =>
        obtain ⟨i, rfl, i1, ha, hB⟩ := hrel
        have HB := Lib.hid hB
        have HA := Lib.hid ha
        clear ha hB
        by_cases hi : i < s.length
        · have hii : (i : Int) < (s.length : Int) := by omega
          obtain ⟨b, hb⟩ : ∃ b, s.getD i 0 = b := ⟨_, rfl⟩
          have hix := wbyte_at s i hi b hb
          cases hc : lnN b
          · have HC := Lib.hid hc
            have e : Hid (v = false) := Lib.hid (V.out.trans (all_cut hi (by rw [hb]; exact hc)))
            clear hb hc
            go_wp2_with (go_at_call 34; refine (isNameB_is b false _ HC).mono ?_; rintro e w1 ⟨rfl, k1⟩; simp only [])
            go_ret
            rw [e.out]
            exact ⟨rfl, HB.out.trans (k1.mono HB.out.size)⟩
          · have HC := Lib.hid hc
            have HA2 := Lib.hid (all_next hi HA.out (by rw [hb]; exact hc))
            clear hb hc
            go_wp2_with (go_at_call 34; refine (isNameB_is b true _ HC).mono ?_; rintro e w1 ⟨rfl, k1⟩
                         have K1 := Lib.hid k1
                         clear k1
                         simp only [])
            go_roundw
            case rel => exact ⟨i + 1, by go_num, by omega, HA2.out, HB.out.trans (K1.out.mono HB.out.size)⟩
            case measure => simp [intOf]; omega
        · obtain rfl : i = s.length := by omega
          have hii : ¬ ((s.length : Nat) : Int) < (s.length : Int) := by omega
          have e : Hid (v = true) := Lib.hid (V.out.trans (by rw [← HA.out, List.take_length]))
          go_wp2
          go_ret
          rw [e.out]
          exact ⟨rfl, HB.out⟩
end Go.Proofs.YtfmehdophoejiaaGreatDoor
