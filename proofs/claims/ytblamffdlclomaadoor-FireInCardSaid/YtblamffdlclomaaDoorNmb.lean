/- Plain facts on numbers in decimal digits: which texts the reference takes, and that these are the numerals of up to nine digits; no program is named. -/
import Derived.Lib.ItoaNum
import Derived.Lib.AtoiAllCases
namespace Go.Proofs.YtblamffdlclomaaDoor
open Go

def isDg (c : UInt8) : Bool := decide (48 ≤ c.toNat) && decide (c.toNat ≤ 57)
def allDg (l : List UInt8) : Bool := l.all isDg
def valD (acc : Nat) (l : List UInt8) : Nat := l.foldl (fun a c => 10 * a + (c.toNat - 48)) acc
/-- The digits that may be a number: one to nine, no 0 ahead of others. -/
def okDig (l : List UInt8) : Bool := decide (1 ≤ l.length) && decide (l.length ≤ 9) && !(decide (1 < l.length) && decide (l.head? = some 48)) && allDg l
/-- The number that a text is. -/
def numR (s : List UInt8) : Option Int :=
  if s.head? = some 45 then (if okDig (s.drop 1) = true ∧ s.drop 1 ≠ [48] then some (-(valD 0 (s.drop 1) : Int)) else none)
  else if okDig s = true then some (valD 0 s : Int) else none

theorem valD_snoc (a : Nat) (l : List UInt8) (c : UInt8) : valD a (l ++ [c]) = 10 * valD a l + (c.toNat - 48) := by simp [valD]
theorem allDg_snoc (l : List UInt8) (c : UInt8) : allDg (l ++ [c]) = (allDg l && isDg c) := by simp [allDg]
theorem isDg_iff {c : UInt8} : isDg c = true ↔ 48 ≤ c.toNat ∧ c.toNat ≤ 57 := by simp [isDg]
theorem dig_of {c : UInt8} (h : isDg c = true) : UInt8.ofNat (48 + (c.toNat - 48)) = c := by
  have := isDg_iff.1 h
  apply UInt8.toNat_inj.1
  rw [UInt8.toNat_ofNat']; omega
theorem isDg_mk {d : Nat} (h : d < 10) : isDg (UInt8.ofNat (48 + d)) = true := by
  rw [isDg_iff, UInt8.toNat_ofNat']; omega
theorem ofNat_sub {d : Nat} (h : d < 10) : (UInt8.ofNat (48 + d)).toNat - 48 = d := by rw [UInt8.toNat_ofNat']; omega

theorem valD_lt : ∀ (l : List UInt8) (a : Nat), allDg l = true → valD a l < (a + 1) * 10 ^ l.length
  | [], a, _ => by simp [valD]
  | c :: r, a, h => by
    simp only [allDg, List.all_cons, Bool.and_eq_true] at h
    have hc := isDg_iff.1 h.1
    have ih := valD_lt r (10 * a + (c.toNat - 48)) h.2
    have e : valD a (c :: r) = valD (10 * a + (c.toNat - 48)) r := rfl
    rw [e, List.length_cons, Nat.pow_succ']
    refine Nat.lt_of_lt_of_le ih ?_
    rw [← Nat.mul_assoc]
    exact Nat.mul_le_mul_right _ (by omega)
theorem valD_ge : ∀ (l : List UInt8) (a : Nat), a ≤ valD a l
  | [], a => Nat.le_refl _
  | c :: r, a => by
    have := valD_ge r (10 * a + (c.toNat - 48))
    have e : valD a (c :: r) = valD (10 * a + (c.toNat - 48)) r := rfl
    rw [e]; omega

/-- Digits with no 0 ahead of others are the numeral of their value. -/
theorem dec_val : ∀ (n : Nat) (l : List UInt8), l.length = n → 1 ≤ n → (n = 1 ∨ l.head? ≠ some 48) → allDg l = true → Lib.decDigits (valD 0 l) = l
  | 0, l, _, h, _, _ => by omega
  | n + 1, l, hl, _, hz, hd => by
    obtain ⟨t, c, rfl⟩ : ∃ t c, l = t ++ [c] := by
      have hne : l ≠ [] := by intro e; rw [e] at hl; simp at hl
      exact ⟨_, _, (List.dropLast_concat_getLast hne).symm⟩
    rw [allDg_snoc, Bool.and_eq_true] at hd
    have hc := isDg_iff.1 hd.2
    rw [valD_snoc]
    cases t with
    | nil =>
      have e : valD 0 [] = 0 := rfl
      rw [e, Nat.mul_zero, Nat.zero_add, Lib.decDigits_one (by omega), dig_of hd.2]; rfl
    | cons b t =>
      have hn : n = t.length + 1 := by simp at hl; omega
      have hb : b ≠ 48 := by
        rcases hz with hz | hz
        · omega
        · simpa using hz
      have hdb : isDg b = true := by
        have := hd.1
        simp only [allDg, List.all_cons, Bool.and_eq_true] at this
        exact this.1
      have h1 : 1 ≤ valD 0 (b :: t) := by
        have e : valD 0 (b :: t) = valD (10 * 0 + (b.toNat - 48)) t := rfl
        have := valD_ge t (10 * 0 + (b.toNat - 48))
        have := isDg_iff.1 hdb
        have : b.toNat ≠ 48 := fun e => hb (UInt8.toNat_inj.1 e)
        omega
      have ih := dec_val n (b :: t) (by simp [hn]) (by omega) (.inr (by simpa using hb)) hd.1
      rw [Lib.decDigits, dif_neg (by omega), show (10 * valD 0 (b :: t) + (c.toNat - 48)) / 10 = valD 0 (b :: t) by omega, show (10 * valD 0 (b :: t) + (c.toNat - 48)) % 10 = c.toNat - 48 by omega, ih, dig_of hd.2]
/-- The numeral of a number below 10^9. -/
theorem dec_ok : ∀ (n : Nat), allDg (Lib.decDigits n) = true ∧ valD 0 (Lib.decDigits n) = n ∧ 1 ≤ (Lib.decDigits n).length ∧ (1 ≤ n → (Lib.decDigits n).head? ≠ some 48) := by
  intro n
  induction n using Nat.strongRecOn with
  | _ n ih =>
    by_cases h : n < 10
    · rw [Lib.decDigits_one h]
      refine ⟨by show (isDg _ && true) = true; rw [isDg_mk h]; rfl, ?_, by simp, ?_⟩
      · show 10 * 0 + ((UInt8.ofNat (48 + n)).toNat - 48) = n
        rw [ofNat_sub h]; omega
      · intro h1 e
        have e2 := congrArg UInt8.toNat (Option.some.inj e)
        rw [UInt8.toNat_ofNat'] at e2
        have : (48 : UInt8).toNat = 48 := rfl
        omega
    · have e : Lib.decDigits n = Lib.decDigits (n / 10) ++ [UInt8.ofNat (48 + n % 10)] := by rw [Lib.decDigits, dif_neg h]
      obtain ⟨i1, i2, i3, i4⟩ := ih (n / 10) (by omega)
      rw [e]
      refine ⟨by rw [allDg_snoc, i1, isDg_mk (by omega)]; rfl, by rw [valD_snoc, i2, ofNat_sub (by omega)]; omega, by simp, fun _ => ?_⟩
      have := i4 (by omega)
      cases hd : Lib.decDigits (n / 10) with
      | nil => rw [hd] at i3; simp at i3
      | cons b t => rw [hd] at this; simpa using this
theorem nDig_lt : ∀ (k n : Nat), n < 10 ^ (k + 1) → Lib.nDigits n ≤ k + 1
  | 0, n, h => by rw [Lib.nDigits_small (by simpa using h)]; omega
  | k + 1, n, h => by
    by_cases c : n < 10
    · rw [Lib.nDigits_small c]; omega
    · rw [Lib.nDigits_big c]
      rw [Nat.pow_succ] at h
      have := nDig_lt k (n / 10) (by omega)
      omega

theorem okDig_dec {n : Nat} (h : n < 1000000000) : okDig (Lib.decDigits n) = true := by
  obtain ⟨h1, h2, h3, h4⟩ := dec_ok n
  have h5 : (Lib.decDigits n).length ≤ 9 := by rw [Lib.decDigits_length]; exact nDig_lt 8 n (by omega)
  unfold okDig
  rw [h1, decide_eq_true h3, decide_eq_true h5]
  by_cases hz : n = 0
  · subst hz; rw [Lib.decDigits_one (by omega)]; decide
  · simp [h4 (by omega)]
theorem okDig_of {l : List UInt8} (h : okDig l = true) : Lib.decDigits (valD 0 l) = l ∧ valD 0 l < 1000000000 := by
  simp only [okDig, Bool.and_eq_true, decide_eq_true_eq, Bool.not_eq_true', Bool.and_eq_false_iff, decide_eq_false_iff_not] at h
  obtain ⟨⟨⟨h1, h2⟩, h3⟩, h4⟩ := h
  refine ⟨dec_val l.length l rfl h1 (h3.elim (fun h => .inl (by omega)) .inr) h4, ?_⟩
  have := valD_lt l 0 h4
  have h5 : 10 ^ l.length ≤ 10 ^ 9 := Nat.pow_le_pow_right (by omega) h2
  omega

theorem itoa_pos (n : Nat) : Lib.itoa (n : Int) = Lib.decDigits n := by unfold Lib.itoa; rw [if_neg (by omega)]; simp
theorem itoa_min (n : Nat) (h : 1 ≤ n) : Lib.itoa (-(n : Int)) = 45 :: Lib.decDigits n := by unfold Lib.itoa; rw [if_pos (by omega)]; simp

/-- What the reference takes is a numeral .. -/
theorem numR_some {s : List UInt8} {v : Int} (h : numR s = some v) : Lib.itoa v = s ∧ -1000000000 < v ∧ v < 1000000000 := by
  unfold numR at h
  split at h
  · rename_i hd
    split at h
    · rename_i hk
      obtain ⟨hk, h0⟩ := hk
      injection h with h
      subst h
      obtain ⟨e, hv⟩ := okDig_of hk
      have h1 : 1 ≤ valD 0 (s.drop 1) := by
        refine Nat.one_le_iff_ne_zero.2 fun hz => h0 ?_
        rw [← e, hz]; exact Lib.decDigits_one (by omega)
      rw [itoa_min _ h1, e]
      refine ⟨?_, by omega, by omega⟩
      cases s with
      | nil => simp at hd
      | cons c r => simp at hd; simp [hd]
    · cases h
  · split at h
    · rename_i hk
      injection h with h
      subst h
      obtain ⟨e, hv⟩ := okDig_of hk
      rw [itoa_pos, e]
      exact ⟨rfl, by omega, by omega⟩
    · cases h
/-- .. and every numeral of up to nine digits is taken. -/
theorem numR_itoa {v : Int} (h1 : -1000000000 < v) (h2 : v < 1000000000) : numR (Lib.itoa v) = some v := by
  by_cases h : 0 ≤ v
  · obtain ⟨n, rfl⟩ : ∃ n : Nat, v = n := ⟨v.toNat, by omega⟩
    have hk := okDig_dec (n := n) (by omega)
    obtain ⟨d1, d2, d3, _⟩ := dec_ok n
    rw [itoa_pos]
    unfold numR
    have hh : (Lib.decDigits n).head? ≠ some 45 := by
      cases hd : Lib.decDigits n with
      | nil => simp
      | cons b t =>
        rw [hd] at d1
        simp only [allDg, List.all_cons, Bool.and_eq_true] at d1
        have := isDg_iff.1 d1.1
        simp only [List.head?_cons, ne_eq, Option.some.injEq]
        rintro rfl
        exact absurd this (by decide)
    rw [if_neg hh, if_pos hk, d2]
  · obtain ⟨n, rfl, hn⟩ : ∃ n : Nat, v = -(n : Int) ∧ 1 ≤ n := ⟨(-v).toNat, by omega, by omega⟩
    have hk := okDig_dec (n := n) (by omega)
    obtain ⟨d1, d2, d3, _⟩ := dec_ok n
    rw [itoa_min n hn]
    unfold numR
    rw [if_pos (by simp), if_pos, List.drop_one, List.tail_cons, d2]
    refine ⟨hk, ?_⟩
    show Lib.decDigits n ≠ [48]
    intro e
    rw [e] at d2
    have : valD 0 [48] = 0 := by decide
    omega

theorem parse_dig : ∀ (l : List UInt8) (a : Nat), allDg l = true → (a + 1) * 10 ^ l.length ≤ 1000000000 → Lib.parseUint10 a l = .ok (valD a l)
  | [], a, _, _ => rfl
  | c :: r, a, h, hb => by
    simp only [allDg, List.all_cons, Bool.and_eq_true] at h
    have hc := isDg_iff.1 h.1
    rw [List.length_cons, Nat.pow_succ', ← Nat.mul_assoc] at hb
    have hp : 1 ≤ 10 ^ r.length := Nat.one_le_pow _ _ (by omega)
    have h1 : (a + 1) * 10 * 1 ≤ (a + 1) * 10 * 10 ^ r.length := Nat.mul_le_mul_left _ hp
    have ih := parse_dig r (10 * a + (c.toNat - 48)) h.2 (Nat.le_trans (Nat.mul_le_mul_right _ (by omega)) hb)
    unfold Lib.parseUint10
    rw [if_pos hc, if_neg (by omega), if_neg (by omega), Nat.mul_comm a 10, ih]; rfl
theorem dec_len {n : Nat} (h : n < 1000000000) : (0 + 1) * 10 ^ (Lib.decDigits n).length ≤ 1000000000 := by
  have h5 : (Lib.decDigits n).length ≤ 9 := by rw [Lib.decDigits_length]; exact nDig_lt 8 n (by omega)
  have := Nat.pow_le_pow_right (n := 10) (by omega) h5
  omega
/-- Atoi of a numeral of up to nine digits is the number. -/
theorem atoi_itoa {v : Int} (h1 : -1000000000 < v) (h2 : v < 1000000000) : Lib.atoiAll (Lib.itoa v) = .ok v := by
  by_cases h : 0 ≤ v
  · obtain ⟨n, rfl⟩ : ∃ n : Nat, v = n := ⟨v.toNat, by omega⟩
    obtain ⟨d1, d2, d3, _⟩ := dec_ok n
    have hp := parse_dig (Lib.decDigits n) 0 d1 (dec_len (by omega))
    rw [itoa_pos]
    cases hd : Lib.decDigits n with
    | nil => rw [hd] at d3; simp at d3
    | cons b t =>
      rw [hd] at d1 d2 hp
      have hb : isDg b = true := by simp only [allDg, List.all_cons, Bool.and_eq_true] at d1; exact d1.1
      have := isDg_iff.1 hb
      rw [Lib.atoiAll_plain b t (by omega) (by omega)]
      unfold Lib.parseMag
      rw [if_neg (by simp), hp, d2]
      unfold Lib.signless
      show (if _ then _ else _) = _
      rw [if_neg (by omega)]
  · obtain ⟨n, rfl, hn⟩ : ∃ n : Nat, v = -(n : Int) ∧ 1 ≤ n := ⟨(-v).toNat, by omega, by omega⟩
    obtain ⟨d1, d2, d3, _⟩ := dec_ok n
    have hp := parse_dig (Lib.decDigits n) 0 d1 (dec_len (by omega))
    rw [itoa_min n hn, Lib.atoiAll_minus]
    unfold Lib.parseMag
    rw [if_neg (by intro e; rw [e] at d3; simp at d3), hp, d2]
    unfold Lib.signed
    show (if _ then _ else _) = _
    rw [if_neg (by omega)]

/-- Whether what Atoi answers is the number that is written so. -/
def numOk (s : List UInt8) : Bool := (numR s).isSome
def numV (s : List UInt8) : Int := (numR s).getD 0
theorem numR_none {s : List UInt8} {v : Int} (h : numR s = none) (h1 : -1000000000 < v) (h2 : v < 1000000000) : Lib.itoa v ≠ s := fun e => by
  have := numR_itoa h1 h2
  rw [e, h] at this
  cases this
end Go.Proofs.YtblamffdlclomaaDoor
