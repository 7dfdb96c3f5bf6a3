/- Plain facts on words: what is short for what, of lists of words in small letters; no program is named.
Plain facts on numbers in decimal digits: which texts the reference takes, and that these are the numerals of up to nine digits; no program is named.
Plain facts on days of a month: which may be, which text each one is, which day a text is, and which day of the calendar it is in a month; no program is named.
The contracts of dayform.Check and dayform.start: whether a day of a month may be, and where the search for its date begins; nothing that was in memory changes. -/
import Derived.Lib.MapLaws
import Derived.Lib.Hide
import Derived.Lib.ItoaNum
import Derived.Lib.AtoiAllCases
import Derived.Test.YtdmfgechoanmlaaGreatDoorMZA
import Derived.Lib.Index
namespace Go.Proofs.YtdmfgechoanmlaaGreatDoor
open Go

/-- A letter, small. -/
def lowB (c : UInt8) : UInt8 := if 65 ≤ c.toNat ∧ c.toNat ≤ 90 then c + 32 else c
def low (l : List UInt8) : List UInt8 := l.map lowB

def begins (b w : List UInt8) : Bool := !b.isEmpty && b.isPrefixOf w
/-- Which places have words that b is short for, and whether it is all of the word. -/
def meantL (b : List UInt8) : List (List UInt8) → Nat → List (Nat × Bool)
  | [], _ => []
  | w :: ws, i => if begins b w then (i, decide (b = w)) :: meantL b ws (i + 1) else meantL b ws (i + 1)
/-- Which place is meant: the word itself, or the only one. -/
def scan (b : List UInt8) : List (List UInt8) → Nat → Nat → Nat → Option Nat
  | [], _, many, found => if many = 1 then some found else none
  | w :: ws, i, many, found => if w = b then some i else if begins b w then scan b ws (i + 1) (many + 1) i else scan b ws (i + 1) many found
def findL (b : List UInt8) (ws : List (List UInt8)) : Option Nat := scan b ws 0 0 0

theorem begins_nil (w : List UInt8) : begins [] w = false := rfl
theorem begins_self {w : List UInt8} (h : w ≠ []) : begins w w = true := by
  unfold begins
  rw [Bool.and_eq_true]
  exact ⟨by cases w <;> simp_all, List.isPrefixOf_iff_prefix.2 (List.prefix_refl w)⟩
theorem begins_iff {b w : List UInt8} : begins b w = true ↔ b ≠ [] ∧ b <+: w := by
  unfold begins
  rw [Bool.and_eq_true, List.isPrefixOf_iff_prefix]
  cases b <;> simp

/-- The last place, found so far. -/
def lastP (d : Nat) (xs : List (Nat × Bool)) : Nat := (xs.getLast?.map (·.1)).getD d
theorem lastP_snoc (d : Nat) (xs : List (Nat × Bool)) (x : Nat × Bool) : lastP d (xs ++ [x]) = x.1 := by simp [lastP]
theorem lastP_cons (d : Nat) (x : Nat × Bool) (xs : List (Nat × Bool)) : lastP d (x :: xs) = lastP x.1 xs := by
  unfold lastP
  cases xs with
  | nil => rfl
  | cons y ys =>
    rw [List.getLast?_cons_cons]
    cases h : (y :: ys).getLast? with
    | none => simp at h
    | some z => rfl
def noneW (xs : List (Nat × Bool)) : Bool := xs.all fun x => !x.2
theorem noneW_snoc (xs : List (Nat × Bool)) (x : Nat × Bool) : noneW (xs ++ [x]) = (noneW xs && !x.2) := by simp [noneW]

theorem scan_none (b : List UInt8) : ∀ (ws : List (List UInt8)) (i many found : Nat), (∀ w ∈ ws, w ≠ []) → noneW (meantL b ws i) = true →
    scan b ws i many found = if many + (meantL b ws i).length = 1 then some (lastP found (meantL b ws i)) else none
  | [], i, many, found, _, _ => rfl
  | w :: ws, i, many, found, hw, h => by
    have ih := fun m f => scan_none b ws (i + 1) m f (fun x hx => hw x (List.mem_cons_of_mem _ hx))
    unfold scan
    by_cases hb : begins b w = true
    · simp only [meantL, if_pos hb] at h ⊢
      simp only [noneW, List.all_cons, Bool.and_eq_true, Bool.not_eq_true', decide_eq_false_iff_not] at h
      rw [if_neg (fun e => h.1 e.symm), ih _ _ h.2, lastP_cons, List.length_cons]
      congr 1
      apply propext; omega
    · simp only [meantL, if_neg hb] at h ⊢
      have hne : w ≠ b := fun e => hb (e ▸ begins_self (hw w (List.mem_cons_self ..)))
      rw [if_neg hne, ih _ _ h]

theorem scan_some (b : List UInt8) : ∀ (ws : List (List UInt8)) (i many found : Nat) (pre rest : List (Nat × Bool)) (p : Nat), (∀ w ∈ ws, w ≠ []) → noneW pre = true → meantL b ws i = pre ++ (p, true) :: rest →
    scan b ws i many found = some p
  | [], i, many, found, pre, rest, p, _, _, h => by cases pre <;> simp [meantL] at h
  | w :: ws, i, many, found, pre, rest, p, hw, hn, h => by
    have ih := fun m f pre => scan_some b ws (i + 1) m f pre rest p (fun x hx => hw x (List.mem_cons_of_mem _ hx))
    unfold scan
    by_cases hb : begins b w = true
    · simp only [meantL, if_pos hb] at h
      cases pre with
      | nil =>
        simp only [List.nil_append, List.cons.injEq, Prod.mk.injEq, decide_eq_true_eq] at h
        rw [if_pos h.1.2.symm, h.1.1]
      | cons x pre =>
        simp only [List.cons_append, List.cons.injEq] at h
        obtain ⟨rfl, h⟩ := h
        simp only [noneW, List.all_cons, Bool.and_eq_true, Bool.not_eq_true', decide_eq_false_iff_not] at hn
        rw [if_neg (fun e => hn.1 e.symm), if_pos hb]
        exact ih _ _ pre hn.2 h
    · simp only [meantL, if_neg hb] at h
      have hne : w ≠ b := fun e => hb (e ▸ begins_self (hw w (List.mem_cons_self ..)))
      rw [if_neg hne, if_neg hb]
      exact ih _ _ pre hn h

theorem meantL_len (b : List UInt8) : ∀ (ws : List (List UInt8)) (i : Nat), (meantL b ws i).length ≤ ws.length
  | [], _ => by simp [meantL]
  | w :: ws, i => by
    have := meantL_len b ws (i + 1)
    unfold meantL
    split
    · simp; omega
    · simp; omega
theorem meantL_lt (b : List UInt8) : ∀ (ws : List (List UInt8)) (i : Nat), ∀ x ∈ meantL b ws i, x.1 < i + ws.length
  | [], _, x, h => by simp [meantL] at h
  | w :: ws, i, x, h => by
    have ih := meantL_lt b ws (i + 1) x
    simp only [meantL] at h
    split at h
    · rcases List.mem_cons.1 h with rfl | h
      · simp
      · have := ih h; simp; omega
    · have := ih h; simp; omega
theorem lastP_lt {d n : Nat} (xs : List (Nat × Bool)) (hd : d < n) (h : ∀ x ∈ xs, x.1 < n) : lastP d xs < n := by
  unfold lastP
  cases hx : xs.getLast? with
  | none => exact hd
  | some y => exact h y (List.mem_of_getLast? hx)

/-- What comes out of a call: the place, so many more, or that there is none. -/
def resN (o : Option Nat) (more : Nat) : Nat := match o with | some p => p + more | none => 0
def resE (o : Option Nat) : Nat := match o with | some _ => 0 | none => 13

/-! ### The small letters of strings.Map -/
def smallZ (r : Int) : Int := if 65 ≤ r ∧ r ≤ 90 then r + 32 else r
theorem smallZ_bd (x : Nat) (h : x ≤ 1114111) : 0 ≤ smallZ x ∧ smallZ x ≤ 2147483647 := by unfold smallZ; split <;> omega

def ascii (w : List UInt8) : Prop := ∀ c ∈ w, c.toNat < 128
theorem decode_one {c : UInt8} (r : List UInt8) (h : c.toNat < 128) : Lib.decodeL (c :: r) = (c.toNat, 1) := by
  unfold Lib.decodeL Utf8.decode
  have e : (⟨(c :: r).toArray⟩ : ByteArray).get! 0 = c := rfl
  have e1 : 0 < (⟨(c :: r).toArray⟩ : ByteArray).size := by simp [ByteArray.size]
  simp [e, h]
theorem decode_big {c : UInt8} (r : List UInt8) (h : ¬ c.toNat < 128) : 128 ≤ (Lib.decodeL (c :: r)).1 := by
  have hne : c :: r ≠ [] := by simp
  by_cases hv : (Lib.decodeL (c :: r)).1 = 65533 ∧ (Lib.decodeL (c :: r)).2 = 1
  · rw [hv.1]; decide
  · refine Nat.le_of_not_lt fun hlt => ?_
    have e := Lib.encode_decode (c :: r) hne hv
    have e2 : Lib.encodeRune ((Lib.decodeL (c :: r)).1 : Int) = [(Lib.decodeL (c :: r)).1.toUInt8] := by
      unfold Lib.encodeRune
      rw [Lib.encodeRuneZ_one (by omega) (by omega)]; simp
    rw [e2] at e
    have e3 := congrArg List.head? e
    have hw := Lib.width_pos ⟨(c :: r).toArray⟩ 0
    cases hk : (Lib.decodeL (c :: r)).2 with
    | zero => have : (Utf8.decode ⟨(c :: r).toArray⟩ 0).2 = 0 := hk; omega
    | succ k =>
      rw [hk] at e3
      simp only [List.take_succ_cons, List.head?_cons, Option.some.injEq] at e3
      apply h
      rw [← e3]
      have : (Lib.decodeL (c :: r)).1 % 256 = (Lib.decodeL (c :: r)).1 := Nat.mod_eq_of_lt (by omega)
      show (Lib.decodeL (c :: r)).1.toUInt8.toNat < 128
      simp only [Nat.toUInt8, UInt8.toNat_ofNat']
      omega
theorem encode_big {r : Int} (h : 128 ≤ r) : ∃ c t, Lib.encodeRune r = c :: t ∧ 128 ≤ c.toNat := by
  unfold Lib.encodeRune Lib.encodeRuneZ
  rw [if_neg (by omega)]
  have big : ∀ x : Int, 128 ≤ x → x < 256 → 128 ≤ (x.toNat.toUInt8).toNat := by
    intro x h1 h2
    simp only [Nat.toUInt8, UInt8.toNat_ofNat']
    omega
  split
  · exact ⟨_, _, rfl, big _ (by omega) (by omega)⟩
  · split
    · exact ⟨_, _, rfl, big _ (by omega) (by omega)⟩
    · split
      · exact ⟨_, _, rfl, big _ (by omega) (by omega)⟩
      · exact ⟨_, _, rfl, by decide⟩

/-- Two texts that are alike as beginnings of words. -/
def Alike (s t : List UInt8) : Prop := ∀ w, ascii w → (s <+: w ↔ t <+: w) ∧ (s = w ↔ t = w)
theorem Alike.cons {s t : List UInt8} (h : Alike s t) (c : UInt8) : Alike (c :: s) (c :: t) := by
  intro w hw
  cases w with
  | nil => simp
  | cons d w =>
    have := h w fun x hx => hw x (List.mem_cons_of_mem _ hx)
    simp only [List.cons_prefix_cons, List.cons.injEq, this.1, this.2, and_self]
theorem alike_big {c d : UInt8} {s t : List UInt8} (hc : 128 ≤ c.toNat) (hd : 128 ≤ d.toNat) : Alike (c :: s) (d :: t) := by
  intro w hw
  cases w with
  | nil => simp
  | cons e w =>
    have := hw e (List.mem_cons_self ..)
    have h1 : c ≠ e := fun h => by subst h; omega
    have h2 : d ≠ e := fun h => by subst h; omega
    simp [List.cons_prefix_cons, h1, h2]
theorem lowB_toNat (c : UInt8) : (lowB c).toNat = if 65 ≤ c.toNat ∧ c.toNat ≤ 90 then c.toNat + 32 else c.toNat := by
  unfold lowB
  split
  · rw [UInt8.toNat_add]; show (c.toNat + 32) % 256 = _; omega
  · rfl
theorem map_alike : ∀ (n : Nat) (s : List UInt8), s.length ≤ n → Alike (Lib.mapD smallZ s) (low s)
  | _, [], _ => fun w _ => by simp [Lib.mapD_nil, low]
  | 0, c :: r, h => by simp at h
  | n + 1, c :: r, h => by
    rw [Lib.mapD_step smallZ (c :: r) (by simp)]
    show Alike _ (lowB c :: low r)
    by_cases hc : c.toNat < 128
    · rw [decode_one r hc]
      have e : Lib.encodeRune (smallZ (c.toNat : Int)) = [lowB c] := by
        unfold Lib.encodeRune
        have hb : 0 ≤ smallZ c.toNat ∧ smallZ c.toNat ≤ 127 := by unfold smallZ; split <;> omega
        rw [Lib.encodeRuneZ_one hb.1 hb.2]
        show [(smallZ c.toNat).toNat.toUInt8] = _
        congr 1
        apply UInt8.toNat_inj.1
        rw [lowB_toNat]
        simp only [Nat.toUInt8, UInt8.toNat_ofNat']
        unfold smallZ
        split <;> rename_i h1 <;> split <;> omega
      rw [if_pos (by unfold smallZ; split <;> omega), e]
      exact (map_alike n r (by simpa using h)).cons _
    · have hb := decode_big r hc
      have e : smallZ ((Lib.decodeL (c :: r)).1 : Int) = (Lib.decodeL (c :: r)).1 := by unfold smallZ; rw [if_neg (by omega)]
      rw [e, if_pos (by omega)]
      obtain ⟨d, t, he, hd⟩ := encode_big (r := ((Lib.decodeL (c :: r)).1 : Int)) (by omega)
      rw [he]
      refine alike_big hd ?_
      rw [lowB_toNat]; split <;> omega
theorem alike_meant {s t : List UInt8} (h : Alike s t) : ∀ (ws : List (List UInt8)) (i : Nat), (∀ w ∈ ws, ascii w) → meantL s ws i = meantL t ws i
  | [], _, _ => rfl
  | w :: ws, i, hw => by
    have a := h w (hw w (List.mem_cons_self ..))
    have b := h [] (fun c hc => by simp at hc)
    have e : begins s w = begins t w := by
      rw [Bool.eq_iff_iff, begins_iff, begins_iff, a.1]
      simp only [ne_eq, b.2]
    have d : decide (s = w) = decide (t = w) := by simp [a.2]
    simp only [meantL, e, d, alike_meant h ws (i + 1) fun x hx => hw x (List.mem_cons_of_mem _ hx)]
theorem map_meant (s : List UInt8) (ws : List (List UInt8)) (hw : ∀ w ∈ ws, ascii w) : meantL (Lib.mapD smallZ s) ws 0 = meantL (low s) ws 0 := alike_meant (map_alike s.length s (Nat.le_refl _)) ws 0 hw
end Go.Proofs.YtdmfgechoanmlaaGreatDoor

namespace Go.Proofs.YtdmfgechoanmlaaGreatDoor
open Go

def isDg (c : UInt8) : Bool := decide (48 ≤ c.toNat) && decide (c.toNat ≤ 57)
def allDg (l : List UInt8) : Bool := l.all isDg
def valD (acc : Nat) (l : List UInt8) : Nat := l.foldl (fun a c => 10 * a + (c.toNat - 48)) acc
/-- The digits that may be a number: one to nine, no 0 ahead of others. -/
def okDig (l : List UInt8) : Bool := decide (1 ≤ l.length) && decide (l.length ≤ 9) && !(decide (1 < l.length) && decide (l.head? = some 48)) && allDg l
/-- The number that a text is. -/
def numR (s : List UInt8) : Option Int :=
  if s.head? = some 45 then (if okDig (s.drop 1) = true ∧ s.drop 1 ≠ [48] then some (-(valD 0 (s.drop 1) : Int)) else none)
  else if okDig s = true then some (valD 0 s : Int) else none

theorem valD_snoc (a : Nat) (l : List UInt8) (c : UInt8) : valD a (l ++ [c]) = 10 * valD a l + (c.toNat - 48) := by simp [valD]
theorem allDg_snoc (l : List UInt8) (c : UInt8) : allDg (l ++ [c]) = (allDg l && isDg c) := by simp [allDg]
theorem isDg_iff {c : UInt8} : isDg c = true ↔ 48 ≤ c.toNat ∧ c.toNat ≤ 57 := by simp [isDg]
theorem dig_of {c : UInt8} (h : isDg c = true) : UInt8.ofNat (48 + (c.toNat - 48)) = c := by
  have := isDg_iff.1 h
  apply UInt8.toNat_inj.1
  rw [UInt8.toNat_ofNat']; omega
theorem isDg_mk {d : Nat} (h : d < 10) : isDg (UInt8.ofNat (48 + d)) = true := by
  rw [isDg_iff, UInt8.toNat_ofNat']; omega
theorem ofNat_sub {d : Nat} (h : d < 10) : (UInt8.ofNat (48 + d)).toNat - 48 = d := by rw [UInt8.toNat_ofNat']; omega

theorem valD_lt : ∀ (l : List UInt8) (a : Nat), allDg l = true → valD a l < (a + 1) * 10 ^ l.length
  | [], a, _ => by simp [valD]
  | c :: r, a, h => by
    simp only [allDg, List.all_cons, Bool.and_eq_true] at h
    have hc := isDg_iff.1 h.1
    have ih := valD_lt r (10 * a + (c.toNat - 48)) h.2
    have e : valD a (c :: r) = valD (10 * a + (c.toNat - 48)) r := rfl
    rw [e, List.length_cons, Nat.pow_succ']
    refine Nat.lt_of_lt_of_le ih ?_
    rw [← Nat.mul_assoc]
    exact Nat.mul_le_mul_right _ (by omega)
theorem valD_ge : ∀ (l : List UInt8) (a : Nat), a ≤ valD a l
  | [], a => Nat.le_refl _
  | c :: r, a => by
    have := valD_ge r (10 * a + (c.toNat - 48))
    have e : valD a (c :: r) = valD (10 * a + (c.toNat - 48)) r := rfl
    rw [e]; omega

/-- Digits with no 0 ahead of others are the numeral of their value. -/
theorem dec_val : ∀ (n : Nat) (l : List UInt8), l.length = n → 1 ≤ n → (n = 1 ∨ l.head? ≠ some 48) → allDg l = true → Lib.decDigits (valD 0 l) = l
  | 0, l, _, h, _, _ => by omega
  | n + 1, l, hl, _, hz, hd => by
    obtain ⟨t, c, rfl⟩ : ∃ t c, l = t ++ [c] := by
      have hne : l ≠ [] := by intro e; rw [e] at hl; simp at hl
      exact ⟨_, _, (List.dropLast_concat_getLast hne).symm⟩
    rw [allDg_snoc, Bool.and_eq_true] at hd
    have hc := isDg_iff.1 hd.2
    rw [valD_snoc]
    cases t with
    | nil =>
      have e : valD 0 [] = 0 := rfl
      rw [e, Nat.mul_zero, Nat.zero_add, Lib.decDigits_one (by omega), dig_of hd.2]; rfl
    | cons b t =>
      have hn : n = t.length + 1 := by simp at hl; omega
      have hb : b ≠ 48 := by
        rcases hz with hz | hz
        · omega
        · simpa using hz
      have hdb : isDg b = true := by
        have := hd.1
        simp only [allDg, List.all_cons, Bool.and_eq_true] at this
        exact this.1
      have h1 : 1 ≤ valD 0 (b :: t) := by
        have e : valD 0 (b :: t) = valD (10 * 0 + (b.toNat - 48)) t := rfl
        have := valD_ge t (10 * 0 + (b.toNat - 48))
        have := isDg_iff.1 hdb
        have : b.toNat ≠ 48 := fun e => hb (UInt8.toNat_inj.1 e)
        omega
      have ih := dec_val n (b :: t) (by simp [hn]) (by omega) (.inr (by simpa using hb)) hd.1
      rw [Lib.decDigits, dif_neg (by omega), show (10 * valD 0 (b :: t) + (c.toNat - 48)) / 10 = valD 0 (b :: t) by omega, show (10 * valD 0 (b :: t) + (c.toNat - 48)) % 10 = c.toNat - 48 by omega, ih, dig_of hd.2]
/-- The numeral of a number below 10^9. -/
theorem dec_ok : ∀ (n : Nat), allDg (Lib.decDigits n) = true ∧ valD 0 (Lib.decDigits n) = n ∧ 1 ≤ (Lib.decDigits n).length ∧ (1 ≤ n → (Lib.decDigits n).head? ≠ some 48) := by
  intro n
  induction n using Nat.strongRecOn with
  | _ n ih =>
    by_cases h : n < 10
    · rw [Lib.decDigits_one h]
      refine ⟨by show (isDg _ && true) = true; rw [isDg_mk h]; rfl, ?_, by simp, ?_⟩
      · show 10 * 0 + ((UInt8.ofNat (48 + n)).toNat - 48) = n
        rw [ofNat_sub h]; omega
      · intro h1 e
        have e2 := congrArg UInt8.toNat (Option.some.inj e)
        rw [UInt8.toNat_ofNat'] at e2
        have : (48 : UInt8).toNat = 48 := rfl
        omega
    · have e : Lib.decDigits n = Lib.decDigits (n / 10) ++ [UInt8.ofNat (48 + n % 10)] := by rw [Lib.decDigits, dif_neg h]
      obtain ⟨i1, i2, i3, i4⟩ := ih (n / 10) (by omega)
      rw [e]
      refine ⟨by rw [allDg_snoc, i1, isDg_mk (by omega)]; rfl, by rw [valD_snoc, i2, ofNat_sub (by omega)]; omega, by simp, fun _ => ?_⟩
      have := i4 (by omega)
      cases hd : Lib.decDigits (n / 10) with
      | nil => rw [hd] at i3; simp at i3
      | cons b t => rw [hd] at this; simpa using this
theorem nDig_lt : ∀ (k n : Nat), n < 10 ^ (k + 1) → Lib.nDigits n ≤ k + 1
  | 0, n, h => by rw [Lib.nDigits_small (by simpa using h)]; omega
  | k + 1, n, h => by
    by_cases c : n < 10
    · rw [Lib.nDigits_small c]; omega
    · rw [Lib.nDigits_big c]
      rw [Nat.pow_succ] at h
      have := nDig_lt k (n / 10) (by omega)
      omega

theorem okDig_dec {n : Nat} (h : n < 1000000000) : okDig (Lib.decDigits n) = true := by
  obtain ⟨h1, h2, h3, h4⟩ := dec_ok n
  have h5 : (Lib.decDigits n).length ≤ 9 := by rw [Lib.decDigits_length]; exact nDig_lt 8 n (by omega)
  unfold okDig
  rw [h1, decide_eq_true h3, decide_eq_true h5]
  by_cases hz : n = 0
  · subst hz; rw [Lib.decDigits_one (by omega)]; decide
  · simp [h4 (by omega)]
theorem okDig_of {l : List UInt8} (h : okDig l = true) : Lib.decDigits (valD 0 l) = l ∧ valD 0 l < 1000000000 := by
  simp only [okDig, Bool.and_eq_true, decide_eq_true_eq, Bool.not_eq_true', Bool.and_eq_false_iff, decide_eq_false_iff_not] at h
  obtain ⟨⟨⟨h1, h2⟩, h3⟩, h4⟩ := h
  refine ⟨dec_val l.length l rfl h1 (h3.elim (fun h => .inl (by omega)) .inr) h4, ?_⟩
  have := valD_lt l 0 h4
  have h5 : 10 ^ l.length ≤ 10 ^ 9 := Nat.pow_le_pow_right (by omega) h2
  omega

theorem itoa_pos (n : Nat) : Lib.itoa (n : Int) = Lib.decDigits n := by unfold Lib.itoa; rw [if_neg (by omega)]; simp
theorem itoa_min (n : Nat) (h : 1 ≤ n) : Lib.itoa (-(n : Int)) = 45 :: Lib.decDigits n := by unfold Lib.itoa; rw [if_pos (by omega)]; simp

/-- What the reference takes is a numeral .. -/
theorem numR_some {s : List UInt8} {v : Int} (h : numR s = some v) : Lib.itoa v = s ∧ -1000000000 < v ∧ v < 1000000000 := by
  unfold numR at h
  split at h
  · rename_i hd
    split at h
    · rename_i hk
      obtain ⟨hk, h0⟩ := hk
      injection h with h
      subst h
      obtain ⟨e, hv⟩ := okDig_of hk
      have h1 : 1 ≤ valD 0 (s.drop 1) := by
        refine Nat.one_le_iff_ne_zero.2 fun hz => h0 ?_
        rw [← e, hz]; exact Lib.decDigits_one (by omega)
      rw [itoa_min _ h1, e]
      refine ⟨?_, by omega, by omega⟩
      cases s with
      | nil => simp at hd
      | cons c r => simp at hd; simp [hd]
    · cases h
  · split at h
    · rename_i hk
      injection h with h
      subst h
      obtain ⟨e, hv⟩ := okDig_of hk
      rw [itoa_pos, e]
      exact ⟨rfl, by omega, by omega⟩
    · cases h
/-- .. and every numeral of up to nine digits is taken. -/
theorem numR_itoa {v : Int} (h1 : -1000000000 < v) (h2 : v < 1000000000) : numR (Lib.itoa v) = some v := by
  by_cases h : 0 ≤ v
  · obtain ⟨n, rfl⟩ : ∃ n : Nat, v = n := ⟨v.toNat, by omega⟩
    have hk := okDig_dec (n := n) (by omega)
    obtain ⟨d1, d2, d3, _⟩ := dec_ok n
    rw [itoa_pos]
    unfold numR
    have hh : (Lib.decDigits n).head? ≠ some 45 := by
      cases hd : Lib.decDigits n with
      | nil => simp
      | cons b t =>
        rw [hd] at d1
        simp only [allDg, List.all_cons, Bool.and_eq_true] at d1
        have := isDg_iff.1 d1.1
        simp only [List.head?_cons, ne_eq, Option.some.injEq]
        rintro rfl
        exact absurd this (by decide)
    rw [if_neg hh, if_pos hk, d2]
  · obtain ⟨n, rfl, hn⟩ : ∃ n : Nat, v = -(n : Int) ∧ 1 ≤ n := ⟨(-v).toNat, by omega, by omega⟩
    have hk := okDig_dec (n := n) (by omega)
    obtain ⟨d1, d2, d3, _⟩ := dec_ok n
    rw [itoa_min n hn]
    unfold numR
    rw [if_pos (by simp), if_pos, List.drop_one, List.tail_cons, d2]
    refine ⟨hk, ?_⟩
    show Lib.decDigits n ≠ [48]
    intro e
    rw [e] at d2
    have : valD 0 [48] = 0 := by decide
    omega

theorem parse_dig : ∀ (l : List UInt8) (a : Nat), allDg l = true → (a + 1) * 10 ^ l.length ≤ 1000000000 → Lib.parseUint10 a l = .ok (valD a l)
  | [], a, _, _ => rfl
  | c :: r, a, h, hb => by
    simp only [allDg, List.all_cons, Bool.and_eq_true] at h
    have hc := isDg_iff.1 h.1
    rw [List.length_cons, Nat.pow_succ', ← Nat.mul_assoc] at hb
    have hp : 1 ≤ 10 ^ r.length := Nat.one_le_pow _ _ (by omega)
    have h1 : (a + 1) * 10 * 1 ≤ (a + 1) * 10 * 10 ^ r.length := Nat.mul_le_mul_left _ hp
    have ih := parse_dig r (10 * a + (c.toNat - 48)) h.2 (Nat.le_trans (Nat.mul_le_mul_right _ (by omega)) hb)
    unfold Lib.parseUint10
    rw [if_pos hc, if_neg (by omega), if_neg (by omega), Nat.mul_comm a 10, ih]; rfl
theorem dec_len {n : Nat} (h : n < 1000000000) : (0 + 1) * 10 ^ (Lib.decDigits n).length ≤ 1000000000 := by
  have h5 : (Lib.decDigits n).length ≤ 9 := by rw [Lib.decDigits_length]; exact nDig_lt 8 n (by omega)
  have := Nat.pow_le_pow_right (n := 10) (by omega) h5
  omega
/-- Atoi of a numeral of up to nine digits is the number. -/
theorem atoi_itoa {v : Int} (h1 : -1000000000 < v) (h2 : v < 1000000000) : Lib.atoiAll (Lib.itoa v) = .ok v := by
  by_cases h : 0 ≤ v
  · obtain ⟨n, rfl⟩ : ∃ n : Nat, v = n := ⟨v.toNat, by omega⟩
    obtain ⟨d1, d2, d3, _⟩ := dec_ok n
    have hp := parse_dig (Lib.decDigits n) 0 d1 (dec_len (by omega))
    rw [itoa_pos]
    cases hd : Lib.decDigits n with
    | nil => rw [hd] at d3; simp at d3
    | cons b t =>
      rw [hd] at d1 d2 hp
      have hb : isDg b = true := by simp only [allDg, List.all_cons, Bool.and_eq_true] at d1; exact d1.1
      have := isDg_iff.1 hb
      rw [Lib.atoiAll_plain b t (by omega) (by omega)]
      unfold Lib.parseMag
      rw [if_neg (by simp), hp, d2]
      unfold Lib.signless
      show (if _ then _ else _) = _
      rw [if_neg (by omega)]
  · obtain ⟨n, rfl, hn⟩ : ∃ n : Nat, v = -(n : Int) ∧ 1 ≤ n := ⟨(-v).toNat, by omega, by omega⟩
    obtain ⟨d1, d2, d3, _⟩ := dec_ok n
    have hp := parse_dig (Lib.decDigits n) 0 d1 (dec_len (by omega))
    rw [itoa_min n hn, Lib.atoiAll_minus]
    unfold Lib.parseMag
    rw [if_neg (by intro e; rw [e] at d3; simp at d3), hp, d2]
    unfold Lib.signed
    show (if _ then _ else _) = _
    rw [if_neg (by omega)]

/-- Whether what Atoi answers is the number that is written so. -/
def numOk (s : List UInt8) : Bool := (numR s).isSome
def numV (s : List UInt8) : Int := (numR s).getD 0
theorem numR_none {s : List UInt8} {v : Int} (h : numR s = none) (h1 : -1000000000 < v) (h2 : v < 1000000000) : Lib.itoa v ≠ s := fun e => by
  have := numR_itoa h1 h2
  rw [e, h] at this
  cases this
end Go.Proofs.YtdmfgechoanmlaaGreatDoor

namespace Go.Proofs.YtdmfgechoanmlaaGreatDoor
open Go

/-- Which days of a month may be. -/
def dfD (k wk n : Int) : Prop := (k = 0 ∧ wk = 0 ∧ 1 ≤ n ∧ n ≤ 31) ∨ (k = 1 ∧ 0 ≤ wk ∧ wk ≤ 6 ∧ n = 0) ∨ ((k = 2 ∨ k = 3) ∧ 0 ≤ wk ∧ wk ≤ 6 ∧ 1 ≤ n ∧ n ≤ 31)
def dfB (k wk n : Int) : Bool := decide ((k = 0 ∧ wk = 0 ∧ 1 ≤ n ∧ n ≤ 31) ∨ (k = 1 ∧ 0 ≤ wk ∧ wk ≤ 6 ∧ n = 0) ∨ ((k = 2 ∨ k = 3) ∧ 0 ≤ wk ∧ wk ≤ 6 ∧ 1 ≤ n ∧ n ≤ 31))
theorem dfB_iff {k wk n : Int} : dfB k wk n = true ↔ dfD k wk n := by unfold dfB dfD; simp
theorem dfB_not {k wk n : Int} (h : ¬ dfD k wk n) : dfB k wk n = false := by rw [← Bool.not_eq_true, dfB_iff]; exact h

/-! ### Days of a week -/
def wkD (a : Int) : Int := (a + 4) % 7
/-- The first day from a on that is the day of the week; the last one up to a. -/
def upD (a wk : Int) : Int := a + (wk - wkD a) % 7
def dnD (a wk : Int) : Int := a - (wkD a - wk) % 7
theorem up_spec (a wk : Int) (h0 : 0 ≤ wk) (h6 : wk ≤ 6) : wkD (upD a wk) = wk ∧ a ≤ upD a wk ∧ upD a wk ≤ a + 6 := by unfold upD wkD; omega
theorem dn_spec (a wk : Int) (h0 : 0 ≤ wk) (h6 : wk ≤ 6) : wkD (dnD a wk) = wk ∧ dnD a wk ≤ a ∧ a ≤ dnD a wk + 6 := by unfold dnD wkD; omega
theorem up_same {a wk : Int} (h : wkD a = wk) : upD a wk = a := by unfold upD; omega
theorem dn_same {a wk : Int} (h : wkD a = wk) : dnD a wk = a := by unfold dnD; omega
theorem up_next {a wk : Int} (_h0 : 0 ≤ wk) (_h6 : wk ≤ 6) (h : wkD a ≠ wk) : upD (a + 1) wk = upD a wk := by unfold upD; unfold wkD at h ⊢; omega
theorem dn_next {a wk : Int} (_h0 : 0 ≤ wk) (_h6 : wk ≤ 6) (h : wkD a ≠ wk) : dnD (a - 1) wk = dnD a wk := by unfold dnD; unfold wkD at h ⊢; omega
theorem up_dn (a wk : Int) : upD a wk = dnD (a + 6) wk := by unfold upD dnD wkD; omega
theorem up_one (a wk : Int) : upD (a + 1) wk = upD a wk ∨ upD (a + 1) wk = upD a wk + 7 := by unfold upD wkD; omega
theorem up_week (a wk : Int) : upD (a + 7) wk = upD a wk + 7 := by unfold upD wkD; omega
theorem wkD_bd (a : Int) : 0 ≤ wkD a ∧ wkD a ≤ 6 := by unfold wkD; omega

/-! ### Which day of the calendar it is -/
/-- The day at which it is told, and the day that it is. -/
def atD (k n y m : Int) : Int := if k = 1 then dayN y m 1 - 1 + dim y m else dayN y m 1 - 1 + n
def hitD (k wk a : Int) : Int := if k = 0 then a else if k = 2 then upD a wk else dnD a wk
def tgtD (k wk n y m : Int) : Int := hitD k wk (atD k n y m)
/-- There is such a month, and it has so many days. -/
def mnD (y m n : Int) : Prop := -100000 ≤ y ∧ y ≤ 100000 ∧ 1 ≤ m ∧ m ≤ 12 ∧ n ≤ dim y m
def inR (a : Int) : Prop := -37243778 ≤ a ∧ a ≤ 35805087

theorem day_one (y m d : Int) : dayN y m d = dayN y m 1 - 1 + d := by unfold dayN; omega
theorem at_date (k wk n y m : Int) (hd : dfD k wk n) (hm : mnD y m n) : okD y m (if k = 1 then dim y m else n) ∧ dayN y m (if k = 1 then dim y m else n) = atD k n y m := by
  obtain ⟨h1, h2, h3, h4, h5⟩ := hm
  have hb := dim_bd y m h3 h4
  unfold dfD at hd
  unfold atD okD
  rw [day_one]
  by_cases hk : k = 1
  · rw [if_pos hk, if_pos hk]; omega
  · rw [if_neg hk, if_neg hk]; omega
theorem wi_in {y m d : Int} (a : okD y m d) : inR (dayN y m d) := day_bd a

theorem cum_find (y : Int) : ∀ (n : Nat) (k : Int), (n : Int) ≤ 11 → 0 ≤ k → k < cum y ((n : Int) + 2) → ∃ m : Int, 1 ≤ m ∧ m ≤ (n : Int) + 1 ∧ cum y m ≤ k ∧ k < cum y (m + 1)
  | 0, k, _, h0, h1 => ⟨1, by omega, by omega, by rw [cum_1]; exact h0, h1⟩
  | n + 1, k, hn, h0, h1 => by
    by_cases c : cum y ((n : Int) + 2) ≤ k
    · refine ⟨(n : Int) + 2, by omega, by omega, c, ?_⟩
      have e : (n : Int) + 2 + 1 = ((n + 1 : Nat) : Int) + 2 := by omega
      rw [e]; exact h1
    · obtain ⟨m, a, b, c, d⟩ := cum_find y n k (by omega) h0 (by omega)
      exact ⟨m, a, by omega, c, d⟩
/-- Each day in reach has a date. -/
theorem fdate_ex {a : Int} (h : inR a) : ∃ y m d : Int, okD y m d ∧ dayN y m d = a := by
  obtain ⟨h1, h2⟩ := h
  have hs := yo_spec a
  have hb := yo_bd a h1 h2
  rw [ny_succ] at hs
  have c13 := cum_13 (yo a)
  obtain ⟨m, m1, m2, m3, m4⟩ := cum_find (yo a) 11 (a - ny (yo a)) (by omega) (by omega) (by
    show _ < cum (yo a) 13
    omega)
  refine ⟨yo a, m, a - ny (yo a) - cum (yo a) m + 1, ?_, ?_⟩
  · have := cum_succ (yo a) m
    have m2' : m ≤ 12 := m2
    unfold okD; omega
  · unfold dayN; omega

theorem hit_next {k wk a s : Int} (hk : k ≠ 0) (h0 : 0 ≤ wk) (h6 : wk ≤ 6) (hs : s = if k = 2 then 1 else -1) (h : wkD a ≠ wk) : hitD k wk (a + s) = hitD k wk a := by
  unfold hitD
  rw [if_neg hk, if_neg hk]
  by_cases h2 : k = 2
  · rw [if_pos h2] at hs ⊢
    rw [hs, if_pos h2]; exact up_next h0 h6 h
  · rw [if_neg h2] at hs ⊢
    rw [hs, if_neg h2]; exact dn_next h0 h6 h
theorem hit_same {k wk a : Int} (h : wkD a = wk) : hitD k wk a = a := by
  unfold hitD
  split
  · rfl
  · split
    · exact up_same h
    · exact dn_same h
theorem hit_zero (wk a : Int) : hitD 0 wk a = a := rfl
/-- Behind the days' end there is none. -/
theorem hit_out {k wk a s : Int} (hk : k ≠ 0) (h0 : 0 ≤ wk) (h6 : wk ≤ 6) (hs : s = if k = 2 then 1 else -1) (h3 : s = 1 → a = 35805088) (h4 : s = -1 → a = -37243779) : ¬ inR (hitD k wk a) := by
  unfold hitD
  rw [if_neg hk]
  unfold inR
  by_cases hk2 : k = 2
  · rw [if_pos hk2] at hs ⊢
    have := up_spec a wk h0 h6
    have := h3 hs
    omega
  · rw [if_neg hk2] at hs ⊢
    have := dn_spec a wk h0 h6
    have := h4 hs
    omega

/-! ### Texts -/
def dig1 (n : Int) : UInt8 := UInt8.ofNat (48 + n.toNat % 10)
def numT (n : Int) : List UInt8 := if n ≤ 9 then [UInt8.ofNat (48 + n.toNat)] else [UInt8.ofNat (48 + n.toNat / 10), UInt8.ofNat (48 + n.toNat % 10)]
theorem numT_itoa {n : Int} (h1 : 1 ≤ n) (h2 : n ≤ 31) : Lib.itoa n = numT n := by
  obtain ⟨k, rfl⟩ : ∃ k : Nat, n = k := ⟨n.toNat, by omega⟩
  rw [itoa_pos]
  unfold numT
  by_cases h : (k : Int) ≤ 9
  · rw [if_pos h, Lib.decDigits_one (by omega)]; rfl
  · rw [if_neg h]
    have e : Lib.decDigits k = Lib.decDigits (k / 10) ++ [UInt8.ofNat (48 + k % 10)] := by rw [Lib.decDigits, dif_neg (by omega)]
    rw [e, Lib.decDigits_one (by omega)]; rfl
/-- A day's number that a text is; its error. -/
def dnum (s : List UInt8) : Option Nat := if (s.length = 1 ∨ s.length = 2) ∧ s.head? ≠ some 48 ∧ allDg s = true then some (valD 0 s) else none
def dnV (s : List UInt8) : Int := match dnum s with | some n => if n ≤ 31 then (n : Int) else 0 | none => 0
def dnE (s : List UInt8) : Int := match dnum s with | some n => if n ≤ 31 then 0 else 10 | none => 12
theorem val_pos {s : List UInt8} (h0 : s ≠ []) (h : s.head? ≠ some 48) (hd : allDg s = true) : 1 ≤ valD 0 s := by
  cases s with
  | nil => exact absurd rfl h0
  | cons c r =>
    have hc : isDg c = true := by simp only [allDg, List.all_cons, Bool.and_eq_true] at hd; exact hd.1
    have h1 := isDg_iff.1 hc
    have h2 : c ≠ 48 := by simpa using h
    have h3 : c.toNat ≠ 48 := fun e => h2 (UInt8.toNat_inj.1 e)
    have e : valD 0 (c :: r) = valD (10 * 0 + (c.toNat - 48)) r := rfl
    have := valD_ge r (10 * 0 + (c.toNat - 48))
    rw [e]; omega
theorem dnum_some {s : List UInt8} {n : Nat} (h : dnum s = some n) : Lib.itoa (n : Int) = s ∧ 1 ≤ n ∧ n < 100 := by
  unfold dnum at h
  split at h
  · rename_i hc
    obtain ⟨hl, hh, hd⟩ := hc
    injection h with h
    subst h
    have h0 : s ≠ [] := by intro e; subst e; simp at hl
    have hv := valD_lt s 0 hd
    rw [itoa_pos, dec_val s.length s rfl (by omega) (.inr hh) hd]
    refine ⟨rfl, val_pos h0 hh hd, ?_⟩
    rcases hl with hl | hl <;> rw [hl] at hv <;> omega
  · cases h
theorem dnum_itoa {n : Int} (h1 : 1 ≤ n) (h2 : n < 100) : dnum (Lib.itoa n) = some n.toNat := by
  obtain ⟨k, rfl⟩ : ∃ k : Nat, n = k := ⟨n.toNat, by omega⟩
  rw [itoa_pos]
  obtain ⟨d1, d2, d3, d4⟩ := dec_ok k
  have hl : (Lib.decDigits k).length ≤ 2 := by rw [Lib.decDigits_length]; exact nDig_lt 1 k (by omega)
  unfold dnum
  rw [if_pos ⟨by omega, d4 (by omega), d1⟩, d2]; rfl
/-- What the program asks of a number of Atoi's is what the document asks. -/
theorem dn_yes {s : List UInt8} {n : Int} (he : Lib.itoa n = s) (h1 : 1 ≤ n) (h2 : n < 100) : dnum s = some n.toNat := he ▸ dnum_itoa h1 h2
theorem dn_no {s : List UInt8} (h : ∀ n : Int, Lib.atoiAll s = .ok n → Lib.itoa n = s → 1 ≤ n → ¬ n < 100) : dnum s = none := by
  cases hd : dnum s with
  | none => rfl
  | some n =>
    obtain ⟨h1, h2, h3⟩ := dnum_some hd
    exact absurd (show ((n : Nat) : Int) < 100 by omega) (h n (h1 ▸ atoi_itoa (by omega) (by omega)) h1 (by omega))

/-- The first sign of a text: its place, and its first byte. -/
def sgnF : List UInt8 → Nat → Option (Nat × UInt8)
  | a :: b :: r, i => if b = 61 ∧ (a = 62 ∨ a = 60) then some (i, a) else sgnF (b :: r) (i + 1)
  | _, _ => none
def sgnL (s : List UInt8) : Option (Nat × UInt8) := sgnF s 0
def signAt (s : List UInt8) (i : Nat) : Prop := s[i + 1]? = some 61 ∧ (s[i]? = some 62 ∨ s[i]? = some 60)
theorem sgnF_some : ∀ {s : List UInt8} {i p : Nat} {c : UInt8}, sgnF s i = some (p, c) → ∃ j, p = i + j ∧ s[j]? = some c ∧ s[j + 1]? = some 61 ∧ (c = 62 ∨ c = 60) ∧ ∀ t, t < j → ¬ signAt s t
  | a :: b :: r, i, p, c, h => by
    unfold sgnF at h
    split at h
    · rename_i hc
      injection h with h
      injection h with h1 h2
      subst h1 h2
      exact ⟨0, rfl, rfl, by simp [hc.1], hc.2, fun t ht => by omega⟩
    · rename_i hc
      obtain ⟨j, h1, h2, h3, h4, h5⟩ := sgnF_some h
      refine ⟨j + 1, by omega, by simpa using h2, by simpa using h3, h4, fun t ht => ?_⟩
      cases t with
      | zero =>
        rintro ⟨g1, g2⟩
        exact hc ⟨by simpa using g1, by simpa using g2⟩
      | succ t =>
        have := h5 t (by omega)
        simpa [signAt] using this
  | [a], i, p, c, h => by simp [sgnF] at h
  | [], i, p, c, h => by simp [sgnF] at h
theorem sgnF_none : ∀ {s : List UInt8} {i : Nat}, sgnF s i = none → ∀ t, ¬ signAt s t
  | a :: b :: r, i, h, t => by
    unfold sgnF at h
    split at h
    · cases h
    · rename_i hc
      have ih := sgnF_none h
      cases t with
      | zero =>
        rintro ⟨g1, g2⟩
        exact hc ⟨by simpa using g1, by simpa using g2⟩
      | succ t =>
        have := ih t
        simpa [signAt] using this
  | [a], i, h, t => by simp [signAt]
  | [], i, h, t => by simp [signAt]
theorem sgnL_some {s : List UInt8} {p : Nat} {c : UInt8} (h : sgnL s = some (p, c)) : s[p]? = some c ∧ s[p + 1]? = some 61 ∧ (c = 62 ∨ c = 60) ∧ ∀ t, t < p → ¬ signAt s t := by
  obtain ⟨j, h1, h2⟩ := sgnF_some h
  obtain rfl : p = j := by omega
  exact h2

theorem occ_sign (s : List UInt8) (c : UInt8) (i : Nat) : Lib.occAt s [c, 61] i = true ↔ s[i]? = some c ∧ s[i + 1]? = some 61 := by
  unfold Lib.occAt
  rw [List.isPrefixOf_iff_prefix]
  have e0 : s[i]? = (s.drop i)[0]? := by simp
  have e1 : s[i + 1]? = (s.drop i)[1]? := by simp
  rw [e0, e1]
  generalize s.drop i = l
  cases l with
  | nil => simp
  | cons a l =>
    cases l with
    | nil => simp [List.cons_prefix_cons]
    | cons b l => simp [List.cons_prefix_cons]; constructor <;> rintro ⟨h1, h2⟩ <;> exact ⟨h1.symm, h2.symm⟩
theorem occ_no {s : List UInt8} {c : UInt8} {i : Nat} (h : ¬ (s[i]? = some c ∧ s[i + 1]? = some 61)) : Lib.occAt s [c, 61] i = false := by
  rw [← Bool.not_eq_true, occ_sign]; exact h
theorem index_cases (s : List UInt8) (c : UInt8) : (∃ i : Nat, Lib.index s [c, 61] = i ∧ s[i]? = some c ∧ s[i + 1]? = some 61 ∧ ∀ j, j < i → ¬ (s[j]? = some c ∧ s[j + 1]? = some 61)) ∨ (Lib.index s [c, 61] = -1 ∧ ∀ j, ¬ (s[j]? = some c ∧ s[j + 1]? = some 61)) := by
  by_cases h : ∃ i, s[i]? = some c ∧ s[i + 1]? = some 61
  · left
    have hex : ∃ i, (s[i]? = some c ∧ s[i + 1]? = some 61) ∧ ∀ j, j < i → ¬ (s[j]? = some c ∧ s[j + 1]? = some 61) := by
      obtain ⟨i, hi⟩ := h
      induction i using Nat.strongRecOn with
      | _ i ih =>
        by_cases hm : ∃ j, j < i ∧ s[j]? = some c ∧ s[j + 1]? = some 61
        · obtain ⟨j, h1, h2⟩ := hm
          exact ih j h1 h2
        · exact ⟨i, hi, fun j h1 h2 => hm ⟨j, h1, h2⟩⟩
    obtain ⟨i, h1, h2⟩ := hex
    have hl : i < s.length := (List.getElem?_eq_some_iff.1 h1.1).1
    exact ⟨i, Lib.index_first (by omega) ((occ_sign s c i).2 h1) (fun j hj => occ_no (h2 j hj)), h1.1, h1.2, h2⟩
  · right
    exact ⟨Lib.index_none fun j _ => occ_no fun hc => h ⟨j, hc⟩, fun j hj => h ⟨j, hj⟩⟩
theorem take_get {s : List UInt8} {p i : Nat} {v : UInt8} : (s.take p)[i]? = some v ↔ i < p ∧ s[i]? = some v := by
  rw [List.getElem?_take]
  split
  · rename_i h; simp [h]
  · rename_i h; simp [h]

/-- The two searches of the program find the first sign. -/
theorem sgn_ge {s : List UInt8} {p : Nat} (h : sgnL s = some (p, 62)) : Lib.index s [62, 61] = p ∧ Lib.index (s.take p) [60, 61] = -1 := by
  obtain ⟨h1, h2, _, h4⟩ := sgnL_some h
  have hl : p < s.length := (List.getElem?_eq_some_iff.1 h1).1
  refine ⟨Lib.index_first (by omega) ((occ_sign s 62 p).2 ⟨h1, h2⟩) (fun j hj => occ_no fun hc => h4 j hj ⟨hc.2, .inl hc.1⟩), Lib.index_none fun j _ => occ_no fun hc => ?_⟩
  have a := take_get.1 hc.1
  have b := take_get.1 hc.2
  exact h4 j a.1 ⟨b.2, .inr a.2⟩
theorem sgn_le {s : List UInt8} {p : Nat} (h : sgnL s = some (p, 60)) : (∃ q : Nat, Lib.index s [62, 61] = q ∧ q ≤ s.length ∧ Lib.index (s.take q) [60, 61] = p) ∨ (Lib.index s [62, 61] = -1 ∧ Lib.index s [60, 61] = p) := by
  obtain ⟨h1, h2, _, h4⟩ := sgnL_some h
  have hl : p < s.length := (List.getElem?_eq_some_iff.1 h1).1
  rcases index_cases s 62 with ⟨q, e, g1, g2, g3⟩ | ⟨e, g⟩
  · left
    have hq : q < s.length := (List.getElem?_eq_some_iff.1 g1).1
    refine ⟨q, e, by omega, ?_⟩
    have hpq : p < q := by
      refine Nat.lt_of_not_le fun hle => ?_
      by_cases hc : q = p
      · subst hc; rw [h1] at g1; cases g1
      · exact h4 q (by omega) ⟨g2, .inl g1⟩
    have hpq2 : p + 1 ≠ q := fun hc => by rw [← hc, h2] at g1; cases g1
    refine Lib.index_first (by rw [List.length_take]; omega) ((occ_sign _ 60 p).2 ⟨take_get.2 ⟨by omega, h1⟩, take_get.2 ⟨by omega, h2⟩⟩) (fun j hj => occ_no fun hc => ?_)
    exact h4 j hj ⟨(take_get.1 hc.2).2, .inr (take_get.1 hc.1).2⟩
  · right
    exact ⟨e, Lib.index_first (by omega) ((occ_sign s 60 p).2 ⟨h1, h2⟩) (fun j hj => occ_no fun hc => h4 j hj ⟨hc.2, .inr hc.1⟩)⟩
theorem sgn_no {s : List UInt8} (h : sgnL s = none) : Lib.index s [62, 61] = -1 ∧ Lib.index s [60, 61] = -1 :=
  ⟨Lib.index_none fun j _ => occ_no fun hc => sgnF_none h j ⟨hc.2, .inl hc.1⟩, Lib.index_none fun j _ => occ_no fun hc => sgnF_none h j ⟨hc.2, .inr hc.1⟩⟩
theorem sgn_lt {s : List UInt8} {p : Nat} {c : UInt8} (h : sgnL s = some (p, c)) : p + 2 ≤ s.length := by
  have h2 := (sgnL_some h).2.1
  have := (List.getElem?_eq_some_iff.1 h2).1
  omega

def weeks7 : List (List UInt8) := [[115, 117, 110, 100, 97, 121], [109, 111, 110, 100, 97, 121], [116, 117, 101, 115, 100, 97, 121], [119, 101, 100, 110, 101, 115, 100, 97, 121], [116, 104, 117, 114, 115, 100, 97, 121], [102, 114, 105, 100, 97, 121], [115, 97, 116, 117, 114, 100, 97, 121]]
def lastW4 : List UInt8 := [108, 97, 115, 116]
/-- Which day of a week a word is: 7, if it is none. -/
def wkN (s : List UInt8) : Option Nat := findL (low s) weeks7
/-- The day that a text is: kind, day of the week, number, error. -/
def parsF (s : List UInt8) : Int × Int × Int × Int :=
  match sgnL s with
  | some (p, c) =>
    match wkN (s.take p) with
    | none => (0, 0, 0, 13)
    | some w => if dnE (s.drop (p + 2)) = 0 then (if c = 62 then 2 else 3, (w : Int), dnV (s.drop (p + 2)), 0) else (0, 0, 0, dnE (s.drop (p + 2)))
  | none =>
    if 4 ≤ s.length ∧ low (s.take 4) = lastW4 then
      match wkN (s.drop 4) with
      | none => (0, 0, 0, 13)
      | some w => (1, (w : Int), 0, 0)
    else if dnE s = 0 then (0, 0, dnV s, 0) else (0, 0, 0, dnE s)

def dname (wk : Int) : List UInt8 := match weeks7.getD wk.toNat [] with | a :: b :: c :: _ => [a - 32, b, c] | _ => []
/-- The text of a day. -/
def dfT (k wk n : Int) : List UInt8 := if k = 0 then numT n else if k = 1 then lastW4 ++ dname wk else if k = 2 then dname wk ++ [62, 61] ++ numT n else dname wk ++ [60, 61] ++ numT n

set_option maxRecDepth 100000 in
theorem fback_fixed : ∀ n : Fin 31, parsF (dfT 0 0 ((n.val + 1 : Nat) : Int)) = (0, 0, ((n.val + 1 : Nat) : Int), 0) := by decide +kernel
set_option maxRecDepth 100000 in
theorem fback_last : ∀ k : Fin 7, parsF (dfT 1 (k.val : Int) 0) = (1, (k.val : Int), 0, 0) := by decide +kernel
set_option maxRecDepth 100000 in
theorem fback_ge : ∀ k : Fin 7, ∀ n : Fin 31, parsF (dfT 2 (k.val : Int) ((n.val + 1 : Nat) : Int)) = (2, (k.val : Int), ((n.val + 1 : Nat) : Int), 0) := by decide +kernel
set_option maxRecDepth 100000 in
theorem fback_le : ∀ k : Fin 7, ∀ n : Fin 31, parsF (dfT 3 (k.val : Int) ((n.val + 1 : Nat) : Int)) = (3, (k.val : Int), ((n.val + 1 : Nat) : Int), 0) := by decide +kernel
/-- The day of a day's text is the day. -/
theorem pars_text {k wk n : Int} (h : dfD k wk n) : parsF (dfT k wk n) = (k, wk, n, 0) := by
  rcases h with ⟨rfl, rfl, h1, h2⟩ | ⟨rfl, h1, h2, rfl⟩ | ⟨hk, h1, h2, h3, h4⟩
  · have := fback_fixed ⟨(n - 1).toNat, by omega⟩
    rwa [show (((n - 1).toNat + 1 : Nat) : Int) = n by omega] at this
  · have := fback_last ⟨wk.toNat, by omega⟩
    rwa [show ((wk.toNat : Nat) : Int) = wk by omega] at this
  · rcases hk with rfl | rfl
    · have := fback_ge ⟨wk.toNat, by omega⟩ ⟨(n - 1).toNat, by omega⟩
      rwa [show ((wk.toNat : Nat) : Int) = wk by omega, show (((n - 1).toNat + 1 : Nat) : Int) = n by omega] at this
    · have := fback_le ⟨wk.toNat, by omega⟩ ⟨(n - 1).toNat, by omega⟩
      rwa [show ((wk.toNat : Nat) : Int) = wk by omega, show (((n - 1).toNat + 1 : Nat) : Int) = n by omega] at this
end Go.Proofs.YtdmfgechoanmlaaGreatDoor

namespace Go.Proofs.YtdmfgechoanmlaaGreatDoor
open Go.RowKit

def dfE (k wk n : Int) : Int := if dfB k wk n then 0 else 10
theorem dfE_yes {k wk n : Int} (h : dfD k wk n) : dfE k wk n = 0 := by unfold dfE; rw [if_pos (dfB_iff.2 h)]
theorem dfE_no {k wk n : Int} (h : ¬ dfD k wk n) : dfE k wk n = 10 := by unfold dfE; rw [if_neg (fun c => h (dfB_iff.1 c))]

theorem dcases (a lo hi : Int) : (decide (lo ≤ a) = false ∧ Hid (¬ lo ≤ a)) ∨ (decide (lo ≤ a) = true ∧ decide (a ≤ hi) = false ∧ Hid (¬ a ≤ hi)) ∨ (decide (lo ≤ a) = true ∧ decide (a ≤ hi) = true ∧ Hid (lo ≤ a ∧ a ≤ hi)) := by
  by_cases h1 : lo ≤ a
  · by_cases h2 : a ≤ hi
    · exact .inr (.inr ⟨decide_eq_true h1, decide_eq_true h2, Lib.hid ⟨h1, h2⟩⟩)
    · exact .inr (.inl ⟨decide_eq_true h1, decide_eq_false h2, Lib.hid h2⟩)
  · exact .inl ⟨decide_eq_false h1, Lib.hid h1⟩

theorem dcheck_0 (wk n v : Int) (w : World) (HV : Hid (dfE 0 wk n = v)) :
    Calls Tryz.prog 26 #[.agg #[.int .i64 0, .int .i64 wk, .int .i64 n]] w fun e w' => e = .returned (.int .i64 v) ∧ Below w.heap.size w w' := by
  by_cases hz : wk = 0
  · subst hz
    rcases dcases n 1 31 with ⟨c1, H2⟩ | ⟨c1, c2, H2⟩ | ⟨c1, c2, H2⟩
    · obtain rfl : v = 10 := by rw [← HV.out]; exact dfE_no (by have := H2.out; unfold dfD; omega)
      go_enter Tryz.func26, Tryz.ntmps26
      go_wp2
      go_ret
      exact ⟨rfl, (Below.refl _ _).alloc (Nat.le_refl _) _⟩
    · obtain rfl : v = 10 := by rw [← HV.out]; exact dfE_no (by have := H2.out; unfold dfD; omega)
      go_enter Tryz.func26, Tryz.ntmps26
      go_wp2
      go_ret
      exact ⟨rfl, (Below.refl _ _).alloc (Nat.le_refl _) _⟩
    · obtain rfl : v = 0 := by rw [← HV.out]; exact dfE_yes (by have := H2.out; unfold dfD; omega)
      go_enter Tryz.func26, Tryz.ntmps26
      go_wp2
      go_ret
      exact ⟨rfl, (Below.refl _ _).alloc (Nat.le_refl _) _⟩
  · have hz' : (wk == 0) = false := by simpa using hz
    obtain rfl : v = 10 := by rw [← HV.out]; exact dfE_no (by unfold dfD; omega)
    clear hz
    rcases dcases wk 0 6 with ⟨b1, _⟩ | ⟨b1, b2, _⟩ | ⟨b1, b2, _⟩ <;> rcases dcases n 1 31 with ⟨c1, _⟩ | ⟨c1, c2, _⟩ | ⟨c1, c2, _⟩
    all_goals
      go_enter Tryz.func26, Tryz.ntmps26
      go_wp2
      go_ret
      exact ⟨rfl, (Below.refl _ _).alloc (Nat.le_refl _) _⟩

theorem dcheck_1 (wk n v : Int) (w : World) (HV : Hid (dfE 1 wk n = v)) :
    Calls Tryz.prog 26 #[.agg #[.int .i64 1, .int .i64 wk, .int .i64 n]] w fun e w' => e = .returned (.int .i64 v) ∧ Below w.heap.size w w' := by
  rcases dcases wk 0 6 with ⟨b1, H1⟩ | ⟨b1, b2, H1⟩ | ⟨b1, b2, H1⟩
  · obtain rfl : v = 10 := by rw [← HV.out]; exact dfE_no (by have := H1.out; unfold dfD; omega)
    rcases dcases n 1 31 with ⟨c1, _⟩ | ⟨c1, c2, _⟩ | ⟨c1, c2, _⟩
    all_goals
      go_enter Tryz.func26, Tryz.ntmps26
      go_wp2
      go_ret
      exact ⟨rfl, (Below.refl _ _).alloc (Nat.le_refl _) _⟩
  · obtain rfl : v = 10 := by rw [← HV.out]; exact dfE_no (by have := H1.out; unfold dfD; omega)
    rcases dcases n 1 31 with ⟨c1, _⟩ | ⟨c1, c2, _⟩ | ⟨c1, c2, _⟩
    all_goals
      go_enter Tryz.func26, Tryz.ntmps26
      go_wp2
      go_ret
      exact ⟨rfl, (Below.refl _ _).alloc (Nat.le_refl _) _⟩
  · by_cases hz : n = 0
    · subst hz
      obtain rfl : v = 0 := by rw [← HV.out]; exact dfE_yes (by have := H1.out; unfold dfD; omega)
      go_enter Tryz.func26, Tryz.ntmps26
      go_wp2
      go_ret
      exact ⟨rfl, (Below.refl _ _).alloc (Nat.le_refl _) _⟩
    · have hz' : (n == 0) = false := by simpa using hz
      obtain rfl : v = 10 := by rw [← HV.out]; exact dfE_no (by unfold dfD; omega)
      clear hz
      rcases dcases n 1 31 with ⟨c1, _⟩ | ⟨c1, c2, _⟩ | ⟨c1, c2, _⟩
      all_goals
        go_enter Tryz.func26, Tryz.ntmps26
        go_wp2
        go_ret
        exact ⟨rfl, (Below.refl _ _).alloc (Nat.le_refl _) _⟩

theorem dcheck_23 (k wk n v : Int) (w : World) (hk : k = 2 ∨ k = 3) (HV : Hid (dfE k wk n = v)) :
    Calls Tryz.prog 26 #[.agg #[.int .i64 k, .int .i64 wk, .int .i64 n]] w fun e w' => e = .returned (.int .i64 v) ∧ Below w.heap.size w w' := by
  rcases dcases wk 0 6 with ⟨b1, H1⟩ | ⟨b1, b2, H1⟩ | ⟨b1, b2, H1⟩
  · obtain rfl : v = 10 := by rw [← HV.out]; exact dfE_no (by have := H1.out; unfold dfD; omega)
    rcases hk with rfl | rfl <;> rcases dcases n 1 31 with ⟨c1, _⟩ | ⟨c1, c2, _⟩ | ⟨c1, c2, _⟩
    all_goals
      go_enter Tryz.func26, Tryz.ntmps26
      go_wp2
      go_ret
      exact ⟨rfl, (Below.refl _ _).alloc (Nat.le_refl _) _⟩
  · obtain rfl : v = 10 := by rw [← HV.out]; exact dfE_no (by have := H1.out; unfold dfD; omega)
    rcases hk with rfl | rfl <;> rcases dcases n 1 31 with ⟨c1, _⟩ | ⟨c1, c2, _⟩ | ⟨c1, c2, _⟩
    all_goals
      go_enter Tryz.func26, Tryz.ntmps26
      go_wp2
      go_ret
      exact ⟨rfl, (Below.refl _ _).alloc (Nat.le_refl _) _⟩
  · rcases dcases n 1 31 with ⟨c1, H2⟩ | ⟨c1, c2, H2⟩ | ⟨c1, c2, H2⟩
    · obtain rfl : v = 10 := by rw [← HV.out]; exact dfE_no (by have := H2.out; unfold dfD; omega)
      rcases hk with rfl | rfl
      all_goals
        go_enter Tryz.func26, Tryz.ntmps26
        go_wp2
        go_ret
        exact ⟨rfl, (Below.refl _ _).alloc (Nat.le_refl _) _⟩
    · obtain rfl : v = 10 := by rw [← HV.out]; exact dfE_no (by have := H2.out; unfold dfD; omega)
      rcases hk with rfl | rfl
      all_goals
        go_enter Tryz.func26, Tryz.ntmps26
        go_wp2
        go_ret
        exact ⟨rfl, (Below.refl _ _).alloc (Nat.le_refl _) _⟩
    · obtain rfl : v = 0 := by rw [← HV.out]; exact dfE_yes (by have := H1.out; have := H2.out; unfold dfD; omega)
      rcases hk with rfl | rfl
      all_goals
        go_enter Tryz.func26, Tryz.ntmps26
        go_wp2
        go_ret
        exact ⟨rfl, (Below.refl _ _).alloc (Nat.le_refl _) _⟩

theorem dcheck_x (k wk n : Int) (w : World) (h0 : k ≠ 0) (h1 : k ≠ 1) (h2 : k ≠ 2) (h3 : k ≠ 3) :
    Calls Tryz.prog 26 #[.agg #[.int .i64 k, .int .i64 wk, .int .i64 n]] w fun e w' => e = .returned (.int .i64 10) ∧ Below w.heap.size w w' := by
  have k0 : (k == 0) = false := by simpa using h0
  have k1 : (k == 1) = false := by simpa using h1
  have k2 : (k == 2) = false := by simpa using h2
  have k3 : (k == 3) = false := by simpa using h3
  clear h0 h1 h2 h3
  rcases dcases wk 0 6 with ⟨b1, _⟩ | ⟨b1, b2, _⟩ | ⟨b1, b2, _⟩ <;> rcases dcases n 1 31 with ⟨c1, _⟩ | ⟨c1, c2, _⟩ | ⟨c1, c2, _⟩
  all_goals
      go_enter Tryz.func26, Tryz.ntmps26
      go_wp2
      go_ret
      exact ⟨rfl, (Below.refl _ _).alloc (Nat.le_refl _) _⟩

/-- Check, at every day of a month. -/
theorem dcheck_is (k wk n v : Int) (w : World) (HV : Hid (dfE k wk n = v)) :
    Calls Tryz.prog 26 #[.agg #[.int .i64 k, .int .i64 wk, .int .i64 n]] w fun e w' => e = .returned (.int .i64 v) ∧ Below w.heap.size w w' := by
  by_cases h0 : k = 0
  · subst h0; exact dcheck_0 wk n v w HV
  · by_cases h1 : k = 1
    · subst h1; exact dcheck_1 wk n v w HV
    · by_cases h2 : k = 2 ∨ k = 3
      · exact dcheck_23 k wk n v w h2 HV
      · obtain rfl : v = 10 := by rw [← HV.out]; exact dfE_no (by unfold dfD; omega)
        exact dcheck_x k wk n w h0 h1 (fun h => h2 (.inl h)) (fun h => h2 (.inr h))

/-- Where the search begins, and how it goes on. -/
def fstD (k n long : Int) : Int := if k = 1 then long else n
def stpD (k : Int) : Int := if k = 1 ∨ k = 3 then -1 else 1
theorem dstart_is (k wk n long f s : Int) (w : World) (HV : Hid (fstD k n long = f ∧ stpD k = s)) :
    Calls Tryz.prog 114 #[.agg #[.int .i64 k, .int .i64 wk, .int .i64 n], .int .i64 long] w fun e w' => e = .returned (.tuple #[.int .i64 f, .int .i64 s]) ∧ Below w.heap.size w w' := by
  obtain ⟨rfl, rfl⟩ := HV.out
  clear HV
  by_cases h1 : k = 1
  · subst h1
    show Calls _ _ _ w fun e w' => e = .returned (.tuple #[.int .i64 long, .int .i64 (-1)]) ∧ Below w.heap.size w w'
    go_enter Tryz.func114, Tryz.ntmps114
    go_wp2
    go_ret2
    exact ⟨rfl, (Below.refl _ _).alloc (Nat.le_refl _) _⟩
  · have k1 : (k == 1) = false := by simpa using h1
    by_cases h3 : k = 3
    · subst h3
      show Calls _ _ _ w fun e w' => e = .returned (.tuple #[.int .i64 n, .int .i64 (-1)]) ∧ Below w.heap.size w w'
      go_enter Tryz.func114, Tryz.ntmps114
      go_wp2
      go_ret2
      exact ⟨rfl, (Below.refl _ _).alloc (Nat.le_refl _) _⟩
    · have k3 : (k == 3) = false := by simpa using h3
      have e1 : fstD k n long = n := if_neg h1
      have e2 : stpD k = 1 := if_neg (by omega)
      rw [e1, e2]
      clear h1 h3 e1 e2
      go_enter Tryz.func114, Tryz.ntmps114
      go_wp2
      go_ret2
      exact ⟨rfl, (Below.refl _ _).alloc (Nat.le_refl _) _⟩
end Go.Proofs.YtdmfgechoanmlaaGreatDoor
