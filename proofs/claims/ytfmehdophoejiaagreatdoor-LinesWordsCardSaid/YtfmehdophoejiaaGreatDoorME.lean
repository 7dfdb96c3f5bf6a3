/- Plain facts on days of a month: which may be, which text each one is, which day a text is, and which day of the calendar it is in a month; no program is named.
The contracts of dayform.Check and dayform.start: whether a day of a month may be, and where the search for its date begins; nothing that was in memory changes.
Plain facts on strings.ToLower of four bytes: they are the word in small letters just if the bytes are its letters, small or capital; no program is named.
What package dayform, and what it calls, read in memory; the contracts of words.Weekday and WeekdayName there, of dayform.number, beginsLast and firstSign; nothing that was in memory changes.
The contracts of dayform.beginsLast and firstSign: whether a text begins with the word for a last day, and where its first sign is; nothing that was in memory changes. -/
import Derived.Test.YtfmehdophoejiaaGreatDoorMD
import Derived.Test.YtfmehdophoejiaaGreatDoorMB
import Derived.Lib.Index
import Derived.Shelf.Strings.CaseAny
import Derived.Test.YtfmehdophoejiaaGreatDoorMC
import Derived.Lib.AppendIntMem
import Derived.Lib.SmallJoins
namespace Go.Proofs.YtfmehdophoejiaaGreatDoor
open Go

/-- Which days of a month may be. -/
def dfD (k wk n : Int) : Prop := (k = 0 ∧ wk = 0 ∧ 1 ≤ n ∧ n ≤ 31) ∨ (k = 1 ∧ 0 ≤ wk ∧ wk ≤ 6 ∧ n = 0) ∨ ((k = 2 ∨ k = 3) ∧ 0 ≤ wk ∧ wk ≤ 6 ∧ 1 ≤ n ∧ n ≤ 31)
def dfB (k wk n : Int) : Bool := decide ((k = 0 ∧ wk = 0 ∧ 1 ≤ n ∧ n ≤ 31) ∨ (k = 1 ∧ 0 ≤ wk ∧ wk ≤ 6 ∧ n = 0) ∨ ((k = 2 ∨ k = 3) ∧ 0 ≤ wk ∧ wk ≤ 6 ∧ 1 ≤ n ∧ n ≤ 31))
theorem dfB_iff {k wk n : Int} : dfB k wk n = true ↔ dfD k wk n := by unfold dfB dfD; simp
theorem dfB_not {k wk n : Int} (h : ¬ dfD k wk n) : dfB k wk n = false := by rw [← Bool.not_eq_true, dfB_iff]; exact h

/-! ### Days of a week -/
def wkD (a : Int) : Int := (a + 4) % 7
/-- The first day from a on that is the day of the week; the last one up to a. -/
def upD (a wk : Int) : Int := a + (wk - wkD a) % 7
def dnD (a wk : Int) : Int := a - (wkD a - wk) % 7
theorem up_spec (a wk : Int) (h0 : 0 ≤ wk) (h6 : wk ≤ 6) : wkD (upD a wk) = wk ∧ a ≤ upD a wk ∧ upD a wk ≤ a + 6 := by unfold upD wkD; omega
theorem dn_spec (a wk : Int) (h0 : 0 ≤ wk) (h6 : wk ≤ 6) : wkD (dnD a wk) = wk ∧ dnD a wk ≤ a ∧ a ≤ dnD a wk + 6 := by unfold dnD wkD; omega
theorem up_same {a wk : Int} (h : wkD a = wk) : upD a wk = a := by unfold upD; omega
theorem dn_same {a wk : Int} (h : wkD a = wk) : dnD a wk = a := by unfold dnD; omega
theorem up_next {a wk : Int} (_h0 : 0 ≤ wk) (_h6 : wk ≤ 6) (h : wkD a ≠ wk) : upD (a + 1) wk = upD a wk := by unfold upD; unfold wkD at h ⊢; omega
theorem dn_next {a wk : Int} (_h0 : 0 ≤ wk) (_h6 : wk ≤ 6) (h : wkD a ≠ wk) : dnD (a - 1) wk = dnD a wk := by unfold dnD; unfold wkD at h ⊢; omega
theorem up_dn (a wk : Int) : upD a wk = dnD (a + 6) wk := by unfold upD dnD wkD; omega
theorem up_one (a wk : Int) : upD (a + 1) wk = upD a wk ∨ upD (a + 1) wk = upD a wk + 7 := by unfold upD wkD; omega
theorem up_week (a wk : Int) : upD (a + 7) wk = upD a wk + 7 := by unfold upD wkD; omega
theorem wkD_bd (a : Int) : 0 ≤ wkD a ∧ wkD a ≤ 6 := by unfold wkD; omega

/-! ### Which day of the calendar it is -/
/-- The day at which it is told, and the day that it is. -/
def atD (k n y m : Int) : Int := if k = 1 then dayN y m 1 - 1 + dim y m else dayN y m 1 - 1 + n
def hitD (k wk a : Int) : Int := if k = 0 then a else if k = 2 then upD a wk else dnD a wk
def tgtD (k wk n y m : Int) : Int := hitD k wk (atD k n y m)
/-- There is such a month, and it has so many days. -/
def mnD (y m n : Int) : Prop := -100000 ≤ y ∧ y ≤ 100000 ∧ 1 ≤ m ∧ m ≤ 12 ∧ n ≤ dim y m
def inR (a : Int) : Prop := -37243778 ≤ a ∧ a ≤ 35805087

theorem day_one (y m d : Int) : dayN y m d = dayN y m 1 - 1 + d := by unfold dayN; omega
theorem at_date (k wk n y m : Int) (hd : dfD k wk n) (hm : mnD y m n) : okD y m (if k = 1 then dim y m else n) ∧ dayN y m (if k = 1 then dim y m else n) = atD k n y m := by
  obtain ⟨h1, h2, h3, h4, h5⟩ := hm
  have hb := dim_bd y m h3 h4
  unfold dfD at hd
  unfold atD okD
  rw [day_one]
  by_cases hk : k = 1
  · rw [if_pos hk, if_pos hk]; omega
  · rw [if_neg hk, if_neg hk]; omega
theorem wi_in {y m d : Int} (a : okD y m d) : inR (dayN y m d) := day_bd a

theorem cum_find (y : Int) : ∀ (n : Nat) (k : Int), (n : Int) ≤ 11 → 0 ≤ k → k < cum y ((n : Int) + 2) → ∃ m : Int, 1 ≤ m ∧ m ≤ (n : Int) + 1 ∧ cum y m ≤ k ∧ k < cum y (m + 1)
  | 0, k, _, h0, h1 => ⟨1, by omega, by omega, by rw [cum_1]; exact h0, h1⟩
  | n + 1, k, hn, h0, h1 => by
    by_cases c : cum y ((n : Int) + 2) ≤ k
    · refine ⟨(n : Int) + 2, by omega, by omega, c, ?_⟩
      have e : (n : Int) + 2 + 1 = ((n + 1 : Nat) : Int) + 2 := by omega
      rw [e]; exact h1
    · obtain ⟨m, a, b, c, d⟩ := cum_find y n k (by omega) h0 (by omega)
      exact ⟨m, a, by omega, c, d⟩
/-- Each day in reach has a date. -/
theorem fdate_ex {a : Int} (h : inR a) : ∃ y m d : Int, okD y m d ∧ dayN y m d = a := by
  obtain ⟨h1, h2⟩ := h
  have hs := yo_spec a
  have hb := yo_bd a h1 h2
  rw [ny_succ] at hs
  have c13 := cum_13 (yo a)
  obtain ⟨m, m1, m2, m3, m4⟩ := cum_find (yo a) 11 (a - ny (yo a)) (by omega) (by omega) (by
    show _ < cum (yo a) 13
    omega)
  refine ⟨yo a, m, a - ny (yo a) - cum (yo a) m + 1, ?_, ?_⟩
  · have := cum_succ (yo a) m
    have m2' : m ≤ 12 := m2
    unfold okD; omega
  · unfold dayN; omega

theorem hit_next {k wk a s : Int} (hk : k ≠ 0) (h0 : 0 ≤ wk) (h6 : wk ≤ 6) (hs : s = if k = 2 then 1 else -1) (h : wkD a ≠ wk) : hitD k wk (a + s) = hitD k wk a := by
  unfold hitD
  rw [if_neg hk, if_neg hk]
  by_cases h2 : k = 2
  · rw [if_pos h2] at hs ⊢
    rw [hs, if_pos h2]; exact up_next h0 h6 h
  · rw [if_neg h2] at hs ⊢
    rw [hs, if_neg h2]; exact dn_next h0 h6 h
theorem hit_same {k wk a : Int} (h : wkD a = wk) : hitD k wk a = a := by
  unfold hitD
  split
  · rfl
  · split
    · exact up_same h
    · exact dn_same h
theorem hit_zero (wk a : Int) : hitD 0 wk a = a := rfl
/-- Behind the days' end there is none. -/
theorem hit_out {k wk a s : Int} (hk : k ≠ 0) (h0 : 0 ≤ wk) (h6 : wk ≤ 6) (hs : s = if k = 2 then 1 else -1) (h3 : s = 1 → a = 35805088) (h4 : s = -1 → a = -37243779) : ¬ inR (hitD k wk a) := by
  unfold hitD
  rw [if_neg hk]
  unfold inR
  by_cases hk2 : k = 2
  · rw [if_pos hk2] at hs ⊢
    have := up_spec a wk h0 h6
    have := h3 hs
    omega
  · rw [if_neg hk2] at hs ⊢
    have := dn_spec a wk h0 h6
    have := h4 hs
    omega

/-! ### Texts -/
def dig1 (n : Int) : UInt8 := UInt8.ofNat (48 + n.toNat % 10)
def numT (n : Int) : List UInt8 := if n ≤ 9 then [UInt8.ofNat (48 + n.toNat)] else [UInt8.ofNat (48 + n.toNat / 10), UInt8.ofNat (48 + n.toNat % 10)]
theorem numT_itoa {n : Int} (h1 : 1 ≤ n) (h2 : n ≤ 31) : Lib.itoa n = numT n := by
  obtain ⟨k, rfl⟩ : ∃ k : Nat, n = k := ⟨n.toNat, by omega⟩
  rw [itoa_pos]
  unfold numT
  by_cases h : (k : Int) ≤ 9
  · rw [if_pos h, Lib.decDigits_one (by omega)]; rfl
  · rw [if_neg h]
    have e : Lib.decDigits k = Lib.decDigits (k / 10) ++ [UInt8.ofNat (48 + k % 10)] := by rw [Lib.decDigits, dif_neg (by omega)]
    rw [e, Lib.decDigits_one (by omega)]; rfl
/-- A day's number that a text is; its error. -/
def dnum (s : List UInt8) : Option Nat := if (s.length = 1 ∨ s.length = 2) ∧ s.head? ≠ some 48 ∧ allDg s = true then some (valD 0 s) else none
def dnV (s : List UInt8) : Int := match dnum s with | some n => if n ≤ 31 then (n : Int) else 0 | none => 0
def dnE (s : List UInt8) : Int := match dnum s with | some n => if n ≤ 31 then 0 else 10 | none => 12
theorem val_pos {s : List UInt8} (h0 : s ≠ []) (h : s.head? ≠ some 48) (hd : allDg s = true) : 1 ≤ valD 0 s := by
  cases s with
  | nil => exact absurd rfl h0
  | cons c r =>
    have hc : isDg c = true := by simp only [allDg, List.all_cons, Bool.and_eq_true] at hd; exact hd.1
    have h1 := isDg_iff.1 hc
    have h2 : c ≠ 48 := by simpa using h
    have h3 : c.toNat ≠ 48 := fun e => h2 (UInt8.toNat_inj.1 e)
    have e : valD 0 (c :: r) = valD (10 * 0 + (c.toNat - 48)) r := rfl
    have := valD_ge r (10 * 0 + (c.toNat - 48))
    rw [e]; omega
theorem dnum_some {s : List UInt8} {n : Nat} (h : dnum s = some n) : Lib.itoa (n : Int) = s ∧ 1 ≤ n ∧ n < 100 := by
  unfold dnum at h
  split at h
  · rename_i hc
    obtain ⟨hl, hh, hd⟩ := hc
    injection h with h
    subst h
    have h0 : s ≠ [] := by intro e; subst e; simp at hl
    have hv := valD_lt s 0 hd
    rw [itoa_pos, dec_val s.length s rfl (by omega) (.inr hh) hd]
    refine ⟨rfl, val_pos h0 hh hd, ?_⟩
    rcases hl with hl | hl <;> rw [hl] at hv <;> omega
  · cases h
theorem dnum_itoa {n : Int} (h1 : 1 ≤ n) (h2 : n < 100) : dnum (Lib.itoa n) = some n.toNat := by
  obtain ⟨k, rfl⟩ : ∃ k : Nat, n = k := ⟨n.toNat, by omega⟩
  rw [itoa_pos]
  obtain ⟨d1, d2, d3, d4⟩ := dec_ok k
  have hl : (Lib.decDigits k).length ≤ 2 := by rw [Lib.decDigits_length]; exact nDig_lt 1 k (by omega)
  unfold dnum
  rw [if_pos ⟨by omega, d4 (by omega), d1⟩, d2]; rfl
/-- What the program asks of a number of Atoi's is what the document asks. -/
theorem dn_yes {s : List UInt8} {n : Int} (he : Lib.itoa n = s) (h1 : 1 ≤ n) (h2 : n < 100) : dnum s = some n.toNat := he ▸ dnum_itoa h1 h2
theorem dn_no {s : List UInt8} (h : ∀ n : Int, Lib.atoiAll s = .ok n → Lib.itoa n = s → 1 ≤ n → ¬ n < 100) : dnum s = none := by
  cases hd : dnum s with
  | none => rfl
  | some n =>
    obtain ⟨h1, h2, h3⟩ := dnum_some hd
    exact absurd (show ((n : Nat) : Int) < 100 by omega) (h n (h1 ▸ atoi_itoa (by omega) (by omega)) h1 (by omega))

/-- The first sign of a text: its place, and its first byte. -/
def sgnF : List UInt8 → Nat → Option (Nat × UInt8)
  | a :: b :: r, i => if b = 61 ∧ (a = 62 ∨ a = 60) then some (i, a) else sgnF (b :: r) (i + 1)
  | _, _ => none
def sgnL (s : List UInt8) : Option (Nat × UInt8) := sgnF s 0
def signAt (s : List UInt8) (i : Nat) : Prop := s[i + 1]? = some 61 ∧ (s[i]? = some 62 ∨ s[i]? = some 60)
theorem sgnF_some : ∀ {s : List UInt8} {i p : Nat} {c : UInt8}, sgnF s i = some (p, c) → ∃ j, p = i + j ∧ s[j]? = some c ∧ s[j + 1]? = some 61 ∧ (c = 62 ∨ c = 60) ∧ ∀ t, t < j → ¬ signAt s t
  | a :: b :: r, i, p, c, h => by
    unfold sgnF at h
    split at h
    · rename_i hc
      injection h with h
      injection h with h1 h2
      subst h1 h2
      exact ⟨0, rfl, rfl, by simp [hc.1], hc.2, fun t ht => by omega⟩
    · rename_i hc
      obtain ⟨j, h1, h2, h3, h4, h5⟩ := sgnF_some h
      refine ⟨j + 1, by omega, by simpa using h2, by simpa using h3, h4, fun t ht => ?_⟩
      cases t with
      | zero =>
        rintro ⟨g1, g2⟩
        exact hc ⟨by simpa using g1, by simpa using g2⟩
      | succ t =>
        have := h5 t (by omega)
        simpa [signAt] using this
  | [a], i, p, c, h => by simp [sgnF] at h
  | [], i, p, c, h => by simp [sgnF] at h
theorem sgnF_none : ∀ {s : List UInt8} {i : Nat}, sgnF s i = none → ∀ t, ¬ signAt s t
  | a :: b :: r, i, h, t => by
    unfold sgnF at h
    split at h
    · cases h
    · rename_i hc
      have ih := sgnF_none h
      cases t with
      | zero =>
        rintro ⟨g1, g2⟩
        exact hc ⟨by simpa using g1, by simpa using g2⟩
      | succ t =>
        have := ih t
        simpa [signAt] using this
  | [a], i, h, t => by simp [signAt]
  | [], i, h, t => by simp [signAt]
theorem sgnL_some {s : List UInt8} {p : Nat} {c : UInt8} (h : sgnL s = some (p, c)) : s[p]? = some c ∧ s[p + 1]? = some 61 ∧ (c = 62 ∨ c = 60) ∧ ∀ t, t < p → ¬ signAt s t := by
  obtain ⟨j, h1, h2⟩ := sgnF_some h
  obtain rfl : p = j := by omega
  exact h2

theorem occ_sign (s : List UInt8) (c : UInt8) (i : Nat) : Lib.occAt s [c, 61] i = true ↔ s[i]? = some c ∧ s[i + 1]? = some 61 := by
  unfold Lib.occAt
  rw [List.isPrefixOf_iff_prefix]
  have e0 : s[i]? = (s.drop i)[0]? := by simp
  have e1 : s[i + 1]? = (s.drop i)[1]? := by simp
  rw [e0, e1]
  generalize s.drop i = l
  cases l with
  | nil => simp
  | cons a l =>
    cases l with
    | nil => simp [List.cons_prefix_cons]
    | cons b l => simp [List.cons_prefix_cons]; constructor <;> rintro ⟨h1, h2⟩ <;> exact ⟨h1.symm, h2.symm⟩
theorem occ_no {s : List UInt8} {c : UInt8} {i : Nat} (h : ¬ (s[i]? = some c ∧ s[i + 1]? = some 61)) : Lib.occAt s [c, 61] i = false := by
  rw [← Bool.not_eq_true, occ_sign]; exact h
theorem index_cases (s : List UInt8) (c : UInt8) : (∃ i : Nat, Lib.index s [c, 61] = i ∧ s[i]? = some c ∧ s[i + 1]? = some 61 ∧ ∀ j, j < i → ¬ (s[j]? = some c ∧ s[j + 1]? = some 61)) ∨ (Lib.index s [c, 61] = -1 ∧ ∀ j, ¬ (s[j]? = some c ∧ s[j + 1]? = some 61)) := by
  by_cases h : ∃ i, s[i]? = some c ∧ s[i + 1]? = some 61
  · left
    have hex : ∃ i, (s[i]? = some c ∧ s[i + 1]? = some 61) ∧ ∀ j, j < i → ¬ (s[j]? = some c ∧ s[j + 1]? = some 61) := by
      obtain ⟨i, hi⟩ := h
      induction i using Nat.strongRecOn with
      | _ i ih =>
        by_cases hm : ∃ j, j < i ∧ s[j]? = some c ∧ s[j + 1]? = some 61
        · obtain ⟨j, h1, h2⟩ := hm
          exact ih j h1 h2
        · exact ⟨i, hi, fun j h1 h2 => hm ⟨j, h1, h2⟩⟩
    obtain ⟨i, h1, h2⟩ := hex
    have hl : i < s.length := (List.getElem?_eq_some_iff.1 h1.1).1
    exact ⟨i, Lib.index_first (by omega) ((occ_sign s c i).2 h1) (fun j hj => occ_no (h2 j hj)), h1.1, h1.2, h2⟩
  · right
    exact ⟨Lib.index_none fun j _ => occ_no fun hc => h ⟨j, hc⟩, fun j hj => h ⟨j, hj⟩⟩
theorem take_get {s : List UInt8} {p i : Nat} {v : UInt8} : (s.take p)[i]? = some v ↔ i < p ∧ s[i]? = some v := by
  rw [List.getElem?_take]
  split
  · rename_i h; simp [h]
  · rename_i h; simp [h]

/-- The two searches of the program find the first sign. -/
theorem sgn_ge {s : List UInt8} {p : Nat} (h : sgnL s = some (p, 62)) : Lib.index s [62, 61] = p ∧ Lib.index (s.take p) [60, 61] = -1 := by
  obtain ⟨h1, h2, _, h4⟩ := sgnL_some h
  have hl : p < s.length := (List.getElem?_eq_some_iff.1 h1).1
  refine ⟨Lib.index_first (by omega) ((occ_sign s 62 p).2 ⟨h1, h2⟩) (fun j hj => occ_no fun hc => h4 j hj ⟨hc.2, .inl hc.1⟩), Lib.index_none fun j _ => occ_no fun hc => ?_⟩
  have a := take_get.1 hc.1
  have b := take_get.1 hc.2
  exact h4 j a.1 ⟨b.2, .inr a.2⟩
theorem sgn_le {s : List UInt8} {p : Nat} (h : sgnL s = some (p, 60)) : (∃ q : Nat, Lib.index s [62, 61] = q ∧ q ≤ s.length ∧ Lib.index (s.take q) [60, 61] = p) ∨ (Lib.index s [62, 61] = -1 ∧ Lib.index s [60, 61] = p) := by
  obtain ⟨h1, h2, _, h4⟩ := sgnL_some h
  have hl : p < s.length := (List.getElem?_eq_some_iff.1 h1).1
  rcases index_cases s 62 with ⟨q, e, g1, g2, g3⟩ | ⟨e, g⟩
  · left
    have hq : q < s.length := (List.getElem?_eq_some_iff.1 g1).1
    refine ⟨q, e, by omega, ?_⟩
    have hpq : p < q := by
      refine Nat.lt_of_not_le fun hle => ?_
      by_cases hc : q = p
      · subst hc; rw [h1] at g1; cases g1
      · exact h4 q (by omega) ⟨g2, .inl g1⟩
    have hpq2 : p + 1 ≠ q := fun hc => by rw [← hc, h2] at g1; cases g1
    refine Lib.index_first (by rw [List.length_take]; omega) ((occ_sign _ 60 p).2 ⟨take_get.2 ⟨by omega, h1⟩, take_get.2 ⟨by omega, h2⟩⟩) (fun j hj => occ_no fun hc => ?_)
    exact h4 j hj ⟨(take_get.1 hc.2).2, .inr (take_get.1 hc.1).2⟩
  · right
    exact ⟨e, Lib.index_first (by omega) ((occ_sign s 60 p).2 ⟨h1, h2⟩) (fun j hj => occ_no fun hc => h4 j hj ⟨hc.2, .inr hc.1⟩)⟩
theorem sgn_no {s : List UInt8} (h : sgnL s = none) : Lib.index s [62, 61] = -1 ∧ Lib.index s [60, 61] = -1 :=
  ⟨Lib.index_none fun j _ => occ_no fun hc => sgnF_none h j ⟨hc.2, .inl hc.1⟩, Lib.index_none fun j _ => occ_no fun hc => sgnF_none h j ⟨hc.2, .inr hc.1⟩⟩
theorem sgn_lt {s : List UInt8} {p : Nat} {c : UInt8} (h : sgnL s = some (p, c)) : p + 2 ≤ s.length := by
  have h2 := (sgnL_some h).2.1
  have := (List.getElem?_eq_some_iff.1 h2).1
  omega

def weeks7 : List (List UInt8) := [[115, 117, 110, 100, 97, 121], [109, 111, 110, 100, 97, 121], [116, 117, 101, 115, 100, 97, 121], [119, 101, 100, 110, 101, 115, 100, 97, 121], [116, 104, 117, 114, 115, 100, 97, 121], [102, 114, 105, 100, 97, 121], [115, 97, 116, 117, 114, 100, 97, 121]]
def lastW4 : List UInt8 := [108, 97, 115, 116]
/-- Which day of a week a word is: 7, if it is none. -/
def wkN (s : List UInt8) : Option Nat := findL (low s) weeks7
/-- The day that a text is: kind, day of the week, number, error. -/
def parsF (s : List UInt8) : Int × Int × Int × Int :=
  match sgnL s with
  | some (p, c) =>
    match wkN (s.take p) with
    | none => (0, 0, 0, 13)
    | some w => if dnE (s.drop (p + 2)) = 0 then (if c = 62 then 2 else 3, (w : Int), dnV (s.drop (p + 2)), 0) else (0, 0, 0, dnE (s.drop (p + 2)))
  | none =>
    if 4 ≤ s.length ∧ low (s.take 4) = lastW4 then
      match wkN (s.drop 4) with
      | none => (0, 0, 0, 13)
      | some w => (1, (w : Int), 0, 0)
    else if dnE s = 0 then (0, 0, dnV s, 0) else (0, 0, 0, dnE s)

def dname (wk : Int) : List UInt8 := match weeks7.getD wk.toNat [] with | a :: b :: c :: _ => [a - 32, b, c] | _ => []
/-- The text of a day. -/
def dfT (k wk n : Int) : List UInt8 := if k = 0 then numT n else if k = 1 then lastW4 ++ dname wk else if k = 2 then dname wk ++ [62, 61] ++ numT n else dname wk ++ [60, 61] ++ numT n

set_option maxRecDepth 100000 in
theorem fback_fixed : ∀ n : Fin 31, parsF (dfT 0 0 ((n.val + 1 : Nat) : Int)) = (0, 0, ((n.val + 1 : Nat) : Int), 0) := by decide +kernel
set_option maxRecDepth 100000 in
theorem fback_last : ∀ k : Fin 7, parsF (dfT 1 (k.val : Int) 0) = (1, (k.val : Int), 0, 0) := by decide +kernel
set_option maxRecDepth 100000 in
theorem fback_ge : ∀ k : Fin 7, ∀ n : Fin 31, parsF (dfT 2 (k.val : Int) ((n.val + 1 : Nat) : Int)) = (2, (k.val : Int), ((n.val + 1 : Nat) : Int), 0) := by decide +kernel
set_option maxRecDepth 100000 in
theorem fback_le : ∀ k : Fin 7, ∀ n : Fin 31, parsF (dfT 3 (k.val : Int) ((n.val + 1 : Nat) : Int)) = (3, (k.val : Int), ((n.val + 1 : Nat) : Int), 0) := by decide +kernel
/-- The day of a day's text is the day. -/
theorem pars_text {k wk n : Int} (h : dfD k wk n) : parsF (dfT k wk n) = (k, wk, n, 0) := by
  rcases h with ⟨rfl, rfl, h1, h2⟩ | ⟨rfl, h1, h2, rfl⟩ | ⟨hk, h1, h2, h3, h4⟩
  · have := fback_fixed ⟨(n - 1).toNat, by omega⟩
    rwa [show (((n - 1).toNat + 1 : Nat) : Int) = n by omega] at this
  · have := fback_last ⟨wk.toNat, by omega⟩
    rwa [show ((wk.toNat : Nat) : Int) = wk by omega] at this
  · rcases hk with rfl | rfl
    · have := fback_ge ⟨wk.toNat, by omega⟩ ⟨(n - 1).toNat, by omega⟩
      rwa [show ((wk.toNat : Nat) : Int) = wk by omega, show (((n - 1).toNat + 1 : Nat) : Int) = n by omega] at this
    · have := fback_le ⟨wk.toNat, by omega⟩ ⟨(n - 1).toNat, by omega⟩
      rwa [show ((wk.toNat : Nat) : Int) = wk by omega, show (((n - 1).toNat + 1 : Nat) : Int) = n by omega] at this
end Go.Proofs.YtfmehdophoejiaaGreatDoor

namespace Go.Proofs.YtfmehdophoejiaaGreatDoor
open Go.RowKit

def dfE (k wk n : Int) : Int := if dfB k wk n then 0 else 10
theorem dfE_yes {k wk n : Int} (h : dfD k wk n) : dfE k wk n = 0 := by unfold dfE; rw [if_pos (dfB_iff.2 h)]
theorem dfE_no {k wk n : Int} (h : ¬ dfD k wk n) : dfE k wk n = 10 := by unfold dfE; rw [if_neg (fun c => h (dfB_iff.1 c))]

theorem dcases (a lo hi : Int) : (decide (lo ≤ a) = false ∧ Hid (¬ lo ≤ a)) ∨ (decide (lo ≤ a) = true ∧ decide (a ≤ hi) = false ∧ Hid (¬ a ≤ hi)) ∨ (decide (lo ≤ a) = true ∧ decide (a ≤ hi) = true ∧ Hid (lo ≤ a ∧ a ≤ hi)) := by
  by_cases h1 : lo ≤ a
  · by_cases h2 : a ≤ hi
    · exact .inr (.inr ⟨decide_eq_true h1, decide_eq_true h2, Lib.hid ⟨h1, h2⟩⟩)
    · exact .inr (.inl ⟨decide_eq_true h1, decide_eq_false h2, Lib.hid h2⟩)
  · exact .inl ⟨decide_eq_false h1, Lib.hid h1⟩

theorem dcheck_0 (wk n v : Int) (w : World) (HV : Hid (dfE 0 wk n = v)) :
    Calls Tryz.prog 105 #[.agg #[.int .i64 0, .int .i64 wk, .int .i64 n]] w fun e w' => e = .returned (.int .i64 v) ∧ Below w.heap.size w w' := by
  by_cases hz : wk = 0
  · subst hz
    rcases dcases n 1 31 with ⟨c1, H2⟩ | ⟨c1, c2, H2⟩ | ⟨c1, c2, H2⟩
    · obtain rfl : v = 10 := by rw [← HV.out]; exact dfE_no (by have := H2.out; unfold dfD; omega)
      go_enter Tryz.func105, Tryz.ntmps105
      go_wp2
      go_ret
      exact ⟨rfl, (Below.refl _ _).alloc (Nat.le_refl _) _⟩
    · obtain rfl : v = 10 := by rw [← HV.out]; exact dfE_no (by have := H2.out; unfold dfD; omega)
      go_enter Tryz.func105, Tryz.ntmps105
      go_wp2
      go_ret
      exact ⟨rfl, (Below.refl _ _).alloc (Nat.le_refl _) _⟩
    · obtain rfl : v = 0 := by rw [← HV.out]; exact dfE_yes (by have := H2.out; unfold dfD; omega)
      go_enter Tryz.func105, Tryz.ntmps105
      go_wp2
      go_ret
      exact ⟨rfl, (Below.refl _ _).alloc (Nat.le_refl _) _⟩
  · have hz' : (wk == 0) = false := by simpa using hz
    obtain rfl : v = 10 := by rw [← HV.out]; exact dfE_no (by unfold dfD; omega)
    clear hz
    rcases dcases wk 0 6 with ⟨b1, _⟩ | ⟨b1, b2, _⟩ | ⟨b1, b2, _⟩ <;> rcases dcases n 1 31 with ⟨c1, _⟩ | ⟨c1, c2, _⟩ | ⟨c1, c2, _⟩
    all_goals
      go_enter Tryz.func105, Tryz.ntmps105
      go_wp2
      go_ret
      exact ⟨rfl, (Below.refl _ _).alloc (Nat.le_refl _) _⟩

theorem dcheck_1 (wk n v : Int) (w : World) (HV : Hid (dfE 1 wk n = v)) :
    Calls Tryz.prog 105 #[.agg #[.int .i64 1, .int .i64 wk, .int .i64 n]] w fun e w' => e = .returned (.int .i64 v) ∧ Below w.heap.size w w' := by
  rcases dcases wk 0 6 with ⟨b1, H1⟩ | ⟨b1, b2, H1⟩ | ⟨b1, b2, H1⟩
  · obtain rfl : v = 10 := by rw [← HV.out]; exact dfE_no (by have := H1.out; unfold dfD; omega)
    rcases dcases n 1 31 with ⟨c1, _⟩ | ⟨c1, c2, _⟩ | ⟨c1, c2, _⟩
    all_goals
      go_enter Tryz.func105, Tryz.ntmps105
      go_wp2
      go_ret
      exact ⟨rfl, (Below.refl _ _).alloc (Nat.le_refl _) _⟩
  · obtain rfl : v = 10 := by rw [← HV.out]; exact dfE_no (by have := H1.out; unfold dfD; omega)
    rcases dcases n 1 31 with ⟨c1, _⟩ | ⟨c1, c2, _⟩ | ⟨c1, c2, _⟩
    all_goals
      go_enter Tryz.func105, Tryz.ntmps105
      go_wp2
      go_ret
      exact ⟨rfl, (Below.refl _ _).alloc (Nat.le_refl _) _⟩
  · by_cases hz : n = 0
    · subst hz
      obtain rfl : v = 0 := by rw [← HV.out]; exact dfE_yes (by have := H1.out; unfold dfD; omega)
      go_enter Tryz.func105, Tryz.ntmps105
      go_wp2
      go_ret
      exact ⟨rfl, (Below.refl _ _).alloc (Nat.le_refl _) _⟩
    · have hz' : (n == 0) = false := by simpa using hz
      obtain rfl : v = 10 := by rw [← HV.out]; exact dfE_no (by unfold dfD; omega)
      clear hz
      rcases dcases n 1 31 with ⟨c1, _⟩ | ⟨c1, c2, _⟩ | ⟨c1, c2, _⟩
      all_goals
        go_enter Tryz.func105, Tryz.ntmps105
        go_wp2
        go_ret
        exact ⟨rfl, (Below.refl _ _).alloc (Nat.le_refl _) _⟩

theorem dcheck_23 (k wk n v : Int) (w : World) (hk : k = 2 ∨ k = 3) (HV : Hid (dfE k wk n = v)) :
    Calls Tryz.prog 105 #[.agg #[.int .i64 k, .int .i64 wk, .int .i64 n]] w fun e w' => e = .returned (.int .i64 v) ∧ Below w.heap.size w w' := by
  rcases dcases wk 0 6 with ⟨b1, H1⟩ | ⟨b1, b2, H1⟩ | ⟨b1, b2, H1⟩
  · obtain rfl : v = 10 := by rw [← HV.out]; exact dfE_no (by have := H1.out; unfold dfD; omega)
    rcases hk with rfl | rfl <;> rcases dcases n 1 31 with ⟨c1, _⟩ | ⟨c1, c2, _⟩ | ⟨c1, c2, _⟩
    all_goals
      go_enter Tryz.func105, Tryz.ntmps105
      go_wp2
      go_ret
      exact ⟨rfl, (Below.refl _ _).alloc (Nat.le_refl _) _⟩
  · obtain rfl : v = 10 := by rw [← HV.out]; exact dfE_no (by have := H1.out; unfold dfD; omega)
    rcases hk with rfl | rfl <;> rcases dcases n 1 31 with ⟨c1, _⟩ | ⟨c1, c2, _⟩ | ⟨c1, c2, _⟩
    all_goals
      go_enter Tryz.func105, Tryz.ntmps105
      go_wp2
      go_ret
      exact ⟨rfl, (Below.refl _ _).alloc (Nat.le_refl _) _⟩
  · rcases dcases n 1 31 with ⟨c1, H2⟩ | ⟨c1, c2, H2⟩ | ⟨c1, c2, H2⟩
    · obtain rfl : v = 10 := by rw [← HV.out]; exact dfE_no (by have := H2.out; unfold dfD; omega)
      rcases hk with rfl | rfl
      all_goals
        go_enter Tryz.func105, Tryz.ntmps105
        go_wp2
        go_ret
        exact ⟨rfl, (Below.refl _ _).alloc (Nat.le_refl _) _⟩
    · obtain rfl : v = 10 := by rw [← HV.out]; exact dfE_no (by have := H2.out; unfold dfD; omega)
      rcases hk with rfl | rfl
      all_goals
        go_enter Tryz.func105, Tryz.ntmps105
        go_wp2
        go_ret
        exact ⟨rfl, (Below.refl _ _).alloc (Nat.le_refl _) _⟩
    · obtain rfl : v = 0 := by rw [← HV.out]; exact dfE_yes (by have := H1.out; have := H2.out; unfold dfD; omega)
      rcases hk with rfl | rfl
      all_goals
        go_enter Tryz.func105, Tryz.ntmps105
        go_wp2
        go_ret
        exact ⟨rfl, (Below.refl _ _).alloc (Nat.le_refl _) _⟩

theorem dcheck_x (k wk n : Int) (w : World) (h0 : k ≠ 0) (h1 : k ≠ 1) (h2 : k ≠ 2) (h3 : k ≠ 3) :
    Calls Tryz.prog 105 #[.agg #[.int .i64 k, .int .i64 wk, .int .i64 n]] w fun e w' => e = .returned (.int .i64 10) ∧ Below w.heap.size w w' := by
  have k0 : (k == 0) = false := by simpa using h0
  have k1 : (k == 1) = false := by simpa using h1
  have k2 : (k == 2) = false := by simpa using h2
  have k3 : (k == 3) = false := by simpa using h3
  clear h0 h1 h2 h3
  rcases dcases wk 0 6 with ⟨b1, _⟩ | ⟨b1, b2, _⟩ | ⟨b1, b2, _⟩ <;> rcases dcases n 1 31 with ⟨c1, _⟩ | ⟨c1, c2, _⟩ | ⟨c1, c2, _⟩
  all_goals
      go_enter Tryz.func105, Tryz.ntmps105
      go_wp2
      go_ret
      exact ⟨rfl, (Below.refl _ _).alloc (Nat.le_refl _) _⟩

/-- Check, at every day of a month. -/
theorem dcheck_is (k wk n v : Int) (w : World) (HV : Hid (dfE k wk n = v)) :
    Calls Tryz.prog 105 #[.agg #[.int .i64 k, .int .i64 wk, .int .i64 n]] w fun e w' => e = .returned (.int .i64 v) ∧ Below w.heap.size w w' := by
  by_cases h0 : k = 0
  · subst h0; exact dcheck_0 wk n v w HV
  · by_cases h1 : k = 1
    · subst h1; exact dcheck_1 wk n v w HV
    · by_cases h2 : k = 2 ∨ k = 3
      · exact dcheck_23 k wk n v w h2 HV
      · obtain rfl : v = 10 := by rw [← HV.out]; exact dfE_no (by unfold dfD; omega)
        exact dcheck_x k wk n w h0 h1 (fun h => h2 (.inl h)) (fun h => h2 (.inr h))

/-- Where the search begins, and how it goes on. -/
def fstD (k n long : Int) : Int := if k = 1 then long else n
def stpD (k : Int) : Int := if k = 1 ∨ k = 3 then -1 else 1
end Go.Proofs.YtfmehdophoejiaaGreatDoor

namespace Go.Proofs.YtfmehdophoejiaaGreatDoor
open Go

theorem lowerB_is (c : UInt8) : Lib.lowerB c = lowB c := by
  unfold Lib.lowerB Lib.isUpperB lowB
  congr 1
  simp [UInt8.le_iff_toNat_le]
theorem lowerA_is (l : List UInt8) : Lib.toLowerA l = low l := by
  unfold Lib.toLowerA low
  exact List.map_congr_left fun c _ => lowerB_is c
theorem encode_len (r : Int) (h : 128 ≤ r) : 2 ≤ (Lib.encodeRune r).length := by
  unfold Lib.encodeRune Lib.encodeRuneZ
  rw [List.length_map, if_neg (by omega)]
  split
  · simp
  · split
    · simp
    · split <;> simp
theorem bad_rune : Lib.toLowerU 65533 = 65533 := by decide +kernel
theorem decode_two {c : UInt8} (r : List UInt8) (h : ¬ c.toNat < 128) (hv : (Lib.decodeL (c :: r)).1 ≠ 65533) : 2 ≤ (Lib.decodeL (c :: r)).2 := by
  have hb := decode_big r h
  have e := Lib.encode_decode (c :: r) (by simp) (fun hc => hv hc.1)
  have := encode_len ((Lib.decodeL (c :: r)).1 : Int) (by omega)
  rw [e, List.length_take] at this
  omega
/-- Where the small letters are all below 128, no byte was more, or the text has become shorter. -/
theorem lower_short : ∀ (n : Nat) (l : List UInt8), l.length ≤ n → ascii (Lib.toLowerD l) → (Lib.toLowerD l).length ≤ l.length ∧ ((Lib.toLowerD l).length = l.length → ascii l)
  | _, [], _, _ => by
    refine ⟨by simp [Lib.toLowerD, Lib.mapD_nil], fun _ c hc => by simp at hc⟩
  | 0, c :: r, h, _ => by simp at h
  | n + 1, c :: r, h, ha => by
    have hs := Lib.mapD_step Lib.toLowerU (c :: r) (by simp)
    have hr := Lib.decodeL_rune (c :: r)
    have hlr := Lib.toLowerU_range (Lib.decodeL (c :: r)).1 hr
    rw [if_pos hlr.1] at hs
    change Lib.toLowerD (c :: r) = _ ++ Lib.toLowerD _ at hs
    rw [hs] at ha ⊢
    have ha1 : ascii (Lib.encodeRune (Lib.toLowerU (Lib.decodeL (c :: r)).1)) := fun x hx => ha x (List.mem_append_left _ hx)
    have ha2 : ascii (Lib.toLowerD ((c :: r).drop (Lib.decodeL (c :: r)).2)) := fun x hx => ha x (List.mem_append_right _ hx)
    have hw := Lib.decodeL_width (c :: r)
    have hle := Lib.decodeL_le (c :: r) (by simp)
    have hl1 : (Lib.encodeRune (Lib.toLowerU (Lib.decodeL (c :: r)).1)).length = 1 := by
      by_cases hb : 128 ≤ Lib.toLowerU (Lib.decodeL (c :: r)).1
      · obtain ⟨d, t, he, hd⟩ := encode_big hb
        have := ha1 d (by rw [he]; simp)
        omega
      · unfold Lib.encodeRune
        rw [Lib.encodeRuneZ_one hlr.1 (by omega)]; rfl
    have ih := lower_short n ((c :: r).drop (Lib.decodeL (c :: r)).2) (by rw [List.length_drop]; omega) ha2
    rw [List.length_drop] at ih
    rw [List.length_append, hl1]
    by_cases hc : c.toNat < 128
    · rw [decode_one r hc] at ih ⊢
      simp only [List.drop_succ_cons, List.drop_zero, List.length_cons] at ih ⊢
      refine ⟨by omega, fun e x hx => ?_⟩
      rcases List.mem_cons.1 hx with rfl | hx
      · exact hc
      · exact ih.2 (by omega) x hx
    · have h2 : 2 ≤ (Lib.decodeL (c :: r)).2 := by
        refine decode_two r hc fun hv => ?_
        rw [hv] at hl1
        have e : Lib.toLowerU ((65533 : Nat) : Int) = 65533 := bad_rune
        rw [e] at hl1
        have := encode_len 65533 (by omega)
        omega
      exact ⟨by omega, fun e => by omega⟩
/-- Four bytes, small. -/
theorem lower_is {l : List UInt8} {a b c d : UInt8} (hl : l.length = 4) (hw : ascii [a, b, c, d]) : (Lib.toLowerD l == [a, b, c, d]) = (low l == [a, b, c, d]) := by
  by_cases hs : ascii l
  · rw [Lib.toLowerD_ascii l hs, lowerA_is]
  · have h1 : Lib.toLowerD l ≠ [a, b, c, d] := fun e => by
      have := lower_short l.length l (Nat.le_refl _) (by rw [e]; exact hw)
      exact hs (this.2 (by rw [e, hl]; rfl))
    have h2 : low l ≠ [a, b, c, d] := fun e => by
      refine hs fun x hx => ?_
      have := hw (lowB x) (by rw [← e]; exact List.mem_map_of_mem hx)
      rw [lowB_toNat] at this
      split at this <;> omega
    rw [beq_eq_false_iff_ne.2 h1, beq_eq_false_iff_ne.2 h2]
end Go.Proofs.YtfmehdophoejiaaGreatDoor

namespace Go.Proofs.YtfmehdophoejiaaGreatDoor
open Go.RowKit

abbrev PowF (w : World) : Prop := Lib.TabIs Tryz.prog w "internal/strconv.uint64pow10" .u64 Lib.pow10Tab
/-- A variable holds an error, or nil. -/
def ErrF (g : Nat) (w : World) : Prop := ∃ ev : Value, w.cell? ⟨g, 0, none⟩ = some ev ∧ (ev = .nilIface ∨ ∃ te pe, ev = .iface te pe)
theorem ErrF.next {g : Nat} {w w' : World} (h : ErrF g w) (k : Below w.heap.size w w') : ErrF g w' := by
  obtain ⟨ev, h1, h2⟩ := h
  exact ⟨ev, by rw [k.cell (p := ⟨_, _, none⟩) (wcell_lt h1)]; exact h1, h2⟩
def MaxF (w : World) : Prop := ∃ m : Int, w.cell? ⟨7, 0, none⟩ = some (.int .i64 m)
theorem MaxF.next {w w' : World} (h : MaxF w) (k : Below w.heap.size w w') : MaxF w' := by
  obtain ⟨m, h1⟩ := h
  exact ⟨m, by rw [k.cell (p := ⟨_, _, none⟩) (wcell_lt h1)]; exact h1⟩
def signsL : List (List UInt8) := [[62, 61], [60, 61]]
/-- The tables that package dayform, and what it calls, read. -/
structure LaidF (w : World) : Prop where
  sig : ListAt 1 signsL w
  wee : ListAt 6 weeksL w
  u8 : U8At w
  pow : PowF w
  syn : ErrF 12 w
  ran : ErrF 13 w
  cas : Lib.CaseVar 14 Lib.caseA w
  mx : MaxF w
theorem LaidF.next {w w' : World} (h : LaidF w) (k : Below w.heap.size w w') : LaidF w' :=
  ⟨h.sig.next k, h.wee.next k, h.u8.next k, Lib.tabBelow_of_tabIs h.pow w' k, h.syn.next k, h.ran.next k, Lib.CaseVar_below h.cas k, h.mx.next k⟩

theorem fne_of_all {ws : List (List UInt8)} (h : (ws.all fun p => !p.isEmpty) = true) : ∀ p ∈ ws, p ≠ [] := by
  intro p hp
  have := List.all_eq_true.1 h p hp
  cases p <;> simp_all
theorem fas_of_all {ws : List (List UInt8)} (h : (ws.all fun p => p.all fun c => decide (c.toNat < 128)) = true) : ∀ p ∈ ws, ascii p := by
  intro p hp c hc
  have := List.all_eq_true.1 (List.all_eq_true.1 h p hp) c hc
  simpa using this
theorem fweeks_ne : ∀ p ∈ weeksL, p ≠ [] := fne_of_all (by decide)
theorem fweeks_as : ∀ p ∈ weeksL, ascii p := fas_of_all (by decide)

/-- The day of the week, or that it is none. -/
def wkV (s : List UInt8) : Int := match wkN s with | some p => (p : Int) | none => 0
def wkE (s : List UInt8) : Int := match wkN s with | some _ => 0 | none => 13
theorem wk_res {s : List UInt8} {v e0 : Int} (h : wkV s = v ∧ wkE s = e0) : (resN (findL (low s) weeksL) 0 : Int) = v ∧ (resE (findL (low s) weeksL) : Int) = e0 := by
  obtain ⟨rfl, rfl⟩ := h
  unfold wkV wkE wkN
  have e : weeks7 = weeksL := rfl
  rw [e]
  cases findL (low s) weeksL <;> exact ⟨rfl, rfl⟩

set_option maxHeartbeats 800000 in
theorem fweek_is (s : List UInt8) (v e0 : Int) (w : World) (hs : s.length ≤ 1000) (hA : LaidF w) (HV : Hid (wkV s = v ∧ wkE s = e0)) :
    Calls Tryz.prog 123 #[.string ⟨s.toArray⟩] w fun e w' => e = .returned (.tuple #[.int .i64 v, .int .i64 e0]) ∧ Below w.heap.size w w' := by
  have c0 := hA.wee.cell 0 _ rfl
  have c1 := hA.wee.cell 1 _ rfl
  have c2 := hA.wee.cell 2 _ rfl
  have c3 := hA.wee.cell 3 _ rfl
  have c4 := hA.wee.cell 4 _ rfl
  have c5 := hA.wee.cell 5 _ rfl
  have c6 := hA.wee.cell 6 _ rfl
  obtain ⟨W0, hW0⟩ : ∃ W0, w.alloc (.cells #[.string ⟨#[115, 117, 110, 100, 97, 121]⟩, .string ⟨#[109, 111, 110, 100, 97, 121]⟩, .string ⟨#[116, 117, 101, 115, 100, 97, 121]⟩, .string ⟨#[119, 101, 100, 110, 101, 115, 100, 97, 121]⟩, .string ⟨#[116, 104, 117, 114, 115, 100, 97, 121]⟩, .string ⟨#[102, 114, 105, 100, 97, 121]⟩, .string ⟨#[115, 97, 116, 117, 114, 100, 97, 121]⟩] 140) = W0 := ⟨_, rfl⟩
  have B0 : Below w.heap.size w W0 := by rw [← hW0]; exact (Below.refl _ _).alloc (Nat.le_refl _) _
  have L0 : ListAt w.heap.size weeksL W0 := by rw [← hW0]; exact ListAt.new w weeksL _ _ rfl
  have U0 := hA.u8.next B0
  have FI := Lib.hid (find_is s weeksL w.heap.size 7 v e0 W0 hs rfl (by omega) fweeks_ne fweeks_as L0 U0 (Lib.hid (wk_res HV.out)))
  clear L0 U0 HV hA
  go_enter Tryz.func123, Tryz.ntmps123
  go_wp2_with (go_at_call 90; (try rw [hW0]); refine FI.out.mono ?_; rintro e w1 ⟨rfl, k1⟩)
  go_ret2
  exact ⟨rfl, B0.trans (k1.mono B0.size)⟩

theorem fatoi_ok (s : List UInt8) (v : Int) (w : World) (hs : s.length ≤ 1000) (h : Hid (Lib.atoiAll s = .ok v)) :
    Calls Tryz.prog 139 #[.string ⟨s.toArray⟩] w fun e w' => e = .returned (.tuple #[.int .i64 v, .nilIface]) ∧ Below w.heap.size w w' :=
  (Tryz.strconv_Atoi_ok ⟨s.toArray⟩ (by rw [wsize]; omega) v h.out w).mono fun e w' ⟨h1, h2⟩ => ⟨h1, by
    rcases h2 with rfl | ⟨t, rfl⟩
    · exact Below.refl _ _
    · exact Lib.bytesWorld_below w _ t⟩
/-- Atoi tells an error. -/
def AtoiNo (w : World) (e : Ending) (w' : World) : Prop := ∃ (v : Int) (N : Nat), e = .returned (.tuple #[.int .i64 v, .iface 192 (.pointer (some ⟨N, 0, none⟩))]) ∧ Below w.heap.size w w'
theorem fatoi_bad (s : List UInt8) (w : World) (hs : s.length ≤ 1000) (hA : LaidF w) (h : Hid (∀ v, Lib.atoiAll s ≠ .ok v)) :
    Calls Tryz.prog 139 #[.string ⟨s.toArray⟩] w (AtoiNo w) := by
  rcases hc : Lib.atoiAll s with v | _ | _
  · exact absurd hc (h.out v)
  · obtain ⟨ev, h1, h2⟩ := hA.syn
    exact (Any.strconv_Atoi_syntax Tryz.laysC172 ⟨s.toArray⟩ (by rw [wsize]; omega) hc ev w h1 h2).mono fun e w' ⟨N, a, _, _, b⟩ => ⟨_, N, a, b⟩
  · obtain ⟨ev, h1, h2⟩ := hA.ran
    exact (Tryz.strconv_Atoi_range ⟨s.toArray⟩ (by rw [wsize]; omega) hc ev w h1 h2).mono fun e w' ⟨N, a, _, _, b⟩ => ⟨_, N, a, b⟩
theorem fitoa_is (n : Int) (D : List UInt8) (w : World) (h0 : -9223372036854775808 ≤ n) (h1 : n ≤ 9223372036854775807) (ht : PowF w) (hD : Hid (Lib.itoa n = D)) :
    Calls Tryz.prog 72 #[.int .i64 n] w fun e w' => e = .returned (.string ⟨D.toArray⟩) ∧ Below w.heap.size w w' := by
  have := Tryz.strconv_Itoa n h0 h1 w ht
  rw [hD.out] at this
  exact this.mono fun e w' ⟨a, k, os, b⟩ => ⟨a, by
    rw [b]
    exact ⟨rfl, rfl, rfl, by show w.heap.size ≤ (w.heap ++ os).size; rw [Array.size_append]; omega, fun j hj => by
      show (w.heap ++ os)[j]? = _
      rw [Array.getElem?_append_left hj]⟩⟩

theorem dn_none {s : List UInt8} (h : dnum s = none) : dnV s = 0 ∧ dnE s = 12 := by unfold dnV dnE; rw [h]; exact ⟨rfl, rfl⟩
theorem dn_big {s : List UInt8} {n : Nat} (h : dnum s = some n) (h2 : 31 < n) : dnV s = 0 ∧ dnE s = 10 := by
  unfold dnV dnE; rw [h]; exact ⟨if_neg (by omega), if_neg (by omega)⟩
theorem dn_fine {s : List UInt8} {n : Nat} (h : dnum s = some n) (h2 : n ≤ 31) : dnV s = n ∧ dnE s = 0 := by
  unfold dnV dnE; rw [h]; exact ⟨if_pos h2, if_pos h2⟩

set_option maxHeartbeats 1600000 in
/-- number: the day's number that a text is. -/
theorem dnumber_is (s : List UInt8) (v e0 : Int) (w : World) (hs : s.length ≤ 1000) (hA : LaidF w) (HV : Hid (dnV s = v ∧ dnE s = e0)) :
    Calls Tryz.prog 124 #[.string ⟨s.toArray⟩] w fun e w' => e = .returned (.tuple #[.int .i64 v, .int .i64 e0]) ∧ Below w.heap.size w w' := by
  have HA := Lib.hid hA
  have HS := Lib.hid hs
  clear hA hs
  by_cases hbad : ∀ n, Lib.atoiAll s ≠ .ok n
  · obtain ⟨rfl, rfl⟩ : v = 0 ∧ e0 = 12 := by
      have := dn_none (dn_no fun n hn => absurd hn (hbad n))
      have h2 := HV.out
      exact ⟨h2.1.symm.trans this.1, h2.2.symm.trans this.2⟩
    have HB := Lib.hid hbad
    clear hbad HV
    go_enter Tryz.func124, Tryz.ntmps124
    go_wp2_with (first
      | (go_at_call 139; refine (fatoi_bad s _ HS.out HA.out HB).mono ?_; rintro e w1 ⟨q, N, rfl, k1⟩))
    go_ret2
    exact ⟨rfl, k1⟩
  · obtain ⟨n, hn⟩ : ∃ n, Lib.atoiAll s = .ok n := by
      refine Classical.byContradiction fun h => hbad fun n hn => h ⟨n, hn⟩
    obtain ⟨hb1, hb2⟩ := Lib.atoiAll_bounds hn
    have HN := Lib.hid hn
    clear hbad hn
    obtain ⟨D, hD⟩ : ∃ D, Lib.itoa n = D := ⟨_, rfl⟩
    have HD := Lib.hid hD
    clear hD
    have AT : Hid (∀ W : World, Calls Tryz.prog 139 #[.string ⟨s.toArray⟩] W fun e w' => e = .returned (.tuple #[.int .i64 n, .nilIface]) ∧ Below W.heap.size W w') := Lib.hid fun W => fatoi_ok s n W HS.out HN
    by_cases hds : D = s
    · by_cases r1 : n < 1
      · obtain ⟨rfl, rfl⟩ : v = 0 ∧ e0 = 12 := by
          have := dn_none (dn_no (s := s) fun m hm _ h1 => by
            have h3 := HN.out
            rw [hm] at h3
            injection h3 with h3
            omega)
          have h2 := HV.out
          exact ⟨h2.1.symm.trans this.1, h2.2.symm.trans this.2⟩
        subst hds
        clear HV HN HS
        go_enter Tryz.func124, Tryz.ntmps124
        go_wp2_with (first
          | (go_at_call 139; refine (AT.out _).mono ?_; rintro e w1 ⟨rfl, k1⟩
             have HA1 := Lib.hid (HA.out.next k1)
             have K1 := Lib.hid k1
             clear k1)
          | (go_at_call 72; refine (fitoa_is n D _ hb1 hb2 HA1.out.pow HD).mono ?_; rintro e w2 ⟨rfl, k2⟩))
        go_ret2
        exact ⟨rfl, K1.out.trans (k2.mono K1.out.size)⟩
      · by_cases r2 : 100 ≤ n
        · obtain ⟨rfl, rfl⟩ : v = 0 ∧ e0 = 12 := by
            have := dn_none (dn_no (s := s) fun m hm _ _ => by
              have h3 := HN.out
              rw [hm] at h3
              injection h3 with h3
              omega)
            have h2 := HV.out
            exact ⟨h2.1.symm.trans this.1, h2.2.symm.trans this.2⟩
          subst hds
          clear HV HN HS
          go_enter Tryz.func124, Tryz.ntmps124
          go_wp2_with (first
            | (go_at_call 139; refine (AT.out _).mono ?_; rintro e w1 ⟨rfl, k1⟩
               have HA1 := Lib.hid (HA.out.next k1)
               have K1 := Lib.hid k1
               clear k1)
            | (go_at_call 72; refine (fitoa_is n D _ hb1 hb2 HA1.out.pow HD).mono ?_; rintro e w2 ⟨rfl, k2⟩))
          go_ret2
          exact ⟨rfl, K1.out.trans (k2.mono K1.out.size)⟩
        · have hy := dn_yes (s := s) (HD.out.trans hds) (by omega) (by omega)
          subst hds
          by_cases r3 : 31 < n
          · obtain ⟨rfl, rfl⟩ : v = 0 ∧ e0 = 10 := by
              have := dn_big hy (by omega)
              have h2 := HV.out
              exact ⟨h2.1.symm.trans this.1, h2.2.symm.trans this.2⟩
            clear HV HN HS hy
            go_enter Tryz.func124, Tryz.ntmps124
            go_wp2_with (first
              | (go_at_call 139; refine (AT.out _).mono ?_; rintro e w1 ⟨rfl, k1⟩
                 have HA1 := Lib.hid (HA.out.next k1)
                 have K1 := Lib.hid k1
                 clear k1)
              | (go_at_call 72; refine (fitoa_is n D _ hb1 hb2 HA1.out.pow HD).mono ?_; rintro e w2 ⟨rfl, k2⟩))
            go_ret2
            exact ⟨rfl, K1.out.trans (k2.mono K1.out.size)⟩
          · obtain ⟨rfl, rfl⟩ : v = n ∧ e0 = 0 := by
              have := dn_fine hy (by omega)
              have h2 := HV.out
              exact ⟨h2.1.symm.trans (this.1.trans (by omega)), h2.2.symm.trans this.2⟩
            clear HV HN HS hy
            go_enter Tryz.func124, Tryz.ntmps124
            go_wp2_with (first
              | (go_at_call 139; refine (AT.out _).mono ?_; rintro e w1 ⟨rfl, k1⟩
                 have HA1 := Lib.hid (HA.out.next k1)
                 have K1 := Lib.hid k1
                 clear k1)
              | (go_at_call 72; refine (fitoa_is v D _ hb1 hb2 HA1.out.pow HD).mono ?_; rintro e w2 ⟨rfl, k2⟩))
            go_ret2
            exact ⟨rfl, K1.out.trans (k2.mono K1.out.size)⟩
    · obtain ⟨rfl, rfl⟩ : v = 0 ∧ e0 = 12 := by
        have := dn_none (dn_no (s := s) fun m hm hi _ => by
          have h3 := HN.out
          rw [hm] at h3
          injection h3 with h3
          subst h3
          exact absurd (HD.out.symm.trans hi) hds)
        have h2 := HV.out
        exact ⟨h2.1.symm.trans this.1, h2.2.symm.trans this.2⟩
      have hds' : (D == s) = false := by simp [hds]
      have hds2 : (D != s) = true := by simp [hds]
      clear hds HV HN HS
      go_enter Tryz.func124, Tryz.ntmps124
      go_wp2_with (first
        | (go_at_call 139; refine (AT.out _).mono ?_; rintro e w1 ⟨rfl, k1⟩
           have HA1 := Lib.hid (HA.out.next k1)
           have K1 := Lib.hid k1
           clear k1)
        | (go_at_call 72; refine (fitoa_is n D _ hb1 hb2 HA1.out.pow HD).mono ?_; rintro e w2 ⟨rfl, k2⟩))
      go_ret2
      exact ⟨rfl, K1.out.trans (k2.mono K1.out.size)⟩
end Go.Proofs.YtfmehdophoejiaaGreatDoor

namespace Go.Proofs.YtfmehdophoejiaaGreatDoor
open Go.RowKit

/-- A text begins with the word, in whatever letters. -/
def bgL (s : List UInt8) : Prop := 4 ≤ s.length ∧ low (s.take 4) = lastW4
instance (s : List UInt8) : Decidable (bgL s) := by unfold bgL; exact inferInstance

theorem ftolower (l : List UInt8) (T : List UInt8) (w : World) (hl : l.length ≤ 1000) (hA : LaidF w) (h : Hid (Lib.toLowerD l = T)) :
    Calls Tryz.prog 144 #[.string ⟨l.toArray⟩] w fun e w' => e = .returned (.string ⟨T.toArray⟩) ∧ Below w.heap.size w w' := by
  have := Tryz.strings_ToLower_any ⟨l.toArray⟩ w (by rw [wsize]; omega) hA.cas hA.u8
  rw [show (⟨l.toArray⟩ : ByteArray).data.toList = l from rfl, h.out] at this
  exact this

theorem bg_not {s : List UInt8} (h : s.length < 4) : ¬ bgL s := fun c => by have := c.1; omega
theorem bg_test {s : List UInt8} (h : 4 ≤ s.length) : (Lib.toLowerD (s.take 4) == lastW4) = decide (bgL s) := by
  rw [show lastW4 = [108, 97, 115, 116] from rfl, lower_is (by rw [List.length_take]; omega) (by intro c hc; simp at hc; rcases hc with rfl | rfl | rfl | rfl <;> decide)]
  rw [Bool.eq_iff_iff, beq_iff_eq, decide_eq_true_iff]
  exact ⟨fun a => ⟨h, a⟩, fun a => a.2⟩

set_option maxHeartbeats 800000 in
theorem dbegins_is (s : List UInt8) (v : Bool) (w : World) (hs : s.length ≤ 1000) (hA : LaidF w) (HV : Hid (decide (bgL s) = v)) :
    Calls Tryz.prog 125 #[.string ⟨s.toArray⟩] w fun e w' => e = .returned (.bool v) ∧ Below w.heap.size w w' := by
  have hz := wsize s
  by_cases h4 : 4 ≤ s.length
  · obtain ⟨t, ht⟩ : ∃ t, s.take 4 = t := ⟨_, rfl⟩
    obtain ⟨T, hT⟩ : ∃ T, Lib.toLowerD t = T := ⟨_, rfl⟩
    have hb := bg_test h4
    rw [ht, hT, HV.out] at hb
    have hb' : (T == [108, 97, 115, 116]) = v := hb
    have hsl : ∀ W, (Instr.slice 9 (.string ⟨s.toArray⟩) none (some (.int .i64 4)) none).run Tryz.prog W = .ok (.string ⟨t.toArray⟩) W := wsub_run s 4 t ht h4
    have hlen : t.length ≤ 1000 := by rw [← ht, List.length_take]; omega
    have TL : Hid (∀ W, LaidF W → Calls Tryz.prog 144 #[.string ⟨t.toArray⟩] W fun e w' => e = .returned (.string ⟨T.toArray⟩) ∧ Below W.heap.size W w') := Lib.hid fun W h => ftolower t T W hlen h (Lib.hid hT)
    have HA := Lib.hid hA
    obtain ⟨n, hn⟩ : ∃ n, s.length = n := ⟨_, rfl⟩
    rw [hn] at hz h4
    have d4 : decide (4 ≤ (n : Int)) = true := decide_eq_true (by omega)
    clear ht hT hb HV hA h4 hn
    cases v
    all_goals
      go_enter Tryz.func125, Tryz.ntmps125
      go_wp2_with (go_at_call 144; refine (TL.out _ HA.out).mono ?_; rintro e w1 ⟨rfl, k1⟩)
      go_ret
      exact ⟨rfl, k1⟩
  · obtain rfl : v = false := by rw [← HV.out]; exact decide_eq_false (bg_not (by omega))
    have h4' : ¬ 4 ≤ (s.length : Int) := by omega
    clear HV h4
    go_enter Tryz.func125, Tryz.ntmps125
    go_wp2
    go_ret
    exact ⟨rfl, Below.refl _ _⟩

theorem fsigns_ix0 (W : World) : (Instr.index 113 (.agg #[.string ⟨#[62, 61]⟩, .string ⟨#[60, 61]⟩]) (.int .i64 0)).run Tryz.prog W = .ok (.string ⟨#[62, 61]⟩) W := by kernel_rfl
theorem fsigns_ix1 (W : World) : (Instr.index 113 (.agg #[.string ⟨#[62, 61]⟩, .string ⟨#[60, 61]⟩]) (.int .i64 1)).run Tryz.prog W = .ok (.string ⟨#[60, 61]⟩) W := by kernel_rfl
theorem findex (s b : List UInt8) (v : Int) (w : World) (hs : s.length ≤ 1000) (hA : MaxF w) (h : Hid (Lib.index s b = v)) :
    Calls Tryz.prog 118 #[.string ⟨s.toArray⟩, .string ⟨b.toArray⟩] w fun e w' => e = .returned (.int .i64 v) ∧ w = w' := by
  obtain ⟨m, hm⟩ := hA
  have := Tryz.strings_Index ⟨s.toArray⟩ ⟨b.toArray⟩ m w (by rw [wsize]; omega) hm
  rw [show (⟨s.toArray⟩ : ByteArray).data.toList = s from rfl, show (⟨b.toArray⟩ : ByteArray).data.toList = b from rfl, h.out] at this
  exact this.mono fun _ _ h => ⟨h.1, h.2.symm⟩

/-- What the loop's two rounds come to. -/
structure Signs (s : List UInt8) (p1 p2 : Nat) (k1 k2 : Int) : Prop where
  l1 : p1 ≤ s.length
  l2 : p2 ≤ s.length
  a : (Lib.index s [62, 61] = (p1 : Int) ∧ k1 = 2) ∨ (Lib.index s [62, 61] = -1 ∧ p1 = s.length ∧ k1 = 0)
  b : (Lib.index (s.take p1) [60, 61] = (p2 : Int) ∧ k2 = 3) ∨ (Lib.index (s.take p1) [60, 61] = -1 ∧ p2 = p1 ∧ k2 = k1)
/-- Where the first sign is, and which kind it tells. -/
def sgP (s : List UInt8) : Nat := match sgnL s with | some (p, _) => p | none => s.length
def sgK (s : List UInt8) : Int := match sgnL s with | some (_, c) => if c = 62 then 2 else 3 | none => 0
theorem signs_ex (s : List UInt8) : ∃ (p1 : Nat) (k1 : Int), Signs s p1 (sgP s) k1 (sgK s) := by
  unfold sgP sgK
  cases h : sgnL s with
  | none =>
    obtain ⟨a, b⟩ := sgn_no h
    exact ⟨s.length, 0, Nat.le_refl _, Nat.le_refl _, .inr ⟨a, rfl, rfl⟩, .inr ⟨by rw [List.take_length]; exact b, rfl, rfl⟩⟩
  | some x =>
    obtain ⟨p, c⟩ := x
    have hl := sgn_lt h
    rcases (sgnL_some h).2.2.1 with rfl | rfl
    · obtain ⟨a, b⟩ := sgn_ge h
      exact ⟨p, 2, by omega, by show p ≤ s.length; omega, .inl ⟨a, rfl⟩, .inr ⟨b, rfl, rfl⟩⟩
    · rcases sgn_le h with ⟨q, a, b, c⟩ | ⟨a, b⟩
      · exact ⟨q, 2, b, by show p ≤ s.length; omega, .inl ⟨a, rfl⟩, .inl ⟨c, rfl⟩⟩
      · exact ⟨s.length, 0, Nat.le_refl _, by show p ≤ s.length; omega, .inr ⟨a, rfl, rfl⟩, .inl ⟨by rw [List.take_length]; exact b, rfl⟩⟩

set_option maxHeartbeats 1600000 in
theorem dfirst_at (s : List UInt8) (p1 p2 : Nat) (k1 k2 : Int) (w : World) (hs : s.length ≤ 1000) (hA : LaidF w) (hS : Signs s p1 p2 k1 k2) :
    Calls Tryz.prog 122 #[.string ⟨s.toArray⟩] w fun e w' => e = .returned (.tuple #[.int .i64 (p2 : Int), .int .i64 k2]) ∧ w = w' := by
  have hz := wsize s
  obtain ⟨l1, l2, a, b⟩ := hS
  have c0 := hA.sig.cell 0 _ rfl
  have c1 := hA.sig.cell 1 _ rfl
  have MX := Lib.hid hA.mx
  have ix0 := fsigns_ix0
  have ix1 := fsigns_ix1
  obtain ⟨n, hn⟩ : ∃ n, s.length = n := ⟨_, rfl⟩
  have HN := Lib.hid hn
  obtain ⟨t1, ht1⟩ : ∃ t1, s.take p1 = t1 := ⟨_, rfl⟩
  have sl0 := wsub_run s n s (by rw [← hn, List.take_length]) (by omega)
  have sl1 := wsub_run s p1 t1 ht1 l1
  have hl1 : t1.length ≤ 1000 := by rw [← ht1, List.length_take]; omega
  obtain ⟨v0, hv0⟩ : ∃ v0, Lib.index s [62, 61] = v0 := ⟨_, rfl⟩
  obtain ⟨v1, hv1⟩ : ∃ v1, Lib.index t1 [60, 61] = v1 := ⟨_, rfl⟩
  rw [hv0] at a
  rw [ht1, hv1] at b
  have I0 : Hid (∀ W, MaxF W → Calls Tryz.prog 118 #[.string ⟨s.toArray⟩, .string ⟨#[62, 61]⟩] W fun e w' => e = .returned (.int .i64 v0) ∧ W = w') := Lib.hid fun W h => findex s [62, 61] v0 W hs h (Lib.hid hv0)
  have I1 : Hid (∀ W, MaxF W → Calls Tryz.prog 118 #[.string ⟨t1.toArray⟩, .string ⟨#[60, 61]⟩] W fun e w' => e = .returned (.int .i64 v1) ∧ W = w') := Lib.hid fun W h => findex t1 [60, 61] v1 W hl1 h (Lib.hid hv1)
  rw [hn] at a hz
  have A := Lib.hid a
  have B := Lib.hid b
  clear hA hn ht1 hv0 hv1 hs hl1 l1 l2 a b
  go_enter Tryz.func122, Tryz.ntmps122
  go_wp2
  go_loop [4, 5, 12] (fun vp vk vi => (vi = .int .i64 0 ∧ vp = .int .i64 (n : Int) ∧ vk = .int .i64 0) ∨ (vi = .int .i64 1 ∧ vp = .int .i64 (p1 : Int) ∧ vk = .int .i64 k1) ∨ (vi = .int .i64 2 ∧ vp = .int .i64 (p2 : Int) ∧ vk = .int .i64 k2)) (fun _ _ vi => (2 - intOf vi).toNat)
  case atStart => exact .inl ⟨rfl, rfl, rfl⟩
  case round =>
    rcases hrel with ⟨rfl, rfl, rfl⟩ | ⟨rfl, rfl, rfl⟩ | ⟨rfl, rfl, rfl⟩
    · rcases A.out with ⟨a1, a2⟩ | ⟨a1, a2, a3⟩
      · subst a1 a2
        clear A B
        go_wp2_with (go_at_call 118; refine (I0.out _ MX.out).mono ?_; rintro e w1 ⟨rfl, rfl⟩)
        go_round
        case rel => exact .inr (.inl ⟨rfl, rfl, rfl⟩)
        case measure => simp [intOf]
      · have hd : decide (0 ≤ v0) = false := by rw [a1]; decide
        subst a2 a3
        clear A B a1 sl1
        go_wp2_with (go_at_call 118; refine (I0.out _ MX.out).mono ?_; rintro e w1 ⟨rfl, rfl⟩)
        go_round
        case rel => exact .inr (.inl ⟨rfl, rfl, rfl⟩)
        case measure => simp [intOf]
    · rcases B.out with ⟨a1, a2⟩ | ⟨a1, a2, a3⟩
      · subst a1 a2
        clear A B
        go_wp2_with (go_at_call 118; refine (I1.out _ MX.out).mono ?_; rintro e w1 ⟨rfl, rfl⟩)
        go_round
        case rel => exact .inr (.inr ⟨rfl, rfl, rfl⟩)
        case measure => simp [intOf]
      · have hd : decide (0 ≤ v1) = false := by rw [a1]; decide
        subst a2 a3
        clear A B a1 sl0
        go_wp2_with (go_at_call 118; refine (I1.out _ MX.out).mono ?_; rintro e w1 ⟨rfl, rfl⟩)
        go_round
        case rel => exact .inr (.inr ⟨rfl, rfl, rfl⟩)
        case measure => simp [intOf]
    · clear A B
      go_wp2
      go_ret2
      exact ⟨rfl, rfl⟩
/-- firstSign. -/
theorem dfirst_is (s : List UInt8) (p : Nat) (k : Int) (w : World) (hs : s.length ≤ 1000) (hA : LaidF w) (HV : Hid (sgP s = p ∧ sgK s = k)) :
    Calls Tryz.prog 122 #[.string ⟨s.toArray⟩] w fun e w' => e = .returned (.tuple #[.int .i64 (p : Int), .int .i64 k]) ∧ w = w' := by
  obtain ⟨p1, k1, h⟩ := signs_ex s
  rw [HV.out.1, HV.out.2] at h
  exact dfirst_at s p1 p k1 k w hs hA h
end Go.Proofs.YtfmehdophoejiaaGreatDoor
