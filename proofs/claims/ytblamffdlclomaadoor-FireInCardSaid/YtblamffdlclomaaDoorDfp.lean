/- Plain facts on days of a month: which may be, which text each one is, which day a text is, and which day of the calendar it is in a month; no program is named. -/
import Derived.Test.YtblamffdlclomaaDoorCal
import Derived.Test.YtblamffdlclomaaDoorWrd
import Derived.Test.YtblamffdlclomaaDoorNmb
import Derived.Lib.Index
namespace Go.Proofs.YtblamffdlclomaaDoor
open Go

/-- Which days of a month may be. -/
def dfD (k wk n : Int) : Prop := (k = 0 ∧ wk = 0 ∧ 1 ≤ n ∧ n ≤ 31) ∨ (k = 1 ∧ 0 ≤ wk ∧ wk ≤ 6 ∧ n = 0) ∨ ((k = 2 ∨ k = 3) ∧ 0 ≤ wk ∧ wk ≤ 6 ∧ 1 ≤ n ∧ n ≤ 31)
def dfB (k wk n : Int) : Bool := decide ((k = 0 ∧ wk = 0 ∧ 1 ≤ n ∧ n ≤ 31) ∨ (k = 1 ∧ 0 ≤ wk ∧ wk ≤ 6 ∧ n = 0) ∨ ((k = 2 ∨ k = 3) ∧ 0 ≤ wk ∧ wk ≤ 6 ∧ 1 ≤ n ∧ n ≤ 31))
theorem dfB_iff {k wk n : Int} : dfB k wk n = true ↔ dfD k wk n := by unfold dfB dfD; simp
theorem dfB_not {k wk n : Int} (h : ¬ dfD k wk n) : dfB k wk n = false := by rw [← Bool.not_eq_true, dfB_iff]; exact h

/-! ### Days of a week -/
def wkD (a : Int) : Int := (a + 4) % 7
/-- The first day from a on that is the day of the week; the last one up to a. -/
def upD (a wk : Int) : Int := a + (wk - wkD a) % 7
def dnD (a wk : Int) : Int := a - (wkD a - wk) % 7
theorem up_spec (a wk : Int) (h0 : 0 ≤ wk) (h6 : wk ≤ 6) : wkD (upD a wk) = wk ∧ a ≤ upD a wk ∧ upD a wk ≤ a + 6 := by unfold upD wkD; omega
theorem dn_spec (a wk : Int) (h0 : 0 ≤ wk) (h6 : wk ≤ 6) : wkD (dnD a wk) = wk ∧ dnD a wk ≤ a ∧ a ≤ dnD a wk + 6 := by unfold dnD wkD; omega
theorem up_same {a wk : Int} (h : wkD a = wk) : upD a wk = a := by unfold upD; omega
theorem dn_same {a wk : Int} (h : wkD a = wk) : dnD a wk = a := by unfold dnD; omega
theorem up_next {a wk : Int} (_h0 : 0 ≤ wk) (_h6 : wk ≤ 6) (h : wkD a ≠ wk) : upD (a + 1) wk = upD a wk := by unfold upD; unfold wkD at h ⊢; omega
theorem dn_next {a wk : Int} (_h0 : 0 ≤ wk) (_h6 : wk ≤ 6) (h : wkD a ≠ wk) : dnD (a - 1) wk = dnD a wk := by unfold dnD; unfold wkD at h ⊢; omega
theorem up_dn (a wk : Int) : upD a wk = dnD (a + 6) wk := by unfold upD dnD wkD; omega
theorem up_one (a wk : Int) : upD (a + 1) wk = upD a wk ∨ upD (a + 1) wk = upD a wk + 7 := by unfold upD wkD; omega
theorem up_week (a wk : Int) : upD (a + 7) wk = upD a wk + 7 := by unfold upD wkD; omega
theorem wkD_bd (a : Int) : 0 ≤ wkD a ∧ wkD a ≤ 6 := by unfold wkD; omega

/-! ### Which day of the calendar it is -/
/-- The day at which it is told, and the day that it is. -/
def atD (k n y m : Int) : Int := if k = 1 then dayN y m 1 - 1 + dim y m else dayN y m 1 - 1 + n
def hitD (k wk a : Int) : Int := if k = 0 then a else if k = 2 then upD a wk else dnD a wk
def tgtD (k wk n y m : Int) : Int := hitD k wk (atD k n y m)
/-- There is such a month, and it has so many days. -/
def mnD (y m n : Int) : Prop := -100000 ≤ y ∧ y ≤ 100000 ∧ 1 ≤ m ∧ m ≤ 12 ∧ n ≤ dim y m
def inR (a : Int) : Prop := -37243778 ≤ a ∧ a ≤ 35805087

theorem day_one (y m d : Int) : dayN y m d = dayN y m 1 - 1 + d := by unfold dayN; omega
theorem at_date (k wk n y m : Int) (hd : dfD k wk n) (hm : mnD y m n) : okD y m (if k = 1 then dim y m else n) ∧ dayN y m (if k = 1 then dim y m else n) = atD k n y m := by
  obtain ⟨h1, h2, h3, h4, h5⟩ := hm
  have hb := dim_bd y m h3 h4
  unfold dfD at hd
  unfold atD okD
  rw [day_one]
  by_cases hk : k = 1
  · rw [if_pos hk, if_pos hk]; omega
  · rw [if_neg hk, if_neg hk]; omega
theorem wi_in {y m d : Int} (a : okD y m d) : inR (dayN y m d) := day_bd a

theorem cum_find (y : Int) : ∀ (n : Nat) (k : Int), (n : Int) ≤ 11 → 0 ≤ k → k < cum y ((n : Int) + 2) → ∃ m : Int, 1 ≤ m ∧ m ≤ (n : Int) + 1 ∧ cum y m ≤ k ∧ k < cum y (m + 1)
  | 0, k, _, h0, h1 => ⟨1, by omega, by omega, by rw [cum_1]; exact h0, h1⟩
  | n + 1, k, hn, h0, h1 => by
    by_cases c : cum y ((n : Int) + 2) ≤ k
    · refine ⟨(n : Int) + 2, by omega, by omega, c, ?_⟩
      have e : (n : Int) + 2 + 1 = ((n + 1 : Nat) : Int) + 2 := by omega
      rw [e]; exact h1
    · obtain ⟨m, a, b, c, d⟩ := cum_find y n k (by omega) h0 (by omega)
      exact ⟨m, a, by omega, c, d⟩
/-- Each day in reach has a date. -/
theorem fdate_ex {a : Int} (h : inR a) : ∃ y m d : Int, okD y m d ∧ dayN y m d = a := by
  obtain ⟨h1, h2⟩ := h
  have hs := yo_spec a
  have hb := yo_bd a h1 h2
  rw [ny_succ] at hs
  have c13 := cum_13 (yo a)
  obtain ⟨m, m1, m2, m3, m4⟩ := cum_find (yo a) 11 (a - ny (yo a)) (by omega) (by omega) (by
    show _ < cum (yo a) 13
    omega)
  refine ⟨yo a, m, a - ny (yo a) - cum (yo a) m + 1, ?_, ?_⟩
  · have := cum_succ (yo a) m
    have m2' : m ≤ 12 := m2
    unfold okD; omega
  · unfold dayN; omega

theorem hit_next {k wk a s : Int} (hk : k ≠ 0) (h0 : 0 ≤ wk) (h6 : wk ≤ 6) (hs : s = if k = 2 then 1 else -1) (h : wkD a ≠ wk) : hitD k wk (a + s) = hitD k wk a := by
  unfold hitD
  rw [if_neg hk, if_neg hk]
  by_cases h2 : k = 2
  · rw [if_pos h2] at hs ⊢
    rw [hs, if_pos h2]; exact up_next h0 h6 h
  · rw [if_neg h2] at hs ⊢
    rw [hs, if_neg h2]; exact dn_next h0 h6 h
theorem hit_same {k wk a : Int} (h : wkD a = wk) : hitD k wk a = a := by
  unfold hitD
  split
  · rfl
  · split
    · exact up_same h
    · exact dn_same h
theorem hit_zero (wk a : Int) : hitD 0 wk a = a := rfl
/-- Behind the days' end there is none. -/
theorem hit_out {k wk a s : Int} (hk : k ≠ 0) (h0 : 0 ≤ wk) (h6 : wk ≤ 6) (hs : s = if k = 2 then 1 else -1) (h3 : s = 1 → a = 35805088) (h4 : s = -1 → a = -37243779) : ¬ inR (hitD k wk a) := by
  unfold hitD
  rw [if_neg hk]
  unfold inR
  by_cases hk2 : k = 2
  · rw [if_pos hk2] at hs ⊢
    have := up_spec a wk h0 h6
    have := h3 hs
    omega
  · rw [if_neg hk2] at hs ⊢
    have := dn_spec a wk h0 h6
    have := h4 hs
    omega

/-! ### Texts -/
def dig1 (n : Int) : UInt8 := UInt8.ofNat (48 + n.toNat % 10)
def numT (n : Int) : List UInt8 := if n ≤ 9 then [UInt8.ofNat (48 + n.toNat)] else [UInt8.ofNat (48 + n.toNat / 10), UInt8.ofNat (48 + n.toNat % 10)]
theorem numT_itoa {n : Int} (h1 : 1 ≤ n) (h2 : n ≤ 31) : Lib.itoa n = numT n := by
  obtain ⟨k, rfl⟩ : ∃ k : Nat, n = k := ⟨n.toNat, by omega⟩
  rw [itoa_pos]
  unfold numT
  by_cases h : (k : Int) ≤ 9
  · rw [if_pos h, Lib.decDigits_one (by omega)]; rfl
  · rw [if_neg h]
    have e : Lib.decDigits k = Lib.decDigits (k / 10) ++ [UInt8.ofNat (48 + k % 10)] := by rw [Lib.decDigits, dif_neg (by omega)]
    rw [e, Lib.decDigits_one (by omega)]; rfl
/-- A day's number that a text is; its error. -/
def dnum (s : List UInt8) : Option Nat := if (s.length = 1 ∨ s.length = 2) ∧ s.head? ≠ some 48 ∧ allDg s = true then some (valD 0 s) else none
def dnV (s : List UInt8) : Int := match dnum s with | some n => if n ≤ 31 then (n : Int) else 0 | none => 0
def dnE (s : List UInt8) : Int := match dnum s with | some n => if n ≤ 31 then 0 else 10 | none => 12
theorem val_pos {s : List UInt8} (h0 : s ≠ []) (h : s.head? ≠ some 48) (hd : allDg s = true) : 1 ≤ valD 0 s := by
  cases s with
  | nil => exact absurd rfl h0
  | cons c r =>
    have hc : isDg c = true := by simp only [allDg, List.all_cons, Bool.and_eq_true] at hd; exact hd.1
    have h1 := isDg_iff.1 hc
    have h2 : c ≠ 48 := by simpa using h
    have h3 : c.toNat ≠ 48 := fun e => h2 (UInt8.toNat_inj.1 e)
    have e : valD 0 (c :: r) = valD (10 * 0 + (c.toNat - 48)) r := rfl
    have := valD_ge r (10 * 0 + (c.toNat - 48))
    rw [e]; omega
theorem dnum_some {s : List UInt8} {n : Nat} (h : dnum s = some n) : Lib.itoa (n : Int) = s ∧ 1 ≤ n ∧ n < 100 := by
  unfold dnum at h
  split at h
  · rename_i hc
    obtain ⟨hl, hh, hd⟩ := hc
    injection h with h
    subst h
    have h0 : s ≠ [] := by intro e; subst e; simp at hl
    have hv := valD_lt s 0 hd
    rw [itoa_pos, dec_val s.length s rfl (by omega) (.inr hh) hd]
    refine ⟨rfl, val_pos h0 hh hd, ?_⟩
    rcases hl with hl | hl <;> rw [hl] at hv <;> omega
  · cases h
theorem dnum_itoa {n : Int} (h1 : 1 ≤ n) (h2 : n < 100) : dnum (Lib.itoa n) = some n.toNat := by
  obtain ⟨k, rfl⟩ : ∃ k : Nat, n = k := ⟨n.toNat, by omega⟩
  rw [itoa_pos]
  obtain ⟨d1, d2, d3, d4⟩ := dec_ok k
  have hl : (Lib.decDigits k).length ≤ 2 := by rw [Lib.decDigits_length]; exact nDig_lt 1 k (by omega)
  unfold dnum
  rw [if_pos ⟨by omega, d4 (by omega), d1⟩, d2]; rfl
/-- What the program asks of a number of Atoi's is what the document asks. -/
theorem dn_yes {s : List UInt8} {n : Int} (he : Lib.itoa n = s) (h1 : 1 ≤ n) (h2 : n < 100) : dnum s = some n.toNat := he ▸ dnum_itoa h1 h2
theorem dn_no {s : List UInt8} (h : ∀ n : Int, Lib.atoiAll s = .ok n → Lib.itoa n = s → 1 ≤ n → ¬ n < 100) : dnum s = none := by
  cases hd : dnum s with
  | none => rfl
  | some n =>
    obtain ⟨h1, h2, h3⟩ := dnum_some hd
    exact absurd (show ((n : Nat) : Int) < 100 by omega) (h n (h1 ▸ atoi_itoa (by omega) (by omega)) h1 (by omega))

/-- The first sign of a text: its place, and its first byte. -/
def sgnF : List UInt8 → Nat → Option (Nat × UInt8)
  | a :: b :: r, i => if b = 61 ∧ (a = 62 ∨ a = 60) then some (i, a) else sgnF (b :: r) (i + 1)
  | _, _ => none
def sgnL (s : List UInt8) : Option (Nat × UInt8) := sgnF s 0
def signAt (s : List UInt8) (i : Nat) : Prop := s[i + 1]? = some 61 ∧ (s[i]? = some 62 ∨ s[i]? = some 60)
theorem sgnF_some : ∀ {s : List UInt8} {i p : Nat} {c : UInt8}, sgnF s i = some (p, c) → ∃ j, p = i + j ∧ s[j]? = some c ∧ s[j + 1]? = some 61 ∧ (c = 62 ∨ c = 60) ∧ ∀ t, t < j → ¬ signAt s t
  | a :: b :: r, i, p, c, h => by
    unfold sgnF at h
    split at h
    · rename_i hc
      injection h with h
      injection h with h1 h2
      subst h1 h2
      exact ⟨0, rfl, rfl, by simp [hc.1], hc.2, fun t ht => by omega⟩
    · rename_i hc
      obtain ⟨j, h1, h2, h3, h4, h5⟩ := sgnF_some h
      refine ⟨j + 1, by omega, by simpa using h2, by simpa using h3, h4, fun t ht => ?_⟩
      cases t with
      | zero =>
        rintro ⟨g1, g2⟩
        exact hc ⟨by simpa using g1, by simpa using g2⟩
      | succ t =>
        have := h5 t (by omega)
        simpa [signAt] using this
  | [a], i, p, c, h => by simp [sgnF] at h
  | [], i, p, c, h => by simp [sgnF] at h
theorem sgnF_none : ∀ {s : List UInt8} {i : Nat}, sgnF s i = none → ∀ t, ¬ signAt s t
  | a :: b :: r, i, h, t => by
    unfold sgnF at h
    split at h
    · cases h
    · rename_i hc
      have ih := sgnF_none h
      cases t with
      | zero =>
        rintro ⟨g1, g2⟩
        exact hc ⟨by simpa using g1, by simpa using g2⟩
      | succ t =>
        have := ih t
        simpa [signAt] using this
  | [a], i, h, t => by simp [signAt]
  | [], i, h, t => by simp [signAt]
theorem sgnL_some {s : List UInt8} {p : Nat} {c : UInt8} (h : sgnL s = some (p, c)) : s[p]? = some c ∧ s[p + 1]? = some 61 ∧ (c = 62 ∨ c = 60) ∧ ∀ t, t < p → ¬ signAt s t := by
  obtain ⟨j, h1, h2⟩ := sgnF_some h
  obtain rfl : p = j := by omega
  exact h2

theorem occ_sign (s : List UInt8) (c : UInt8) (i : Nat) : Lib.occAt s [c, 61] i = true ↔ s[i]? = some c ∧ s[i + 1]? = some 61 := by
  unfold Lib.occAt
  rw [List.isPrefixOf_iff_prefix]
  have e0 : s[i]? = (s.drop i)[0]? := by simp
  have e1 : s[i + 1]? = (s.drop i)[1]? := by simp
  rw [e0, e1]
  generalize s.drop i = l
  cases l with
  | nil => simp
  | cons a l =>
    cases l with
    | nil => simp [List.cons_prefix_cons]
    | cons b l => simp [List.cons_prefix_cons]; constructor <;> rintro ⟨h1, h2⟩ <;> exact ⟨h1.symm, h2.symm⟩
theorem occ_no {s : List UInt8} {c : UInt8} {i : Nat} (h : ¬ (s[i]? = some c ∧ s[i + 1]? = some 61)) : Lib.occAt s [c, 61] i = false := by
  rw [← Bool.not_eq_true, occ_sign]; exact h
theorem index_cases (s : List UInt8) (c : UInt8) : (∃ i : Nat, Lib.index s [c, 61] = i ∧ s[i]? = some c ∧ s[i + 1]? = some 61 ∧ ∀ j, j < i → ¬ (s[j]? = some c ∧ s[j + 1]? = some 61)) ∨ (Lib.index s [c, 61] = -1 ∧ ∀ j, ¬ (s[j]? = some c ∧ s[j + 1]? = some 61)) := by
  by_cases h : ∃ i, s[i]? = some c ∧ s[i + 1]? = some 61
  · left
    have hex : ∃ i, (s[i]? = some c ∧ s[i + 1]? = some 61) ∧ ∀ j, j < i → ¬ (s[j]? = some c ∧ s[j + 1]? = some 61) := by
      obtain ⟨i, hi⟩ := h
      induction i using Nat.strongRecOn with
      | _ i ih =>
        by_cases hm : ∃ j, j < i ∧ s[j]? = some c ∧ s[j + 1]? = some 61
        · obtain ⟨j, h1, h2⟩ := hm
          exact ih j h1 h2
        · exact ⟨i, hi, fun j h1 h2 => hm ⟨j, h1, h2⟩⟩
    obtain ⟨i, h1, h2⟩ := hex
    have hl : i < s.length := (List.getElem?_eq_some_iff.1 h1.1).1
    exact ⟨i, Lib.index_first (by omega) ((occ_sign s c i).2 h1) (fun j hj => occ_no (h2 j hj)), h1.1, h1.2, h2⟩
  · right
    exact ⟨Lib.index_none fun j _ => occ_no fun hc => h ⟨j, hc⟩, fun j hj => h ⟨j, hj⟩⟩
theorem take_get {s : List UInt8} {p i : Nat} {v : UInt8} : (s.take p)[i]? = some v ↔ i < p ∧ s[i]? = some v := by
  rw [List.getElem?_take]
  split
  · rename_i h; simp [h]
  · rename_i h; simp [h]

/-- The two searches of the program find the first sign. -/
theorem sgn_ge {s : List UInt8} {p : Nat} (h : sgnL s = some (p, 62)) : Lib.index s [62, 61] = p ∧ Lib.index (s.take p) [60, 61] = -1 := by
  obtain ⟨h1, h2, _, h4⟩ := sgnL_some h
  have hl : p < s.length := (List.getElem?_eq_some_iff.1 h1).1
  refine ⟨Lib.index_first (by omega) ((occ_sign s 62 p).2 ⟨h1, h2⟩) (fun j hj => occ_no fun hc => h4 j hj ⟨hc.2, .inl hc.1⟩), Lib.index_none fun j _ => occ_no fun hc => ?_⟩
  have a := take_get.1 hc.1
  have b := take_get.1 hc.2
  exact h4 j a.1 ⟨b.2, .inr a.2⟩
theorem sgn_le {s : List UInt8} {p : Nat} (h : sgnL s = some (p, 60)) : (∃ q : Nat, Lib.index s [62, 61] = q ∧ q ≤ s.length ∧ Lib.index (s.take q) [60, 61] = p) ∨ (Lib.index s [62, 61] = -1 ∧ Lib.index s [60, 61] = p) := by
  obtain ⟨h1, h2, _, h4⟩ := sgnL_some h
  have hl : p < s.length := (List.getElem?_eq_some_iff.1 h1).1
  rcases index_cases s 62 with ⟨q, e, g1, g2, g3⟩ | ⟨e, g⟩
  · left
    have hq : q < s.length := (List.getElem?_eq_some_iff.1 g1).1
    refine ⟨q, e, by omega, ?_⟩
    have hpq : p < q := by
      refine Nat.lt_of_not_le fun hle => ?_
      by_cases hc : q = p
      · subst hc; rw [h1] at g1; cases g1
      · exact h4 q (by omega) ⟨g2, .inl g1⟩
    have hpq2 : p + 1 ≠ q := fun hc => by rw [← hc, h2] at g1; cases g1
    refine Lib.index_first (by rw [List.length_take]; omega) ((occ_sign _ 60 p).2 ⟨take_get.2 ⟨by omega, h1⟩, take_get.2 ⟨by omega, h2⟩⟩) (fun j hj => occ_no fun hc => ?_)
    exact h4 j hj ⟨(take_get.1 hc.2).2, .inr (take_get.1 hc.1).2⟩
  · right
    exact ⟨e, Lib.index_first (by omega) ((occ_sign s 60 p).2 ⟨h1, h2⟩) (fun j hj => occ_no fun hc => h4 j hj ⟨hc.2, .inr hc.1⟩)⟩
theorem sgn_no {s : List UInt8} (h : sgnL s = none) : Lib.index s [62, 61] = -1 ∧ Lib.index s [60, 61] = -1 :=
  ⟨Lib.index_none fun j _ => occ_no fun hc => sgnF_none h j ⟨hc.2, .inl hc.1⟩, Lib.index_none fun j _ => occ_no fun hc => sgnF_none h j ⟨hc.2, .inr hc.1⟩⟩
theorem sgn_lt {s : List UInt8} {p : Nat} {c : UInt8} (h : sgnL s = some (p, c)) : p + 2 ≤ s.length := by
  have h2 := (sgnL_some h).2.1
  have := (List.getElem?_eq_some_iff.1 h2).1
  omega

def weeks7 : List (List UInt8) := [[115, 117, 110, 100, 97, 121], [109, 111, 110, 100, 97, 121], [116, 117, 101, 115, 100, 97, 121], [119, 101, 100, 110, 101, 115, 100, 97, 121], [116, 104, 117, 114, 115, 100, 97, 121], [102, 114, 105, 100, 97, 121], [115, 97, 116, 117, 114, 100, 97, 121]]
def lastW4 : List UInt8 := [108, 97, 115, 116]
/-- Which day of a week a word is: 7, if it is none. -/
def wkN (s : List UInt8) : Option Nat := findL (low s) weeks7
/-- The day that a text is: kind, day of the week, number, error. -/
def parsF (s : List UInt8) : Int × Int × Int × Int :=
  match sgnL s with
  | some (p, c) =>
    match wkN (s.take p) with
    | none => (0, 0, 0, 13)
    | some w => if dnE (s.drop (p + 2)) = 0 then (if c = 62 then 2 else 3, (w : Int), dnV (s.drop (p + 2)), 0) else (0, 0, 0, dnE (s.drop (p + 2)))
  | none =>
    if 4 ≤ s.length ∧ low (s.take 4) = lastW4 then
      match wkN (s.drop 4) with
      | none => (0, 0, 0, 13)
      | some w => (1, (w : Int), 0, 0)
    else if dnE s = 0 then (0, 0, dnV s, 0) else (0, 0, 0, dnE s)

def dname (wk : Int) : List UInt8 := match weeks7.getD wk.toNat [] with | a :: b :: c :: _ => [a - 32, b, c] | _ => []
/-- The text of a day. -/
def dfT (k wk n : Int) : List UInt8 := if k = 0 then numT n else if k = 1 then lastW4 ++ dname wk else if k = 2 then dname wk ++ [62, 61] ++ numT n else dname wk ++ [60, 61] ++ numT n

set_option maxRecDepth 100000 in
theorem fback_fixed : ∀ n : Fin 31, parsF (dfT 0 0 ((n.val + 1 : Nat) : Int)) = (0, 0, ((n.val + 1 : Nat) : Int), 0) := by decide +kernel
set_option maxRecDepth 100000 in
theorem fback_last : ∀ k : Fin 7, parsF (dfT 1 (k.val : Int) 0) = (1, (k.val : Int), 0, 0) := by decide +kernel
set_option maxRecDepth 100000 in
theorem fback_ge : ∀ k : Fin 7, ∀ n : Fin 31, parsF (dfT 2 (k.val : Int) ((n.val + 1 : Nat) : Int)) = (2, (k.val : Int), ((n.val + 1 : Nat) : Int), 0) := by decide +kernel
set_option maxRecDepth 100000 in
theorem fback_le : ∀ k : Fin 7, ∀ n : Fin 31, parsF (dfT 3 (k.val : Int) ((n.val + 1 : Nat) : Int)) = (3, (k.val : Int), ((n.val + 1 : Nat) : Int), 0) := by decide +kernel
/-- The day of a day's text is the day. -/
theorem pars_text {k wk n : Int} (h : dfD k wk n) : parsF (dfT k wk n) = (k, wk, n, 0) := by
  rcases h with ⟨rfl, rfl, h1, h2⟩ | ⟨rfl, h1, h2, rfl⟩ | ⟨hk, h1, h2, h3, h4⟩
  · have := fback_fixed ⟨(n - 1).toNat, by omega⟩
    rwa [show (((n - 1).toNat + 1 : Nat) : Int) = n by omega] at this
  · have := fback_last ⟨wk.toNat, by omega⟩
    rwa [show ((wk.toNat : Nat) : Int) = wk by omega] at this
  · rcases hk with rfl | rfl
    · have := fback_ge ⟨wk.toNat, by omega⟩ ⟨(n - 1).toNat, by omega⟩
      rwa [show ((wk.toNat : Nat) : Int) = wk by omega, show (((n - 1).toNat + 1 : Nat) : Int) = n by omega] at this
    · have := fback_le ⟨wk.toNat, by omega⟩ ⟨(n - 1).toNat, by omega⟩
      rwa [show ((wk.toNat : Nat) : Int) = wk by omega, show (((n - 1).toNat + 1 : Nat) : Int) = n by omega] at this
end Go.Proofs.YtblamffdlclomaaDoor
