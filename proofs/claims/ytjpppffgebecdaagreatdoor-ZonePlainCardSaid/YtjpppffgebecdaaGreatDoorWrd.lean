/- Plain facts on words: what is short for what, of lists of words in small letters; no program is named. -/
import Derived.Lib.MapLaws
import Derived.Lib.Hide
namespace Go.Proofs.YtjpppffgebecdaaGreatDoor
open Go

/-- A letter, small. -/
def lowB (c : UInt8) : UInt8 := if 65 ≤ c.toNat ∧ c.toNat ≤ 90 then c + 32 else c
def low (l : List UInt8) : List UInt8 := l.map lowB

def begins (b w : List UInt8) : Bool := !b.isEmpty && b.isPrefixOf w
/-- Which places have words that b is short for, and whether it is all of the word. -/
def meantL (b : List UInt8) : List (List UInt8) → Nat → List (Nat × Bool)
  | [], _ => []
  | w :: ws, i => if begins b w then (i, decide (b = w)) :: meantL b ws (i + 1) else meantL b ws (i + 1)
/-- Which place is meant: the word itself, or the only one. -/
def scan (b : List UInt8) : List (List UInt8) → Nat → Nat → Nat → Option Nat
  | [], _, many, found => if many = 1 then some found else none
  | w :: ws, i, many, found => if w = b then some i else if begins b w then scan b ws (i + 1) (many + 1) i else scan b ws (i + 1) many found
def findL (b : List UInt8) (ws : List (List UInt8)) : Option Nat := scan b ws 0 0 0

theorem begins_nil (w : List UInt8) : begins [] w = false := rfl
theorem begins_self {w : List UInt8} (h : w ≠ []) : begins w w = true := by
  unfold begins
  rw [Bool.and_eq_true]
  exact ⟨by cases w <;> simp_all, List.isPrefixOf_iff_prefix.2 (List.prefix_refl w)⟩
theorem begins_iff {b w : List UInt8} : begins b w = true ↔ b ≠ [] ∧ b <+: w := by
  unfold begins
  rw [Bool.and_eq_true, List.isPrefixOf_iff_prefix]
  cases b <;> simp

/-- The last place, found so far. -/
def lastP (d : Nat) (xs : List (Nat × Bool)) : Nat := (xs.getLast?.map (·.1)).getD d
theorem lastP_snoc (d : Nat) (xs : List (Nat × Bool)) (x : Nat × Bool) : lastP d (xs ++ [x]) = x.1 := by simp [lastP]
theorem lastP_cons (d : Nat) (x : Nat × Bool) (xs : List (Nat × Bool)) : lastP d (x :: xs) = lastP x.1 xs := by
  unfold lastP
  cases xs with
  | nil => rfl
  | cons y ys =>
    rw [List.getLast?_cons_cons]
    cases h : (y :: ys).getLast? with
    | none => simp at h
    | some z => rfl
def noneW (xs : List (Nat × Bool)) : Bool := xs.all fun x => !x.2
theorem noneW_snoc (xs : List (Nat × Bool)) (x : Nat × Bool) : noneW (xs ++ [x]) = (noneW xs && !x.2) := by simp [noneW]

theorem scan_none (b : List UInt8) : ∀ (ws : List (List UInt8)) (i many found : Nat), (∀ w ∈ ws, w ≠ []) → noneW (meantL b ws i) = true →
    scan b ws i many found = if many + (meantL b ws i).length = 1 then some (lastP found (meantL b ws i)) else none
  | [], i, many, found, _, _ => rfl
  | w :: ws, i, many, found, hw, h => by
    have ih := fun m f => scan_none b ws (i + 1) m f (fun x hx => hw x (List.mem_cons_of_mem _ hx))
    unfold scan
    by_cases hb : begins b w = true
    · simp only [meantL, if_pos hb] at h ⊢
      simp only [noneW, List.all_cons, Bool.and_eq_true, Bool.not_eq_true', decide_eq_false_iff_not] at h
      rw [if_neg (fun e => h.1 e.symm), ih _ _ h.2, lastP_cons, List.length_cons]
      congr 1
      apply propext; omega
    · simp only [meantL, if_neg hb] at h ⊢
      have hne : w ≠ b := fun e => hb (e ▸ begins_self (hw w (List.mem_cons_self ..)))
      rw [if_neg hne, ih _ _ h]

theorem scan_some (b : List UInt8) : ∀ (ws : List (List UInt8)) (i many found : Nat) (pre rest : List (Nat × Bool)) (p : Nat), (∀ w ∈ ws, w ≠ []) → noneW pre = true → meantL b ws i = pre ++ (p, true) :: rest →
    scan b ws i many found = some p
  | [], i, many, found, pre, rest, p, _, _, h => by cases pre <;> simp [meantL] at h
  | w :: ws, i, many, found, pre, rest, p, hw, hn, h => by
    have ih := fun m f pre => scan_some b ws (i + 1) m f pre rest p (fun x hx => hw x (List.mem_cons_of_mem _ hx))
    unfold scan
    by_cases hb : begins b w = true
    · simp only [meantL, if_pos hb] at h
      cases pre with
      | nil =>
        simp only [List.nil_append, List.cons.injEq, Prod.mk.injEq, decide_eq_true_eq] at h
        rw [if_pos h.1.2.symm, h.1.1]
      | cons x pre =>
        simp only [List.cons_append, List.cons.injEq] at h
        obtain ⟨rfl, h⟩ := h
        simp only [noneW, List.all_cons, Bool.and_eq_true, Bool.not_eq_true', decide_eq_false_iff_not] at hn
        rw [if_neg (fun e => hn.1 e.symm), if_pos hb]
        exact ih _ _ pre hn.2 h
    · simp only [meantL, if_neg hb] at h
      have hne : w ≠ b := fun e => hb (e ▸ begins_self (hw w (List.mem_cons_self ..)))
      rw [if_neg hne, if_neg hb]
      exact ih _ _ pre hn h

theorem meantL_len (b : List UInt8) : ∀ (ws : List (List UInt8)) (i : Nat), (meantL b ws i).length ≤ ws.length
  | [], _ => by simp [meantL]
  | w :: ws, i => by
    have := meantL_len b ws (i + 1)
    unfold meantL
    split
    · simp; omega
    · simp; omega
theorem meantL_lt (b : List UInt8) : ∀ (ws : List (List UInt8)) (i : Nat), ∀ x ∈ meantL b ws i, x.1 < i + ws.length
  | [], _, x, h => by simp [meantL] at h
  | w :: ws, i, x, h => by
    have ih := meantL_lt b ws (i + 1) x
    simp only [meantL] at h
    split at h
    · rcases List.mem_cons.1 h with rfl | h
      · simp
      · have := ih h; simp; omega
    · have := ih h; simp; omega
theorem lastP_lt {d n : Nat} (xs : List (Nat × Bool)) (hd : d < n) (h : ∀ x ∈ xs, x.1 < n) : lastP d xs < n := by
  unfold lastP
  cases hx : xs.getLast? with
  | none => exact hd
  | some y => exact h y (List.mem_of_getLast? hx)

/-- What comes out of a call: the place, so many more, or that there is none. -/
def resN (o : Option Nat) (more : Nat) : Nat := match o with | some p => p + more | none => 0
def resE (o : Option Nat) : Nat := match o with | some _ => 0 | none => 13

/-! ### The small letters of strings.Map -/
def smallZ (r : Int) : Int := if 65 ≤ r ∧ r ≤ 90 then r + 32 else r
theorem smallZ_bd (x : Nat) (h : x ≤ 1114111) : 0 ≤ smallZ x ∧ smallZ x ≤ 2147483647 := by unfold smallZ; split <;> omega

def ascii (w : List UInt8) : Prop := ∀ c ∈ w, c.toNat < 128
theorem decode_one {c : UInt8} (r : List UInt8) (h : c.toNat < 128) : Lib.decodeL (c :: r) = (c.toNat, 1) := by
  unfold Lib.decodeL Utf8.decode
  have e : (⟨(c :: r).toArray⟩ : ByteArray).get! 0 = c := rfl
  have e1 : 0 < (⟨(c :: r).toArray⟩ : ByteArray).size := by simp [ByteArray.size]
  simp [e, h]
theorem decode_big {c : UInt8} (r : List UInt8) (h : ¬ c.toNat < 128) : 128 ≤ (Lib.decodeL (c :: r)).1 := by
  have hne : c :: r ≠ [] := by simp
  by_cases hv : (Lib.decodeL (c :: r)).1 = 65533 ∧ (Lib.decodeL (c :: r)).2 = 1
  · rw [hv.1]; decide
  · refine Nat.le_of_not_lt fun hlt => ?_
    have e := Lib.encode_decode (c :: r) hne hv
    have e2 : Lib.encodeRune ((Lib.decodeL (c :: r)).1 : Int) = [(Lib.decodeL (c :: r)).1.toUInt8] := by
      unfold Lib.encodeRune
      rw [Lib.encodeRuneZ_one (by omega) (by omega)]; simp
    rw [e2] at e
    have e3 := congrArg List.head? e
    have hw := Lib.width_pos ⟨(c :: r).toArray⟩ 0
    cases hk : (Lib.decodeL (c :: r)).2 with
    | zero => have : (Utf8.decode ⟨(c :: r).toArray⟩ 0).2 = 0 := hk; omega
    | succ k =>
      rw [hk] at e3
      simp only [List.take_succ_cons, List.head?_cons, Option.some.injEq] at e3
      apply h
      rw [← e3]
      have : (Lib.decodeL (c :: r)).1 % 256 = (Lib.decodeL (c :: r)).1 := Nat.mod_eq_of_lt (by omega)
      show (Lib.decodeL (c :: r)).1.toUInt8.toNat < 128
      simp only [Nat.toUInt8, UInt8.toNat_ofNat']
      omega
theorem encode_big {r : Int} (h : 128 ≤ r) : ∃ c t, Lib.encodeRune r = c :: t ∧ 128 ≤ c.toNat := by
  unfold Lib.encodeRune Lib.encodeRuneZ
  rw [if_neg (by omega)]
  have big : ∀ x : Int, 128 ≤ x → x < 256 → 128 ≤ (x.toNat.toUInt8).toNat := by
    intro x h1 h2
    simp only [Nat.toUInt8, UInt8.toNat_ofNat']
    omega
  split
  · exact ⟨_, _, rfl, big _ (by omega) (by omega)⟩
  · split
    · exact ⟨_, _, rfl, big _ (by omega) (by omega)⟩
    · split
      · exact ⟨_, _, rfl, big _ (by omega) (by omega)⟩
      · exact ⟨_, _, rfl, by decide⟩

/-- Two texts that are alike as beginnings of words. -/
def Alike (s t : List UInt8) : Prop := ∀ w, ascii w → (s <+: w ↔ t <+: w) ∧ (s = w ↔ t = w)
theorem Alike.cons {s t : List UInt8} (h : Alike s t) (c : UInt8) : Alike (c :: s) (c :: t) := by
  intro w hw
  cases w with
  | nil => simp
  | cons d w =>
    have := h w fun x hx => hw x (List.mem_cons_of_mem _ hx)
    simp only [List.cons_prefix_cons, List.cons.injEq, this.1, this.2, and_self]
theorem alike_big {c d : UInt8} {s t : List UInt8} (hc : 128 ≤ c.toNat) (hd : 128 ≤ d.toNat) : Alike (c :: s) (d :: t) := by
  intro w hw
  cases w with
  | nil => simp
  | cons e w =>
    have := hw e (List.mem_cons_self ..)
    have h1 : c ≠ e := fun h => by subst h; omega
    have h2 : d ≠ e := fun h => by subst h; omega
    simp [List.cons_prefix_cons, h1, h2]
theorem lowB_toNat (c : UInt8) : (lowB c).toNat = if 65 ≤ c.toNat ∧ c.toNat ≤ 90 then c.toNat + 32 else c.toNat := by
  unfold lowB
  split
  · rw [UInt8.toNat_add]; show (c.toNat + 32) % 256 = _; omega
  · rfl
theorem map_alike : ∀ (n : Nat) (s : List UInt8), s.length ≤ n → Alike (Lib.mapD smallZ s) (low s)
  | _, [], _ => fun w _ => by simp [Lib.mapD_nil, low]
  | 0, c :: r, h => by simp at h
  | n + 1, c :: r, h => by
    rw [Lib.mapD_step smallZ (c :: r) (by simp)]
    show Alike _ (lowB c :: low r)
    by_cases hc : c.toNat < 128
    · rw [decode_one r hc]
      have e : Lib.encodeRune (smallZ (c.toNat : Int)) = [lowB c] := by
        unfold Lib.encodeRune
        have hb : 0 ≤ smallZ c.toNat ∧ smallZ c.toNat ≤ 127 := by unfold smallZ; split <;> omega
        rw [Lib.encodeRuneZ_one hb.1 hb.2]
        show [(smallZ c.toNat).toNat.toUInt8] = _
        congr 1
        apply UInt8.toNat_inj.1
        rw [lowB_toNat]
        simp only [Nat.toUInt8, UInt8.toNat_ofNat']
        unfold smallZ
        split <;> rename_i h1 <;> split <;> omega
      rw [if_pos (by unfold smallZ; split <;> omega), e]
      exact (map_alike n r (by simpa using h)).cons _
    · have hb := decode_big r hc
      have e : smallZ ((Lib.decodeL (c :: r)).1 : Int) = (Lib.decodeL (c :: r)).1 := by unfold smallZ; rw [if_neg (by omega)]
      rw [e, if_pos (by omega)]
      obtain ⟨d, t, he, hd⟩ := encode_big (r := ((Lib.decodeL (c :: r)).1 : Int)) (by omega)
      rw [he]
      refine alike_big hd ?_
      rw [lowB_toNat]; split <;> omega
theorem alike_meant {s t : List UInt8} (h : Alike s t) : ∀ (ws : List (List UInt8)) (i : Nat), (∀ w ∈ ws, ascii w) → meantL s ws i = meantL t ws i
  | [], _, _ => rfl
  | w :: ws, i, hw => by
    have a := h w (hw w (List.mem_cons_self ..))
    have b := h [] (fun c hc => by simp at hc)
    have e : begins s w = begins t w := by
      rw [Bool.eq_iff_iff, begins_iff, begins_iff, a.1]
      simp only [ne_eq, b.2]
    have d : decide (s = w) = decide (t = w) := by simp [a.2]
    simp only [meantL, e, d, alike_meant h ws (i + 1) fun x hx => hw x (List.mem_cons_of_mem _ hx)]
theorem map_meant (s : List UInt8) (ws : List (List UInt8)) (hw : ∀ w ∈ ws, ascii w) : meantL (Lib.mapD smallZ s) ws 0 = meantL (low s) ws 0 := alike_meant (map_alike s.length s (Nat.le_refl _)) ws 0 hw
end Go.Proofs.YtjpppffgebecdaaGreatDoor
