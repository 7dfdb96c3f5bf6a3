/- Plain facts on formats of names of times (which there are, of which kind, and what stands ahead of and behind what marks them), and on offsets as texts and back; no program is named.
Small facts on texts and lists of words in memory, at this program.
The contracts of abbr.isPlain, mayStand and piece: which bytes, and which texts, may be; what a text begins with; nothing that was in memory changes.
The contract of abbr.piece: the kind that what a text begins with makes a format, and its size; nothing that was in memory changes.
The contract of abbr.Kind: which kind of a format a text is, or that it is none; nothing that was in memory changes. -/
import Derived.Lib.MapLaws
import Derived.Lib.Hide
import Derived.Lib.IndexMore
import Derived.Test.YtdmfgechoanmlaaGreatDoorChecked
import Derived.Test.YtdmfgechoanmlaaGreatDoorMZB
import Derived.WalkKit
import Derived.IntWalk
import Derived.LoopTactic
import Derived.Below
import Derived.Deep.RegionHeld3
import Derived.Deep.QuietTactic
import Derived.BigQuiet
import Derived.Laws.IdiomStrings
import Derived.Laws.Concat
import Derived.Laws.DeepStrings4
import Derived.Laws.Strings3
import Derived.Laws.Cover4
import Derived.Shelf.Strings.Prefix
import Derived.Test.YtdmfgechoanmlaaGreatDoorShelf
namespace Go.Proofs.YtdmfgechoanmlaaGreatDoor
open Go

/-! ### Formats -/
def abL (c : UInt8) : Bool := (decide (65 ≤ c.toNat) && decide (c.toNat ≤ 90)) || (decide (97 ≤ c.toNat) && decide (c.toNat ≤ 122)) || (decide (48 ≤ c.toNat) && decide (c.toNat ≤ 57)) || decide (c.toNat = 43) || decide (c.toNat = 45)
/-- What marks a format of a kind. -/
def mkB (k : Nat) : List UInt8 := if k = 1 then [37, 115] else if k = 2 then [37, 122] else if k = 3 then [47] else []
/-- The mark that a text begins with. -/
def pcM (s : List UInt8) : Nat := if [37, 115].isPrefixOf s then 1 else if [37, 122].isPrefixOf s then 2 else if [47].isPrefixOf s then 3 else 0
def pcZ (s : List UInt8) : Nat := if pcM s = 0 then (if (s.head?.map abL).getD false then 1 else 0) else (mkB (pcM s)).length
/-- The kind of what is left, where the kind so far is k. -/
def kdF : Nat → List UInt8 → Option Nat
  | k, [] => some k
  | k, c :: r => if abL c then kdF k r else if k ≠ 0 then none else if pcM (c :: r) = 0 ∨ (c = 47 ∧ r = []) then none else kdF (pcM (c :: r)) r
def fmOk (s : List UInt8) : Bool := decide (s ≠ []) && (decide (s.length ≤ 64) && decide (s.head? ≠ some 47))
def kdK (s : List UInt8) : Option Nat := if fmOk s then kdF 0 s else none
def kdV (s : List UInt8) : Int := match kdK s with | some k => (k : Int) | none => 0
def kdE (s : List UInt8) : Int := match kdK s with | some _ => 0 | none => 12
def kdR (s : List UInt8) : Int := match kdK s with | some k => (k : Int) | none => -1
def ahd (s : List UInt8) : List UInt8 := s.takeWhile abL
def bhd (k : Nat) (s : List UInt8) : List UInt8 := s.drop ((ahd s).length + (mkB k).length)

theorem abL_37 : abL 37 = false := by decide
theorem abL_47 : abL 47 = false := by decide
theorem abL_115 : abL 115 = true := by decide
theorem abL_122 : abL 122 = true := by decide
theorem pcM_le (s : List UInt8) : pcM s ≤ 3 := by unfold pcM; split <;> (try split) <;> (try split) <;> omega
theorem pcM_letter {c : UInt8} (r : List UInt8) (h : abL c = true) : pcM (c :: r) = 0 := by
  have h1 : c ≠ 37 := by rintro rfl; rw [abL_37] at h; cases h
  have h2 : c ≠ 47 := by rintro rfl; rw [abL_47] at h; cases h
  have e1 : ((37 : UInt8) == c) = false := by simpa using fun e : 37 = c => h1 e.symm
  have e2 : ((47 : UInt8) == c) = false := by simpa using fun e : 47 = c => h2 e.symm
  simp [pcM, List.isPrefixOf, e1, e2]
/-- What a mark that a text begins with is. -/
theorem pcM_mark {c : UInt8} {r : List UInt8} (h : pcM (c :: r) ≠ 0) : (pcM (c :: r) = 1 ∧ c = 37 ∧ ∃ t, r = 115 :: t) ∨ (pcM (c :: r) = 2 ∧ c = 37 ∧ ∃ t, r = 122 :: t) ∨ (pcM (c :: r) = 3 ∧ c = 47) := by
  unfold pcM at h ⊢
  by_cases h1 : [37, 115].isPrefixOf (c :: r) = true
  · rw [if_pos h1]
    cases r with
    | nil => simp [List.isPrefixOf] at h1
    | cons d t => simp [List.isPrefixOf] at h1; exact .inl ⟨rfl, h1.1.symm, t, by rw [h1.2]⟩
  · rw [if_neg h1] at h ⊢
    by_cases h2 : [37, 122].isPrefixOf (c :: r) = true
    · rw [if_pos h2]
      cases r with
      | nil => simp [List.isPrefixOf] at h2
      | cons d t => simp [List.isPrefixOf] at h2; exact .inr (.inl ⟨rfl, h2.1.symm, t, by rw [h2.2]⟩)
    · rw [if_neg h2] at h ⊢
      by_cases h3 : [47].isPrefixOf (c :: r) = true
      · rw [if_pos h3]
        simp [List.isPrefixOf] at h3
        exact .inr (.inr ⟨rfl, h3.symm⟩)
      · rw [if_neg h3] at h; exact absurd rfl h
theorem pcM_split {c : UInt8} {r : List UInt8} (h : pcM (c :: r) ≠ 0) : c :: r = mkB (pcM (c :: r)) ++ (c :: r).drop (mkB (pcM (c :: r))).length ∧ 0 < (mkB (pcM (c :: r))).length ∧ (mkB (pcM (c :: r))).length ≤ (c :: r).length := by
  rcases pcM_mark h with ⟨e, rfl, t, rfl⟩ | ⟨e, rfl, t, rfl⟩ | ⟨e, rfl⟩ <;> rw [e] <;> simp [mkB]
theorem kdF_skip {c : UInt8} {r : List UInt8} {k : Nat} (h : pcM (c :: r) ≠ 0) : kdF k ((c :: r).drop (mkB (pcM (c :: r))).length) = kdF k r := by
  rcases pcM_mark h with ⟨e, rfl, t, rfl⟩ | ⟨e, rfl, t, rfl⟩ | ⟨e, rfl⟩ <;> rw [e]
  · simp [mkB, kdF, abL_115]
  · simp [mkB, kdF, abL_122]
  · simp [mkB]

theorem kdF_last : ∀ (s : List UInt8) (k : Nat), s.getLast? = some 47 → kdF k s = none
  | [], _, h => by simp at h
  | [c], k, h => by
    have hc : c = 47 := by simpa using h
    subst hc
    simp [kdF, abL_47]
  | c :: d :: r, k, h => by
    have hl : (d :: r).getLast? = some 47 := by rw [List.getLast?_cons_cons] at h; exact h
    unfold kdF
    rw [kdF_last (d :: r) k hl, kdF_last (d :: r) _ hl]
    simp
theorem kdF_letters : ∀ {s : List UInt8} {k : Nat}, k ≠ 0 → ∀ {j : Nat}, kdF k s = some j → j = k ∧ s.all abL = true
  | [], k, _, j, h => by simp [kdF] at h; exact ⟨h.symm, rfl⟩
  | c :: r, k, hk, j, h => by
    unfold kdF at h
    by_cases hc : abL c = true
    · rw [if_pos hc] at h
      obtain ⟨e1, e2⟩ := kdF_letters hk h
      exact ⟨e1, by rw [List.all_cons, hc, e2]; rfl⟩
    · rw [if_neg hc, if_pos hk] at h; cases h
/-- A format is letters, and once a mark among them. -/
theorem kdF_shape : ∀ {s : List UInt8} {j : Nat}, kdF 0 s = some j → (j = 0 ∧ s.all abL = true) ∨ (1 ≤ j ∧ j ≤ 3 ∧ s = ahd s ++ mkB j ++ bhd j s ∧ (bhd j s).all abL = true)
  | [], j, h => by simp [kdF] at h; exact .inl ⟨h.symm, rfl⟩
  | c :: r, j, h => by
    unfold kdF at h
    by_cases hc : abL c = true
    · rw [if_pos hc] at h
      rcases kdF_shape h with ⟨e1, e2⟩ | ⟨e1, e2, e3, e4⟩
      · exact .inl ⟨e1, by rw [List.all_cons, hc, e2]; rfl⟩
      · have e5 : ahd (c :: r) = c :: ahd r := by simp [ahd, List.takeWhile, hc]
        have e6 : bhd j (c :: r) = bhd j r := by unfold bhd; rw [e5, List.length_cons, Nat.add_right_comm, List.drop_succ_cons]
        exact .inr ⟨e1, e2, by rw [e5, e6]; simpa using e3, by rw [e6]; exact e4⟩
    · rw [if_neg hc, if_neg (by simp)] at h
      by_cases hp : pcM (c :: r) = 0 ∨ (c = 47 ∧ r = [])
      · rw [if_pos hp] at h; cases h
      · rw [if_neg hp] at h
        have hm : pcM (c :: r) ≠ 0 := fun e => hp (.inl e)
        have h3 := pcM_le (c :: r)
        obtain ⟨e1, e2⟩ := kdF_letters hm h
        subst e1
        have e5 : ahd (c :: r) = [] := by simp [ahd, List.takeWhile, hc]
        obtain ⟨s1, s2, s3⟩ := pcM_split hm
        refine .inr ⟨by omega, h3, ?_, ?_⟩
        · unfold bhd
          rw [e5]
          simpa using s1
        · unfold bhd
          rw [e5]
          rcases pcM_mark hm with ⟨e, rfl, t, rfl⟩ | ⟨e, rfl, t, rfl⟩ | ⟨e, rfl⟩ <;> rw [e] <;> simp [mkB] at e2 ⊢ <;> first | exact e2 | exact e2.2
theorem ahd_all (s : List UInt8) : (ahd s).all abL = true := by unfold ahd; exact List.all_takeWhile
theorem all_getD {s : List UInt8} (h : s.all abL = true) {c : UInt8} (hc : c ∈ s) : abL c = true := List.all_eq_true.1 h c hc

/-! ### What is cut at the mark -/
theorem mkB_head {k : Nat} (h : 1 ≤ k) (h3 : k ≤ 3) : ∃ c t, mkB k = c :: t ∧ abL c = false := by
  obtain rfl | rfl | rfl : k = 1 ∨ k = 2 ∨ k = 3 := by omega
  · exact ⟨37, [115], rfl, abL_37⟩
  · exact ⟨37, [122], rfl, abL_37⟩
  · exact ⟨47, [], rfl, abL_47⟩
theorem cut_at {a m b s : List UInt8} {c : UInt8} {t : List UInt8} (hA : a.all abL = true) (hm : m = c :: t) (hc : abL c = false) (e : s = a ++ m ++ b) : Lib.cut s m = (a, s.drop (a.length + m.length), true) := by
  have hi : Lib.index s m = (a.length : Int) := by
    refine Lib.index_first ?_ ?_ ?_
    · subst e; simp
    · subst e
      unfold Lib.occAt
      rw [List.append_assoc, List.drop_left]
      exact List.isPrefixOf_iff_prefix.2 (List.prefix_append _ _)
    · intro j hj
      unfold Lib.occAt
      rw [← Bool.not_eq_true]
      intro hp
      obtain ⟨u, hu⟩ := List.isPrefixOf_iff_prefix.1 hp
      rw [hm] at hu
      have h0 : (s.drop j)[0]? = some c := by rw [← hu]; rfl
      rw [List.getElem?_drop, Nat.add_zero, e, List.append_assoc, List.getElem?_append_left hj] at h0
      have := all_getD hA (List.mem_of_getElem? h0)
      rw [hc] at this
      cases this
  have ht : s.take a.length = a := by subst e; rw [List.append_assoc, List.take_left]
  unfold Lib.cut
  rw [hi, if_pos (by omega), Int.toNat_natCast, ht]
theorem cut_mark {s : List UInt8} {k : Nat} (h1 : 1 ≤ k) (h3 : k ≤ 3) (e : s = ahd s ++ mkB k ++ bhd k s) : Lib.cut s (mkB k) = (ahd s, bhd k s, true) := by
  obtain ⟨c, t, hm, hc⟩ := mkB_head h1 h3
  exact cut_at (ahd_all s) hm hc e
theorem cut_none (s : List UInt8) : Lib.cut s [] = ([], s, true) := by
  have : Lib.index s [] = 0 := by cases s <;> simp [Lib.index]
  simp [Lib.cut, this]

/-! ### Offsets -/
def two (n : Nat) : List UInt8 := [UInt8.ofNat (48 + n / 10), UInt8.ofNat (48 + n % 10)]
def txO (sg : UInt8) (n : Nat) : List UInt8 := sg :: (two (n / 3600) ++ (if n % 3600 = 0 then [] else two (n % 3600 / 60) ++ (if n % 60 = 0 then [] else two (n % 60))))
def ofT (off : Int) : List UInt8 := txO (if off < 0 then 45 else 43) off.natAbs
def ofE (off : Int) : Int := if off ≤ -360000 ∨ 360000 ≤ off then 10 else 0
def ofS (off : Int) : List UInt8 := if off ≤ -360000 ∨ 360000 ≤ off then [] else ofT off
/-- A byte's digit, whatever it is. -/
def bd (b : UInt8) : Nat := (b.toNat + 208) % 256
def scA : Nat → List UInt8 → Nat
  | acc, a :: b :: r => scA (60 * acc + 10 * bd a + bd b) r
  | acc, _ => acc
def dgs (s : List UInt8) : List UInt8 := (s.drop 1 ++ [48, 48, 48, 48]).take 6
def scV (s : List UInt8) : Int := if s.head? = some 45 then -(scA 0 (dgs s) : Int) else (scA 0 (dgs s) : Int)
def psO (s : List UInt8) : Bool := decide (3 ≤ s.length ∧ s.length ≤ 7 ∧ -360000 < scV s ∧ scV s < 360000 ∧ ofT (scV s) = s)
def psV (s : List UInt8) : Int := if psO s then scV s else 0
def psE (s : List UInt8) : Int := if psO s then 0 else 12
def isD (b : UInt8) : Bool := decide (48 ≤ b.toNat) && decide (b.toNat ≤ 57)
/-- What digits by twos are, in units that are a sixtieth of the one ahead. -/
def rdA : Nat → Nat → List UInt8 → Option Nat
  | u, n, a :: b :: r => if isD a && isD b then rdA (u / 60) (n + u * (10 * (a.toNat - 48) + (b.toNat - 48))) r else none
  | _, n, _ => some n
def rpS (s : List UInt8) : Bool := decide ((s.length = 3 ∨ s.length = 5 ∨ s.length = 7) ∧ (s.head? = some 43 ∨ s.head? = some 45))
def sgn (s : List UInt8) (n : Nat) : Int := if s.head? = some 45 then -(n : Int) else (n : Int)
def rpV (s : List UInt8) : Int := if rpS s then (match rdA 3600 0 (s.drop 1) with | some n => sgn s n | none => 0) else 0
def rpO (s : List UInt8) : Bool := if rpS s then (match rdA 3600 0 (s.drop 1) with | some n => decide (-360000 < sgn s n ∧ sgn s n < 360000 ∧ ofT (sgn s n) = s) | none => false) else false

theorem bd_two {n : Nat} (h : n < 10) : bd (UInt8.ofNat (48 + n)) = n := by unfold bd; rw [UInt8.toNat_ofNat']; omega
theorem isD_two {n : Nat} (h : n < 10) : isD (UInt8.ofNat (48 + n)) = true := by unfold isD; rw [UInt8.toNat_ofNat']; simp; omega
theorem dig_two {n : Nat} (h : n < 10) : (UInt8.ofNat (48 + n)).toNat - 48 = n := by rw [UInt8.toNat_ofNat']; omega
theorem two_len (n : Nat) : (two n).length = 2 := rfl
theorem scA_two {n : Nat} (acc : Nat) (r : List UInt8) (h : n < 100) : scA acc (two n ++ r) = scA (60 * acc + n) r := by
  show scA (60 * acc + 10 * bd (UInt8.ofNat (48 + n / 10)) + bd (UInt8.ofNat (48 + n % 10))) r = _
  rw [bd_two (by omega), bd_two (by omega)]
  congr 1; omega
theorem rdA_two {n : Nat} (u acc : Nat) (r : List UInt8) (h : n < 100) : rdA u acc (two n ++ r) = rdA (u / 60) (acc + u * n) r := by
  show (if isD (UInt8.ofNat (48 + n / 10)) && isD (UInt8.ofNat (48 + n % 10)) then rdA (u / 60) (acc + u * (10 * ((UInt8.ofNat (48 + n / 10)).toNat - 48) + ((UInt8.ofNat (48 + n % 10)).toNat - 48))) r else none) = _
  rw [isD_two (by omega), isD_two (by omega), dig_two (by omega), dig_two (by omega)]
  show rdA _ _ _ = _
  congr 2; congr 1; omega
theorem txO_len (sg : UInt8) (n : Nat) : (txO sg n).length = if n % 3600 = 0 then 3 else if n % 60 = 0 then 5 else 7 := by
  unfold txO
  split
  · simp [two]
  · split <;> simp [two]
theorem sc_tx {sg : UInt8} {n : Nat} (h : n < 360000) : scA 0 (dgs (txO sg n)) = n := by
  have z : ∀ acc, scA acc ([48, 48] : List UInt8) = 60 * acc := fun acc => by show 60 * acc + 10 * bd 48 + bd 48 = _; rw [show bd 48 = 0 from rfl]; omega
  have z2 : ∀ acc, scA acc ([48, 48, 48, 48] : List UInt8) = 60 * (60 * acc) := fun acc => by
    show scA (60 * acc + 10 * bd 48 + bd 48) [48, 48] = _
    rw [show bd 48 = 0 from rfl, z]; omega
  unfold dgs txO
  by_cases h1 : n % 3600 = 0
  · rw [if_pos h1]
    have e : ((sg :: (two (n / 3600) ++ [])).drop 1 ++ [48, 48, 48, 48]).take 6 = two (n / 3600) ++ [48, 48, 48, 48] := rfl
    rw [e, scA_two _ _ (by omega), z2]; omega
  · rw [if_neg h1]
    by_cases h2 : n % 60 = 0
    · rw [if_pos h2]
      have e : ((sg :: (two (n / 3600) ++ (two (n % 3600 / 60) ++ []))).drop 1 ++ [48, 48, 48, 48]).take 6 = two (n / 3600) ++ (two (n % 3600 / 60) ++ [48, 48]) := rfl
      rw [e, scA_two _ _ (by omega), scA_two _ _ (by omega), z]; omega
    · rw [if_neg h2]
      have e : ((sg :: (two (n / 3600) ++ (two (n % 3600 / 60) ++ two (n % 60)))).drop 1 ++ [48, 48, 48, 48]).take 6 = two (n / 3600) ++ (two (n % 3600 / 60) ++ (two (n % 60) ++ [])) := rfl
      rw [e, scA_two _ _ (by omega), scA_two _ _ (by omega), scA_two _ _ (by omega)]
      show 60 * (60 * (60 * 0 + n / 3600) + n % 3600 / 60) + n % 60 = n
      omega
theorem rd_tx {sg : UInt8} {n : Nat} (h : n < 360000) : rdA 3600 0 ((txO sg n).drop 1) = some n := by
  unfold txO
  rw [List.drop_one, List.tail_cons]
  by_cases h1 : n % 3600 = 0
  · rw [if_pos h1, rdA_two _ _ _ (by omega)]
    show some _ = _
    congr 1; omega
  · rw [if_neg h1, rdA_two _ _ _ (by omega)]
    by_cases h2 : n % 60 = 0
    · rw [if_pos h2, rdA_two _ _ _ (by omega)]
      show some _ = _
      congr 1; omega
    · rw [if_neg h2, rdA_two _ _ _ (by omega), ← List.append_nil (two (n % 60)), rdA_two _ _ _ (by omega)]
      show some _ = _
      congr 1; omega
theorem ofT_head (off : Int) : (ofT off).head? = some (if off < 0 then 45 else 43) := rfl
theorem sg_eq (off : Int) : (ofT off).head? = some 45 ↔ off < 0 := by
  rw [ofT_head]
  by_cases h : off < 0
  · simp [h]
  · simp [h]
theorem sgn_of (off : Int) : sgn (ofT off) off.natAbs = off := by
  unfold sgn
  by_cases h : off < 0
  · rw [if_pos ((sg_eq off).2 h)]; omega
  · rw [if_neg (fun e => h ((sg_eq off).1 e))]; omega
theorem sc_of {off : Int} (h1 : -360000 < off) (h2 : off < 360000) : scV (ofT off) = off := by
  have e : scA 0 (dgs (ofT off)) = off.natAbs := sc_tx (by omega)
  have := sgn_of off
  unfold sgn at this
  unfold scV
  rw [e]
  exact this
theorem ofT_len (off : Int) : (ofT off).length = 3 ∨ (ofT off).length = 5 ∨ (ofT off).length = 7 := by
  unfold ofT
  rw [txO_len]
  split
  · exact .inl rfl
  · split
    · exact .inr (.inl rfl)
    · exact .inr (.inr rfl)
theorem ps_of {off : Int} (h1 : -360000 < off) (h2 : off < 360000) : psO (ofT off) = true := by
  have := ofT_len off
  unfold psO
  rw [sc_of h1 h2]
  simp only [decide_eq_true_eq]
  exact ⟨by omega, by omega, h1, h2, trivial⟩
theorem ps_out {s : List UInt8} (h : psO s = true) : -360000 < scV s ∧ scV s < 360000 ∧ ofT (scV s) = s := by
  unfold psO at h
  simp only [decide_eq_true_eq] at h
  exact h.2.2
theorem rps_of (off : Int) : rpS (ofT off) = true := by
  have := ofT_len off
  unfold rpS
  rw [ofT_head]
  simp only [decide_eq_true_eq]
  refine ⟨this, ?_⟩
  by_cases h : off < 0
  · rw [if_pos h]; exact .inr rfl
  · rw [if_neg h]; exact .inl rfl
/-- The document's answer is the text's offset, or none, as the text's own is. -/
theorem rp_eq (s : List UInt8) : rpO s = psO s ∧ (psO s = true → rpV s = scV s) := by
  have fwd : psO s = true → rpO s = true ∧ rpV s = scV s := by
    intro h
    obtain ⟨h1, h2, h3⟩ := ps_out h
    generalize hn : scV s = n at h1 h2 h3
    subst h3
    have e : rdA 3600 0 ((ofT n).drop 1) = some n.natAbs := rd_tx (by omega)
    unfold rpO rpV
    rw [rps_of, if_pos rfl, if_pos rfl, e]
    simp only [sgn_of]
    exact ⟨by simp; omega, trivial⟩
  refine ⟨?_, fun h => (fwd h).2⟩
  by_cases h : psO s = true
  · rw [h, (fwd h).1]
  · have h' : psO s = false := by simpa using h
    rw [h']
    rw [← Bool.not_eq_true]
    intro hr
    apply h
    unfold rpO at hr
    by_cases h0 : rpS s = true
    · rw [if_pos h0] at hr
      cases hd : rdA 3600 0 (s.drop 1) with
      | none => rw [hd] at hr; cases hr
      | some n =>
        rw [hd] at hr
        simp only [decide_eq_true_eq] at hr
        obtain ⟨e1, e2, e3⟩ := hr
        rw [← e3]
        exact ps_of e1 e2
    · rw [if_neg h0] at hr; cases hr
/-- An offset the other way round: the same text but for the sign. -/
theorem ofT_neg {off : Int} (h : off ≠ 0) : (ofT off).drop 1 = (ofT (-off)).drop 1 ∧ (ofT off).length = (ofT (-off)).length ∧ ((ofT off).getD 0 0 = if 0 < off then 43 else 45) ∧ ((ofT (-off)).getD 0 0 = if 0 < off then 45 else 43) := by
  have e : (-off).natAbs = off.natAbs := by omega
  refine ⟨by unfold ofT txO; rw [e]; rfl, by unfold ofT; rw [e, txO_len, txO_len], ?_, ?_⟩
  · by_cases h1 : 0 < off
    · rw [if_pos h1]; show (if off < 0 then 45 else 43 : UInt8) = _; rw [if_neg (by omega)]
    · rw [if_neg h1]; show (if off < 0 then 45 else 43 : UInt8) = _; rw [if_pos (by omega)]
  · by_cases h1 : 0 < off
    · rw [if_pos h1]; show (if -off < 0 then 45 else 43 : UInt8) = _; rw [if_pos (by omega)]
    · rw [if_neg h1]; show (if -off < 0 then 45 else 43 : UInt8) = _; rw [if_neg (by omega)]

/-! ### How a time is called -/
def shS (f : List UInt8) (off : Int) (dst : Bool) (l : List UInt8) : List UInt8 := match kdK f with
  | none => []
  | some 0 => f
  | some 1 => ahd f ++ l ++ bhd 1 f
  | some 2 => if off ≤ -360000 ∨ 360000 ≤ off then [] else ahd f ++ ofT off ++ bhd 2 f
  | some _ => if dst then bhd 3 f else ahd f
def shE (f : List UInt8) (off : Int) : Int := match kdK f with
  | none => 12
  | some 2 => ofE off
  | some _ => 0
end Go.Proofs.YtdmfgechoanmlaaGreatDoor

namespace Go.Proofs.YtdmfgechoanmlaaGreatDoor
open Go.RowKit

theorem wcell_lt {w : World} {b o : Nat} {v : Value} (h : w.cell? ⟨b, o, none⟩ = some v) : b < w.heap.size := by
  rcases Nat.lt_or_ge b w.heap.size with h1 | h1
  · exact h1
  · have e : w.heap[b]? = none := by simp [h1]
    simp [World.cell?, e] at h

/-- A list of words lies in block L. -/
structure ListAt (L : Nat) (ws : List (List UInt8)) (w : World) : Prop where
  lt : L < w.heap.size
  cell : ∀ i p, ws[i]? = some p → w.cell? ⟨L, i, none⟩ = some (.string ⟨p.toArray⟩)
theorem ListAt.below {L B : Nat} {ws : List (List UInt8)} {w w' : World} (h : ListAt L ws w) (k : Below B w w') (hB : L < B) : ListAt L ws w' :=
  ⟨Nat.lt_of_lt_of_le h.lt k.size, fun i p hp => by rw [k.cell (p := ⟨_, _, none⟩) hB]; exact h.cell i p hp⟩
theorem ListAt.next {L : Nat} {ws : List (List UInt8)} {w w' : World} (h : ListAt L ws w) (k : Below w.heap.size w w') : ListAt L ws w' := h.below k h.lt
/-- A list of words that has just been laid. -/
theorem ListAt.new (w : World) (ws : List (List UInt8)) (t : TypeId) (cs : Array Value) (hc : cs = (ws.map fun p => Value.string ⟨p.toArray⟩).toArray) : ListAt w.heap.size ws (w.alloc (.cells cs t)) :=
  ⟨by simp, fun i p hp => by subst hc; simp [hp]⟩

theorem wbyte_at (p : List UInt8) (i : Nat) (h : i < p.length) (c : UInt8) (hc : p.getD i 0 = c) (w : World) : (Instr.index 9 (.string ⟨p.toArray⟩) (.int .i64 (i : Int))).run Tryz.prog w = .ok (.int .u8 (c.toNat : Int)) w := by
  rw [← hc]
  have hs : (⟨p.toArray⟩ : ByteArray).size = p.length := by simp [ByteArray.size]
  rw [run_index_string w _ _ _ _ Tryz.underlying9, dif_pos ⟨by omega, by omega⟩]
  have : (⟨p.toArray⟩ : ByteArray)[(i : Int).toNat]'(by rw [hs]; simpa using h) = p.getD i 0 := by
    simp [ByteArray.getElem_eq_getElem_data, h]
  rw [this]
theorem wone_byte (W : World) (c : UInt8) : (convert 181 9 (.slice (some ⟨W.heap.size, 0, none⟩) 1 1)).run Tryz.prog (W.alloc (.cells #[.int .u8 (c.toNat : Int)] 5)) = .ok (.string ⟨[c].toArray⟩) (W.alloc (.cells #[.int .u8 (c.toNat : Int)] 5)) :=
  run_convert_bytes_back _ _ _ 5 ⟨W.heap.size, 0, none⟩ 1 [c] Tryz.underlying181 Tryz.underlying5 Tryz.underlying9 (fun j hj => by
    obtain rfl : j = 0 := by simpa using hj
    simp [Addr.add])
theorem wadd_lists (x y : List UInt8) (hx : x.length ≤ 1000) (hy : y.length ≤ 1000) (W : World) : (Op.stringOp .add ⟨x.toArray⟩ ⟨y.toArray⟩).run Tryz.prog W = .ok (.string ⟨(x ++ y).toArray⟩) W :=
  run_string_add_lists W x y (by omega) (by omega)
theorem wsub_run (s : List UInt8) (i : Nat) (p : List UInt8) (hp : s.take i = p) (h2 : i ≤ s.length) (W : World) :
    (Instr.slice 9 (.string ⟨s.toArray⟩) none (some (.int .i64 (i : Int))) none).run Tryz.prog W = .ok (.string ⟨p.toArray⟩) W := by
  have hs : (⟨s.toArray⟩ : ByteArray).size = s.length := by simp [ByteArray.size]
  rw [run_slice_string_h (ht := Tryz.underlying9) (h0 := by omega) (h2 := by rw [hs]; omega)]
  subst hp
  congr 2
  simp [ByteArray.extract_mk]
theorem wsize (s : List UInt8) : (⟨s.toArray⟩ : ByteArray).size = s.length := by simp [ByteArray.size]
end Go.Proofs.YtdmfgechoanmlaaGreatDoor

namespace Go.Proofs.YtdmfgechoanmlaaGreatDoor
open Go.RowKit

theorem abclass (c : UInt8) : c.toNat < 43 ∨ c.toNat = 43 ∨ c.toNat = 44 ∨ c.toNat = 45 ∨ (46 ≤ c.toNat ∧ c.toNat < 48) ∨ (48 ≤ c.toNat ∧ c.toNat ≤ 57) ∨ (58 ≤ c.toNat ∧ c.toNat < 65) ∨ (65 ≤ c.toNat ∧ c.toNat ≤ 90) ∨ (91 ≤ c.toNat ∧ c.toNat < 97) ∨ (97 ≤ c.toNat ∧ c.toNat ≤ 122) ∨ 122 < c.toNat := by omega
set_option maxHeartbeats 1600000 in
theorem plain_is (c : UInt8) (v : Bool) (w : World) (hv : Hid (abL c = v)) :
    Calls Tryz.prog 112 #[.int .u8 (c.toNat : Int)] w fun e w' => e = .returned (.bool v) ∧ w' = w := by
  obtain rfl := hv.out
  clear hv
  rcases abclass c with h | h | h | h | h | h | h | h | h | h | h
  all_goals first | have e : Hid (abL c = true) := Lib.hid (by simp [abL]; omega) | have e : Hid (abL c = false) := Lib.hid (by simp [abL]; omega)
  all_goals first | have t0 : (65 : Int) ≤ (c.toNat : Int) := by omega | have t0 : ¬ (65 : Int) ≤ (c.toNat : Int) := by omega
  all_goals first | have t1 : (c.toNat : Int) ≤ 90 := by omega | have t1 : ¬ (c.toNat : Int) ≤ 90 := by omega
  all_goals first | have t2 : (97 : Int) ≤ (c.toNat : Int) := by omega | have t2 : ¬ (97 : Int) ≤ (c.toNat : Int) := by omega
  all_goals first | have t3 : (c.toNat : Int) ≤ 122 := by omega | have t3 : ¬ (c.toNat : Int) ≤ 122 := by omega
  all_goals first | have t4 : (48 : Int) ≤ (c.toNat : Int) := by omega | have t4 : ¬ (48 : Int) ≤ (c.toNat : Int) := by omega
  all_goals first | have t5 : (c.toNat : Int) ≤ 57 := by omega | have t5 : ¬ (c.toNat : Int) ≤ 57 := by omega
  all_goals first | have t6 : ((c.toNat : Int) == 43) = false := by simp; omega | have t6 : ((c.toNat : Int) == 43) = true := by simp; omega
  all_goals first | have t7 : ((c.toNat : Int) == 45) = false := by simp; omega | have t7 : ((c.toNat : Int) == 45) = true := by simp; omega
  all_goals clear h
  all_goals go_enter Tryz.func112, Tryz.ntmps112
  all_goals go_wp2
  all_goals go_ret
  all_goals rw [e.out]
  all_goals exact ⟨rfl, rfl⟩

theorem bdrews {B : Nat} {w W : World} (h : Below B w W) (n : Nat) : Below B w (W.drewN n) := h.trans ⟨rfl, rfl, rfl, Nat.le_refl _, fun _ _ => rfl⟩
/-- The library's bound on short texts holds some number. -/
def MaxB (w : World) : Prop := ∃ m : Int, w.cell? ⟨1, 0, none⟩ = some (.int .i64 m)
theorem MaxB.next {w w' : World} (h : MaxB w) (k : Below w.heap.size w w') : MaxB w' := by
  obtain ⟨m, h⟩ := h; exact ⟨m, by rw [k.cell (p := ⟨_, _, none⟩) (wcell_lt h)]; exact h⟩
def marksL : List (List UInt8) := [[], [37, 115], [37, 122], [47]]
/-- What package abbr reads in memory. -/
structure LaidB (w : World) : Prop where
  mks : ListAt 0 marksL w
  mx : MaxB w
theorem LaidB.next {w w' : World} (h : LaidB w) (k : Below w.heap.size w w') : LaidB w' := ⟨h.mks.next k, h.mx.next k⟩
theorem marks_at {k : Nat} (h : k ≤ 3) : marksL[k]? = some (mkB k) := by
  obtain rfl | rfl | rfl | rfl : k = 0 ∨ k = 1 ∨ k = 2 ∨ k = 3 := by omega
  all_goals rfl

theorem pre_is (s p : List UInt8) (v : Bool) (w : World) (hv : Hid (p.isPrefixOf s = v)) : Calls Tryz.prog 110 #[.string ⟨s.toArray⟩, .string ⟨p.toArray⟩] w fun e w' => e = .returned (.bool v) ∧ w' = w := by
  refine (Tryz.strings_HasPrefix ⟨s.toArray⟩ ⟨p.toArray⟩ w).mono fun e w' ⟨h1, h2⟩ => ⟨?_, h2⟩
  rw [h1, ← hv.out]; rfl
theorem suf_is (s p : List UInt8) (v : Bool) (w : World) (hs : s.length ≤ 1000) (hv : Hid (p.isSuffixOf s = v)) : Calls Tryz.prog 111 #[.string ⟨s.toArray⟩, .string ⟨p.toArray⟩] w fun e w' => e = .returned (.bool v) ∧ w' = w := by
  refine (Tryz.strings_HasSuffix ⟨s.toArray⟩ ⟨p.toArray⟩ w (by rw [wsize]; omega)).mono fun e w' ⟨h1, h2⟩ => ⟨?_, h2⟩
  rw [h1, ← hv.out]; rfl
/-- The answer of mayStand. -/
def mayS (s : List UInt8) : Bool := fmOk s && !(decide (s.getLast? = some 47))
theorem pre47 (s : List UInt8) : [47].isPrefixOf s = decide (s.head? = some 47) := by
  cases s with
  | nil => rfl
  | cons c r =>
    by_cases h : c = 47
    · subst h; simp [List.isPrefixOf]
    · have : ((47 : UInt8) == c) = false := by simpa using fun e : 47 = c => h e.symm
      simp [List.isPrefixOf, this, h]
theorem suf47 (s : List UInt8) : [47].isSuffixOf s = decide (s.getLast? = some 47) := by
  unfold List.isSuffixOf
  show [47].isPrefixOf s.reverse = _
  rw [pre47, List.head?_reverse]
set_option maxHeartbeats 800000 in
theorem may_is (s : List UInt8) (v : Bool) (w : World) (hA : LaidB w) (hs : s.length ≤ 1000) (hv : Hid (mayS s = v)) :
    Calls Tryz.prog 90 #[.string ⟨s.toArray⟩] w fun e w' => e = .returned (.bool v) ∧ w' = w := by
  have c3 := hA.mks.cell 3 _ rfl
  have hz := wsize s
  clear hA
  rcases Nat.eq_zero_or_pos s.length with h0 | h0
  · obtain rfl : s = [] := List.length_eq_zero_iff.1 h0
    have e : Hid (v = false) := Lib.hid (by rw [← hv.out]; rfl)
    clear hv h0
    go_enter Tryz.func90, Tryz.ntmps90
    go_wp2
    go_ret
    rw [e.out]
    exact ⟨rfl, rfl⟩
  · have hne : s ≠ [] := by rintro rfl; simp at h0
    have n0 : ((s.length : Int) == 0) = false := by simpa using hne
    by_cases h1 : 64 < s.length
    · have e : Hid (v = false) := Lib.hid (by rw [← hv.out]; simp [mayS, fmOk]; omega)
      have h1' : (64 : Int) < (s.length : Int) := by omega
      clear hv
      go_enter Tryz.func90, Tryz.ntmps90
      go_wp2
      go_ret
      rw [e.out]
      exact ⟨rfl, rfl⟩
    · have h1' : ¬ (64 : Int) < (s.length : Int) := by omega
      obtain ⟨p, hp⟩ : ∃ p, [47].isPrefixOf s = p := ⟨_, rfl⟩
      obtain ⟨q, hq⟩ : ∃ q, [47].isSuffixOf s = q := ⟨_, rfl⟩
      have e : Hid (v = (!p && !q)) := Lib.hid (by rw [← hv.out, ← hp, ← hq, pre47, suf47]; unfold mayS fmOk; rw [decide_eq_true hne, decide_eq_true (show s.length ≤ 64 by omega), Bool.true_and, Bool.true_and, decide_not])
      have HP := Lib.hid hp
      have HQ := Lib.hid hq
      clear hv hp hq
      cases p <;> cases q
      all_goals go_enter Tryz.func90, Tryz.ntmps90
      all_goals go_wp2_with (first | (go_at_call 110; refine (pre_is s [47] _ _ HP).mono ?_; rintro e w1 ⟨rfl, rfl⟩; simp only []) | (go_at_call 111; refine (suf_is s [47] _ _ hs HQ).mono ?_; rintro e w1 ⟨rfl, rfl⟩; simp only []))
      all_goals go_ret
      all_goals rw [e.out]
      all_goals exact ⟨rfl, rfl⟩
end Go.Proofs.YtdmfgechoanmlaaGreatDoor

namespace Go.Proofs.YtdmfgechoanmlaaGreatDoor
open Go.RowKit

theorem byte_zero (s : List UInt8) (c : UInt8) (r : List UInt8) (h : s = c :: r) (W : World) : (Instr.index 9 (.string ⟨s.toArray⟩) (.int .i64 0)).run Tryz.prog W = .ok (.int .u8 (c.toNat : Int)) W := by
  subst h
  exact wbyte_at (c :: r) 0 (by simp) c rfl W
/-- What piece answers, by its tests. -/
theorem pc_ways (c : UInt8) (r : List UInt8) (k z : Int) (hk : (pcM (c :: r) : Int) = k) (hz : (pcZ (c :: r) : Int) = z) : ∃ p1 p2 p3 l : Bool, [37, 115].isPrefixOf (c :: r) = p1 ∧ [37, 122].isPrefixOf (c :: r) = p2 ∧ [47].isPrefixOf (c :: r) = p3 ∧ abL c = l ∧
    k = (if p1 then 1 else if p2 then 2 else if p3 then 3 else 0) ∧ z = (if p1 then 2 else if p2 then 2 else if p3 then 1 else if l then 1 else 0) := by
  refine ⟨_, _, _, _, rfl, rfl, rfl, rfl, ?_, ?_⟩
  · rw [← hk]; unfold pcM; split <;> (try split) <;> (try split) <;> rfl
  · rw [← hz]; unfold pcZ pcM
    cases [37, 115].isPrefixOf (c :: r) <;> cases [37, 122].isPrefixOf (c :: r) <;> cases [47].isPrefixOf (c :: r) <;> cases h : abL c <;> simp [mkB, h]
set_option maxHeartbeats 1600000 in
theorem piece_is (c : UInt8) (r : List UInt8) (k z : Int) (w : World) (hA : LaidB w) (HV : Hid ((pcM (c :: r) : Int) = k ∧ (pcZ (c :: r) : Int) = z)) :
    Calls Tryz.prog 91 #[.string ⟨(c :: r).toArray⟩] w fun e w' => e = .returned (.tuple #[.int .i64 k, .int .i64 z]) ∧ Below w.heap.size w w' := by
  obtain ⟨p1, p2, p3, l, h1, h2, h3, h4, hk, hz⟩ := pc_ways c r k z HV.out.1 HV.out.2
  have b0 := byte_zero _ c r rfl
  obtain ⟨s, hs⟩ : ∃ s, c :: r = s := ⟨_, rfl⟩
  rw [hs] at h1 h2 h3 b0 ⊢
  have c1 := hA.mks.cell 1 _ rfl
  have c2 := hA.mks.cell 2 _ rfl
  have c3 := hA.mks.cell 3 _ rfl
  have H1 := Lib.hid h1
  have H2 := Lib.hid h2
  have H3 := Lib.hid h3
  have H4 := Lib.hid h4
  have K := Lib.hid hk
  have Z := Lib.hid hz
  clear HV hA hs h1 h2 h3 h4 hk hz
  go_enter Tryz.func91, Tryz.ntmps91
  go_wp2
  go_loop [4] (fun v => v = .int .i64 1 ∨ (v = .int .i64 2 ∧ p1 = false) ∨ (v = .int .i64 3 ∧ p1 = false ∧ p2 = false) ∨ (v = .int .i64 4 ∧ p1 = false ∧ p2 = false ∧ p3 = false)) (fun v => (4 - intOf v).toNat)
  case atStart => exact .inl rfl
  case round =>
    rcases hrel with rfl | ⟨rfl, rfl⟩ | ⟨rfl, rfl, rfl⟩ | ⟨rfl, rfl, rfl, rfl⟩
    · cases p1
      · go_wp2_with (first | (go_at_call 110; refine (pre_is s [37, 115] _ _ H1).mono ?_; rintro e w1 ⟨rfl, rfl⟩; simp only []))
        go_round
        case rel => simp
        case measure => simp [intOf]
      · go_wp2_with (first | (go_at_call 110; refine (pre_is s [37, 115] _ _ H1).mono ?_; rintro e w1 ⟨rfl, rfl⟩; simp only []))
        go_quiet (fail)
        go_wp2
        go_ret2
        rw [K.out, Z.out]
        exact ⟨rfl, bdrews (Below.refl _ _) _⟩
    · cases p2
      · go_wp2_with (first | (go_at_call 110; refine (pre_is s [37, 122] _ _ H2).mono ?_; rintro e w1 ⟨rfl, rfl⟩; simp only []))
        go_round
        case rel => simp
        case measure => simp [intOf]
      · go_wp2_with (first | (go_at_call 110; refine (pre_is s [37, 122] _ _ H2).mono ?_; rintro e w1 ⟨rfl, rfl⟩; simp only []))
        go_quiet (fail)
        go_wp2
        go_ret2
        rw [K.out, Z.out]
        exact ⟨rfl, bdrews (Below.refl _ _) _⟩
    · cases p3
      · go_wp2_with (first | (go_at_call 110; refine (pre_is s [47] _ _ H3).mono ?_; rintro e w1 ⟨rfl, rfl⟩; simp only []))
        go_round
        case rel => simp
        case measure => simp [intOf]
      · go_wp2_with (first | (go_at_call 110; refine (pre_is s [47] _ _ H3).mono ?_; rintro e w1 ⟨rfl, rfl⟩; simp only []))
        go_quiet (fail)
        go_wp2
        go_ret2
        rw [K.out, Z.out]
        exact ⟨rfl, bdrews (Below.refl _ _) _⟩
    · cases l
      all_goals go_wp2_with (first | (go_at_call 112; refine (plain_is c _ _ H4).mono ?_; rintro e w1 ⟨rfl, rfl⟩; simp only []))
      all_goals go_ret2
      all_goals rw [K.out, Z.out]
      all_goals exact ⟨rfl, Below.refl _ _⟩
end Go.Proofs.YtdmfgechoanmlaaGreatDoor

namespace Go.Proofs.YtdmfgechoanmlaaGreatDoor
open Go.RowKit

def lenOf : Value → Nat
  | .string s => s.size
  | _ => 0
def tailOk (s : List UInt8) : Prop := s.getLast? ≠ some 47
theorem tailOk.cons {c : UInt8} {r : List UInt8} (h : tailOk (c :: r)) (hr : r ≠ []) : tailOk r := by
  unfold tailOk at h ⊢
  cases r with
  | nil => exact absurd rfl hr
  | cons d t => rw [List.getLast?_cons_cons] at h; exact h
theorem tailOk.drop {s : List UInt8} (h : tailOk s) (n : Nat) : tailOk (s.drop n) := by
  unfold tailOk at h ⊢
  intro e
  by_cases hn : n < s.length
  · rw [List.getLast?_drop, if_neg (by omega)] at e; exact h e
  · rw [List.drop_eq_nil_of_le (by omega)] at e; cases e
theorem drop_run (s t : List UInt8) (n : Nat) (z : Int) (hz : (n : Int) = z) (ht : s.drop n = t) (h : n ≤ s.length) (W : World) : (Instr.slice 9 (.string ⟨s.toArray⟩) (some (.int .i64 z)) none none).run Tryz.prog W = .ok (.string ⟨t.toArray⟩) W := by
  subst hz ht
  have hs : (⟨s.toArray⟩ : ByteArray).size = s.length := by simp [ByteArray.size]
  rw [run_slice_string_from_if (h := Tryz.underlying9), if_pos ⟨by omega, by rw [hs]; omega⟩]
  congr 2
  simp only [ByteArray.extract_mk, ByteArray.size, Int.toNat_natCast, List.size_toArray]
  rw [List.take_of_length_le (by rw [List.length_drop]; exact Nat.le_refl _)]
/-- One round: what it leaves, or that there is no format. -/
theorem kd_round (k : Nat) (c : UInt8) (r : List UInt8) (ht : tailOk (c :: r)) : (pcM (c :: r) = 0 ∧ pcZ (c :: r) = 0 ∧ kdF k (c :: r) = none) ∨ (pcM (c :: r) ≠ 0 ∧ k ≠ 0 ∧ pcZ (c :: r) ≠ 0 ∧ kdF k (c :: r) = none) ∨
    (pcM (c :: r) = 0 ∧ pcZ (c :: r) = 1 ∧ kdF k (c :: r) = kdF k r) ∨ (pcM (c :: r) ≠ 0 ∧ k = 0 ∧ pcM (c :: r) ≤ 3 ∧ 0 < pcZ (c :: r) ∧ pcZ (c :: r) ≤ (c :: r).length ∧ kdF k (c :: r) = kdF (pcM (c :: r)) ((c :: r).drop (pcZ (c :: r)))) := by
  by_cases hl : abL c = true
  · have e := pcM_letter r hl
    refine .inr (.inr (.inl ⟨e, ?_, ?_⟩))
    · unfold pcZ; rw [if_pos e]; simp [hl]
    · conv => lhs; unfold kdF
      rw [if_pos hl]
  · have hl' : abL c = false := by simpa using hl
    by_cases e : pcM (c :: r) = 0
    · refine Or.inl ⟨e, ?_, ?_⟩
      · unfold pcZ; rw [if_pos e]; simp [hl']
      · unfold kdF
        rw [if_neg hl, if_pos (Or.inl e)]
        simp
    · obtain ⟨s1, s2, s3⟩ := pcM_split e
      have z : pcZ (c :: r) = (mkB (pcM (c :: r))).length := by unfold pcZ; rw [if_neg e]
      by_cases hk0 : k = 0
      · refine .inr (.inr (.inr ⟨e, hk0, pcM_le _, by omega, by omega, ?_⟩))
        rw [z, kdF_skip e]
        conv => lhs; unfold kdF
        rw [if_neg hl, if_neg (by simpa using hk0), if_neg]
        rintro (h | ⟨rfl, rfl⟩)
        · exact e h
        · exact ht rfl
      · refine .inr (.inl ⟨e, hk0, by omega, ?_⟩)
        unfold kdF
        rw [if_neg hl, if_pos hk0]
set_option maxHeartbeats 3200000 in
theorem kind_is (s : List UInt8) (v e0 : Int) (w : World) (hA : LaidB w) (hs : s.length ≤ 1000) (HV : Hid (kdV s = v ∧ kdE s = e0)) :
    Calls Tryz.prog 71 #[.string ⟨s.toArray⟩] w fun e w' => e = .returned (.tuple #[.int .i64 v, .int .i64 e0]) ∧ Below w.heap.size w w' := by
  have HA := Lib.hid hA
  obtain ⟨m, hm⟩ : ∃ m, mayS s = m := ⟨_, rfl⟩
  have HM := Lib.hid hm
  clear hA
  cases m with
  | false =>
    have E : Hid (v = 0 ∧ e0 = 12) := Lib.hid (by
      have : kdK s = none := by
        unfold kdK
        by_cases hf : fmOk s = true
        · rw [if_pos hf]
          unfold mayS at hm
          rw [hf] at hm
          exact kdF_last s 0 (by simpa using hm)
        · rw [if_neg hf]
      rw [← HV.out.1, ← HV.out.2]; unfold kdV kdE; rw [this]; exact ⟨rfl, rfl⟩)
    clear HV hm
    go_enter Tryz.func71, Tryz.ntmps71
    go_wp2
    go_step3
    go_wp2_with (first | (go_at_call 90; refine (may_is s _ _ HA.out hs HM).mono ?_; rintro e w1 ⟨rfl, rfl⟩; simp only []))
    rw [Exit.noGoto_ret]
    go_ret2
    rw [E.out.1, E.out.2]
    exact ⟨rfl, Below.refl _ _⟩
  | true =>
    have hf : fmOk s = true ∧ tailOk s := by
      unfold mayS at hm
      rw [Bool.and_eq_true] at hm
      exact ⟨hm.1, by simpa [tailOk] using hm.2⟩
    have HT := Lib.hid hf.2
    have HK : Hid (kdF 0 s = kdK s) := Lib.hid (by unfold kdK; rw [if_pos hf.1])
    have HL := Lib.hid hs
    clear hm hf hs
    go_enter Tryz.func71, Tryz.ntmps71
    go_wp2
    go_step3
    go_wp2_with (first | (go_at_call 90; refine (may_is s _ _ HA.out HL.out HM).mono ?_; rintro e w1 ⟨rfl, rfl⟩; simp only []))
    go_step3
    go_wp2
    go_loopw [4, 5] (fun vk vl wr => ∃ (k : Nat) (l : List UInt8), vk = .int .i64 (k : Int) ∧ vl = .string ⟨l.toArray⟩ ∧ k ≤ 3 ∧ l.length ≤ 1000 ∧ tailOk l ∧ kdF k l = kdK s ∧ LaidB wr ∧ Below w1.heap.size w1 wr) (fun _ l _ => lenOf l)
    case atStart => exact ⟨0, s, rfl, rfl, by omega, HL.out, HT.out, HK.out, HA.out, Below.refl _ _⟩
    case round =>
      obtain ⟨k, l, rfl, rfl, hk, hl, ht, hK, hA, hB⟩ := hrel
      have A2 := Lib.hid hA
      have B2 := Lib.hid hB
      have K2 := Lib.hid hK
      have Hk := Lib.hid hk
      have Hl := Lib.hid hl
      have Ht := Lib.hid ht
      clear HT HK hA hB hK hk
      cases l with
      | nil =>
        have E : Hid (v = (k : Int) ∧ e0 = 0) := Lib.hid (by
          have : kdK s = some k := K2.out.symm
          rw [← HV.out.1, ← HV.out.2]; unfold kdV kdE; rw [this]; exact ⟨rfl, rfl⟩)
        clear hl ht
        go_wp2
        try rw [Exit.noGoto_ret]
        go_ret2
        rw [E.out.1, E.out.2]
        exact ⟨rfl, B2.out⟩
      | cons c r =>
        have hne : (c :: r).isEmpty = false := rfl
        obtain ⟨pk, hpk⟩ : ∃ pk, pcM (c :: r) = pk := ⟨_, rfl⟩
        obtain ⟨pz, hpz⟩ : ∃ pz, pcZ (c :: r) = pz := ⟨_, rfl⟩
        have P := Lib.hid (And.intro (congrArg (fun n : Nat => (n : Int)) hpk) (congrArg (fun n : Nat => (n : Int)) hpz))
        have R := kd_round k c r ht
        rw [hpk, hpz] at R
        have NO : Hid (kdK s = none → v = 0 ∧ e0 = 12) := Lib.hid fun h => by rw [← HV.out.1, ← HV.out.2]; unfold kdV kdE; rw [h]; exact ⟨rfl, rfl⟩
        rcases R with ⟨rfl, rfl, R⟩ | ⟨r1, r2, r3, R⟩ | ⟨rfl, rfl, R⟩ | ⟨r1, rfl, r2, r3, r4, R⟩
        · have E := Lib.hid (NO.out (by rw [← K2.out, R]))
          clear R ht hl hpk hpz
          go_wp2_with (first | (go_at_call 91; refine (piece_is c r _ _ _ A2.out P).mono ?_; rintro e w2 ⟨rfl, k2⟩; simp only []))
          rw [Exit.noGoto_ret]
          go_ret2
          rw [E.out.1, E.out.2]
          exact ⟨rfl, B2.out.trans (k2.mono B2.out.size)⟩
        · have E := Lib.hid (NO.out (by rw [← K2.out, R]))
          have t1 : ((pz : Int) == 0) = false := by simpa using r3
          have t2 : ((pk : Int) != 0) = true := by simpa using r1
          have t3 : ((k : Int) != 0) = true := by simpa using r2
          clear R ht hl hpk hpz r1 r2 r3
          go_wp2_with (first | (go_at_call 91; refine (piece_is c r _ _ _ A2.out P).mono ?_; rintro e w2 ⟨rfl, k2⟩; simp only []))
          rw [Exit.noGoto_ret]
          go_ret2
          rw [E.out.1, E.out.2]
          exact ⟨rfl, B2.out.trans (k2.mono B2.out.size)⟩
        · have sl := drop_run (c :: r) r 1 1 rfl rfl (by simp)
          have RR : Hid (r.length ≤ 1000 ∧ tailOk r ∧ kdF k r = kdK s) := Lib.hid ⟨by simp at hl; omega, by
            cases r with
            | nil => intro h; cases h
            | cons d r' => exact ht.cons (by simp), by rw [← R]; exact K2.out⟩
          clear R ht hl hpk hpz
          go_wp2_with (first | (go_at_call 91; refine (piece_is c r _ _ _ A2.out P).mono ?_; rintro e w2 ⟨rfl, k2⟩; simp only []))
          go_roundw
          case rel => exact ⟨k, r, rfl, rfl, Hk.out, RR.out.1, RR.out.2.1, RR.out.2.2, A2.out.next k2, B2.out.trans (k2.mono B2.out.size)⟩
          case measure => simp [lenOf, ByteArray.size]
        · obtain ⟨l', hl'⟩ : ∃ l', (c :: r).drop pz = l' := ⟨_, rfl⟩
          have sl := drop_run (c :: r) l' pz (pz : Int) rfl hl' r4
          have RR : Hid (l'.length ≤ 1000 ∧ tailOk l' ∧ kdF pk l' = kdK s ∧ pk ≤ 3 ∧ l'.length < (c :: r).length) := Lib.hid ⟨by rw [← hl', List.length_drop]; omega, by rw [← hl']; exact ht.drop _, by rw [← hl', ← R]; exact K2.out, r2, by rw [← hl', List.length_drop]; omega⟩
          have t1 : ((pz : Int) == 0) = false := by simp; omega
          have t2 : ((pk : Int) != 0) = true := by simpa using r1
          clear R ht hl hpk hpz r1 r2 r3 r4 hl'
          go_wp2_with (first | (go_at_call 91; refine (piece_is c r _ _ _ A2.out P).mono ?_; rintro e w2 ⟨rfl, k2⟩; simp only []))
          go_roundw
          case rel => exact ⟨pk, l', rfl, rfl, RR.out.2.2.2.1, RR.out.1, RR.out.2.1, RR.out.2.2.1, A2.out.next k2, B2.out.trans (k2.mono B2.out.size)⟩
          case measure => have := RR.out.2.2.2.2; simp [lenOf, ByteArray.size] at this ⊢; exact this
end Go.Proofs.YtdmfgechoanmlaaGreatDoor
