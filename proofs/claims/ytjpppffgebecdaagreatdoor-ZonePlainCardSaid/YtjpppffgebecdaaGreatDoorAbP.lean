/- Plain facts on formats of names of times (which there are, of which kind, and what stands ahead of and behind what marks them), and on offsets as texts and back; no program is named. -/
import Derived.Lib.MapLaws
import Derived.Lib.Hide
import Derived.Lib.IndexMore
namespace Go.Proofs.YtjpppffgebecdaaGreatDoor
open Go

/-! ### Formats -/
def abL (c : UInt8) : Bool := (decide (65 ≤ c.toNat) && decide (c.toNat ≤ 90)) || (decide (97 ≤ c.toNat) && decide (c.toNat ≤ 122)) || (decide (48 ≤ c.toNat) && decide (c.toNat ≤ 57)) || decide (c.toNat = 43) || decide (c.toNat = 45)
/-- What marks a format of a kind. -/
def mkB (k : Nat) : List UInt8 := if k = 1 then [37, 115] else if k = 2 then [37, 122] else if k = 3 then [47] else []
/-- The mark that a text begins with. -/
def pcM (s : List UInt8) : Nat := if [37, 115].isPrefixOf s then 1 else if [37, 122].isPrefixOf s then 2 else if [47].isPrefixOf s then 3 else 0
def pcZ (s : List UInt8) : Nat := if pcM s = 0 then (if (s.head?.map abL).getD false then 1 else 0) else (mkB (pcM s)).length
/-- The kind of what is left, where the kind so far is k. -/
def kdF : Nat → List UInt8 → Option Nat
  | k, [] => some k
  | k, c :: r => if abL c then kdF k r else if k ≠ 0 then none else if pcM (c :: r) = 0 ∨ (c = 47 ∧ r = []) then none else kdF (pcM (c :: r)) r
def fmOk (s : List UInt8) : Bool := decide (s ≠ []) && (decide (s.length ≤ 64) && decide (s.head? ≠ some 47))
def kdK (s : List UInt8) : Option Nat := if fmOk s then kdF 0 s else none
def kdV (s : List UInt8) : Int := match kdK s with | some k => (k : Int) | none => 0
def kdE (s : List UInt8) : Int := match kdK s with | some _ => 0 | none => 12
def kdR (s : List UInt8) : Int := match kdK s with | some k => (k : Int) | none => -1
def ahd (s : List UInt8) : List UInt8 := s.takeWhile abL
def bhd (k : Nat) (s : List UInt8) : List UInt8 := s.drop ((ahd s).length + (mkB k).length)

theorem abL_37 : abL 37 = false := by decide
theorem abL_47 : abL 47 = false := by decide
theorem abL_115 : abL 115 = true := by decide
theorem abL_122 : abL 122 = true := by decide
theorem pcM_le (s : List UInt8) : pcM s ≤ 3 := by unfold pcM; split <;> (try split) <;> (try split) <;> omega
theorem pcM_letter {c : UInt8} (r : List UInt8) (h : abL c = true) : pcM (c :: r) = 0 := by
  have h1 : c ≠ 37 := by rintro rfl; rw [abL_37] at h; cases h
  have h2 : c ≠ 47 := by rintro rfl; rw [abL_47] at h; cases h
  have e1 : ((37 : UInt8) == c) = false := by simpa using fun e : 37 = c => h1 e.symm
  have e2 : ((47 : UInt8) == c) = false := by simpa using fun e : 47 = c => h2 e.symm
  simp [pcM, List.isPrefixOf, e1, e2]
/-- What a mark that a text begins with is. -/
theorem pcM_mark {c : UInt8} {r : List UInt8} (h : pcM (c :: r) ≠ 0) : (pcM (c :: r) = 1 ∧ c = 37 ∧ ∃ t, r = 115 :: t) ∨ (pcM (c :: r) = 2 ∧ c = 37 ∧ ∃ t, r = 122 :: t) ∨ (pcM (c :: r) = 3 ∧ c = 47) := by
  unfold pcM at h ⊢
  by_cases h1 : [37, 115].isPrefixOf (c :: r) = true
  · rw [if_pos h1]
    cases r with
    | nil => simp [List.isPrefixOf] at h1
    | cons d t => simp [List.isPrefixOf] at h1; exact .inl ⟨rfl, h1.1.symm, t, by rw [h1.2]⟩
  · rw [if_neg h1] at h ⊢
    by_cases h2 : [37, 122].isPrefixOf (c :: r) = true
    · rw [if_pos h2]
      cases r with
      | nil => simp [List.isPrefixOf] at h2
      | cons d t => simp [List.isPrefixOf] at h2; exact .inr (.inl ⟨rfl, h2.1.symm, t, by rw [h2.2]⟩)
    · rw [if_neg h2] at h ⊢
      by_cases h3 : [47].isPrefixOf (c :: r) = true
      · rw [if_pos h3]
        simp [List.isPrefixOf] at h3
        exact .inr (.inr ⟨rfl, h3.symm⟩)
      · rw [if_neg h3] at h; exact absurd rfl h
theorem pcM_split {c : UInt8} {r : List UInt8} (h : pcM (c :: r) ≠ 0) : c :: r = mkB (pcM (c :: r)) ++ (c :: r).drop (mkB (pcM (c :: r))).length ∧ 0 < (mkB (pcM (c :: r))).length ∧ (mkB (pcM (c :: r))).length ≤ (c :: r).length := by
  rcases pcM_mark h with ⟨e, rfl, t, rfl⟩ | ⟨e, rfl, t, rfl⟩ | ⟨e, rfl⟩ <;> rw [e] <;> simp [mkB]
theorem kdF_skip {c : UInt8} {r : List UInt8} {k : Nat} (h : pcM (c :: r) ≠ 0) : kdF k ((c :: r).drop (mkB (pcM (c :: r))).length) = kdF k r := by
  rcases pcM_mark h with ⟨e, rfl, t, rfl⟩ | ⟨e, rfl, t, rfl⟩ | ⟨e, rfl⟩ <;> rw [e]
  · simp [mkB, kdF, abL_115]
  · simp [mkB, kdF, abL_122]
  · simp [mkB]

theorem kdF_last : ∀ (s : List UInt8) (k : Nat), s.getLast? = some 47 → kdF k s = none
  | [], _, h => by simp at h
  | [c], k, h => by
    have hc : c = 47 := by simpa using h
    subst hc
    simp [kdF, abL_47]
  | c :: d :: r, k, h => by
    have hl : (d :: r).getLast? = some 47 := by rw [List.getLast?_cons_cons] at h; exact h
    unfold kdF
    rw [kdF_last (d :: r) k hl, kdF_last (d :: r) _ hl]
    simp
theorem kdF_letters : ∀ {s : List UInt8} {k : Nat}, k ≠ 0 → ∀ {j : Nat}, kdF k s = some j → j = k ∧ s.all abL = true
  | [], k, _, j, h => by simp [kdF] at h; exact ⟨h.symm, rfl⟩
  | c :: r, k, hk, j, h => by
    unfold kdF at h
    by_cases hc : abL c = true
    · rw [if_pos hc] at h
      obtain ⟨e1, e2⟩ := kdF_letters hk h
      exact ⟨e1, by rw [List.all_cons, hc, e2]; rfl⟩
    · rw [if_neg hc, if_pos hk] at h; cases h
/-- A format is letters, and once a mark among them. -/
theorem kdF_shape : ∀ {s : List UInt8} {j : Nat}, kdF 0 s = some j → (j = 0 ∧ s.all abL = true) ∨ (1 ≤ j ∧ j ≤ 3 ∧ s = ahd s ++ mkB j ++ bhd j s ∧ (bhd j s).all abL = true)
  | [], j, h => by simp [kdF] at h; exact .inl ⟨h.symm, rfl⟩
  | c :: r, j, h => by
    unfold kdF at h
    by_cases hc : abL c = true
    · rw [if_pos hc] at h
      rcases kdF_shape h with ⟨e1, e2⟩ | ⟨e1, e2, e3, e4⟩
      · exact .inl ⟨e1, by rw [List.all_cons, hc, e2]; rfl⟩
      · have e5 : ahd (c :: r) = c :: ahd r := by simp [ahd, List.takeWhile, hc]
        have e6 : bhd j (c :: r) = bhd j r := by unfold bhd; rw [e5, List.length_cons, Nat.add_right_comm, List.drop_succ_cons]
        exact .inr ⟨e1, e2, by rw [e5, e6]; simpa using e3, by rw [e6]; exact e4⟩
    · rw [if_neg hc, if_neg (by simp)] at h
      by_cases hp : pcM (c :: r) = 0 ∨ (c = 47 ∧ r = [])
      · rw [if_pos hp] at h; cases h
      · rw [if_neg hp] at h
        have hm : pcM (c :: r) ≠ 0 := fun e => hp (.inl e)
        have h3 := pcM_le (c :: r)
        obtain ⟨e1, e2⟩ := kdF_letters hm h
        subst e1
        have e5 : ahd (c :: r) = [] := by simp [ahd, List.takeWhile, hc]
        obtain ⟨s1, s2, s3⟩ := pcM_split hm
        refine .inr ⟨by omega, h3, ?_, ?_⟩
        · unfold bhd
          rw [e5]
          simpa using s1
        · unfold bhd
          rw [e5]
          rcases pcM_mark hm with ⟨e, rfl, t, rfl⟩ | ⟨e, rfl, t, rfl⟩ | ⟨e, rfl⟩ <;> rw [e] <;> simp [mkB] at e2 ⊢ <;> first | exact e2 | exact e2.2
theorem ahd_all (s : List UInt8) : (ahd s).all abL = true := by unfold ahd; exact List.all_takeWhile
theorem all_getD {s : List UInt8} (h : s.all abL = true) {c : UInt8} (hc : c ∈ s) : abL c = true := List.all_eq_true.1 h c hc

/-! ### What is cut at the mark -/
theorem mkB_head {k : Nat} (h : 1 ≤ k) (h3 : k ≤ 3) : ∃ c t, mkB k = c :: t ∧ abL c = false := by
  obtain rfl | rfl | rfl : k = 1 ∨ k = 2 ∨ k = 3 := by omega
  · exact ⟨37, [115], rfl, abL_37⟩
  · exact ⟨37, [122], rfl, abL_37⟩
  · exact ⟨47, [], rfl, abL_47⟩
theorem cut_at {a m b s : List UInt8} {c : UInt8} {t : List UInt8} (hA : a.all abL = true) (hm : m = c :: t) (hc : abL c = false) (e : s = a ++ m ++ b) : Lib.cut s m = (a, s.drop (a.length + m.length), true) := by
  have hi : Lib.index s m = (a.length : Int) := by
    refine Lib.index_first ?_ ?_ ?_
    · subst e; simp
    · subst e
      unfold Lib.occAt
      rw [List.append_assoc, List.drop_left]
      exact List.isPrefixOf_iff_prefix.2 (List.prefix_append _ _)
    · intro j hj
      unfold Lib.occAt
      rw [← Bool.not_eq_true]
      intro hp
      obtain ⟨u, hu⟩ := List.isPrefixOf_iff_prefix.1 hp
      rw [hm] at hu
      have h0 : (s.drop j)[0]? = some c := by rw [← hu]; rfl
      rw [List.getElem?_drop, Nat.add_zero, e, List.append_assoc, List.getElem?_append_left hj] at h0
      have := all_getD hA (List.mem_of_getElem? h0)
      rw [hc] at this
      cases this
  have ht : s.take a.length = a := by subst e; rw [List.append_assoc, List.take_left]
  unfold Lib.cut
  rw [hi, if_pos (by omega), Int.toNat_natCast, ht]
theorem cut_mark {s : List UInt8} {k : Nat} (h1 : 1 ≤ k) (h3 : k ≤ 3) (e : s = ahd s ++ mkB k ++ bhd k s) : Lib.cut s (mkB k) = (ahd s, bhd k s, true) := by
  obtain ⟨c, t, hm, hc⟩ := mkB_head h1 h3
  exact cut_at (ahd_all s) hm hc e
theorem cut_none (s : List UInt8) : Lib.cut s [] = ([], s, true) := by
  have : Lib.index s [] = 0 := by cases s <;> simp [Lib.index]
  simp [Lib.cut, this]

/-! ### Offsets -/
def two (n : Nat) : List UInt8 := [UInt8.ofNat (48 + n / 10), UInt8.ofNat (48 + n % 10)]
def txO (sg : UInt8) (n : Nat) : List UInt8 := sg :: (two (n / 3600) ++ (if n % 3600 = 0 then [] else two (n % 3600 / 60) ++ (if n % 60 = 0 then [] else two (n % 60))))
def ofT (off : Int) : List UInt8 := txO (if off < 0 then 45 else 43) off.natAbs
def ofE (off : Int) : Int := if off ≤ -360000 ∨ 360000 ≤ off then 10 else 0
def ofS (off : Int) : List UInt8 := if off ≤ -360000 ∨ 360000 ≤ off then [] else ofT off
/-- A byte's digit, whatever it is. -/
def bd (b : UInt8) : Nat := (b.toNat + 208) % 256
def scA : Nat → List UInt8 → Nat
  | acc, a :: b :: r => scA (60 * acc + 10 * bd a + bd b) r
  | acc, _ => acc
def dgs (s : List UInt8) : List UInt8 := (s.drop 1 ++ [48, 48, 48, 48]).take 6
def scV (s : List UInt8) : Int := if s.head? = some 45 then -(scA 0 (dgs s) : Int) else (scA 0 (dgs s) : Int)
def psO (s : List UInt8) : Bool := decide (3 ≤ s.length ∧ s.length ≤ 7 ∧ -360000 < scV s ∧ scV s < 360000 ∧ ofT (scV s) = s)
def psV (s : List UInt8) : Int := if psO s then scV s else 0
def psE (s : List UInt8) : Int := if psO s then 0 else 12
def isD (b : UInt8) : Bool := decide (48 ≤ b.toNat) && decide (b.toNat ≤ 57)
/-- What digits by twos are, in units that are a sixtieth of the one ahead. -/
def rdA : Nat → Nat → List UInt8 → Option Nat
  | u, n, a :: b :: r => if isD a && isD b then rdA (u / 60) (n + u * (10 * (a.toNat - 48) + (b.toNat - 48))) r else none
  | _, n, _ => some n
def rpS (s : List UInt8) : Bool := decide ((s.length = 3 ∨ s.length = 5 ∨ s.length = 7) ∧ (s.head? = some 43 ∨ s.head? = some 45))
def sgn (s : List UInt8) (n : Nat) : Int := if s.head? = some 45 then -(n : Int) else (n : Int)
def rpV (s : List UInt8) : Int := if rpS s then (match rdA 3600 0 (s.drop 1) with | some n => sgn s n | none => 0) else 0
def rpO (s : List UInt8) : Bool := if rpS s then (match rdA 3600 0 (s.drop 1) with | some n => decide (-360000 < sgn s n ∧ sgn s n < 360000 ∧ ofT (sgn s n) = s) | none => false) else false

theorem bd_two {n : Nat} (h : n < 10) : bd (UInt8.ofNat (48 + n)) = n := by unfold bd; rw [UInt8.toNat_ofNat']; omega
theorem isD_two {n : Nat} (h : n < 10) : isD (UInt8.ofNat (48 + n)) = true := by unfold isD; rw [UInt8.toNat_ofNat']; simp; omega
theorem dig_two {n : Nat} (h : n < 10) : (UInt8.ofNat (48 + n)).toNat - 48 = n := by rw [UInt8.toNat_ofNat']; omega
theorem two_len (n : Nat) : (two n).length = 2 := rfl
theorem scA_two {n : Nat} (acc : Nat) (r : List UInt8) (h : n < 100) : scA acc (two n ++ r) = scA (60 * acc + n) r := by
  show scA (60 * acc + 10 * bd (UInt8.ofNat (48 + n / 10)) + bd (UInt8.ofNat (48 + n % 10))) r = _
  rw [bd_two (by omega), bd_two (by omega)]
  congr 1; omega
theorem rdA_two {n : Nat} (u acc : Nat) (r : List UInt8) (h : n < 100) : rdA u acc (two n ++ r) = rdA (u / 60) (acc + u * n) r := by
  show (if isD (UInt8.ofNat (48 + n / 10)) && isD (UInt8.ofNat (48 + n % 10)) then rdA (u / 60) (acc + u * (10 * ((UInt8.ofNat (48 + n / 10)).toNat - 48) + ((UInt8.ofNat (48 + n % 10)).toNat - 48))) r else none) = _
  rw [isD_two (by omega), isD_two (by omega), dig_two (by omega), dig_two (by omega)]
  show rdA _ _ _ = _
  congr 2; congr 1; omega
theorem txO_len (sg : UInt8) (n : Nat) : (txO sg n).length = if n % 3600 = 0 then 3 else if n % 60 = 0 then 5 else 7 := by
  unfold txO
  split
  · simp [two]
  · split <;> simp [two]
theorem sc_tx {sg : UInt8} {n : Nat} (h : n < 360000) : scA 0 (dgs (txO sg n)) = n := by
  have z : ∀ acc, scA acc ([48, 48] : List UInt8) = 60 * acc := fun acc => by show 60 * acc + 10 * bd 48 + bd 48 = _; rw [show bd 48 = 0 from rfl]; omega
  have z2 : ∀ acc, scA acc ([48, 48, 48, 48] : List UInt8) = 60 * (60 * acc) := fun acc => by
    show scA (60 * acc + 10 * bd 48 + bd 48) [48, 48] = _
    rw [show bd 48 = 0 from rfl, z]; omega
  unfold dgs txO
  by_cases h1 : n % 3600 = 0
  · rw [if_pos h1]
    have e : ((sg :: (two (n / 3600) ++ [])).drop 1 ++ [48, 48, 48, 48]).take 6 = two (n / 3600) ++ [48, 48, 48, 48] := rfl
    rw [e, scA_two _ _ (by omega), z2]; omega
  · rw [if_neg h1]
    by_cases h2 : n % 60 = 0
    · rw [if_pos h2]
      have e : ((sg :: (two (n / 3600) ++ (two (n % 3600 / 60) ++ []))).drop 1 ++ [48, 48, 48, 48]).take 6 = two (n / 3600) ++ (two (n % 3600 / 60) ++ [48, 48]) := rfl
      rw [e, scA_two _ _ (by omega), scA_two _ _ (by omega), z]; omega
    · rw [if_neg h2]
      have e : ((sg :: (two (n / 3600) ++ (two (n % 3600 / 60) ++ two (n % 60)))).drop 1 ++ [48, 48, 48, 48]).take 6 = two (n / 3600) ++ (two (n % 3600 / 60) ++ (two (n % 60) ++ [])) := rfl
      rw [e, scA_two _ _ (by omega), scA_two _ _ (by omega), scA_two _ _ (by omega)]
      show 60 * (60 * (60 * 0 + n / 3600) + n % 3600 / 60) + n % 60 = n
      omega
theorem rd_tx {sg : UInt8} {n : Nat} (h : n < 360000) : rdA 3600 0 ((txO sg n).drop 1) = some n := by
  unfold txO
  rw [List.drop_one, List.tail_cons]
  by_cases h1 : n % 3600 = 0
  · rw [if_pos h1, rdA_two _ _ _ (by omega)]
    show some _ = _
    congr 1; omega
  · rw [if_neg h1, rdA_two _ _ _ (by omega)]
    by_cases h2 : n % 60 = 0
    · rw [if_pos h2, rdA_two _ _ _ (by omega)]
      show some _ = _
      congr 1; omega
    · rw [if_neg h2, rdA_two _ _ _ (by omega), ← List.append_nil (two (n % 60)), rdA_two _ _ _ (by omega)]
      show some _ = _
      congr 1; omega
theorem ofT_head (off : Int) : (ofT off).head? = some (if off < 0 then 45 else 43) := rfl
theorem sg_eq (off : Int) : (ofT off).head? = some 45 ↔ off < 0 := by
  rw [ofT_head]
  by_cases h : off < 0
  · simp [h]
  · simp [h]
theorem sgn_of (off : Int) : sgn (ofT off) off.natAbs = off := by
  unfold sgn
  by_cases h : off < 0
  · rw [if_pos ((sg_eq off).2 h)]; omega
  · rw [if_neg (fun e => h ((sg_eq off).1 e))]; omega
theorem sc_of {off : Int} (h1 : -360000 < off) (h2 : off < 360000) : scV (ofT off) = off := by
  have e : scA 0 (dgs (ofT off)) = off.natAbs := sc_tx (by omega)
  have := sgn_of off
  unfold sgn at this
  unfold scV
  rw [e]
  exact this
theorem ofT_len (off : Int) : (ofT off).length = 3 ∨ (ofT off).length = 5 ∨ (ofT off).length = 7 := by
  unfold ofT
  rw [txO_len]
  split
  · exact .inl rfl
  · split
    · exact .inr (.inl rfl)
    · exact .inr (.inr rfl)
theorem ps_of {off : Int} (h1 : -360000 < off) (h2 : off < 360000) : psO (ofT off) = true := by
  have := ofT_len off
  unfold psO
  rw [sc_of h1 h2]
  simp only [decide_eq_true_eq]
  exact ⟨by omega, by omega, h1, h2, trivial⟩
theorem ps_out {s : List UInt8} (h : psO s = true) : -360000 < scV s ∧ scV s < 360000 ∧ ofT (scV s) = s := by
  unfold psO at h
  simp only [decide_eq_true_eq] at h
  exact h.2.2
theorem rps_of (off : Int) : rpS (ofT off) = true := by
  have := ofT_len off
  unfold rpS
  rw [ofT_head]
  simp only [decide_eq_true_eq]
  refine ⟨this, ?_⟩
  by_cases h : off < 0
  · rw [if_pos h]; exact .inr rfl
  · rw [if_neg h]; exact .inl rfl
/-- The document's answer is the text's offset, or none, as the text's own is. -/
theorem rp_eq (s : List UInt8) : rpO s = psO s ∧ (psO s = true → rpV s = scV s) := by
  have fwd : psO s = true → rpO s = true ∧ rpV s = scV s := by
    intro h
    obtain ⟨h1, h2, h3⟩ := ps_out h
    generalize hn : scV s = n at h1 h2 h3
    subst h3
    have e : rdA 3600 0 ((ofT n).drop 1) = some n.natAbs := rd_tx (by omega)
    unfold rpO rpV
    rw [rps_of, if_pos rfl, if_pos rfl, e]
    simp only [sgn_of]
    exact ⟨by simp; omega, trivial⟩
  refine ⟨?_, fun h => (fwd h).2⟩
  by_cases h : psO s = true
  · rw [h, (fwd h).1]
  · have h' : psO s = false := by simpa using h
    rw [h']
    rw [← Bool.not_eq_true]
    intro hr
    apply h
    unfold rpO at hr
    by_cases h0 : rpS s = true
    · rw [if_pos h0] at hr
      cases hd : rdA 3600 0 (s.drop 1) with
      | none => rw [hd] at hr; cases hr
      | some n =>
        rw [hd] at hr
        simp only [decide_eq_true_eq] at hr
        obtain ⟨e1, e2, e3⟩ := hr
        rw [← e3]
        exact ps_of e1 e2
    · rw [if_neg h0] at hr; cases hr
/-- An offset the other way round: the same text but for the sign. -/
theorem ofT_neg {off : Int} (h : off ≠ 0) : (ofT off).drop 1 = (ofT (-off)).drop 1 ∧ (ofT off).length = (ofT (-off)).length ∧ ((ofT off).getD 0 0 = if 0 < off then 43 else 45) ∧ ((ofT (-off)).getD 0 0 = if 0 < off then 45 else 43) := by
  have e : (-off).natAbs = off.natAbs := by omega
  refine ⟨by unfold ofT txO; rw [e]; rfl, by unfold ofT; rw [e, txO_len, txO_len], ?_, ?_⟩
  · by_cases h1 : 0 < off
    · rw [if_pos h1]; show (if off < 0 then 45 else 43 : UInt8) = _; rw [if_neg (by omega)]
    · rw [if_neg h1]; show (if off < 0 then 45 else 43 : UInt8) = _; rw [if_pos (by omega)]
  · by_cases h1 : 0 < off
    · rw [if_pos h1]; show (if -off < 0 then 45 else 43 : UInt8) = _; rw [if_pos (by omega)]
    · rw [if_neg h1]; show (if -off < 0 then 45 else 43 : UInt8) = _; rw [if_neg (by omega)]

/-! ### How a time is called -/
def shS (f : List UInt8) (off : Int) (dst : Bool) (l : List UInt8) : List UInt8 := match kdK f with
  | none => []
  | some 0 => f
  | some 1 => ahd f ++ l ++ bhd 1 f
  | some 2 => if off ≤ -360000 ∨ 360000 ≤ off then [] else ahd f ++ ofT off ++ bhd 2 f
  | some _ => if dst then bhd 3 f else ahd f
def shE (f : List UInt8) (off : Int) : Int := match kdK f with
  | none => 12
  | some 2 => ofE off
  | some _ => 0
end Go.Proofs.YtjpppffgebecdaaGreatDoor
