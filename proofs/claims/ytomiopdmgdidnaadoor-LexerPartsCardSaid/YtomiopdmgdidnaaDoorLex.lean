/- Plain facts on lines: which words a line has, which line words make, and which lines a text has; no program is named. -/
import Derived.Lib.IndexAny
import Derived.Lib.SlTrimSet
import Derived.Lib.Hide
namespace Go.Proofs.YtomiopdmgdidnaaDoor
open Go

def gapB (b : UInt8) : Bool := b == 32 || b == 9
def barB (b : UInt8) : Bool := b == 0 || b == 10 || b == 13
def badB (b : UInt8) : Bool := b == 0 || b == 10 || b == 13 || b == 34
/-- What ends a word outside quotes. -/
def endB (b : UInt8) : Bool := b == 32 || b == 9 || b == 35

theorem end_gap {b : UInt8} (h : gapB b = true) : endB b = true := by
  unfold gapB at h; unfold endB; rw [h]; rfl

/-- The word with which a text begins (in quotes already, or not), what is behind it, and whether its quotes end. -/
def cutQ : List UInt8 → Bool → List UInt8 × List UInt8 × Bool
  | [], q => ([], [], !q)
  | c :: l, q => if c == 34 then cutQ l (!q) else if !q && endB c then ([], c :: l, true) else (c :: (cutQ l q).1, (cutQ l q).2)
/-- A line from its next word on. -/
def fromQ (l : List UInt8) : List UInt8 := if (l.dropWhile gapB).head? = some 35 then [] else l.dropWhile gapB

theorem cutQ_len : ∀ (l : List UInt8) (q : Bool), (cutQ l q).2.1.length ≤ l.length
  | [], _ => Nat.le_refl _
  | c :: l, q => by
    unfold cutQ
    split
    · exact Nat.le_succ_of_le (cutQ_len l (!q))
    · split
      · exact Nat.le_refl _
      · exact Nat.le_succ_of_le (cutQ_len l q)
theorem drop_len (l : List UInt8) (p : UInt8 → Bool) : (l.dropWhile p).length ≤ l.length := (List.dropWhile_suffix p).length_le
theorem fromQ_len (l : List UInt8) : (fromQ l).length ≤ l.length := by
  unfold fromQ
  split
  · exact Nat.zero_le _
  · exact drop_len l gapB
theorem fromQ_head {l : List UInt8} {c : UInt8} {r : List UInt8} (h : fromQ l = c :: r) : endB c = false := by
  unfold fromQ at h
  split at h
  · cases h
  · rename_i h35
    rw [h] at h35
    have hg : gapB c = false := by
      have := List.head?_dropWhile_not gapB l
      rw [h] at this
      simpa using this
    have h3 : (c == 35) = false := by simpa using h35
    unfold gapB at hg
    unfold endB
    rw [hg, h3]; rfl
theorem cutQ_lt {l : List UInt8} {c : UInt8} {r : List UInt8} (h : fromQ l = c :: r) : (cutQ (c :: r) false).2.1.length < l.length := by
  have hl := fromQ_len l
  rw [h] at hl
  have he := fromQ_head h
  have : (cutQ (c :: r) false).2.1.length ≤ r.length := by
    unfold cutQ
    split
    · exact cutQ_len r _
    · rw [he]; exact cutQ_len r _
  simp only [List.length_cons] at hl
  omega

/-- A line's words, each with whether its quotes end. -/
def wlist (l : List UInt8) : List (List UInt8 × Bool) :=
  match _h : fromQ l with
  | [] => []
  | c :: r => ((cutQ (c :: r) false).1, (cutQ (c :: r) false).2.2) :: wlist (cutQ (c :: r) false).2.1
termination_by l.length
decreasing_by exact cutQ_lt _h

theorem wlist_nil {l : List UInt8} (h : fromQ l = []) : wlist l = [] := by
  rw [wlist]; split
  · rfl
  · rename_i h'; rw [h] at h'; cases h'
theorem wlist_cons {l : List UInt8} (h : fromQ l ≠ []) : wlist l = ((cutQ (fromQ l) false).1, (cutQ (fromQ l) false).2.2) :: wlist (cutQ (fromQ l) false).2.1 := by
  rw [wlist]; split
  · rename_i h'; exact absurd h' h
  · rename_i h'; rw [h']

/-- What is wrong with a line; its words, if nothing is. -/
def lexE (l : List UInt8) : Int := if l.any barB then 12 else if (wlist l).any (fun p => !p.2) then 12 else if 32 < (wlist l).length then 14 else 0
def wordsL (l : List UInt8) : List (List UInt8) := if lexE l = 0 then (wlist l).map (·.1) else []

/-! ## Byte by byte -/

def addLast (o : List (List UInt8)) (c : UInt8) : List (List UInt8) := o.dropLast ++ [o.getLastD [] ++ [c]]
theorem addLast_snoc (o : List (List UInt8)) (w : List UInt8) (c : UInt8) : addLast (o ++ [w]) c = o ++ [w ++ [c]] := by simp [addLast, List.getLastD_eq_getLast?]
def auto : List UInt8 → Bool → Bool → List (List UInt8) → List (List UInt8) × Bool
  | [], _, q, out => (out, q)
  | c :: l, i, q, out =>
    if q then (if c == 34 then auto l i false out else auto l i true (addLast out c))
    else if c == 35 then (out, false)
    else if gapB c then auto l false false out
    else if c == 34 then auto l true true (if i then out else out ++ [[]]) else auto l true false (addLast (if i then out else out ++ [[]]) c)

theorem cutQ_rest : ∀ (l : List UInt8) (q : Bool), (cutQ l q).2.1 = [] ∨ ((cutQ l q).2.2 = true ∧ ∃ c r, (cutQ l q).2.1 = c :: r ∧ endB c = true ∧ (c == 34) = false)
  | [], _ => .inl rfl
  | c :: l, q => by
    unfold cutQ
    split
    · exact cutQ_rest l (!q)
    · rename_i h34
      split
      · rename_i he
        rw [Bool.and_eq_true] at he
        exact .inr ⟨rfl, c, l, rfl, he.2, by simpa using h34⟩
      · exact cutQ_rest l q

theorem auto_35 {c : UInt8} (l : List UInt8) (i : Bool) (os : List (List UInt8)) (h : (c == 35) = true) : auto (c :: l) i false os = (os, false) := by rw [auto, if_neg (by decide), if_pos h]
theorem auto_gap {c : UInt8} (l : List UInt8) (i : Bool) (os : List (List UInt8)) (h : gapB c = true) (h' : (c == 35) = false) : auto (c :: l) i false os = auto l false false os := by rw [auto, if_neg (by decide), if_neg (by rw [h']; decide), if_pos h]
theorem auto_34 {c : UInt8} (l : List UInt8) (i : Bool) (os : List (List UInt8)) (h : (c == 34) = true) : auto (c :: l) i false os = auto l true true (if i then os else os ++ [[]]) := by
  have : c = 34 := by simpa using h
  subst this; rfl
theorem auto_more {c : UInt8} (l : List UInt8) (i : Bool) (os : List (List UInt8)) (h : endB c = false) (h' : (c == 34) = false) : auto (c :: l) i false os = auto l true false (addLast (if i then os else os ++ [[]]) c) := by
  unfold endB at h
  simp only [Bool.or_eq_false_iff] at h
  rw [auto, if_neg (by decide), if_neg (by rw [h.2]; decide), if_neg (by unfold gapB; rw [h.1.1, h.1.2]; decide), if_neg (by rw [h']; decide)]
theorem auto_start {c : UInt8} (l : List UInt8) (os : List (List UInt8)) (h : endB c = false) : auto (c :: l) false false os = auto (c :: l) true false (os ++ [[]]) := by
  cases h' : c == 34
  · rw [auto_more l false os h h', auto_more l true (os ++ [[]]) h h']; rfl
  · rw [auto_34 l false os h', auto_34 l true (os ++ [[]]) h']; rfl
/-- In a word. -/
theorem auto_in : ∀ (l : List UInt8) (q : Bool) (os : List (List UInt8)) (w : List UInt8),
    auto l true q (os ++ [w]) = if (cutQ l q).2.2 then auto (cutQ l q).2.1 true false (os ++ [w ++ (cutQ l q).1]) else (os ++ [w ++ (cutQ l q).1], true)
  | [], q, os, w => by cases q <;> simp [cutQ, auto]
  | c :: l, q, os, w => by
    by_cases h34 : (c == 34) = true
    · have e : cutQ (c :: l) q = cutQ l (!q) := by rw [cutQ, if_pos h34]
      rw [e]
      have c34 : c = 34 := by simpa using h34
      subst c34
      cases q
      · rw [show auto (34 :: l) true false (os ++ [w]) = auto l true true (os ++ [w]) from rfl]
        exact auto_in l true os w
      · rw [show auto (34 :: l) true true (os ++ [w]) = auto l true false (os ++ [w]) from rfl]
        exact auto_in l false os w
    · have h34' : (c == 34) = false := by simpa using h34
      cases q
      · by_cases he : endB c = true
        · have e : cutQ (c :: l) false = ([], c :: l, true) := by rw [cutQ, if_neg h34, if_pos (by rw [he]; rfl)]
          rw [e]
          simp
        · have he' : endB c = false := by simpa using he
          have e : cutQ (c :: l) false = (c :: (cutQ l false).1, (cutQ l false).2) := by rw [cutQ, if_neg h34, if_neg (by rw [he']; decide)]
          rw [e]
          rw [auto_more l true _ he' h34', if_pos rfl, addLast_snoc, auto_in l false os (w ++ [c])]
          simp
      · have e : cutQ (c :: l) true = (c :: (cutQ l true).1, (cutQ l true).2) := by rw [cutQ, if_neg h34, if_neg (by simp)]
        rw [e, auto, if_pos rfl, if_neg h34, addLast_snoc, auto_in l true os (w ++ [c])]
        simp

theorem auto_drop : ∀ (l : List UInt8) (i : Bool) (os : List (List UInt8)), (i = false ∨ ∀ c r, l = c :: r → endB c = true) → auto l i false os = auto (fromQ l) false false os
  | [], i, os, _ => by cases i <;> rfl
  | c :: l, i, os, h => by
    by_cases hg : gapB c = true
    · have e : fromQ (c :: l) = fromQ l := by unfold fromQ; rw [List.dropWhile_cons, if_pos hg]
      have h35 : (c == 35) = false := by
        unfold gapB at hg
        rw [Bool.or_eq_true] at hg
        rcases hg with hg | hg
        · have : c = 32 := by simpa using hg
          subst this; rfl
        · have : c = 9 := by simpa using hg
          subst this; rfl
      rw [e, auto_gap l i os hg h35]
      exact auto_drop l false os (.inl rfl)
    · by_cases h35 : (c == 35) = true
      · have e : fromQ (c :: l) = [] := by
          unfold fromQ
          rw [List.dropWhile_cons, if_neg hg]
          have : c = 35 := by simpa using h35
          simp [this]
        rw [e, auto_35 l i os h35]
        rfl
      · have e : fromQ (c :: l) = c :: l := by
          unfold fromQ
          rw [List.dropWhile_cons, if_neg hg, if_neg (by simpa using h35)]
        rw [e]
        rcases h with h | h
        · rw [h]
        · have := h c l rfl
          unfold endB at this
          unfold gapB at hg
          rw [Bool.or_eq_true] at this
          rcases this with this | this
          · exact absurd this hg
          · exact absurd this h35

/-- Out of a word: all words to come. -/
theorem auto_out (n : Nat) : ∀ (l : List UInt8) (os : List (List UInt8)), l.length ≤ n → auto l false false os = (os ++ (wlist l).map (·.1), (wlist l).any fun p => !p.2) := by
  induction n with
  | zero =>
    intro l os h
    have : l = [] := List.length_eq_zero_iff.1 (by omega)
    subst this
    rw [wlist_nil rfl]; simp [auto]
  | succ n ih =>
    intro l os hl
    rw [auto_drop l false os (.inl rfl)]
    cases hf : fromQ l with
    | nil => rw [wlist_nil hf]; simp [auto]
    | cons c r =>
      have he := fromQ_head hf
      have hlt := cutQ_lt hf
      rw [wlist_cons (by rw [hf]; exact List.cons_ne_nil _ _), hf]
      have h1 := auto_start r os he
      rw [h1, auto_in]
      cases hE : (cutQ (c :: r) false).2.2
      · have hr : (cutQ (c :: r) false).2.1 = [] := by
          rcases cutQ_rest (c :: r) false with h | h
          · exact h
          · rw [hE] at h; cases h.1
        rw [hr, wlist_nil rfl]
        simp
      · rw [if_pos rfl, auto_drop _ true _ (.inr fun c' r' h' => by
          rcases cutQ_rest (c :: r) false with h | ⟨_, c2, r2, h, h2, _⟩
          · rw [h] at h'; cases h'
          · rw [h] at h'; cases h'; exact h2), ← auto_drop _ false _ (.inl rfl), ih _ _ (by omega)]
        simp
theorem auto_all (l : List UInt8) : auto l false false [] = ((wlist l).map (·.1), (wlist l).any fun p => !p.2) := by
  rw [auto_out l.length l [] (Nat.le_refl _)]; simp

/-! ## Words of joined words -/

def needQ (w : List UInt8) : Bool := w.isEmpty || w.any endB
def putQ (w : List UInt8) : List UInt8 := if needQ w then 34 :: (w ++ [34]) else w
def tailG : Bool → List (List UInt8) → List UInt8
  | _, [] => []
  | f, w :: ws => (if f then [] else [32]) ++ putQ w ++ tailG false ws
def joinE (ws : List (List UInt8)) : Int := if 32 < ws.length then 14 else if ws.any (·.any badB) then 12 else 0
def joinL (ws : List (List UInt8)) : List UInt8 := if joinE ws = 0 then tailG true ws else []

theorem tailG_snoc : ∀ (ws : List (List UInt8)) (f : Bool) (w : List UInt8), tailG f (ws ++ [w]) = tailG f ws ++ ((if f && ws.isEmpty then [] else [32]) ++ putQ w)
  | [], f, w => by cases f <;> simp [tailG]
  | v :: ws, f, w => by
    simp only [List.cons_append, tailG, tailG_snoc ws false w, List.append_assoc]
    cases f <;> simp

def stops (t : List UInt8) : Prop := t = [] ∨ ∃ c r, t = c :: r ∧ endB c = true
def noq (w : List UInt8) : Prop := ∀ c ∈ w, (c == 34) = false

theorem end_34 {c : UInt8} (h : endB c = true) : (c == 34) = false := by
  unfold endB at h
  simp only [Bool.or_eq_true] at h
  cases e : c == 34
  · rfl
  · have : c = 34 := by simpa using e
    subst this
    revert h; decide
theorem cutQ_quoted : ∀ (w t : List UInt8), noq w → cutQ (w ++ 34 :: t) true = (w ++ (cutQ t false).1, (cutQ t false).2)
  | [], t, _ => by simp [cutQ]
  | c :: w, t, h => by
    rw [List.cons_append, cutQ, if_neg (by rw [h c (by simp)]; decide), if_neg (by simp), cutQ_quoted w t (fun x hx => h x (by simp [hx]))]
    simp
theorem cutQ_stop {t : List UInt8} (h : stops t) : cutQ t false = ([], t, true) := by
  rcases h with rfl | ⟨c, r, rfl, h⟩
  · rfl
  · rw [cutQ, if_neg (by rw [end_34 h]; decide), if_pos (by rw [h]; rfl)]
theorem cutQ_bare : ∀ (w t : List UInt8), noq w → w.any endB = false → stops t → cutQ (w ++ t) false = (w, t, true)
  | [], t, _, _, h => cutQ_stop h
  | c :: w, t, h, he, hs => by
    simp only [List.any_cons, Bool.or_eq_false_iff] at he
    rw [List.cons_append, cutQ, if_neg (by rw [h c (by simp)]; decide), if_neg (by rw [he.1]; decide), cutQ_bare w t (fun x hx => h x (by simp [hx])) he.2 hs]
theorem cutQ_put (w t : List UInt8) (h : noq w) (hs : stops t) : cutQ (putQ w ++ t) false = (w, t, true) := by
  unfold putQ
  split
  · rw [List.cons_append, cutQ, if_pos (by decide), Bool.not_false, List.append_assoc, List.singleton_append, cutQ_quoted w t h, cutQ_stop hs]
    simp
  · rename_i hq
    unfold needQ at hq
    exact cutQ_bare w t h (by simp_all) hs
theorem putQ_head (w : List UInt8) : ∃ c r, putQ w = c :: r ∧ endB c = false := by
  unfold putQ
  split
  · exact ⟨34, _, rfl, rfl⟩
  · rename_i hq
    unfold needQ at hq
    cases w with
    | nil => simp at hq
    | cons c w => exact ⟨c, w, rfl, by simp_all⟩
theorem fromQ_gaps : ∀ (g t : List UInt8), g.all gapB = true → fromQ (g ++ t) = fromQ t
  | [], _, _ => rfl
  | c :: g, t, h => by
    simp only [List.all_cons, Bool.and_eq_true] at h
    rw [show fromQ (c :: g ++ t) = fromQ (g ++ t) from by unfold fromQ; rw [List.cons_append, List.dropWhile_cons, if_pos h.1]]
    exact fromQ_gaps g t h.2
theorem fromQ_at {c : UInt8} {r : List UInt8} (h : endB c = false) : fromQ (c :: r) = c :: r := by
  unfold endB at h
  simp only [Bool.or_eq_false_iff] at h
  have hg : gapB c = false := by unfold gapB; rw [h.1.1, h.1.2]; rfl
  have h3 : ¬ (c = 35) := by simpa using h.2
  unfold fromQ
  have hd : (c :: r).dropWhile gapB = c :: r := by rw [List.dropWhile_cons, hg]; rfl
  rw [hd, if_neg (by simp [h3])]
theorem wlist_put (g w t : List UInt8) (hg : g.all gapB = true) (h : noq w) (hs : stops t) : wlist (g ++ (putQ w ++ t)) = (w, true) :: wlist t := by
  obtain ⟨c, r, hc, he⟩ := putQ_head w
  have hf : fromQ (g ++ (putQ w ++ t)) = putQ w ++ t := by
    rw [fromQ_gaps g _ hg, hc, List.cons_append]; exact fromQ_at he
  rw [wlist_cons (by rw [hf, hc]; exact List.cons_ne_nil _ _), hf, cutQ_put w t h hs]
theorem tailG_stops (ws : List (List UInt8)) (t : List UInt8) (h : stops t) : stops (tailG false ws ++ t) := by
  cases ws with
  | nil => exact h
  | cons w ws => exact .inr ⟨32, _, rfl, rfl⟩
theorem wlist_tail : ∀ (ws : List (List UInt8)) (f : Bool) (t : List UInt8), (∀ w ∈ ws, noq w) → stops t → wlist (tailG f ws ++ t) = ws.map (·, true) ++ wlist t
  | [], _, _, _, _ => rfl
  | w :: ws, f, t, h, hs => by
    have e : tailG f (w :: ws) ++ t = (if f then [] else [32]) ++ (putQ w ++ (tailG false ws ++ t)) := by simp [tailG]
    rw [e, wlist_put _ w _ (by cases f <;> rfl) (h w (by simp)) (tailG_stops ws t hs), wlist_tail ws false t (fun x hx => h x (by simp [hx])) hs]
    rfl

theorem bar_bad {w : List UInt8} (h : w.any badB = false) : w.any barB = false ∧ noq w := by
  induction w with
  | nil => exact ⟨rfl, fun _ h => by cases h⟩
  | cons c w ih =>
    simp only [List.any_cons, Bool.or_eq_false_iff] at h
    have hb : barB c = false ∧ (c == 34) = false := by
      have := h.1
      unfold badB at this
      unfold barB
      simp only [Bool.or_eq_false_iff] at this ⊢
      exact this
    refine ⟨by rw [List.any_cons, hb.1, (ih h.2).1]; rfl, fun x hx => ?_⟩
    rcases List.mem_cons.1 hx with rfl | hx
    · exact hb.2
    · exact (ih h.2).2 x hx
theorem bad_of {w : List UInt8} (h : w.any barB = false) (hq : noq w) : w.any badB = false := by
  rw [List.any_eq_false] at h ⊢
  intro x hx
  have h1 := h x hx
  have h2 := hq x hx
  unfold badB
  unfold barB at h1
  simp only [Bool.not_eq_true] at h1 ⊢
  rw [Bool.or_eq_false_iff]
  exact ⟨h1, h2⟩
theorem putQ_bar (w : List UInt8) : (putQ w).any barB = w.any barB := by
  unfold putQ
  split
  · simp [List.any_append, show barB 34 = false from rfl]
  · rfl
theorem tailG_bar : ∀ (ws : List (List UInt8)) (f : Bool), (tailG f ws).any barB = ws.any (·.any barB)
  | [], _ => rfl
  | w :: ws, f => by
    rw [tailG, List.any_append, List.any_append, tailG_bar ws false, putQ_bar, List.any_cons]
    cases f <;> simp [show barB 32 = false from rfl]

theorem joinE_zero {ws : List (List UInt8)} (h : joinE ws = 0) : ws.length ≤ 32 ∧ ∀ w ∈ ws, w.any badB = false := by
  unfold joinE at h
  split at h
  · omega
  · split at h
    · omega
    · rename_i h1 h2
      have h3 : (ws.any fun w => w.any badB) = false := by rw [Bool.not_eq_true] at h2; exact h2
      exact ⟨by omega, fun w hw => by have := (List.any_eq_false.1 h3) w hw; rwa [Bool.not_eq_true] at this⟩
theorem any_map_true (ws : List (List UInt8)) : (ws.map (·, true)).any (fun p : List UInt8 × Bool => !p.2) = false := by simp

/-- Lines of words with gaps ahead, and a tail that has no words. -/
theorem lex_tail {L : List UInt8} {ws : List (List UInt8)} (hw : wlist L = ws.map (·, true)) (hb : L.any barB = false) (hn : ws.length ≤ 32) : lexE L = 0 ∧ wordsL L = ws := by
  have he : lexE L = 0 := by
    unfold lexE
    rw [hb, hw, any_map_true, List.length_map, if_neg (by decide), if_neg (by decide), if_neg (by omega)]
  refine ⟨he, ?_⟩
  unfold wordsL
  rw [if_pos he, hw, List.map_map]
  exact List.map_id ws
theorem lex_bar {L : List UInt8} (hb : L.any barB = true) : lexE L = 12 ∧ wordsL L = [] := by
  have he : lexE L = 12 := by unfold lexE; rw [hb, if_pos rfl]
  exact ⟨he, by unfold wordsL; rw [he]; rfl⟩

theorem joined_back {ws : List (List UInt8)} (h : joinE ws = 0) : lexE (joinL ws) = 0 ∧ wordsL (joinL ws) = ws := by
  have hz := joinE_zero h
  have hj : joinL ws = tailG true ws := by unfold joinL; rw [if_pos h]
  rw [hj]
  refine lex_tail ?_ ?_ hz.1
  · have := wlist_tail ws true [] (fun w hw => (bar_bad (hz.2 w hw)).2) (.inl rfl)
    rw [List.append_nil] at this
    rw [this, wlist_nil (l := []) rfl, List.append_nil]
  · rw [tailG_bar, List.any_eq_false]
    exact fun w hw => by rw [(bar_bad (hz.2 w hw)).1]; decide

/-! ## Words of a line are words that may be joined -/

theorem cutQ_mem : ∀ (l : List UInt8) (q : Bool), (∀ c ∈ (cutQ l q).1, c ∈ l ∧ (c == 34) = false) ∧ ∀ c ∈ (cutQ l q).2.1, c ∈ l
  | [], _ => ⟨fun _ h => by simp [cutQ] at h, fun _ h => by simp [cutQ] at h⟩
  | c :: l, q => by
    unfold cutQ
    split
    · exact ⟨fun x hx => ⟨by simp [((cutQ_mem l (!q)).1 x hx).1], ((cutQ_mem l (!q)).1 x hx).2⟩, fun x hx => by simp [(cutQ_mem l (!q)).2 x hx]⟩
    · rename_i h34
      split
      · exact ⟨fun _ h => by simp at h, fun _ h => h⟩
      · refine ⟨fun x hx => ?_, fun x hx => by simp [(cutQ_mem l q).2 x hx]⟩
        rcases List.mem_cons.1 hx with rfl | hx
        · exact ⟨by simp, by simpa using h34⟩
        · exact ⟨by simp [((cutQ_mem l q).1 x hx).1], ((cutQ_mem l q).1 x hx).2⟩
theorem fromQ_mem {l : List UInt8} {c : UInt8} (h : c ∈ fromQ l) : c ∈ l := by
  unfold fromQ at h
  split at h
  · cases h
  · exact (List.dropWhile_suffix gapB).subset h
theorem wlist_mem (n : Nat) : ∀ l : List UInt8, l.length ≤ n → ∀ p ∈ wlist l, ∀ c ∈ p.1, c ∈ l ∧ (c == 34) = false := by
  induction n with
  | zero =>
    intro l h p hp
    have : l = [] := List.length_eq_zero_iff.1 (by omega)
    subst this
    rw [wlist_nil rfl] at hp; cases hp
  | succ n ih =>
    intro l hl p hp c hc
    cases hf : fromQ l with
    | nil => rw [wlist_nil hf] at hp; cases hp
    | cons d r =>
      have hlt := cutQ_lt hf
      rw [wlist_cons (by rw [hf]; exact List.cons_ne_nil _ _)] at hp
      rcases List.mem_cons.1 hp with rfl | hp
      · have := (cutQ_mem (fromQ l) false).1 c hc
        exact ⟨fromQ_mem this.1, this.2⟩
      · rw [← hf] at hlt
        have := ih _ (by omega) p hp c hc
        exact ⟨fromQ_mem ((cutQ_mem (fromQ l) false).2 c this.1), this.2⟩

theorem lexE_zero {l : List UInt8} (h : lexE l = 0) : l.any barB = false ∧ (wlist l).any (fun p => !p.2) = false ∧ (wlist l).length ≤ 32 := by
  unfold lexE at h
  split at h
  · omega
  · split at h
    · omega
    · split at h
      · omega
      · rename_i h1 h2 h3
        exact ⟨by simpa using h1, by simpa using h2, by omega⟩
theorem words_good {l : List UInt8} (h : lexE l = 0) : (wordsL l).length ≤ 32 ∧ ∀ w ∈ wordsL l, w.any badB = false := by
  obtain ⟨hb, _, hn⟩ := lexE_zero h
  have e : wordsL l = (wlist l).map (·.1) := by unfold wordsL; rw [if_pos h]
  rw [e]
  refine ⟨by simpa using hn, fun w hw => ?_⟩
  obtain ⟨p, hp, rfl⟩ := List.mem_map.1 hw
  have hm := wlist_mem l.length l (Nat.le_refl _) p hp
  refine bad_of ?_ (fun c hc => (hm c hc).2)
  rw [List.any_eq_false] at hb ⊢
  exact fun c hc => hb c (hm c hc).1
theorem joinE_of {ws : List (List UInt8)} (hn : ws.length ≤ 32) (hw : ∀ w ∈ ws, w.any badB = false) : joinE ws = 0 := by
  unfold joinE
  rw [if_neg (by omega), if_neg]
  rw [Bool.not_eq_true, List.any_eq_false]
  exact fun w h => by rw [hw w h]; decide
theorem words_len (l : List UInt8) : (wordsL l).length ≤ 32 := by
  unfold wordsL
  split
  · rename_i h; simpa using (lexE_zero h).2.2
  · simp
theorem words_none {l : List UInt8} (h : lexE l ≠ 0) : wordsL l = [] := by unfold wordsL; rw [if_neg h]

/-! ## Lines of a text -/

def splitF : List UInt8 → List (List UInt8)
  | [] => [[]]
  | c :: l => if c == 10 then [] :: splitF l else match splitF l with | [] => [[c]] | x :: xs => (c :: x) :: xs
abbrev Told := Nat × List (List UInt8)
/-- All that is told of lines, from the number n on. -/
def toldL : Nat → List (List UInt8) → List Told
  | _, [] => []
  | n, l :: ls => if lexE l ≠ 0 then [(n, [])] else if wordsL l = [] then toldL (n + 1) ls else (n, wordsL l) :: toldL (n + 1) ls
/-- The error of the first wrong one. -/
def toldE : List (List UInt8) → Int
  | [] => 0
  | l :: ls => if lexE l ≠ 0 then lexE l else toldE ls

theorem splitF_ne (l : List UInt8) : splitF l ≠ [] := by
  cases l with
  | nil => exact List.cons_ne_nil _ _
  | cons c l =>
    unfold splitF
    split
    · exact List.cons_ne_nil _ _
    · split <;> exact List.cons_ne_nil _ _
theorem splitF_app : ∀ a b : List UInt8, splitF (a ++ 10 :: b) = splitF a ++ splitF b
  | [], b => by simp [splitF]
  | c :: a, b => by
    rw [List.cons_append, splitF, splitF_app a b]
    by_cases h : (c == 10) = true
    · rw [if_pos h, show splitF (c :: a) = [] :: splitF a from by rw [splitF, if_pos h]]; rfl
    · rw [if_neg h]
      have e : splitF (c :: a) = match splitF a with | [] => [[c]] | x :: xs => (c :: x) :: xs := by rw [splitF, if_neg h]
      rw [e]
      cases hs : splitF a with
      | nil => exact absurd hs (splitF_ne a)
      | cons x xs => rfl
theorem splitF_len (l : List UInt8) : (splitF l).length = (l.filter (· == 10)).length + 1 := by
  induction l with
  | nil => rfl
  | cons c l ih =>
    unfold splitF
    by_cases h : (c == 10) = true
    · rw [if_pos h, List.filter_cons, if_pos h]; simp [ih]
    · rw [if_neg h, List.filter_cons, if_neg h]
      cases hs : splitF l with
      | nil => exact absurd hs (splitF_ne l)
      | cons x xs => rw [← ih, hs]; rfl
theorem lexE_nil : lexE [] = 0 := by unfold lexE; rw [wlist_nil rfl]; rfl
theorem words_nil : wordsL [] = [] := by unfold wordsL; rw [if_pos lexE_nil, wlist_nil rfl]; rfl
def sizes (ls : List (List UInt8)) : Nat := (ls.map List.length).sum
theorem split_sizes (l : List UInt8) : sizes (splitF l) ≤ l.length := by
  induction l with
  | nil => simp [splitF, sizes]
  | cons c l ih =>
    unfold splitF
    split
    · simp only [sizes, List.map_cons, List.length_nil, List.sum_cons, List.length_cons] at ih ⊢; omega
    · cases hs : splitF l with
      | nil => exact absurd hs (splitF_ne l)
      | cons x xs => rw [hs] at ih; simp only [sizes, List.map_cons, List.sum_cons, List.length_cons] at ih ⊢; omega
theorem told_few : ∀ (ls : List (List UInt8)) (n : Nat), (toldL n ls).length ≤ sizes ls
  | [], _ => Nat.zero_le _
  | l :: ls, n => by
    have ih := told_few ls (n + 1)
    have hne : (lexE l ≠ 0 ∨ wordsL l ≠ []) → 1 ≤ l.length := fun h => by
      cases l with
      | nil => exact absurd h (by rw [lexE_nil, words_nil]; simp)
      | cons _ _ => simp
    unfold toldL
    simp only [sizes, List.map_cons, List.sum_cons] at ih ⊢
    split
    · rename_i h; have := hne (.inl h); simp; omega
    · split
      · omega
      · rename_i h; have := hne (.inr h); simp only [List.length_cons]; omega
theorem told_app : ∀ (a b : List (List UInt8)) (n : Nat), toldL n (a ++ b) = if toldE a = 0 then toldL n a ++ toldL (n + a.length) b else toldL n a
  | [], b, n => by simp [toldE, toldL]
  | l :: a, b, n => by
    rw [List.cons_append, toldL, toldE, toldL]
    by_cases h : lexE l = 0
    · have hN : ¬ lexE l ≠ 0 := fun h' => h' h
      rw [if_neg hN, if_neg hN, if_neg hN, told_app a b (n + 1), List.length_cons, show n + 1 + a.length = n + (a.length + 1) from by omega]
      by_cases hw : wordsL l = []
      · rw [if_pos hw, if_pos hw]
      · rw [if_neg hw, if_neg hw]; split <;> simp
    · rw [if_pos h, if_pos h, if_pos h, if_neg h]
theorem toldE_app : ∀ a b : List (List UInt8), toldE (a ++ b) = if toldE a = 0 then toldE b else toldE a
  | [], b => by simp [toldE]
  | l :: a, b => by
    rw [List.cons_append, toldE, toldE, toldE_app a b]
    by_cases h : lexE l = 0
    · have hN : ¬ lexE l ≠ 0 := fun h' => h' h
      rw [if_neg hN, if_neg hN]
    · rw [if_pos h, if_pos h, if_neg h]
theorem told_shift : ∀ (ls : List (List UInt8)) (n k : Nat), toldL (n + k) ls = (toldL n ls).map fun p => (p.1 + k, p.2)
  | [], _, _ => rfl
  | l :: ls, n, k => by
    rw [toldL, toldL, show n + k + 1 = n + 1 + k from by omega, told_shift ls (n + 1) k]
    split
    · rfl
    · split <;> rfl
/-- The last line is left out, if it is empty. -/
def partsL (l : List UInt8) : List (List UInt8) := if (splitF l).getLast? = some [] then (splitF l).dropLast else splitF l
theorem told_parts (l : List UInt8) (n : Nat) : toldL n (partsL l) = toldL n (splitF l) ∧ toldE (partsL l) = toldE (splitF l) := by
  unfold partsL
  split
  · rename_i h
    obtain ⟨q, hq⟩ := List.getLast?_eq_some_iff.1 h
    have e1 : toldL (n + q.length) [[]] = [] := by simp [toldL, lexE_nil, words_nil]
    have e2 : toldE [[]] = 0 := by simp [toldE, lexE_nil]
    rw [hq, List.dropLast_concat, told_app, toldE_app, e1, e2]
    constructor
    · split <;> simp
    · split <;> simp_all
  · exact ⟨rfl, rfl⟩
end Go.Proofs.YtomiopdmgdidnaaDoor
