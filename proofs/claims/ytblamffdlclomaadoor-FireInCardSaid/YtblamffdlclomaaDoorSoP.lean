/- Plain facts on a sort that keeps the order of equals: insertion, merge of two sorted rows, rotation; no program is named. -/
import Derived.Lib.Hide
namespace Go.Proofs.YtblamffdlclomaaDoor
open Go
section
variable {α : Type}

/-- 'lt' tells a weak order: what is not less is a total one. -/
structure WOrd (lt : α → α → Bool) : Prop where
  asym : ∀ a b, lt a b = true → lt b a = false
  trans : ∀ a b c, lt b a = false → lt c b = false → lt c a = false
variable {lt : α → α → Bool}
theorem WOrd.lt_trans (O : WOrd lt) {a b c : α} (h1 : lt a b = true) (h2 : lt b c = true) : lt a c = true := by
  cases h : lt a c
  · have := O.trans c a b h (O.asym _ _ h1)
    rw [h2] at this; cases this
  · rfl
theorem WOrd.lt_of (O : WOrd lt) {a b c d : α} (h1 : lt b a = false) (h2 : lt b c = true) (h3 : lt d c = false) : lt a d = true := by
  cases h : lt a d
  · have := O.trans d a b h h1
    have := O.trans c d b h3 this
    rw [h2] at this; cases this
  · rfl
theorem WOrd.refl (O : WOrd lt) (a : α) : lt a a = false := by
  cases h : lt a a
  · rfl
  · have := O.asym _ _ h; rw [h] at this; cases this

/-- x into a row, behind all that are no greater. -/
def ins (lt : α → α → Bool) (x : α) : List α → List α
  | [] => [x]
  | y :: r => if lt x y then x :: y :: r else y :: ins lt x r
/-- The things of a row into another one, one after the other. -/
def mrg (lt : α → α → Bool) (A B : List α) : List α := B.foldl (fun acc x => ins lt x acc) A
def iso (lt : α → α → Bool) (l : List α) : List α := mrg lt [] l
def Srt (lt : α → α → Bool) (l : List α) : Prop := l.Pairwise fun a b => lt b a = false

@[simp] theorem ins_len (x : α) (l : List α) : (ins lt x l).length = l.length + 1 := by
  induction l with
  | nil => rfl
  | cons y r ih => unfold ins; split <;> simp [ih]
@[simp] theorem mrg_len (A B : List α) : (mrg lt A B).length = A.length + B.length := by
  unfold mrg
  induction B generalizing A with
  | nil => rfl
  | cons b r ih => rw [List.foldl_cons, ih]; simp; omega
@[simp] theorem iso_len (l : List α) : (iso lt l).length = l.length := by simp [iso]
theorem mrg_nil (A : List α) : mrg lt A [] = A := rfl
theorem mrg_cons (A : List α) (b : α) (B : List α) : mrg lt A (b :: B) = mrg lt (ins lt b A) B := rfl
theorem mrg_app (A B C : List α) : mrg lt A (B ++ C) = mrg lt (mrg lt A B) C := by simp [mrg, List.foldl_append]
theorem iso_app (A B : List α) : iso lt (A ++ B) = mrg lt (iso lt A) B := mrg_app _ _ _
theorem iso_snoc (A : List α) (x : α) : iso lt (A ++ [x]) = ins lt x (iso lt A) := by rw [iso_app]; rfl

theorem ins_mem {x y : α} {l : List α} : y ∈ ins lt x l ↔ y = x ∨ y ∈ l := by
  induction l with
  | nil => simp [ins]
  | cons z r ih =>
    unfold ins
    split
    · simp
    · simp only [List.mem_cons, ih]
      constructor
      · rintro (h | h | h)
        · exact Or.inr (Or.inl h)
        · exact Or.inl h
        · exact Or.inr (Or.inr h)
      · rintro (h | h | h)
        · exact Or.inr (Or.inl h)
        · exact Or.inl h
        · exact Or.inr (Or.inr h)
theorem mrg_mem {y : α} {A B : List α} : y ∈ mrg lt A B ↔ y ∈ A ∨ y ∈ B := by
  induction B generalizing A with
  | nil => simp [mrg_nil]
  | cons b r ih =>
    rw [mrg_cons, ih, ins_mem, List.mem_cons]
    constructor
    · rintro ((h | h) | h)
      · exact Or.inr (Or.inl h)
      · exact Or.inl h
      · exact Or.inr (Or.inr h)
    · rintro (h | h | h)
      · exact Or.inl (Or.inr h)
      · exact Or.inl (Or.inl h)
      · exact Or.inr h
theorem iso_mem {y : α} {l : List α} : y ∈ iso lt l ↔ y ∈ l := by simp [iso, mrg_mem]
theorem ins_perm (x : α) (l : List α) : (ins lt x l).Perm (x :: l) := by
  induction l with
  | nil => exact List.Perm.refl _
  | cons y r ih =>
    unfold ins
    split
    · exact List.Perm.refl _
    · exact (List.Perm.cons y ih).trans (List.Perm.swap x y r)
theorem mrg_perm (A B : List α) : (mrg lt A B).Perm (A ++ B) := by
  induction B generalizing A with
  | nil => rw [mrg_nil, List.append_nil]
  | cons b r ih =>
    rw [mrg_cons]
    refine (ih _).trans ?_
    refine ((ins_perm b A).append_right r).trans ?_
    exact (List.perm_middle (a := b) (l₁ := A) (l₂ := r)).symm
theorem iso_perm (l : List α) : (iso lt l).Perm l := mrg_perm [] l

theorem ins_srt (O : WOrd lt) {x : α} {l : List α} (h : Srt lt l) : Srt lt (ins lt x l) := by
  induction l with
  | nil => exact List.pairwise_singleton _ _
  | cons y r ih =>
    have h1 := List.pairwise_cons.1 h
    unfold ins
    split
    · next hx =>
      refine List.pairwise_cons.2 ⟨fun a ha => ?_, h⟩
      rcases List.mem_cons.1 ha with rfl | ha
      · exact O.asym _ _ hx
      · exact O.trans _ _ _ (O.asym _ _ hx) (h1.1 a ha)
    · next hx =>
      refine List.pairwise_cons.2 ⟨fun a ha => ?_, ih h1.2⟩
      rcases ins_mem.1 ha with rfl | ha
      · exact Bool.eq_false_iff.2 hx
      · exact h1.1 a ha
theorem mrg_srt (O : WOrd lt) {A B : List α} (h : Srt lt A) : Srt lt (mrg lt A B) := by
  induction B generalizing A with
  | nil => exact h
  | cons b r ih => exact ih (ins_srt O h)
theorem iso_srt (O : WOrd lt) (l : List α) : Srt lt (iso lt l) := mrg_srt O List.Pairwise.nil

/-- Where x goes. -/
theorem ins_at {x : α} {S1 S2 : List α} (h1 : ∀ s ∈ S1, lt x s = false) (h2 : ∀ s, S2[0]? = some s → lt x s = true) : ins lt x (S1 ++ S2) = S1 ++ x :: S2 := by
  induction S1 with
  | nil =>
    cases S2 with
    | nil => rfl
    | cons y r => show (if lt x y then _ else _) = _; rw [if_pos (h2 y (by simp))]; rfl
  | cons z r ih =>
    show (if lt x z then _ else _) = _
    rw [if_neg (by rw [h1 z (by simp)]; simp), show r.append S2 = r ++ S2 from rfl, ih fun s hs => h1 s (by simp [hs])]
    rfl
theorem ins_left {x : α} (S1 S2 : List α) (h1 : ∀ s ∈ S1, lt x s = false) : ins lt x (S1 ++ S2) = S1 ++ ins lt x S2 := by
  induction S1 with
  | nil => rfl
  | cons z r ih =>
    show (if lt x z then _ else _) = _
    rw [if_neg (by rw [h1 z (by simp)]; simp), show r.append S2 = r ++ S2 from rfl, ih fun s hs => h1 s (by simp [hs])]
    rfl
theorem ins_right {x : α} (S1 S2 : List α) (h2 : ∀ s ∈ S2, lt x s = true) : ins lt x (S1 ++ S2) = ins lt x S1 ++ S2 := by
  induction S1 with
  | nil =>
    cases S2 with
    | nil => rfl
    | cons y r => show (if lt x y then _ else _) = _; rw [if_pos (h2 y (by simp))]; rfl
  | cons z r ih =>
    show (if lt x z then _ else _) = (if lt x z then _ else _) ++ _
    rw [show r.append S2 = r ++ S2 from rfl, ih]
    split <;> rfl
theorem mrg_left {S1 S2 B : List α} (h : ∀ b ∈ B, ∀ s ∈ S1, lt b s = false) : mrg lt (S1 ++ S2) B = S1 ++ mrg lt S2 B := by
  induction B generalizing S2 with
  | nil => rfl
  | cons b r ih => rw [mrg_cons, ins_left _ _ (h b (by simp)), ih fun b hb => h b (by simp [hb])]; rfl
theorem mrg_right {S1 S2 B : List α} (h : ∀ b ∈ B, ∀ s ∈ S2, lt b s = true) : mrg lt (S1 ++ S2) B = mrg lt S1 B ++ S2 := by
  induction B generalizing S1 with
  | nil => rfl
  | cons b r ih => rw [mrg_cons, ins_right _ _ (h b (by simp)), ih fun b hb => h b (by simp [hb])]; rfl
theorem mrg_none {B : List α} (h : Srt lt B) : mrg lt [] B = B := by
  suffices ∀ A : List α, (∀ b ∈ B, ∀ s ∈ A, lt b s = false) → mrg lt A B = A ++ B from this [] (by simp)
  induction B with
  | nil => intro A _; simp [mrg_nil]
  | cons b r ih =>
    intro A hA
    have h1 := List.pairwise_cons.1 h
    rw [mrg_cons, show ins lt b A = A ++ [b] by have := ins_at (x := b) (S1 := A) (S2 := []) (lt := lt) (hA b (by simp)) (by simp); simpa using this, ih h1.2]
    · simp
    · intro c hc s hs
      rcases List.mem_append.1 hs with hs | hs
      · exact hA c (by simp [hc]) s hs
      · rw [List.mem_singleton.1 hs]; exact h1.1 c hc
theorem mrg_parts {A1 A2 B1 B2 : List α} (hB : Srt lt (B1 ++ B2)) (h1 : ∀ b ∈ B1, ∀ a ∈ A2, lt b a = true) (h2 : ∀ b ∈ B2, ∀ a ∈ A1, lt b a = false) :
    mrg lt (A1 ++ A2) (B1 ++ B2) = mrg lt A1 B1 ++ mrg lt A2 B2 := by
  rw [mrg_app, mrg_right h1, mrg_left]
  intro b hb s hs
  rcases mrg_mem.1 hs with hs | hs
  · exact h2 b hb s hs
  · exact (List.pairwise_append.1 hB).2.2 s hs b hb

theorem ins_swap (O : WOrd lt) {x y : α} (h : lt x y = true) (l : List α) : ins lt x (ins lt y l) = ins lt y (ins lt x l) := by
  have hy := O.asym _ _ h
  induction l with
  | nil => simp [ins, h, hy]
  | cons z r ih =>
    by_cases h1 : lt x z = true <;> by_cases h2 : lt y z = true
    · simp [ins, h1, h2, h, hy]
    · simp [ins, h1, h2, hy]
    · exact absurd (O.lt_trans h h2) h1
    · simp [ins, h1, h2, ih]
theorem mrg_ins_far (O : WOrd lt) {x : α} {B : List α} (h : ∀ b ∈ B, lt x b = true) (A : List α) : mrg lt (ins lt x A) B = ins lt x (mrg lt A B) := by
  induction B generalizing A with
  | nil => rfl
  | cons b r ih =>
    rw [mrg_cons, ← ins_swap O (h b (by simp)), ih fun b hb => h b (by simp [hb])]
    rfl
theorem mrg_ins (O : WOrd lt) {x : α} {B : List α} (hB : Srt lt B) (A : List α) : mrg lt A (ins lt x B) = ins lt x (mrg lt A B) := by
  induction B generalizing A with
  | nil => rfl
  | cons b r ih =>
    have h1 := List.pairwise_cons.1 hB
    by_cases hx : lt x b = true
    · rw [show ins lt x (b :: r) = x :: b :: r by simp [ins, hx], mrg_cons, mrg_ins_far O]
      intro c hc
      rcases List.mem_cons.1 hc with rfl | hc
      · exact hx
      · exact O.lt_of (O.refl x) hx (h1.1 c hc)
    · rw [show ins lt x (b :: r) = b :: ins lt x r by simp [ins, hx], mrg_cons, ih h1.2]
      rfl
theorem mrg_iso (O : WOrd lt) (A B : List α) : mrg lt A (iso lt B) = mrg lt A B := by
  suffices ∀ C, Srt lt C → mrg lt A (mrg lt C B) = mrg lt (mrg lt A C) B by simpa [iso, mrg_nil] using this [] List.Pairwise.nil
  induction B with
  | nil => intro C _; rfl
  | cons b r ih =>
    intro C hC
    rw [mrg_cons, mrg_cons, ih _ (ins_srt O hC), mrg_ins O hC]
/-- Two sorted parts, merged: the whole, sorted. -/
theorem iso_mrg (O : WOrd lt) (A B : List α) : mrg lt (iso lt A) (iso lt B) = iso lt (A ++ B) := by rw [mrg_iso O, iso_app]
theorem iso_of_srt {l : List α} (h : Srt lt l) : iso lt l = l := mrg_none h

/-! By places. -/
theorem Srt.at (O : WOrd lt) {l : List α} (h : Srt lt l) {i j : Nat} (hij : i ≤ j) (hj : j < l.length) {a b : α} (ha : l[i]? = some a) (hb : l[j]? = some b) : lt b a = false := by
  rcases Nat.lt_or_eq_of_le hij with hlt | rfl
  · have h1 := List.pairwise_iff_getElem.1 h i j (by omega) hj hlt
    rw [List.getElem?_eq_getElem (by omega)] at ha hb
    injection ha with ha; injection hb with hb
    rw [← ha, ← hb]; exact h1
  · rw [ha] at hb; injection hb with hb; rw [hb]; exact O.refl b
theorem mrg_split (O : WOrd lt) {A B : List α} (hA : Srt lt A) (hB : Srt lt B) {s e : Nat} (hs : s ≤ A.length) (he : e ≤ B.length)
    (h1 : s = A.length ∨ e = 0 ∨ ∃ b a, B[e - 1]? = some b ∧ A[s]? = some a ∧ lt b a = true)
    (h2 : s = 0 ∨ e = B.length ∨ ∃ b a, B[e]? = some b ∧ A[s - 1]? = some a ∧ lt b a = false) :
    mrg lt A B = mrg lt (A.take s) (B.take e) ++ mrg lt (A.drop s) (B.drop e) := by
  conv => lhs; rw [← List.take_append_drop s A, ← List.take_append_drop e B]
  refine mrg_parts (by rw [List.take_append_drop]; exact hB) ?_ ?_
  · intro b hb a ha
    obtain ⟨j, hj, rfl⟩ := List.mem_iff_getElem.1 hb
    obtain ⟨i, hi, rfl⟩ := List.mem_iff_getElem.1 ha
    rw [List.length_take] at hj
    rw [List.length_drop] at hi
    rcases h1 with h | h | ⟨y, x, hy, hx, hl⟩
    · omega
    · omega
    · rw [List.getElem_take, List.getElem_drop]
      exact O.lt_of (hB.at O (i := j) (j := e - 1) (by omega) (by omega) (List.getElem?_eq_getElem (by omega)) hy) hl (hA.at O (i := s) (j := s + i) (by omega) (by omega) hx (List.getElem?_eq_getElem (by omega)))
  · intro b hb a ha
    obtain ⟨j, hj, rfl⟩ := List.mem_iff_getElem.1 hb
    obtain ⟨i, hi, rfl⟩ := List.mem_iff_getElem.1 ha
    rw [List.length_take] at hi
    rw [List.length_drop] at hj
    rcases h2 with h | h | ⟨y, x, hy, hx, hl⟩
    · omega
    · omega
    · rw [List.getElem_take, List.getElem_drop]
      have q1 := hB.at O (i := e) (j := e + j) (by omega) (by omega) hy (List.getElem?_eq_getElem (by omega))
      have q2 := hA.at O (i := i) (j := s - 1) (by omega) (by omega) (List.getElem?_eq_getElem (by omega)) hx
      exact O.trans _ _ _ (O.trans _ _ _ q2 hl) q1

theorem srt_last {lt : α → α → Bool} (O : WOrd lt) {S : List α} {z x : α} (h : Srt lt (S ++ [z])) (hx : lt x z = false) : ∀ s ∈ S ++ [z], lt x s = false := by
  intro s hs
  rcases List.mem_append.1 hs with hs | hs
  · exact O.trans _ _ _ ((List.pairwise_append.1 h).2.2 s hs z (by simp)) hx
  · rw [List.mem_singleton.1 hs]; exact hx

theorem mrg_one_left (O : WOrd lt) {x : α} {B : List α} (hB : Srt lt B) {t : Nat} (ht : t ≤ B.length) (h1 : t = 0 ∨ ∃ y, B[t - 1]? = some y ∧ lt y x = true) (h2 : t = B.length ∨ ∃ y, B[t]? = some y ∧ lt y x = false) :
    mrg lt [x] B = B.take t ++ x :: B.drop t := by
  have hp : Srt lt (B.take t ++ B.drop t) := by rw [List.take_append_drop]; exact hB
  rw [mrg_split O (List.pairwise_singleton _ x) hB (s := 0) (e := t) (by simp) ht (by
    rcases h1 with h | ⟨y, hy, hl⟩
    · exact Or.inr (Or.inl h)
    · exact Or.inr (Or.inr ⟨y, x, hy, rfl, hl⟩)) (Or.inl rfl)]
  show mrg lt [] (B.take t) ++ mrg lt [x] (B.drop t) = _
  rw [mrg_none (List.pairwise_append.1 hp).1]
  congr 1
  have : mrg lt ([x] ++ []) (B.drop t) = [x] ++ mrg lt [] (B.drop t) := by
    refine mrg_left fun b hb s hs => ?_
    rw [List.mem_singleton.1 hs]
    obtain ⟨j, hj, rfl⟩ := List.mem_iff_getElem.1 hb
    rw [List.length_drop] at hj
    rcases h2 with h | ⟨y, hy, hl⟩
    · omega
    · rw [List.getElem_drop]
      exact O.trans _ _ _ hl (hB.at O (i := t) (j := t + j) (by omega) (by omega) hy (List.getElem?_eq_getElem (by omega)))
  rw [List.append_nil] at this
  rw [this, mrg_none (List.pairwise_append.1 hp).2.1]
  rfl
theorem mrg_one_right (O : WOrd lt) {x : α} {A : List α} (hA : Srt lt A) {t : Nat} (ht : t ≤ A.length) (h1 : t = 0 ∨ ∃ y, A[t - 1]? = some y ∧ lt x y = false) (h2 : t = A.length ∨ ∃ y, A[t]? = some y ∧ lt x y = true) :
    mrg lt A [x] = A.take t ++ x :: A.drop t := by
  show ins lt x A = _
  conv => lhs; rw [← List.take_append_drop t A]
  refine ins_at (fun s hs => ?_) (fun s hs => ?_)
  · obtain ⟨j, hj, rfl⟩ := List.mem_iff_getElem.1 hs
    rw [List.length_take] at hj
    rcases h1 with h | ⟨y, hy, hl⟩
    · omega
    · rw [List.getElem_take]
      exact O.trans _ _ _ (hA.at O (i := j) (j := t - 1) (by omega) (by omega) (List.getElem?_eq_getElem (by omega)) hy) hl
  · rw [List.getElem?_drop, Nat.add_zero] at hs
    rcases h2 with h | ⟨y, hy, hl⟩
    · rw [h, List.getElem?_eq_none (Nat.le_refl _)] at hs; cases hs
    · rw [hs] at hy; injection hy with hy; rw [hy]; exact hl
/-! Rows: two things of a row that change places. -/
theorem set_two (P M Q : List α) (a b : α) : ((P ++ a :: (M ++ b :: Q)).set P.length b).set (P.length + 1 + M.length) a = P ++ b :: (M ++ a :: Q) := by
  rw [List.set_append_right _ _ (Nat.le_refl _), Nat.sub_self, List.set_cons_zero, List.set_append_right _ _ (by omega), show P.length + 1 + M.length - P.length = M.length + 1 by omega,
    List.set_cons_succ, List.set_append_right _ _ (Nat.le_refl _), Nat.sub_self, List.set_cons_zero]
theorem set_two' (P M Q : List α) (a b : α) : ((P ++ a :: (M ++ b :: Q)).set (P.length + 1 + M.length) a).set P.length b = P ++ b :: (M ++ a :: Q) := by
  rw [List.set_comm _ _ (by omega), set_two]
end
end Go.Proofs.YtblamffdlclomaaDoor
