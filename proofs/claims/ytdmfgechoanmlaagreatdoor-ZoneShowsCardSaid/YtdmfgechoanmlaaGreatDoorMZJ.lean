/- Plain facts on a sort that keeps the order of equals: insertion, merge of two sorted rows, rotation; no program is named.
A row of structs that is sorted: what a walk wants at an exchange, and at a comparison.
The contracts of slices.swapRangeCmpFunc and rotateCmpFunc at a row of structs.
The contract of slices.insertionSortCmpFunc at a row of structs: things one after the other, each behind all that are no greater.
The contract of slices.symMergeCmpFunc at a row of structs, where one of the two parts is a single thing. -/
import Derived.Lib.Hide
import Derived.Shelf.SlSortCmp.KitK
import Derived.Test.YtdmfgechoanmlaaGreatDoorProg
namespace Go.Proofs.YtdmfgechoanmlaaGreatDoor
open Go
section
variable {α : Type}

/-- 'lt' tells a weak order: what is not less is a total one. -/
structure WOrd (lt : α → α → Bool) : Prop where
  asym : ∀ a b, lt a b = true → lt b a = false
  trans : ∀ a b c, lt b a = false → lt c b = false → lt c a = false
variable {lt : α → α → Bool}
theorem WOrd.lt_trans (O : WOrd lt) {a b c : α} (h1 : lt a b = true) (h2 : lt b c = true) : lt a c = true := by
  cases h : lt a c
  · have := O.trans c a b h (O.asym _ _ h1)
    rw [h2] at this; cases this
  · rfl
theorem WOrd.lt_of (O : WOrd lt) {a b c d : α} (h1 : lt b a = false) (h2 : lt b c = true) (h3 : lt d c = false) : lt a d = true := by
  cases h : lt a d
  · have := O.trans d a b h h1
    have := O.trans c d b h3 this
    rw [h2] at this; cases this
  · rfl
theorem WOrd.refl (O : WOrd lt) (a : α) : lt a a = false := by
  cases h : lt a a
  · rfl
  · have := O.asym _ _ h; rw [h] at this; cases this

/-- x into a row, behind all that are no greater. -/
def ins (lt : α → α → Bool) (x : α) : List α → List α
  | [] => [x]
  | y :: r => if lt x y then x :: y :: r else y :: ins lt x r
/-- The things of a row into another one, one after the other. -/
def mrg (lt : α → α → Bool) (A B : List α) : List α := B.foldl (fun acc x => ins lt x acc) A
def iso (lt : α → α → Bool) (l : List α) : List α := mrg lt [] l
def Srt (lt : α → α → Bool) (l : List α) : Prop := l.Pairwise fun a b => lt b a = false

@[simp] theorem ins_len (x : α) (l : List α) : (ins lt x l).length = l.length + 1 := by
  induction l with
  | nil => rfl
  | cons y r ih => unfold ins; split <;> simp [ih]
@[simp] theorem mrg_len (A B : List α) : (mrg lt A B).length = A.length + B.length := by
  unfold mrg
  induction B generalizing A with
  | nil => rfl
  | cons b r ih => rw [List.foldl_cons, ih]; simp; omega
@[simp] theorem iso_len (l : List α) : (iso lt l).length = l.length := by simp [iso]
theorem mrg_nil (A : List α) : mrg lt A [] = A := rfl
theorem mrg_cons (A : List α) (b : α) (B : List α) : mrg lt A (b :: B) = mrg lt (ins lt b A) B := rfl
theorem mrg_app (A B C : List α) : mrg lt A (B ++ C) = mrg lt (mrg lt A B) C := by simp [mrg, List.foldl_append]
theorem iso_app (A B : List α) : iso lt (A ++ B) = mrg lt (iso lt A) B := mrg_app _ _ _
theorem iso_snoc (A : List α) (x : α) : iso lt (A ++ [x]) = ins lt x (iso lt A) := by rw [iso_app]; rfl

theorem ins_mem {x y : α} {l : List α} : y ∈ ins lt x l ↔ y = x ∨ y ∈ l := by
  induction l with
  | nil => simp [ins]
  | cons z r ih =>
    unfold ins
    split
    · simp
    · simp only [List.mem_cons, ih]
      constructor
      · rintro (h | h | h)
        · exact Or.inr (Or.inl h)
        · exact Or.inl h
        · exact Or.inr (Or.inr h)
      · rintro (h | h | h)
        · exact Or.inr (Or.inl h)
        · exact Or.inl h
        · exact Or.inr (Or.inr h)
theorem mrg_mem {y : α} {A B : List α} : y ∈ mrg lt A B ↔ y ∈ A ∨ y ∈ B := by
  induction B generalizing A with
  | nil => simp [mrg_nil]
  | cons b r ih =>
    rw [mrg_cons, ih, ins_mem, List.mem_cons]
    constructor
    · rintro ((h | h) | h)
      · exact Or.inr (Or.inl h)
      · exact Or.inl h
      · exact Or.inr (Or.inr h)
    · rintro (h | h | h)
      · exact Or.inl (Or.inr h)
      · exact Or.inl (Or.inl h)
      · exact Or.inr h
theorem iso_mem {y : α} {l : List α} : y ∈ iso lt l ↔ y ∈ l := by simp [iso, mrg_mem]
theorem ins_perm (x : α) (l : List α) : (ins lt x l).Perm (x :: l) := by
  induction l with
  | nil => exact List.Perm.refl _
  | cons y r ih =>
    unfold ins
    split
    · exact List.Perm.refl _
    · exact (List.Perm.cons y ih).trans (List.Perm.swap x y r)
theorem mrg_perm (A B : List α) : (mrg lt A B).Perm (A ++ B) := by
  induction B generalizing A with
  | nil => rw [mrg_nil, List.append_nil]
  | cons b r ih =>
    rw [mrg_cons]
    refine (ih _).trans ?_
    refine ((ins_perm b A).append_right r).trans ?_
    exact (List.perm_middle (a := b) (l₁ := A) (l₂ := r)).symm
theorem iso_perm (l : List α) : (iso lt l).Perm l := mrg_perm [] l

theorem ins_srt (O : WOrd lt) {x : α} {l : List α} (h : Srt lt l) : Srt lt (ins lt x l) := by
  induction l with
  | nil => exact List.pairwise_singleton _ _
  | cons y r ih =>
    have h1 := List.pairwise_cons.1 h
    unfold ins
    split
    · next hx =>
      refine List.pairwise_cons.2 ⟨fun a ha => ?_, h⟩
      rcases List.mem_cons.1 ha with rfl | ha
      · exact O.asym _ _ hx
      · exact O.trans _ _ _ (O.asym _ _ hx) (h1.1 a ha)
    · next hx =>
      refine List.pairwise_cons.2 ⟨fun a ha => ?_, ih h1.2⟩
      rcases ins_mem.1 ha with rfl | ha
      · exact Bool.eq_false_iff.2 hx
      · exact h1.1 a ha
theorem mrg_srt (O : WOrd lt) {A B : List α} (h : Srt lt A) : Srt lt (mrg lt A B) := by
  induction B generalizing A with
  | nil => exact h
  | cons b r ih => exact ih (ins_srt O h)
theorem iso_srt (O : WOrd lt) (l : List α) : Srt lt (iso lt l) := mrg_srt O List.Pairwise.nil

/-- Where x goes. -/
theorem ins_at {x : α} {S1 S2 : List α} (h1 : ∀ s ∈ S1, lt x s = false) (h2 : ∀ s, S2[0]? = some s → lt x s = true) : ins lt x (S1 ++ S2) = S1 ++ x :: S2 := by
  induction S1 with
  | nil =>
    cases S2 with
    | nil => rfl
    | cons y r => show (if lt x y then _ else _) = _; rw [if_pos (h2 y (by simp))]; rfl
  | cons z r ih =>
    show (if lt x z then _ else _) = _
    rw [if_neg (by rw [h1 z (by simp)]; simp), show r.append S2 = r ++ S2 from rfl, ih fun s hs => h1 s (by simp [hs])]
    rfl
theorem ins_left {x : α} (S1 S2 : List α) (h1 : ∀ s ∈ S1, lt x s = false) : ins lt x (S1 ++ S2) = S1 ++ ins lt x S2 := by
  induction S1 with
  | nil => rfl
  | cons z r ih =>
    show (if lt x z then _ else _) = _
    rw [if_neg (by rw [h1 z (by simp)]; simp), show r.append S2 = r ++ S2 from rfl, ih fun s hs => h1 s (by simp [hs])]
    rfl
theorem ins_right {x : α} (S1 S2 : List α) (h2 : ∀ s ∈ S2, lt x s = true) : ins lt x (S1 ++ S2) = ins lt x S1 ++ S2 := by
  induction S1 with
  | nil =>
    cases S2 with
    | nil => rfl
    | cons y r => show (if lt x y then _ else _) = _; rw [if_pos (h2 y (by simp))]; rfl
  | cons z r ih =>
    show (if lt x z then _ else _) = (if lt x z then _ else _) ++ _
    rw [show r.append S2 = r ++ S2 from rfl, ih]
    split <;> rfl
theorem mrg_left {S1 S2 B : List α} (h : ∀ b ∈ B, ∀ s ∈ S1, lt b s = false) : mrg lt (S1 ++ S2) B = S1 ++ mrg lt S2 B := by
  induction B generalizing S2 with
  | nil => rfl
  | cons b r ih => rw [mrg_cons, ins_left _ _ (h b (by simp)), ih fun b hb => h b (by simp [hb])]; rfl
theorem mrg_right {S1 S2 B : List α} (h : ∀ b ∈ B, ∀ s ∈ S2, lt b s = true) : mrg lt (S1 ++ S2) B = mrg lt S1 B ++ S2 := by
  induction B generalizing S1 with
  | nil => rfl
  | cons b r ih => rw [mrg_cons, ins_right _ _ (h b (by simp)), ih fun b hb => h b (by simp [hb])]; rfl
theorem mrg_none {B : List α} (h : Srt lt B) : mrg lt [] B = B := by
  suffices ∀ A : List α, (∀ b ∈ B, ∀ s ∈ A, lt b s = false) → mrg lt A B = A ++ B from this [] (by simp)
  induction B with
  | nil => intro A _; simp [mrg_nil]
  | cons b r ih =>
    intro A hA
    have h1 := List.pairwise_cons.1 h
    rw [mrg_cons, show ins lt b A = A ++ [b] by have := ins_at (x := b) (S1 := A) (S2 := []) (lt := lt) (hA b (by simp)) (by simp); simpa using this, ih h1.2]
    · simp
    · intro c hc s hs
      rcases List.mem_append.1 hs with hs | hs
      · exact hA c (by simp [hc]) s hs
      · rw [List.mem_singleton.1 hs]; exact h1.1 c hc
theorem mrg_parts {A1 A2 B1 B2 : List α} (hB : Srt lt (B1 ++ B2)) (h1 : ∀ b ∈ B1, ∀ a ∈ A2, lt b a = true) (h2 : ∀ b ∈ B2, ∀ a ∈ A1, lt b a = false) :
    mrg lt (A1 ++ A2) (B1 ++ B2) = mrg lt A1 B1 ++ mrg lt A2 B2 := by
  rw [mrg_app, mrg_right h1, mrg_left]
  intro b hb s hs
  rcases mrg_mem.1 hs with hs | hs
  · exact h2 b hb s hs
  · exact (List.pairwise_append.1 hB).2.2 s hs b hb

theorem ins_swap (O : WOrd lt) {x y : α} (h : lt x y = true) (l : List α) : ins lt x (ins lt y l) = ins lt y (ins lt x l) := by
  have hy := O.asym _ _ h
  induction l with
  | nil => simp [ins, h, hy]
  | cons z r ih =>
    by_cases h1 : lt x z = true <;> by_cases h2 : lt y z = true
    · simp [ins, h1, h2, h, hy]
    · simp [ins, h1, h2, hy]
    · exact absurd (O.lt_trans h h2) h1
    · simp [ins, h1, h2, ih]
theorem mrg_ins_far (O : WOrd lt) {x : α} {B : List α} (h : ∀ b ∈ B, lt x b = true) (A : List α) : mrg lt (ins lt x A) B = ins lt x (mrg lt A B) := by
  induction B generalizing A with
  | nil => rfl
  | cons b r ih =>
    rw [mrg_cons, ← ins_swap O (h b (by simp)), ih fun b hb => h b (by simp [hb])]
    rfl
theorem mrg_ins (O : WOrd lt) {x : α} {B : List α} (hB : Srt lt B) (A : List α) : mrg lt A (ins lt x B) = ins lt x (mrg lt A B) := by
  induction B generalizing A with
  | nil => rfl
  | cons b r ih =>
    have h1 := List.pairwise_cons.1 hB
    by_cases hx : lt x b = true
    · rw [show ins lt x (b :: r) = x :: b :: r by simp [ins, hx], mrg_cons, mrg_ins_far O]
      intro c hc
      rcases List.mem_cons.1 hc with rfl | hc
      · exact hx
      · exact O.lt_of (O.refl x) hx (h1.1 c hc)
    · rw [show ins lt x (b :: r) = b :: ins lt x r by simp [ins, hx], mrg_cons, ih h1.2]
      rfl
theorem mrg_iso (O : WOrd lt) (A B : List α) : mrg lt A (iso lt B) = mrg lt A B := by
  suffices ∀ C, Srt lt C → mrg lt A (mrg lt C B) = mrg lt (mrg lt A C) B by simpa [iso, mrg_nil] using this [] List.Pairwise.nil
  induction B with
  | nil => intro C _; rfl
  | cons b r ih =>
    intro C hC
    rw [mrg_cons, mrg_cons, ih _ (ins_srt O hC), mrg_ins O hC]
/-- Two sorted parts, merged: the whole, sorted. -/
theorem iso_mrg (O : WOrd lt) (A B : List α) : mrg lt (iso lt A) (iso lt B) = iso lt (A ++ B) := by rw [mrg_iso O, iso_app]
theorem iso_of_srt {l : List α} (h : Srt lt l) : iso lt l = l := mrg_none h

/-! By places. -/
theorem Srt.at (O : WOrd lt) {l : List α} (h : Srt lt l) {i j : Nat} (hij : i ≤ j) (hj : j < l.length) {a b : α} (ha : l[i]? = some a) (hb : l[j]? = some b) : lt b a = false := by
  rcases Nat.lt_or_eq_of_le hij with hlt | rfl
  · have h1 := List.pairwise_iff_getElem.1 h i j (by omega) hj hlt
    rw [List.getElem?_eq_getElem (by omega)] at ha hb
    injection ha with ha; injection hb with hb
    rw [← ha, ← hb]; exact h1
  · rw [ha] at hb; injection hb with hb; rw [hb]; exact O.refl b
theorem mrg_split (O : WOrd lt) {A B : List α} (hA : Srt lt A) (hB : Srt lt B) {s e : Nat} (hs : s ≤ A.length) (he : e ≤ B.length)
    (h1 : s = A.length ∨ e = 0 ∨ ∃ b a, B[e - 1]? = some b ∧ A[s]? = some a ∧ lt b a = true)
    (h2 : s = 0 ∨ e = B.length ∨ ∃ b a, B[e]? = some b ∧ A[s - 1]? = some a ∧ lt b a = false) :
    mrg lt A B = mrg lt (A.take s) (B.take e) ++ mrg lt (A.drop s) (B.drop e) := by
  conv => lhs; rw [← List.take_append_drop s A, ← List.take_append_drop e B]
  refine mrg_parts (by rw [List.take_append_drop]; exact hB) ?_ ?_
  · intro b hb a ha
    obtain ⟨j, hj, rfl⟩ := List.mem_iff_getElem.1 hb
    obtain ⟨i, hi, rfl⟩ := List.mem_iff_getElem.1 ha
    rw [List.length_take] at hj
    rw [List.length_drop] at hi
    rcases h1 with h | h | ⟨y, x, hy, hx, hl⟩
    · omega
    · omega
    · rw [List.getElem_take, List.getElem_drop]
      exact O.lt_of (hB.at O (i := j) (j := e - 1) (by omega) (by omega) (List.getElem?_eq_getElem (by omega)) hy) hl (hA.at O (i := s) (j := s + i) (by omega) (by omega) hx (List.getElem?_eq_getElem (by omega)))
  · intro b hb a ha
    obtain ⟨j, hj, rfl⟩ := List.mem_iff_getElem.1 hb
    obtain ⟨i, hi, rfl⟩ := List.mem_iff_getElem.1 ha
    rw [List.length_take] at hi
    rw [List.length_drop] at hj
    rcases h2 with h | h | ⟨y, x, hy, hx, hl⟩
    · omega
    · omega
    · rw [List.getElem_take, List.getElem_drop]
      have q1 := hB.at O (i := e) (j := e + j) (by omega) (by omega) hy (List.getElem?_eq_getElem (by omega))
      have q2 := hA.at O (i := i) (j := s - 1) (by omega) (by omega) (List.getElem?_eq_getElem (by omega)) hx
      exact O.trans _ _ _ (O.trans _ _ _ q2 hl) q1

theorem srt_last {lt : α → α → Bool} (O : WOrd lt) {S : List α} {z x : α} (h : Srt lt (S ++ [z])) (hx : lt x z = false) : ∀ s ∈ S ++ [z], lt x s = false := by
  intro s hs
  rcases List.mem_append.1 hs with hs | hs
  · exact O.trans _ _ _ ((List.pairwise_append.1 h).2.2 s hs z (by simp)) hx
  · rw [List.mem_singleton.1 hs]; exact hx

theorem mrg_one_left (O : WOrd lt) {x : α} {B : List α} (hB : Srt lt B) {t : Nat} (ht : t ≤ B.length) (h1 : t = 0 ∨ ∃ y, B[t - 1]? = some y ∧ lt y x = true) (h2 : t = B.length ∨ ∃ y, B[t]? = some y ∧ lt y x = false) :
    mrg lt [x] B = B.take t ++ x :: B.drop t := by
  have hp : Srt lt (B.take t ++ B.drop t) := by rw [List.take_append_drop]; exact hB
  rw [mrg_split O (List.pairwise_singleton _ x) hB (s := 0) (e := t) (by simp) ht (by
    rcases h1 with h | ⟨y, hy, hl⟩
    · exact Or.inr (Or.inl h)
    · exact Or.inr (Or.inr ⟨y, x, hy, rfl, hl⟩)) (Or.inl rfl)]
  show mrg lt [] (B.take t) ++ mrg lt [x] (B.drop t) = _
  rw [mrg_none (List.pairwise_append.1 hp).1]
  congr 1
  have : mrg lt ([x] ++ []) (B.drop t) = [x] ++ mrg lt [] (B.drop t) := by
    refine mrg_left fun b hb s hs => ?_
    rw [List.mem_singleton.1 hs]
    obtain ⟨j, hj, rfl⟩ := List.mem_iff_getElem.1 hb
    rw [List.length_drop] at hj
    rcases h2 with h | ⟨y, hy, hl⟩
    · omega
    · rw [List.getElem_drop]
      exact O.trans _ _ _ hl (hB.at O (i := t) (j := t + j) (by omega) (by omega) hy (List.getElem?_eq_getElem (by omega)))
  rw [List.append_nil] at this
  rw [this, mrg_none (List.pairwise_append.1 hp).2.1]
  rfl
theorem mrg_one_right (O : WOrd lt) {x : α} {A : List α} (hA : Srt lt A) {t : Nat} (ht : t ≤ A.length) (h1 : t = 0 ∨ ∃ y, A[t - 1]? = some y ∧ lt x y = false) (h2 : t = A.length ∨ ∃ y, A[t]? = some y ∧ lt x y = true) :
    mrg lt A [x] = A.take t ++ x :: A.drop t := by
  show ins lt x A = _
  conv => lhs; rw [← List.take_append_drop t A]
  refine ins_at (fun s hs => ?_) (fun s hs => ?_)
  · obtain ⟨j, hj, rfl⟩ := List.mem_iff_getElem.1 hs
    rw [List.length_take] at hj
    rcases h1 with h | ⟨y, hy, hl⟩
    · omega
    · rw [List.getElem_take]
      exact O.trans _ _ _ (hA.at O (i := j) (j := t - 1) (by omega) (by omega) (List.getElem?_eq_getElem (by omega)) hy) hl
  · rw [List.getElem?_drop, Nat.add_zero] at hs
    rcases h2 with h | ⟨y, hy, hl⟩
    · rw [h, List.getElem?_eq_none (Nat.le_refl _)] at hs; cases hs
    · rw [hs] at hy; injection hy with hy; rw [hy]; exact hl
/-! Rows: two things of a row that change places. -/
theorem set_two (P M Q : List α) (a b : α) : ((P ++ a :: (M ++ b :: Q)).set P.length b).set (P.length + 1 + M.length) a = P ++ b :: (M ++ a :: Q) := by
  rw [List.set_append_right _ _ (Nat.le_refl _), Nat.sub_self, List.set_cons_zero, List.set_append_right _ _ (by omega), show P.length + 1 + M.length - P.length = M.length + 1 by omega,
    List.set_cons_succ, List.set_append_right _ _ (Nat.le_refl _), Nat.sub_self, List.set_cons_zero]
theorem set_two' (P M Q : List α) (a b : α) : ((P ++ a :: (M ++ b :: Q)).set (P.length + 1 + M.length) a).set P.length b = P ++ b :: (M ++ a :: Q) := by
  rw [List.set_comm _ _ (by omega), set_two]
end
end Go.Proofs.YtdmfgechoanmlaaGreatDoor

namespace Go.Proofs.YtdmfgechoanmlaaGreatDoor
open Go Go.RowKit Go.Sort Go.Lib
section
variable {α : Type} [Inhabited α]

theorem at_row {l P M Q : List α} {a b : α} (h : l = P ++ a :: (M ++ b :: Q)) : l.toArray[P.length]! = a ∧ l.toArray[P.length + 1 + M.length]! = b ∧ P.length + 1 + M.length < l.length := by
  subst h
  refine ⟨by simp, ?_, by simp; omega⟩
  simp only [List.getElem!_toArray]
  rw [List.getElem!_eq_getElem?_getD, List.getElem?_append_right (by omega), show P.length + 1 + M.length - P.length = M.length + 1 by omega, List.getElem?_cons_succ, List.getElem?_append_right (Nat.le_refl _)]
  simp
theorem swp_row {l P M Q : List α} {a b : α} (h : l = P ++ a :: (M ++ b :: Q)) :
    swp l.toArray P.length (P.length + 1 + M.length) = (P ++ b :: (M ++ a :: Q)).toArray ∧ swp l.toArray (P.length + 1 + M.length) P.length = (P ++ b :: (M ++ a :: Q)).toArray := by
  obtain ⟨h1, h2, -⟩ := at_row h
  unfold swp
  rw [h1, h2, List.setIfInBounds_toArray, List.setIfInBounds_toArray, List.setIfInBounds_toArray, List.setIfInBounds_toArray, h, set_two, set_two']
  exact ⟨rfl, rfl⟩

variable {enc : α → List Value} {k : Nat} {w0 : World} {blk off : Nat} {d0 : Array α}
/-- An exchange of the things at i and j: the two loads, the two runs of stores, and the row behind them. -/
def Xch (enc : α → List Value) (k : Nat) (w0 : World) (blk off i j : Nat) (x y : α) (l' : List α) (W : World) : Prop :=
  Sem.run Tryz.prog (loadCellsFrom ⟨blk, off + i * k, none⟩ 0 k #[]) W.drew = .ok (enc x).toArray W.drew ∧
  Sem.run Tryz.prog (loadCellsFrom ⟨blk, off + j * k, none⟩ 0 k #[]) W.drew = .ok (enc y).toArray W.drew ∧
  Sem.run Tryz.prog (storeCells ⟨blk, off + i * k, none⟩ (enc y) 0) W.drew = .ok () (W.drew.setCells blk (off + i * k) (enc y)) ∧
  Sem.run Tryz.prog (storeCells ⟨blk, off + j * k, none⟩ (enc x) 0) (W.drew.setCells blk (off + i * k) (enc y)) = .ok () ((W.drew.setCells blk (off + i * k) (enc y)).setCells blk (off + j * k) (enc x)) ∧
  (enc x).length = k ∧ (enc y).length = k ∧
  SWK enc k w0 blk off l'.toArray ((W.drew.setCells blk (off + i * k) (enc y)).setCells blk (off + j * k) (enc x))
theorem xch_any {W : World} {l l' : List α} {x y : α} {i j : Nat} (S : SWK enc k w0 blk off l.toArray W) (R : RowK enc k w0 blk off d0) (hs : l.length = d0.size) (hi : i < l.length) (hj : j < l.length) (hx : l.toArray[i]! = x) (hy : l.toArray[j]! = y) (hl : swp l.toArray i j = l'.toArray) :
    Xch enc k w0 blk off i j x y l' W := by
  have S1 := S.swapped R i j (by simpa using hi) (by simpa using hj)
  have a1 := S.ld1 R (by simpa using hs) Tryz.prog i (by simpa using hi)
  have a2 := S.ld1 R (by simpa using hs) Tryz.prog j (by simpa using hj)
  have a3 := S.st1 R (by simpa using hs) Tryz.prog i (by simpa using hi) y
  have a4 := S.st2 R (by simpa using hs) Tryz.prog i j (by simpa using hi) (by simpa using hj) y x
  rw [hx] at a1 S1
  rw [hy] at a2 S1
  rw [hl] at S1
  exact ⟨a1, a2, a3, a4, R.hk _, R.hk _, S1⟩
/-- The things at i and, behind it, at j. -/
theorem xch_up {W : World} {l P M Q : List α} {a b : α} {i j : Nat} (S : SWK enc k w0 blk off l.toArray W) (R : RowK enc k w0 blk off d0) (hs : l.length = d0.size) (h : l = P ++ a :: (M ++ b :: Q)) (hi : i = P.length) (hj : j = P.length + 1 + M.length) :
    Xch enc k w0 blk off i j a b (P ++ b :: (M ++ a :: Q)) W := by
  obtain ⟨h1, h2, h3⟩ := at_row h
  subst hi hj
  exact xch_any S R hs (by omega) h3 h1 h2 (swp_row h).1
theorem xch_down {W : World} {l P M Q : List α} {a b : α} {i j : Nat} (S : SWK enc k w0 blk off l.toArray W) (R : RowK enc k w0 blk off d0) (hs : l.length = d0.size) (h : l = P ++ a :: (M ++ b :: Q)) (hi : i = P.length) (hj : j = P.length + 1 + M.length) :
    Xch enc k w0 blk off j i b a (P ++ b :: (M ++ a :: Q)) W := by
  obtain ⟨h1, h2, h3⟩ := at_row h
  subst hi hj
  exact xch_any S R hs h3 (by omega) h2 h1 (swp_row h).2

/-- A comparison of the things at i and j: the two loads, in whatever world of the class, and the call. -/
def Cmpd (enc : α → List Value) (k : Nat) (g : Nat) (cb : Array Value) (v : Int) (blk off i j : Nat) (x y : α) (W : World) : Prop :=
  (∀ n os, Sem.run Tryz.prog (loadCellsFrom ⟨blk, off + i * k, none⟩ 0 k #[]) (grow (W.drewN n) os) = .ok (enc x).toArray (grow (W.drewN n) os)) ∧
  (∀ n os, Sem.run Tryz.prog (loadCellsFrom ⟨blk, off + j * k, none⟩ 0 k #[]) (grow (W.drewN n) os) = .ok (enc y).toArray (grow (W.drewN n) os)) ∧
  (enc x).length = k ∧ (enc y).length = k ∧
  (∀ n os, Calls Tryz.prog g (#[.agg (enc x).toArray, .agg (enc y).toArray] ++ cb) (grow (W.drewN n) os) fun e w' => e = .returned (.int .i64 v) ∧ ∃ q os', w' = grow ((grow (W.drewN n) os).drewN q) os')
theorem cmpd_any {g : Nat} {cb : Array Value} {cf : α → α → Int} {W : World} {l : List α} {x y : α} {i j : Nat} (S : SWK enc k w0 blk off l.toArray W) (R : RowK enc k w0 blk off d0) (C : CmpLays Tryz.prog g cb enc k cf blk off d0.size w0) (hs : l.length = d0.size)
    (hx : l[i]? = some x) (hy : l[j]? = some y) : Cmpd enc k g cb (cf x y) blk off i j x y W := by
  have hi : i < l.length := (List.getElem?_eq_some_iff.1 hx).1
  have hj : j < l.length := (List.getElem?_eq_some_iff.1 hy).1
  have ex : l.toArray[i]! = x := by simp only [List.getElem!_toArray]; rw [List.getElem!_eq_getElem?_getD, hx]; rfl
  have ey : l.toArray[j]! = y := by simp only [List.getElem!_toArray]; rw [List.getElem!_eq_getElem?_getD, hy]; rfl
  refine ⟨fun n os => ?_, fun n os => ?_, R.hk _, R.hk _, fun n os => S.cmp C (by simpa using hs) x y n os⟩
  · rw [← ex]; exact S.ld R (by simpa using hs) Tryz.prog i (by simpa using hi) n os
  · rw [← ey]; exact S.ld R (by simpa using hs) Tryz.prog j (by simpa using hj) n os
end
end Go.Proofs.YtdmfgechoanmlaaGreatDoor

namespace Go.Proofs.YtdmfgechoanmlaaGreatDoor
open Go Go.RowKit Go.Sort Go.Lib
section
variable {α : Type} [Inhabited α]

set_option maxHeartbeats 2000000 in
set_option maxRecDepth 100000 in
theorem sswap_is (k : Nat) (zE : ∀ w, (Go.sizeOf 145).run Tryz.prog w = .ok k w) (enc : α → List Value) (g : Nat) (cb : Array Value) (blk off cap n N a b : Nat) (d0 : Array α) (w0 w : World) (X U Z V Y : List α)
    (R : RowK enc k w0 blk off d0) (S : SWK enc k w0 blk off (X ++ (U ++ (Z ++ (V ++ Y)))).toArray w) (hs : (X ++ (U ++ (Z ++ (V ++ Y)))).length = d0.size) (hU : U.length = n) (hV : V.length = n) (ha : X.length = a) (hb : a + n + Z.length = b) (hN : N = d0.size) (hsz : N < 4611686018427387904) :
    Calls Tryz.prog 172 #[.slice (some ⟨blk, off, none⟩) N cap, .int .i64 a, .int .i64 b, .int .i64 n, .func (.func g) #[] cb] w fun e w' => e = .returned (.tuple #[]) ∧ SWK enc k w0 blk off (X ++ (V ++ (Z ++ (U ++ Y)))).toArray w' := by
  have mixed : Tryz.prog.follows .mixedOrders = true := by kernel_rfl
  have S0 : Aside (SWK enc k w0 blk off (X ++ (U ++ (Z ++ (V ++ Y)))).toArray w) := S
  have hlen : X.length + n + Z.length + n + Y.length = N := by rw [hN, ← hs]; simp only [List.length_append]; omega
  have HS : Hid (∀ U1 V1 U2 V2 : List α, U = U1 ++ U2 → V = V1 ++ V2 → U1.length = V1.length → (X ++ (V1 ++ (U2 ++ (Z ++ (U1 ++ (V2 ++ Y)))))).length = d0.size) := by
    intro U1 V1 U2 V2 e1 e2 e3
    rw [← hs, e1, e2]; simp only [List.length_append]; omega
  clear S hs
  go_enter Tryz.func172, Tryz.ntmps172
  go_wp2
  go_loopg [10] n (fun kx s10 wr => ∃ (i : Nat) (U1 V1 U2 V2 : List α), s10 = .int .i64 i ∧ U = U1 ++ U2 ∧ V = V1 ++ V2 ∧ U1.length = i ∧ V1.length = i ∧ i ≤ n ∧ n - i ≤ kx ∧ Aside (SWK enc k w0 blk off (X ++ (V1 ++ (U2 ++ (Z ++ (U1 ++ (V2 ++ Y)))))).toArray wr))
  case atStart => exact ⟨0, [], [], U, V, rfl, rfl, rfl, rfl, rfl, by omega, by omega, S0⟩
  case round =>
    clear S0
    obtain ⟨i, U1, V1, U2, V2, rfl, e1, e2, l1, l2, hin, hkx, S1⟩ := hrel
    have LU : U2.length = n - i := by have := congrArg List.length e1; simp only [List.length_append] at this; omega
    have LV : V2.length = n - i := by have := congrArg List.length e2; simp only [List.length_append] at this; omega
    by_cases hlt : i < n
    · obtain ⟨u, U3, rfl⟩ : ∃ u r, U2 = u :: r := by cases U2 with | nil => simp at LU; omega | cons u r => exact ⟨u, r, rfl⟩
      obtain ⟨v, V3, rfl⟩ : ∃ u r, V2 = u :: r := by cases V2 with | nil => simp at LV; omega | cons u r => exact ⟨u, r, rfl⟩
      have hrow : X ++ (V1 ++ ((u :: U3) ++ (Z ++ (U1 ++ ((v :: V3) ++ Y))))) = (X ++ V1) ++ u :: ((U3 ++ Z ++ U1) ++ v :: (V3 ++ Y)) := by simp
      have hrow2 : (X ++ V1) ++ v :: ((U3 ++ Z ++ U1) ++ u :: (V3 ++ Y)) = X ++ ((V1 ++ [v]) ++ (U3 ++ (Z ++ ((U1 ++ [u]) ++ (V3 ++ Y))))) := by simp
      obtain ⟨q1, q2, q3, q4, q5, q6, q7⟩ := xch_up (i := a + i) (j := b + i) S1.out R (HS.out U1 V1 _ _ e1 e2 (by omega)) hrow (by simp; omega) (by simp only [List.length_append]; simp at LU; omega)
      rw [hrow2] at q7
      have S2 : Aside _ := q7
      clear q7 S1
      generalize enc u = cU at q1 q3 q4 q5 S2
      generalize enc v = cV at q2 q3 q4 q6 S2
      have bi : (i : Int) < (n : Int) := by omega
      have w1 : IntKind.i64.wrap ((a : Int) + (i : Int)) = ((a + i : Nat) : Int) := by rw [IntKind.wrap_i64]; omega
      have w2 : IntKind.i64.wrap ((b : Int) + (i : Int)) = ((b + i : Nat) : Int) := by rw [IntKind.wrap_i64]; omega
      have b1 : ((a + i : Nat) : Int) < (N : Int) := by omega
      have b2 : ((b + i : Nat) : Int) < (N : Int) := by omega
      have p1 : (0 : Int) ≤ ((a + i : Nat) : Int) := by omega
      have p2 : (0 : Int) ≤ ((b + i : Nat) : Int) := by omega
      go_wp2_with fail
      go_big_region_o
      clear q1 q2 q3 q4
      generalize (wr.drew.setCells blk (off + (a + i) * k) cV).setCells blk (off + (b + i) * k) cU = w2 at S2 ⊢
      go_wp2
      go_roundg (n - (i + 1))
      case measure => omega
      case rel => exact ⟨i + 1, U1 ++ [u], V1 ++ [v], U3, V3, by simp, by rw [e1]; simp, by rw [e2]; simp, by simp; omega, by simp; omega, by omega, Nat.le_refl _, S2⟩
    · have hU2 : U2 = [] := List.length_eq_zero_iff.1 (by omega)
      have hV2 : V2 = [] := List.length_eq_zero_iff.1 (by omega)
      subst hU2 hV2
      rw [List.append_nil] at e1 e2
      subst e1 e2
      go_wp2
      go_end0
      exact ⟨rfl, by simpa using S1.out⟩
set_option maxHeartbeats 2000000 in
set_option maxRecDepth 100000 in
theorem srot_is (k : Nat) (zE : ∀ w, (Go.sizeOf 145).run Tryz.prog w = .ok k w) (enc : α → List Value) (g : Nat) (cb : Array Value) (blk off cap N a m b : Nat) (d0 : Array α) (w0 w : World) (X U V Y : List α)
    (R : RowK enc k w0 blk off d0) (S : SWK enc k w0 blk off (X ++ (U ++ (V ++ Y))).toArray w) (hs : (X ++ (U ++ (V ++ Y))).length = d0.size) (ha : X.length = a) (hm : a + U.length = m) (hb : m + V.length = b) (hU : 0 < U.length) (hV : 0 < V.length) (hN : N = d0.size) (hsz : N < 4611686018427387904) :
    Calls Tryz.prog 171 #[.slice (some ⟨blk, off, none⟩) N cap, .int .i64 a, .int .i64 m, .int .i64 b, .func (.func g) #[] cb] w fun e w' => e = .returned (.tuple #[]) ∧ SWK enc k w0 blk off (X ++ (V ++ (U ++ Y))).toArray w' := by
  have S0 : Aside (SWK enc k w0 blk off (X ++ (U ++ (V ++ Y))).toArray w) := S
  have hlen : X.length + U.length + V.length + Y.length = N := by rw [hN, ← hs]; simp only [List.length_append]; omega
  have SW : Hid (∀ (W : World) (n aa bb : Nat) (X' U' Z' V' Y' : List α), SWK enc k w0 blk off (X' ++ (U' ++ (Z' ++ (V' ++ Y')))).toArray W → (X' ++ (U' ++ (Z' ++ (V' ++ Y')))).length = d0.size → U'.length = n → V'.length = n → X'.length = aa → aa + n + Z'.length = bb →
      Calls Tryz.prog 172 #[.slice (some ⟨blk, off, none⟩) N cap, .int .i64 aa, .int .i64 bb, .int .i64 n, .func (.func g) #[] cb] W fun e w' => e = .returned (.tuple #[]) ∧ SWK enc k w0 blk off (X' ++ (V' ++ (Z' ++ (U' ++ Y')))).toArray w') :=
    fun W n aa bb X' U' Z' V' Y' S' h1 h2 h3 h4 h5 => sswap_is k zE enc g cb blk off cap n N aa bb d0 w0 W X' U' Z' V' Y' R S' h1 h2 h3 h4 h5 hN hsz
  have HN := Lib.hid hN
  clear S hN
  have wi : IntKind.i64.wrap ((m : Int) - (a : Int)) = (U.length : Int) := by rw [IntKind.wrap_i64]; omega
  have wj : IntKind.i64.wrap ((b : Int) - (m : Int)) = (V.length : Int) := by rw [IntKind.wrap_i64]; omega
  go_enter Tryz.func171, Tryz.ntmps171
  go_wp2
  go_loopg [10, 11] (U.length + V.length) (fun kx s10 s11 wr => ∃ (i j : Nat) (X' U' V' Y' : List α), s10 = .int .i64 i ∧ s11 = .int .i64 j ∧ U'.length = i ∧ V'.length = j ∧ 0 < i ∧ 0 < j ∧ X'.length + i = m ∧ i + j ≤ kx ∧ i + j ≤ U.length + V.length ∧ (X' ++ (U' ++ (V' ++ Y'))).length = d0.size ∧ Hid (X' ++ (V' ++ (U' ++ Y')) = X ++ (V ++ (U ++ Y))) ∧ Aside (SWK enc k w0 blk off (X' ++ (U' ++ (V' ++ Y'))).toArray wr))
  case atStart => exact ⟨U.length, V.length, X, U, V, Y, rfl, rfl, rfl, rfl, hU, hV, by omega, Nat.le_refl _, Nat.le_refl _, hs, rfl, S0⟩
  case round =>
    clear S0 wi wj hs
    obtain ⟨i, j, X', U', V', Y', rfl, rfl, l1, l2, i0, j0, hX, hkx, hle, hs', HE, S1⟩ := hrel
    have wm : IntKind.i64.wrap ((m : Int) - (i : Int)) = (X'.length : Int) := by rw [IntKind.wrap_i64]; omega
    rcases Nat.lt_trichotomy i j with hij | rfl | hij
    · have ne : ((i : Int) == (j : Int)) = false := by simp; omega
      have ng : ¬ (i : Int) > (j : Int) := by omega
      have w1 : IntKind.i64.wrap ((m : Int) + (j : Int)) = ((m + j : Nat) : Int) := by rw [IntKind.wrap_i64]; omega
      have w2 : IntKind.i64.wrap (((m + j : Nat) : Int) - (i : Int)) = ((m + j - i : Nat) : Int) := by rw [IntKind.wrap_i64]; omega
      have w3 : IntKind.i64.wrap ((j : Int) - (i : Int)) = ((j - i : Nat) : Int) := by rw [IntKind.wrap_i64]; omega
      have hV' : V' = V'.take (j - i) ++ V'.drop (j - i) := (List.take_append_drop _ _).symm
      have lv1 : (V'.take (j - i)).length = j - i := by rw [List.length_take]; omega
      have lv2 : (V'.drop (j - i)).length = i := by rw [List.length_drop]; omega
      generalize V'.take (j - i) = V1 at hV' lv1
      generalize V'.drop (j - i) = V2 at hV' lv2
      subst hV'
      have e1 : X' ++ (U' ++ ((V1 ++ V2) ++ Y')) = X' ++ (U' ++ (V1 ++ (V2 ++ Y'))) := by simp
      have C := SW.out wr i X'.length (m + j - i) X' U' V1 V2 Y' (by rw [← e1]; exact S1.out) (by rw [← e1]; exact hs') l1 lv2 rfl (by omega)
      rw [show ((m + j - i : Nat) : Int) = (m : Int) + (j : Int) - (i : Int) by omega] at C
      have HE2 : Hid (X' ++ (V1 ++ (V2 ++ (U' ++ Y'))) = X ++ (V ++ (U ++ Y))) := by show _ = _; rw [← HE.out]; simp
      have hs2 : (X' ++ (V2 ++ (V1 ++ (U' ++ Y')))).length = d0.size := by rw [← hs']; simp only [List.length_append]; omega
      clear HE S1 e1
      go_wp2_with (go_at_call 172; with_reducible refine C.mono ?_; rintro e w1' ⟨rfl, hS⟩)
      go_roundg (i + (j - i))
      case measure => omega
      case rel => exact ⟨i, j - i, X', V2, V1, U' ++ Y', rfl, congrArg (Value.int .i64) (by omega), lv2, lv1, i0, by omega, hX, by omega, by omega, hs2, HE2, hS⟩
    · have eq : ((i : Int) == (i : Int)) = true := by simp
      have C := SW.out wr i X'.length m X' U' [] V' Y' (by simpa using S1.out) (by simpa using hs') l1 l2 rfl (by simpa using hX)
      clear S1
      go_wp2_with (go_at_call 172; with_reducible refine C.mono ?_; rintro e w1' ⟨rfl, hS⟩)
      go_end0
      refine ⟨rfl, ?_⟩
      rw [← HE.out]; simpa using hS
    · have ne : ((i : Int) == (j : Int)) = false := by simp; omega
      have ng : (i : Int) > (j : Int) := by omega
      have w3 : IntKind.i64.wrap ((i : Int) - (j : Int)) = ((i - j : Nat) : Int) := by rw [IntKind.wrap_i64]; omega
      have hU' : U' = U'.take j ++ U'.drop j := (List.take_append_drop _ _).symm
      have lv1 : (U'.take j).length = j := by rw [List.length_take]; omega
      have lv2 : (U'.drop j).length = i - j := by rw [List.length_drop]; omega
      generalize U'.take j = U1 at hU' lv1
      generalize U'.drop j = U2 at hU' lv2
      subst hU'
      have e1 : X' ++ ((U1 ++ U2) ++ (V' ++ Y')) = X' ++ (U1 ++ (U2 ++ (V' ++ Y'))) := by simp
      have C := SW.out wr j X'.length m X' U1 U2 V' Y' (by rw [← e1]; exact S1.out) (by rw [← e1]; exact hs') lv1 l2 rfl (by omega)
      have HE2 : Hid ((X' ++ V') ++ (U1 ++ (U2 ++ Y')) = X ++ (V ++ (U ++ Y))) := by show _ = _; rw [← HE.out]; simp
      have hs2 : ((X' ++ V') ++ (U2 ++ (U1 ++ Y'))).length = d0.size := by rw [← hs']; simp only [List.length_append]; omega
      have HC : Hid (X' ++ (V' ++ (U2 ++ (U1 ++ Y'))) = (X' ++ V') ++ (U2 ++ (U1 ++ Y'))) := by show _ = _; simp
      have hX2 : (X' ++ V').length + (i - j) = m := by simp only [List.length_append]; clear C; omega
      clear HE S1 e1
      go_wp2_with (go_at_call 172; with_reducible refine C.mono ?_; rintro e w1' ⟨rfl, hS⟩)
      go_roundg ((i - j) + j)
      case measure => omega
      case rel => exact ⟨i - j, j, X' ++ V', U2, U1, Y', congrArg (Value.int .i64) (by omega), rfl, lv2, lv1, by omega, j0, hX2, by omega, by omega, hs2, HE2, by rw [← HC.out]; exact hS⟩
end
end Go.Proofs.YtdmfgechoanmlaaGreatDoor

namespace Go.Proofs.YtdmfgechoanmlaaGreatDoor
open Go Go.RowKit Go.Sort Go.Lib
section
variable {α : Type} [Inhabited α]

set_option maxHeartbeats 4000000 in
set_option maxRecDepth 100000 in
theorem sins_is (k : Nat) (zE : ∀ w, (Go.sizeOf 145).run Tryz.prog w = .ok k w) (enc : α → List Value) (cf : α → α → Int) (O : WOrd (ltOf cf)) (g : Nat) (cb : Array Value) (eg : ∀ args w, (callFunc g args).run Tryz.prog w = .ok (.enter g args) w) (blk off cap N a b : Nat) (d0 : Array α) (w0 w : World) (X D Y : List α)
    (R : RowK enc k w0 blk off d0) (C : CmpLays Tryz.prog g cb enc k cf blk off d0.size w0) (S : SWK enc k w0 blk off (X ++ (D ++ Y)).toArray w) (hs : (X ++ (D ++ Y)).length = d0.size) (ha : X.length = a) (hb : a + D.length = b) (hN : N = d0.size) (hsz : N < 4611686018427387904) :
    Calls Tryz.prog 169 #[.slice (some ⟨blk, off, none⟩) N cap, .int .i64 a, .int .i64 b, .func (.func g) #[] cb] w fun e w' => e = .returned (.tuple #[]) ∧ SWK enc k w0 blk off (X ++ (iso (ltOf cf) D ++ Y)).toArray w' := by
  have mixed : Tryz.prog.follows .mixedOrders = true := by kernel_rfl
  have S0 : Aside (SWK enc k w0 blk off (X ++ (D ++ Y)).toArray w) := S
  have CC : Aside (CmpLays Tryz.prog g cb enc k cf blk off d0.size w0) := C
  have hlen : X.length + D.length + Y.length = N := by rw [hN, ← hs]; simp only [List.length_append]; omega
  have HN := Lib.hid hN
  clear S hN C
  go_enter Tryz.func169, Tryz.ntmps169
  go_wp2
  go_loopg [8] D.length (fun g1 vi wr => ∃ (i : Nat) (D1 D2 : List α), vi = .int .i64 i ∧ a < i ∧ i ≤ b + 1 ∧ b + 1 - i ≤ g1 ∧ D = D1 ++ D2 ∧ D1.length = min (i - a) D.length ∧ Aside (SWK enc k w0 blk off (X ++ (iso (ltOf cf) D1 ++ (D2 ++ Y))).toArray wr))
  case atStart =>
    refine ⟨a + 1, D.take 1, D.drop 1, by go_num, by omega, by omega, by omega, (List.take_append_drop 1 D).symm, by rw [List.length_take, show a + 1 - a = 1 by omega], ?_⟩
    have : X ++ (iso (ltOf cf) (D.take 1) ++ (D.drop 1 ++ Y)) = X ++ (D ++ Y) := by
      cases D with
      | nil => rfl
      | cons x r => simp [iso, mrg, ins]
    rw [this]; exact S0
  case round =>
    clear S0 hs
    obtain ⟨i, D1, D2, rfl, hai, hib, hg1, hD, hl1, S1⟩ := hrel
    by_cases hlt : i < b
    · have hltz : (i : Int) < (b : Int) := by omega
      have hl : D1.length = i - a := by omega
      obtain ⟨x, D3, rfl⟩ : ∃ x r, D2 = x :: r := by
        cases D2 with
        | nil => exfalso; rw [List.append_nil] at hD; rw [hD] at hb; omega
        | cons u r => exact ⟨u, r, rfl⟩
      have hld : D1.length + 1 + D3.length = D.length := by rw [hD]; simp; omega
      go_wp2
      go_loopg [9] i (fun g2 vj wr2 => ∃ (j : Nat) (S1 S2 : List α), vj = .int .i64 j ∧ a ≤ j ∧ j ≤ i ∧ j ≤ g2 ∧ S1.length = j - a ∧ Hid (S1 ++ S2 = iso (ltOf cf) D1) ∧ Hid (∀ s, S2[0]? = some s → ltOf cf x s = true) ∧ Aside (SWK enc k w0 blk off (X ++ ((S1 ++ x :: S2) ++ (D3 ++ Y))).toArray wr2))
      case atStart => exact ⟨i, iso (ltOf cf) D1, [], rfl, by omega, Nat.le_refl _, Nat.le_refl _, by rw [iso_len]; omega, (show Hid _ from by show _ = _; simp), fun s hs => by simp at hs, by
        have : X ++ ((iso (ltOf cf) D1 ++ x :: []) ++ (D3 ++ Y)) = X ++ (iso (ltOf cf) D1 ++ (x :: D3 ++ Y)) := by simp
        rw [this]; exact S1⟩
      case round =>
        clear S1
        obtain ⟨j, S1, S2, rfl, haj, hji, hg2, hlS, HE, HL, SS⟩ := hrel
        have hlS2 : S1.length + S2.length = i - a := by have := congrArg List.length HE.out; rw [List.length_append, iso_len] at this; omega
        have hsz1 : (X ++ ((S1 ++ x :: S2) ++ (D3 ++ Y))).length = d0.size := by rw [← HN.out]; simp only [List.length_append, List.length_cons]; omega
        have OUT : Aside ((∀ s ∈ S1, ltOf cf x s = false) → ∃ D1' D2', D = D1' ++ D2' ∧ D1'.length = min (i + 1 - a) D.length ∧ ∀ W, SWK enc k w0 blk off (X ++ ((S1 ++ x :: S2) ++ (D3 ++ Y))).toArray W → Aside (SWK enc k w0 blk off (X ++ (iso (ltOf cf) D1' ++ (D2' ++ Y))).toArray W)) := by
          intro hall
          refine ⟨D1 ++ [x], D3, by rw [hD]; simp, by rw [List.length_append, List.length_singleton]; omega, fun W hW => ?_⟩
          rw [iso_snoc, ← HE.out, ins_at hall HL.out]
          exact hW
        by_cases hja : a < j
        · obtain ⟨jp, rfl⟩ : ∃ jp, j = jp + 1 := ⟨j - 1, by omega⟩
          obtain ⟨S3, z, rfl⟩ : ∃ S3 z, S1 = S3 ++ [z] := by
            rcases List.eq_nil_or_concat S1 with h | ⟨l, z, h⟩
            · rw [h] at hlS; simp at hlS; omega
            · exact ⟨l, z, by simpa using h⟩
          have hl3 : X.length + S3.length = jp := by simp at hlS; omega
          have hrow : X ++ (((S3 ++ [z]) ++ x :: S2) ++ (D3 ++ Y)) = (X ++ S3) ++ z :: ([] ++ x :: (S2 ++ (D3 ++ Y))) := by simp
          have gx : (X ++ (((S3 ++ [z]) ++ x :: S2) ++ (D3 ++ Y)))[jp + 1]? = some x := by
            rw [hrow, List.getElem?_append_right (by simp; omega)]; simp [← hl3]
          have gz : (X ++ (((S3 ++ [z]) ++ x :: S2) ++ (D3 ++ Y)))[jp]? = some z := by
            rw [hrow, List.getElem?_append_right (by simp; omega)]; simp [← hl3]
          have hjaz : (a : Int) < (jp : Int) + 1 := by omega
          have hjaz2 : (a : Int) < ((jp + 1 : Nat) : Int) := by omega
          have hwp : IntKind.i64.wrap (jp : Int) = (jp : Int) := by rw [IntKind.wrap_i64]; omega
          have jz : (jp : Int) + 1 < (N : Int) := by omega
          have jz1 : (jp : Int) < (N : Int) := by omega
          have p0 : (0 : Int) ≤ (jp : Int) + 1 := by omega
          have e0 : ((jp : Int) + 1).toNat = jp + 1 := by omega
          obtain ⟨q1, q2, q3, q4, q5⟩ := cmpd_any SS.out R CC.out hsz1 gx gz
          have HM := Lib.hid hrow
          clear gx gz hrow
          generalize hcv : cf x z = cv at q5
          have HV := Lib.hid hcv
          clear hcv
          by_cases hlv : cv < 0
          · have XC : Aside (∀ W, SWK enc k w0 blk off (X ++ (((S3 ++ [z]) ++ x :: S2) ++ (D3 ++ Y))).toArray W → Xch enc k w0 blk off (jp + 1) jp x z ((X ++ S3) ++ x :: ([] ++ z :: (S2 ++ (D3 ++ Y)))) W) := fun W hW =>
              xch_down hW R hsz1 HM.out (by simp; omega) (by simp; omega)
            have GR : Aside (∀ n os, SWK enc k w0 blk off (X ++ (((S3 ++ [z]) ++ x :: S2) ++ (D3 ++ Y))).toArray (grow (wr.drewN n) os)) := fun n os => SS.out.grown n os
            clear SS
            generalize enc x = cX at q1 q3 q5
            generalize enc z = cZ at q2 q4 q5
            go_wp2_with fail
            go_quiet_grown (first | (go_at_fn g; refine Calls.grown_of (q5 _ _)))
            go_wp2_with fail
            have hw2 := GR.out nq osq
            clear q1 q2 q3 q4 q5 GR
            generalize grow (wr.drewN nq) osq = wq2 at hw2 ⊢
            obtain ⟨q1, q2, q3, q4, q5, q6, q7⟩ := XC.out wq2 hw2
            have S2' : Aside _ := q7
            clear q7 hw2 XC
            generalize enc x = cX at q1 q3 q4 q5 S2'
            generalize enc z = cZ at q2 q3 q4 q6 S2'
            go_big_region_o
            clear q1 q2 q3 q4
            generalize (wq2.drew.setCells blk (off + (jp + 1) * k) cZ).setCells blk (off + jp * k) cX = w3 at S2' ⊢
            go_wp2
            go_roundg jp
            case measure => omega
            case rel =>
              refine ⟨jp, S3, z :: S2, by first | rfl | go_num | exact congrArg (Value.int .i64) (by omega), by omega, by omega, Nat.le_refl _, by omega, (show Hid _ from ?_), (show Hid _ from ?_), ?_⟩
              · show _ = _; rw [← HE.out]; simp
              · intro s hs; simp at hs; subst hs; exact decide_eq_true (by rw [HV.out]; exact hlv)
              · have : X ++ ((S3 ++ x :: (z :: S2)) ++ (D3 ++ Y)) = (X ++ S3) ++ x :: ([] ++ z :: (S2 ++ (D3 ++ Y))) := by simp
                rw [this]; exact S2'
          · have GR : Aside (∀ n os, SWK enc k w0 blk off (X ++ (((S3 ++ [z]) ++ x :: S2) ++ (D3 ++ Y))).toArray (grow (wr.drewN n) os)) := fun n os => SS.out.grown n os
            clear SS
            generalize enc x = cX at q1 q3 q5
            generalize enc z = cZ at q2 q4 q5
            go_wp2_with fail
            go_quiet_grown (first | (go_at_fn g; refine Calls.grown_of (q5 _ _)))
            go_wp2
            go_roundg (b + 1 - (i + 1))
            case measure => omega
            case rel =>
              obtain ⟨D1', D2', t1, t2, t3⟩ := OUT.out (srt_last O (by
                have := iso_srt O D1
                rw [← HE.out] at this
                exact (List.pairwise_append.1 this).1) (decide_eq_false (by rw [HV.out]; omega)))
              exact ⟨i + 1, D1', D2', by go_num, by omega, by omega, by omega, t1, t2, t3 _ (GR.out nq osq)⟩
        · have hjaz : decide ((j : Int) > (a : Int)) = false := decide_eq_false (by omega)
          have hjaz' : ¬ (a : Int) < (j : Int) := by omega
          have hS1 : S1 = [] := List.length_eq_zero_iff.1 (by omega)
          have DR : Aside (SWK enc k w0 blk off (X ++ ((S1 ++ x :: S2) ++ (D3 ++ Y))).toArray wr.drew) := SS.out.drew
          clear SS
          go_wp2_with fail
          go_big_region_o
          all_goals go_wp2
          go_roundg (b + 1 - (i + 1))
          case measure => omega
          case rel =>
            obtain ⟨D1', D2', t1, t2, t3⟩ := OUT.out (by rw [hS1]; simp)
            exact ⟨i + 1, D1', D2', by go_num, by omega, by omega, by omega, t1, t2, t3 _ DR.out⟩
    · have hltz : ¬ (i : Int) < (b : Int) := by omega
      have hD2 : D2 = [] := List.length_eq_zero_iff.1 (by have := congrArg List.length hD; rw [List.length_append] at this; omega)
      subst hD2
      rw [List.append_nil] at hD
      subst hD
      go_wp2
      go_end0
      exact ⟨rfl, by simpa using S1.out⟩
end
end Go.Proofs.YtdmfgechoanmlaaGreatDoor

namespace Go.Proofs.YtdmfgechoanmlaaGreatDoor
open Go Go.RowKit Go.Sort Go.Lib
section
variable {α : Type} [Inhabited α]

set_option maxHeartbeats 4000000 in
set_option maxRecDepth 100000 in
theorem smrg_left (k : Nat) (zE : ∀ w, (Go.sizeOf 145).run Tryz.prog w = .ok k w) (enc : α → List Value) (cf : α → α → Int) (O : WOrd (ltOf cf)) (g : Nat) (cb : Array Value) (eg : ∀ args w, (callFunc g args).run Tryz.prog w = .ok (.enter g args) w) (blk off cap N a m b : Nat) (d0 : Array α) (w0 w : World) (x : α) (X B Y : List α)
    (R : RowK enc k w0 blk off d0) (C : CmpLays Tryz.prog g cb enc k cf blk off d0.size w0) (S : SWK enc k w0 blk off (X ++ ([x] ++ (B ++ Y))).toArray w) (hs : (X ++ ([x] ++ (B ++ Y))).length = d0.size) (ha : X.length = a) (hm : a + 1 = m) (hb : m + B.length = b) (hB : Srt (ltOf cf) B) (hN : N = d0.size) (hsz : N < 4611686018427387904) :
    Calls Tryz.prog 170 #[.slice (some ⟨blk, off, none⟩) N cap, .int .i64 a, .int .i64 m, .int .i64 b, .func (.func g) #[] cb] w fun e w' => e = .returned (.tuple #[]) ∧ SWK enc k w0 blk off (X ++ (mrg (ltOf cf) [x] B ++ Y)).toArray w' := by
  have mixed : Tryz.prog.follows .mixedOrders = true := by kernel_rfl
  have S0 : Aside (SWK enc k w0 blk off (X ++ ([x] ++ (B ++ Y))).toArray w) := S
  have CC : Aside (CmpLays Tryz.prog g cb enc k cf blk off d0.size w0) := C
  have hlen : X.length + 1 + B.length + Y.length = N := by rw [hN, ← hs]; simp only [List.length_append, List.length_singleton]; omega
  have HN := Lib.hid hN
  have w1 : IntKind.i64.wrap ((m : Int) - (a : Int)) = 1 := by rw [IntKind.wrap_i64]; omega
  clear S hN C
  go_enter Tryz.func170, Tryz.ntmps170
  go_wp2
  go_loopg [10, 11] (B.length + 1) (fun kx s10 s11 wr => ∃ (i j : Nat), s10 = .int .i64 i ∧ s11 = .int .i64 j ∧ m ≤ i ∧ i ≤ j ∧ j ≤ b ∧ j - i ≤ kx ∧ Hid (i = m ∨ ∃ y, B[i - m - 1]? = some y ∧ ltOf cf y x = true) ∧ Hid (j = b ∨ ∃ y, B[j - m]? = some y ∧ ltOf cf y x = false) ∧ Aside (SWK enc k w0 blk off (X ++ ([x] ++ (B ++ Y))).toArray wr))
  case atStart => exact ⟨m, b, rfl, rfl, Nat.le_refl _, by omega, Nat.le_refl _, by omega, .inl rfl, .inl rfl, S0⟩
  case round =>
    clear S0
    obtain ⟨i, j, rfl, rfl, him, hij, hjb, hkx, HL, HR, S1⟩ := hrel
    by_cases hlt : i < j
    · have hltz : (i : Int) < (j : Int) := by omega
      have wa : IntKind.i64.wrap ((i : Int) + (j : Int)) = ((i + j : Nat) : Int) := by rw [IntKind.wrap_i64]; omega
      go_wp2_with fail
      obtain ⟨h, hh⟩ : ∃ h, h = (i + j) / 2 := ⟨_, rfl⟩
      have hz : ((i : Int) + (j : Int)) / 2 = (h : Int) := by omega
      have h1 : i ≤ h := by omega
      have h2 : h < j := by omega
      rw [hz]
      have HH : Hid (h = (i + j) / 2) := hh
      clear hh hz wa hltz
      obtain ⟨y, hy⟩ : ∃ y, B[h - m]? = some y := ⟨_, List.getElem?_eq_getElem (by omega)⟩
      have gx : (X ++ ([x] ++ (B ++ Y)))[a]? = some x := by rw [List.getElem?_append_right (by omega), ha, Nat.sub_self]; rfl
      have gy : (X ++ ([x] ++ (B ++ Y)))[h]? = some y := by
        rw [List.getElem?_append_right (by omega), List.getElem?_append_right (by simp; omega), List.getElem?_append_left (by simp; omega), List.length_singleton, show h - X.length - 1 = h - m by omega]; exact hy
      obtain ⟨q1, q2, q3, q4, q5⟩ := cmpd_any S1.out R CC.out hs gy gx
      have GR : Aside (∀ n os, SWK enc k w0 blk off (X ++ ([x] ++ (B ++ Y))).toArray (grow (wr.drewN n) os)) := fun n os => S1.out.grown n os
      clear S1 gx gy
      generalize hcv : cf y x = cv at q5
      have HV := Lib.hid hcv
      clear hcv
      have HY := Lib.hid hy
      clear hy
      generalize enc y = cX at q1 q3 q5
      generalize enc x = cZ at q2 q4 q5
      have j1 : (h : Int) < (N : Int) := by omega
      have j2 : (a : Int) < (N : Int) := by omega
      have j3 : IntKind.i64.wrap ((h : Int) + 1) = ((h + 1 : Nat) : Int) := by rw [IntKind.wrap_i64]; omega
      by_cases hlv : cv < 0
      · go_quiet_grown (first | (go_at_fn g; refine Calls.grown_of (q5 _ _)))
        go_wp2
        go_roundg (j - (h + 1))
        case measure => omega
        case rel =>
          refine ⟨h + 1, j, by go_num, rfl, by omega, by omega, hjb, Nat.le_refl _, .inr ⟨y, ?_, decide_eq_true (by rw [HV.out]; exact hlv)⟩, HR, GR.out nq osq⟩
          rw [show h + 1 - m - 1 = h - m by omega]; exact HY.out
      · go_quiet_grown (first | (go_at_fn g; refine Calls.grown_of (q5 _ _)))
        go_wp2
        go_roundg (h - i)
        case measure => omega
        case rel =>
          exact ⟨i, h, rfl, rfl, him, by omega, by omega, Nat.le_refl _, HL, .inr ⟨y, HY.out, decide_eq_false (by rw [HV.out]; omega)⟩, GR.out nq osq⟩
    · obtain rfl : i = j := by omega
      have hltz : ¬ (i : Int) < (i : Int) := by omega
      have HQ : Hid (mrg (ltOf cf) [x] B = B.take (i - m) ++ x :: B.drop (i - m)) := mrg_one_left O hB (by omega)
        (by rcases HL.out with h | ⟨y, hy, hl⟩
            · exact .inl (by omega)
            · exact .inr ⟨y, hy, hl⟩)
        (by rcases HR.out with h | ⟨y, hy, hl⟩
            · exact .inl (by omega)
            · exact .inr ⟨y, hy, hl⟩)
      have HB1 : Hid (B = B.take (i - m) ++ B.drop (i - m)) := (List.take_append_drop _ _).symm
      have lb1 : (B.take (i - m)).length = i - m := by rw [List.length_take]; omega
      have wq : IntKind.i64.wrap ((i : Int) - 1) = (i : Int) - 1 := by rw [IntKind.wrap_i64]; omega
      generalize B.take (i - m) = B1 at HQ HB1 lb1
      generalize B.drop (i - m) = B2 at HQ HB1
      have hbl : B1.length + B2.length = B.length := by rw [HB1.out]; simp
      clear HL HR hB
      go_wp2
      go_loopg [13] (B1.length + 1) (fun kx s13 wr => ∃ (p : Nat) (C1 C2 : List α), s13 = .int .i64 p ∧ B1 = C1 ++ C2 ∧ C1.length + a = p ∧ p + 1 ≤ i ∧ i - p ≤ kx ∧ Aside (SWK enc k w0 blk off (X ++ (C1 ++ x :: (C2 ++ (B2 ++ Y)))).toArray wr))
      case atStart => exact ⟨a, [], B1, rfl, rfl, by simp, by omega, by omega, by
        have : X ++ ([] ++ x :: (B1 ++ (B2 ++ Y))) = X ++ ([x] ++ (B ++ Y)) := by rw [HB1.out]; simp
        rw [this]; exact S1.out⟩
      case round =>
        clear S1
        obtain ⟨p, C1, C2, rfl, hC, hlC, hpi, hkp, S2⟩ := hrel
        have hlc : C1.length + C2.length = i - m := by have := congrArg List.length hC; rw [List.length_append] at this; omega
        have hsz1 : (X ++ (C1 ++ x :: (C2 ++ (B2 ++ Y)))).length = d0.size := by rw [← HN.out]; simp only [List.length_append, List.length_cons]; omega
        by_cases hp : p + 1 < i
        · have hpz : (p : Int) < (i : Int) - 1 := by omega
          obtain ⟨c, C3, rfl⟩ : ∃ c r, C2 = c :: r := by
            cases C2 with
            | nil => exfalso; simp at hlc; omega
            | cons c r => exact ⟨c, r, rfl⟩
          have hrow : X ++ (C1 ++ x :: ((c :: C3) ++ (B2 ++ Y))) = (X ++ C1) ++ x :: ([] ++ c :: (C3 ++ (B2 ++ Y))) := by simp
          have hrow2 : (X ++ C1) ++ c :: ([] ++ x :: (C3 ++ (B2 ++ Y))) = X ++ ((C1 ++ [c]) ++ x :: (C3 ++ (B2 ++ Y))) := by simp
          obtain ⟨q1, q2, q3, q4, q5, q6, q7⟩ := xch_up (i := p) (j := p + 1) S2.out R hsz1 hrow (by simp; omega) (by simp; omega)
          rw [hrow2] at q7
          have S3 : Aside _ := q7
          clear q7 S2 hrow hrow2
          generalize enc x = cU at q1 q3 q4 q5 S3
          generalize enc c = cV at q2 q3 q4 q6 S3
          have b1 : (p : Int) < (N : Int) := by omega
          have b2 : (p : Int) + 1 < (N : Int) := by omega
          have p2 : (0 : Int) ≤ (p : Int) + 1 := by omega
          have wp1 : IntKind.i64.wrap ((p : Int) + 1) = (p : Int) + 1 := by rw [IntKind.wrap_i64]; omega
          have e0 : ((p : Int) + 1).toNat = p + 1 := by omega
          go_wp2_with fail
          go_big_region_o
          clear q1 q2 q3 q4
          generalize (wr.drew.setCells blk (off + p * k) cV).setCells blk (off + (p + 1) * k) cU = w2 at S3 ⊢
          go_wp2
          go_roundg (i - (p + 1))
          case measure => omega
          case rel => exact ⟨p + 1, C1 ++ [c], C3, by go_num, by rw [hC]; simp, by simp; omega, by omega, Nat.le_refl _, S3⟩
        · have hpz : ¬ (p : Int) < (i : Int) - 1 := by omega
          have hC2 : C2 = [] := List.length_eq_zero_iff.1 (by omega)
          subst hC2
          rw [List.append_nil] at hC
          subst hC
          go_wp2
          refine bodyPost_ret (results_none rfl _ _ _) rfl ?_
          refine ⟨rfl, ?_⟩
          rw [HQ.out]
          simpa using S2.out
set_option maxHeartbeats 4000000 in
set_option maxRecDepth 100000 in
theorem smrg_right (k : Nat) (zE : ∀ w, (Go.sizeOf 145).run Tryz.prog w = .ok k w) (enc : α → List Value) (cf : α → α → Int) (O : WOrd (ltOf cf)) (g : Nat) (cb : Array Value) (eg : ∀ args w, (callFunc g args).run Tryz.prog w = .ok (.enter g args) w) (blk off cap N a m b : Nat) (d0 : Array α) (w0 w : World) (x : α) (X A Y : List α)
    (R : RowK enc k w0 blk off d0) (C : CmpLays Tryz.prog g cb enc k cf blk off d0.size w0) (S : SWK enc k w0 blk off (X ++ (A ++ ([x] ++ Y))).toArray w) (hs : (X ++ (A ++ ([x] ++ Y))).length = d0.size) (ha : X.length = a) (hm : a + A.length = m) (hb : m + 1 = b) (hA : Srt (ltOf cf) A) (hA1 : A.length ≠ 1) (hN : N = d0.size) (hsz : N < 4611686018427387904) :
    Calls Tryz.prog 170 #[.slice (some ⟨blk, off, none⟩) N cap, .int .i64 a, .int .i64 m, .int .i64 b, .func (.func g) #[] cb] w fun e w' => e = .returned (.tuple #[]) ∧ SWK enc k w0 blk off (X ++ (mrg (ltOf cf) A [x] ++ Y)).toArray w' := by
  have mixed : Tryz.prog.follows .mixedOrders = true := by kernel_rfl
  have S0 : Aside (SWK enc k w0 blk off (X ++ (A ++ ([x] ++ Y))).toArray w) := S
  have CC : Aside (CmpLays Tryz.prog g cb enc k cf blk off d0.size w0) := C
  have hlen : X.length + A.length + 1 + Y.length = N := by rw [hN, ← hs]; simp only [List.length_append, List.length_singleton]; omega
  have HN := Lib.hid hN
  have w1 : IntKind.i64.wrap ((m : Int) - (a : Int)) = (A.length : Int) := by rw [IntKind.wrap_i64]; omega
  have w2 : IntKind.i64.wrap ((b : Int) - (m : Int)) = 1 := by rw [IntKind.wrap_i64]; omega
  have e1 : ((A.length : Int) == 1) = false := by simp; omega
  clear S hN C
  go_enter Tryz.func170, Tryz.ntmps170
  go_wp2
  go_loopg [14, 15] (A.length + 1) (fun kx s10 s11 wr => ∃ (i j : Nat), s10 = .int .i64 i ∧ s11 = .int .i64 j ∧ a ≤ i ∧ i ≤ j ∧ j ≤ m ∧ j - i ≤ kx ∧ Hid (i = a ∨ ∃ y, A[i - a - 1]? = some y ∧ ltOf cf x y = false) ∧ Hid (j = m ∨ ∃ y, A[j - a]? = some y ∧ ltOf cf x y = true) ∧ Aside (SWK enc k w0 blk off (X ++ (A ++ ([x] ++ Y))).toArray wr))
  case atStart => exact ⟨a, m, rfl, rfl, Nat.le_refl _, by omega, Nat.le_refl _, by omega, .inl rfl, .inl rfl, S0⟩
  case round =>
    clear S0
    obtain ⟨i, j, rfl, rfl, him, hij, hjb, hkx, HL, HR, S1⟩ := hrel
    by_cases hlt : i < j
    · have hltz : (i : Int) < (j : Int) := by omega
      have wa : IntKind.i64.wrap ((i : Int) + (j : Int)) = ((i + j : Nat) : Int) := by rw [IntKind.wrap_i64]; omega
      go_wp2_with fail
      obtain ⟨h, hh⟩ : ∃ h, h = (i + j) / 2 := ⟨_, rfl⟩
      have hz : ((i : Int) + (j : Int)) / 2 = (h : Int) := by omega
      have h1 : i ≤ h := by omega
      have h2 : h < j := by omega
      rw [hz]
      clear hh hz wa hltz
      obtain ⟨y, hy⟩ : ∃ y, A[h - a]? = some y := ⟨_, List.getElem?_eq_getElem (by omega)⟩
      have gx : (X ++ (A ++ ([x] ++ Y)))[m]? = some x := by rw [List.getElem?_append_right (by omega), List.getElem?_append_right (by omega), show m - X.length - A.length = 0 by omega]; rfl
      have gy : (X ++ (A ++ ([x] ++ Y)))[h]? = some y := by
        rw [List.getElem?_append_right (by omega), List.getElem?_append_left (by omega), ha]; exact hy
      obtain ⟨q1, q2, q3, q4, q5⟩ := cmpd_any S1.out R CC.out hs gx gy
      have GR : Aside (∀ n os, SWK enc k w0 blk off (X ++ (A ++ ([x] ++ Y))).toArray (grow (wr.drewN n) os)) := fun n os => S1.out.grown n os
      clear S1 gx gy
      generalize hcv : cf x y = cv at q5
      have HV := Lib.hid hcv
      clear hcv
      have HY := Lib.hid hy
      clear hy
      generalize enc x = cX at q1 q3 q5
      generalize enc y = cZ at q2 q4 q5
      have j1 : (h : Int) < (N : Int) := by omega
      have j2 : (m : Int) < (N : Int) := by omega
      have j3 : IntKind.i64.wrap ((h : Int) + 1) = ((h + 1 : Nat) : Int) := by rw [IntKind.wrap_i64]; omega
      by_cases hlv : cv < 0
      · go_quiet_grown (first | (go_at_fn g; refine Calls.grown_of (q5 _ _)))
        go_wp2
        go_roundg (h - i)
        case measure => omega
        case rel =>
          exact ⟨i, h, rfl, rfl, him, by omega, by omega, Nat.le_refl _, HL, .inr ⟨y, HY.out, decide_eq_true (by rw [HV.out]; exact hlv)⟩, GR.out nq osq⟩
      · go_quiet_grown (first | (go_at_fn g; refine Calls.grown_of (q5 _ _)))
        go_wp2
        go_roundg (j - (h + 1))
        case measure => omega
        case rel =>
          refine ⟨h + 1, j, by go_num, rfl, by omega, by omega, hjb, Nat.le_refl _, .inr ⟨y, ?_, decide_eq_false (by rw [HV.out]; omega)⟩, HR, GR.out nq osq⟩
          rw [show h + 1 - a - 1 = h - a by omega]; exact HY.out
    · obtain rfl : i = j := by omega
      have hltz : ¬ (i : Int) < (i : Int) := by omega
      have HQ : Hid (mrg (ltOf cf) A [x] = A.take (i - a) ++ x :: A.drop (i - a)) := mrg_one_right O hA (by omega)
        (by rcases HL.out with h | ⟨y, hy, hl⟩
            · exact .inl (by omega)
            · exact .inr ⟨y, hy, hl⟩)
        (by rcases HR.out with h | ⟨y, hy, hl⟩
            · exact .inl (by omega)
            · exact .inr ⟨y, hy, hl⟩)
      have HB1 : Hid (A = A.take (i - a) ++ A.drop (i - a)) := (List.take_append_drop _ _).symm
      have lb1 : (A.take (i - a)).length = i - a := by rw [List.length_take]; omega
      generalize A.take (i - a) = A1 at HQ HB1 lb1
      generalize A.drop (i - a) = A2 at HQ HB1
      have hbl : A1.length + A2.length = A.length := by rw [HB1.out]; simp
      clear HL HR hA
      go_wp2
      go_loopg [17] (A2.length + 1) (fun kx s13 wr => ∃ (p : Nat) (C1 C2 : List α), s13 = .int .i64 p ∧ Hid (A2 = C1 ++ C2) ∧ C1.length + C2.length = A2.length ∧ C1.length + i = p ∧ i ≤ p ∧ p - i ≤ kx ∧ Aside (SWK enc k w0 blk off (X ++ (A1 ++ (C1 ++ x :: (C2 ++ Y)))).toArray wr))
      case atStart => exact ⟨m, A2, [], rfl, (show Hid _ from by show _ = _; simp), by simp, by omega, by omega, by omega, by
        have : X ++ (A1 ++ (A2 ++ x :: ([] ++ Y))) = X ++ (A ++ ([x] ++ Y)) := by rw [HB1.out]; simp
        rw [this]; exact S1.out⟩
      case round =>
        clear S1
        obtain ⟨p, C1, C2, rfl, HC, hlc, hlC, hpi, hkp, S2⟩ := hrel
        have hsz1 : (X ++ (A1 ++ (C1 ++ x :: (C2 ++ Y)))).length = d0.size := by rw [← HN.out]; simp only [List.length_append, List.length_cons]; omega
        by_cases hp : i < p
        · obtain ⟨q, rfl⟩ : ∃ q, p = q + 1 := ⟨p - 1, by omega⟩
          have hpz : (i : Int) < (q : Int) + 1 := by omega
          obtain ⟨C3, c, rfl⟩ : ∃ C3 c, C1 = C3 ++ [c] := by
            rcases List.eq_nil_or_concat C1 with h | ⟨l, z, h⟩
            · rw [h] at hlC; simp at hlC; omega
            · exact ⟨l, z, by simpa using h⟩
          have hl3 : C3.length + i = q := by simp at hlC; omega
          have hrow : X ++ (A1 ++ ((C3 ++ [c]) ++ x :: (C2 ++ Y))) = (X ++ (A1 ++ C3)) ++ c :: ([] ++ x :: (C2 ++ Y)) := by simp
          have hrow2 : (X ++ (A1 ++ C3)) ++ x :: ([] ++ c :: (C2 ++ Y)) = X ++ (A1 ++ (C3 ++ x :: ((c :: C2) ++ Y))) := by simp
          obtain ⟨q1, q2, q3, q4, q5, q6, q7⟩ := xch_down (i := q) (j := q + 1) S2.out R hsz1 hrow (by simp; omega) (by simp; omega)
          rw [hrow2] at q7
          have S3 : Aside _ := q7
          clear q7 S2 hrow hrow2
          generalize enc x = cU at q1 q3 q4 q5 S3
          generalize enc c = cV at q2 q3 q4 q6 S3
          have b1 : (q : Int) < (N : Int) := by omega
          have b2 : (q : Int) + 1 < (N : Int) := by omega
          have p2 : (0 : Int) ≤ (q : Int) + 1 := by omega
          have wp1 : IntKind.i64.wrap (q : Int) = (q : Int) := by rw [IntKind.wrap_i64]; omega
          have e0 : ((q : Int) + 1).toNat = q + 1 := by omega
          go_wp2_with fail
          go_big_region_o
          clear q1 q2 q3 q4
          generalize (wr.drew.setCells blk (off + (q + 1) * k) cV).setCells blk (off + q * k) cU = w2 at S3 ⊢
          go_wp2
          go_roundg (q - i)
          case measure => omega
          case rel => exact ⟨q, C3, c :: C2, by first | rfl | go_num | exact congrArg (Value.int .i64) (by omega), (show Hid _ from by show _ = _; rw [HC.out]; simp), by simp at hlc ⊢; omega, hl3, by omega, Nat.le_refl _, S3⟩
        · have hpz : ¬ (i : Int) < (p : Int) := by omega
          have hC1 : C1 = [] := List.length_eq_zero_iff.1 (by omega)
          subst hC1
          have HC2 : Hid (A2 = C2) := HC.out
          go_wp2
          refine bodyPost_ret (results_none rfl _ _ _) rfl ?_
          refine ⟨rfl, ?_⟩
          rw [HQ.out, HC2.out]
          simpa using S2.out
end
end Go.Proofs.YtdmfgechoanmlaaGreatDoor
