/- Plain facts on rows of changes: the last one up to an instant, what is cut out, and what is left if those that change nothing are left away. -/
import Derived.Below
namespace Go.Proofs.YtdmfgechoanmlaaGreatDoor

/-- A change: its instant, and what is shown from then on. -/
structure CV where
  t : Int
  of : Int
  ds : Bool
  ab : List UInt8
  deriving DecidableEq
abbrev LoV := Int × Bool × List UInt8
def loC (c : CV) : LoV := (c.of, c.ds, c.ab)
/-- Instants rise. -/
def RisC (l : List CV) : Prop := l.Pairwise fun a b => a.t < b.t
/-- The last one that is not behind an instant. -/
def lasO (l : List CV) (t : Int) : Option CV := (l.filter fun c => decide (c.t ≤ t)).getLast?
/-- Its place. -/
def lasN (l : List CV) (t : Int) : Nat → Int
  | 0 => -1
  | n + 1 => if (l[n]?).any (fun c => decide (c.t ≤ t)) then n else lasN l t n
theorem lasN_bd (l : List CV) (t : Int) : ∀ n, -1 ≤ lasN l t n ∧ lasN l t n < n
  | 0 => by constructor <;> simp [lasN]
  | n + 1 => by
    have := lasN_bd l t n
    rw [lasN]
    split
    · constructor <;> omega
    · constructor <;> omega
theorem lasN_yes {l : List CV} {t : Int} {n : Nat} {c : CV} (h : l[n]? = some c) (hc : c.t ≤ t) : lasN l t (n + 1) = n := by
  rw [lasN, h]; simp [hc]
theorem lasN_no {l : List CV} {t : Int} {n : Nat} {c : CV} (h : l[n]? = some c) (hc : ¬ c.t ≤ t) : lasN l t (n + 1) = lasN l t n := by
  rw [lasN, h]; simp [hc]
theorem lasN_take (l : List CV) (t : Int) : ∀ n, n ≤ l.length → ((l.take n).filter fun c => decide (c.t ≤ t)).getLast? = if lasN l t n < 0 then none else l[(lasN l t n).toNat]?
  | 0, _ => by simp [lasN]
  | n + 1, h => by
    have ih := lasN_take l t n (by omega)
    have hc : l[n]? = some (l[n]'(by omega)) := List.getElem?_eq_getElem (by omega)
    generalize l[n]'(by omega) = c at hc
    have ht : l.take (n + 1) = l.take n ++ [c] := by
      obtain ⟨h1, h2⟩ := List.getElem?_eq_some_iff.1 hc
      rw [List.take_succ_eq_append_getElem h1, h2]
    rw [ht, List.filter_append]
    by_cases hh : c.t ≤ t
    · rw [lasN_yes hc hh]
      simp [hh, hc]
    · rw [lasN_no hc hh, ← ih]
      simp [hh]
/-- What lies at the place is the last one. -/
theorem lasN_lasO (l : List CV) (t : Int) : lasO l t = if lasN l t l.length < 0 then none else l[(lasN l t l.length).toNat]? := by
  have := lasN_take l t l.length (Nat.le_refl _)
  rwa [List.take_length] at this
theorem lasO_none {l : List CV} {t : Int} (h : lasN l t l.length < 0) : lasO l t = none := by rw [lasN_lasO, if_pos h]
theorem lasO_some {l : List CV} {t : Int} (h : ¬ lasN l t l.length < 0) : ∃ k c, lasN l t l.length = (k : Nat) ∧ k < l.length ∧ l[k]? = some c ∧ lasO l t = some c := by
  have hb := lasN_bd l t l.length
  obtain ⟨k, hk⟩ : ∃ k : Nat, lasN l t l.length = k := ⟨(lasN l t l.length).toNat, by omega⟩
  have hkl : k < l.length := by omega
  refine ⟨k, l[k], hk, hkl, List.getElem?_eq_getElem hkl, ?_⟩
  rw [lasN_lasO, if_neg h, hk]
  simp
/-- Of a row that rises the first one behind an instant is right behind the last one up to it. -/
theorem lasN_rise {l : List CV} (hr : RisC l) {t : Int} {p : Nat} (hp : p ≤ l.length) (h1 : ∀ j c, j < p → l[j]? = some c → c.t ≤ t) (h2 : p = l.length ∨ ∃ c, l[p]? = some c ∧ t < c.t) : lasN l t l.length = (p : Int) - 1 := by
  have up : ∀ n, p ≤ n → n ≤ l.length → lasN l t n = lasN l t p := by
    intro n
    induction n with
    | zero => intro h _; rw [show p = 0 by omega]
    | succ n ih =>
      intro h hn
      by_cases e : p = n + 1
      · rw [e]
      · have hc : l[n]? = some (l[n]'(by omega)) := List.getElem?_eq_getElem (by omega)
        rw [lasN_no hc ?_, ih (by omega) (by omega)]
        rcases h2 with h2 | ⟨c, h2, h3⟩
        · omega
        · by_cases e2 : p = n
          · subst e2; rw [h2] at hc; injection hc with hc; rw [← hc]; omega
          · have := (List.pairwise_iff_getElem.1 hr) p n (by omega) (by omega) (by omega)
            obtain ⟨h4, h5⟩ := List.getElem?_eq_some_iff.1 h2
            rw [h5] at this
            omega
  rw [up l.length hp (Nat.le_refl _)]
  cases p with
  | zero => simp [lasN]
  | succ p =>
    have hc : l[p]? = some (l[p]'(by omega)) := List.getElem?_eq_getElem (by omega)
    rw [lasN_yes hc (h1 p _ (by omega) hc)]
    omega
/-- What is cut out. -/
def cutC (l : List CV) (a b : Int) : List CV := ((lasO l a).toList.map fun c => ⟨a, c.of, c.ds, c.ab⟩) ++ l.filter fun c => decide (a < c.t ∧ c.t ≤ b)
theorem ris_split {l : List CV} (hr : RisC l) (a t : Int) (h : a ≤ t) : (l.filter fun c => decide (c.t ≤ t)) = (l.filter fun c => decide (c.t ≤ a)) ++ l.filter fun c => decide (a < c.t ∧ c.t ≤ t) := by
  induction l with
  | nil => rfl
  | cons x l ih =>
    have hx := (List.pairwise_cons.1 hr).1
    have ih := ih (List.pairwise_cons.1 hr).2
    by_cases h1 : x.t ≤ a
    · rw [List.filter_cons_of_pos (by simp; omega), List.filter_cons_of_pos (by simpa using h1), List.filter_cons_of_neg (by simp; omega), ih, List.cons_append]
    · have hn : (l.filter fun c => decide (c.t ≤ a)) = [] := List.filter_eq_nil_iff.2 fun c hc => by have := hx c hc; simp; omega
      rw [hn] at ih
      rw [List.filter_cons_of_neg (p := fun c : CV => decide (c.t ≤ a)) (by simpa using h1), hn, List.nil_append]
      by_cases h2 : x.t ≤ t
      · rw [List.filter_cons_of_pos (by simpa using h2), List.filter_cons_of_pos (by simp; omega), ih, List.nil_append]
      · rw [List.filter_cons_of_neg (by simpa using h2), List.filter_cons_of_neg (by simp; omega), ih, List.nil_append]
theorem lasO_split {l : List CV} (hr : RisC l) {a t : Int} (h : a ≤ t) : lasO l t = ((l.filter fun c => decide (a < c.t ∧ c.t ≤ t)).getLast?).or (lasO l a) := by
  unfold lasO
  rw [ris_split hr a t h, List.getLast?_append]
theorem lasO_app (A B : List CV) (t : Int) : lasO (A ++ B) t = (lasO B t).or (lasO A t) := by
  unfold lasO
  rw [List.filter_append, List.getLast?_append]
theorem lasO_win (l : List CV) {a b t : Int} (h : t ≤ b) : lasO (l.filter fun c => decide (a < c.t ∧ c.t ≤ b)) t = (l.filter fun c => decide (a < c.t ∧ c.t ≤ t)).getLast? := by
  unfold lasO
  rw [List.filter_filter]
  congr 2
  funext c
  rw [Bool.eq_iff_iff]
  simp
  omega
theorem lasO_head (o : Option CV) {a t : Int} (h : a ≤ t) : lasO (o.toList.map fun c => (⟨a, c.of, c.ds, c.ab⟩ : CV)) t = o.map fun c => ⟨a, c.of, c.ds, c.ab⟩ := by
  cases o with
  | none => rfl
  | some c => simp [lasO, h]
/-- What is cut out shows what it shows there. -/
theorem ccut_at {l : List CV} (hr : RisC l) {a b t : Int} (h1 : a ≤ t) (h2 : t ≤ b) : (lasO (cutC l a b) t).map loC = (lasO l t).map loC := by
  rw [lasO_split hr h1]
  unfold cutC
  rw [lasO_app, lasO_win l h2, lasO_head _ h1]
  generalize lasO l a = o
  generalize (l.filter fun c => decide (a < c.t ∧ c.t ≤ t)).getLast? = q
  cases q <;> cases o <;> rfl
/-- Two cuts are one. -/
theorem ccut_cut {l : List CV} (hr : RisC l) {a b c d : Int} (h1 : a ≤ c) (h2 : c ≤ b) (h3 : d ≤ b) : cutC (cutC l a b) c d = cutC l c d := by
  have hat := ccut_at hr h1 h2
  have e1 : ∀ (A B : Option CV), A.map loC = B.map loC → (A.toList.map fun x => (⟨c, x.of, x.ds, x.ab⟩ : CV)) = B.toList.map fun x => ⟨c, x.of, x.ds, x.ab⟩ := by
    intro A B h
    cases A <;> cases B <;> simp [loC] at h ⊢
    exact h
  have e2 : ((cutC l a b).filter fun x => decide (c < x.t ∧ x.t ≤ d)) = l.filter fun x => decide (c < x.t ∧ x.t ≤ d) := by
    unfold cutC
    rw [List.filter_append, List.filter_filter]
    have : ((lasO l a).toList.map fun x => (⟨a, x.of, x.ds, x.ab⟩ : CV)).filter (fun x => decide (c < x.t ∧ x.t ≤ d)) = [] := List.filter_eq_nil_iff.2 fun x hx => by
      obtain ⟨y, -, rfl⟩ := List.mem_map.1 hx
      simp; omega
    rw [this, List.nil_append]
    congr 1
    funext x
    rw [Bool.eq_iff_iff]
    simp
    omega
  show ((lasO (cutC l a b) c).toList.map fun x => (⟨c, x.of, x.ds, x.ab⟩ : CV)) ++ ((cutC l a b).filter fun x => decide (c < x.t ∧ x.t ≤ d)) = ((lasO l c).toList.map fun x => (⟨c, x.of, x.ds, x.ab⟩ : CV)) ++ l.filter fun x => decide (c < x.t ∧ x.t ≤ d)
  rw [e1 _ _ hat, e2]
/-- What is left if those are left away that show what the one ahead of them shows. -/
def mrgC : Option LoV → List CV → List CV
  | _, [] => []
  | o, c :: l => if o = some (loC c) then mrgC o l else c :: mrgC (some (loC c)) l
def endC (o : Option LoV) (l : List CV) : Option LoV := match l.getLast? with | some c => some (loC c) | none => o
theorem endC_cons (o : Option LoV) (c : CV) (l : List CV) : endC o (c :: l) = endC (some (loC c)) l := by
  unfold endC
  cases l with
  | nil => rfl
  | cons d l =>
    rw [List.getLast?_cons_cons]
    obtain ⟨z, hz⟩ : ∃ z, (d :: l).getLast? = some z := ⟨_, List.getLast?_eq_some_getLast (by simp)⟩
    rw [hz]
theorem endC_snoc (o : Option LoV) (l : List CV) (c : CV) : endC o (l ++ [c]) = some (loC c) := by unfold endC; rw [List.getLast?_concat]
theorem cmr_app : ∀ (A B : List CV) (o : Option LoV), mrgC o (A ++ B) = mrgC o A ++ mrgC (endC o A) B
  | [], B, o => rfl
  | c :: A, B, o => by
    rw [List.cons_append, mrgC, mrgC, endC_cons]
    split
    · rename_i h; rw [cmr_app A B o, h]
    · rw [cmr_app A B, List.cons_append]
theorem cmr_snoc (o : Option LoV) (A : List CV) (c : CV) : mrgC o (A ++ [c]) = mrgC o A ++ if endC o A = some (loC c) then [] else [c] := by
  rw [cmr_app, mrgC]; split <;> rfl
theorem cmr_sub : ∀ (o : Option LoV) (l : List CV), (mrgC o l).Sublist l
  | _, [] => List.Sublist.refl _
  | o, c :: l => by
    rw [mrgC]
    split
    · exact (cmr_sub o l).cons _
    · exact (cmr_sub _ l).cons_cons _
theorem cmr_ris {l : List CV} (h : RisC l) (o : Option LoV) : RisC (mrgC o l) := h.sublist (cmr_sub o l)
/-- The last one that is left shows what the last one of all shows. -/
theorem cmr_end : ∀ (l : List CV) (o : Option LoV), endC o (mrgC o l) = endC o l
  | [], _ => rfl
  | c :: l, o => by
    rw [mrgC, endC_cons]
    split
    · rename_i h; rw [cmr_end l o, h]
    · rw [endC_cons, cmr_end l]
/-- Twice is once. -/
theorem cmr_mrg : ∀ (l : List CV) (o : Option LoV), mrgC o (mrgC o l) = mrgC o l
  | [], _ => rfl
  | c :: l, o => by
    conv => lhs; rw [mrgC]
    conv => rhs; rw [mrgC]
    split
    · exact cmr_mrg l o
    · rename_i h
      rw [mrgC, if_neg h, cmr_mrg l]
theorem ris_parts {l : List CV} (h : RisC l) (t : Int) : l = (l.filter fun c => decide (c.t ≤ t)) ++ l.filter fun c => decide (t < c.t) := by
  induction l with
  | nil => rfl
  | cons x l ih =>
    have hx := (List.pairwise_cons.1 h).1
    have ih := ih (List.pairwise_cons.1 h).2
    by_cases h1 : x.t ≤ t
    · rw [List.filter_cons_of_pos (by simpa using h1), List.filter_cons_of_neg (by simp; omega), List.cons_append, ← ih]
    · have hn : (l.filter fun c => decide (c.t ≤ t)) = [] := List.filter_eq_nil_iff.2 fun c hc => by have := hx c hc; simp; omega
      rw [hn, List.nil_append] at ih
      rw [List.filter_cons_of_neg (by simpa using h1), hn, List.nil_append, List.filter_cons_of_pos (by simp; omega), ← ih]
theorem lasO_end (l : List CV) (t : Int) : (lasO l t).map loC = endC none (l.filter fun c => decide (c.t ≤ t)) := by
  unfold lasO endC
  split <;> rename_i h <;> rw [h] <;> rfl
/-- What is left shows the same throughout. -/
theorem cmr_at {l : List CV} (h : RisC l) (t : Int) : (lasO (mrgC none l) t).map loC = (lasO l t).map loC := by
  rw [lasO_end, lasO_end]
  have hp := ris_parts h t
  generalize hA : (l.filter fun c => decide (c.t ≤ t)) = A at hp
  generalize hB : (l.filter fun c => decide (t < c.t)) = B at hp
  have h1 : ∀ c ∈ A, c.t ≤ t := fun c hc => by rw [← hA] at hc; simpa using (List.mem_filter.1 hc).2
  have h2 : ∀ c ∈ B, t < c.t := fun c hc => by rw [← hB] at hc; simpa using (List.mem_filter.1 hc).2
  rw [hp, cmr_app, List.filter_append]
  have e1 : ((mrgC none A).filter fun c => decide (c.t ≤ t)) = mrgC none A := List.filter_eq_self.2 fun c hc => by simpa using h1 c ((cmr_sub none A).subset hc)
  have e2 : ((mrgC (endC none A) B).filter fun c => decide (c.t ≤ t)) = [] := List.filter_eq_nil_iff.2 fun c hc => by have := h2 c ((cmr_sub _ B).subset hc); simp; omega
  rw [e1, e2, List.append_nil, cmr_end]
/-- How far the law's counter has come. -/
theorem cmr_take {l : List CV} {i : Nat} {c : CV} (h : l[i]? = some c) : mrgC none (l.take (i + 1)) = mrgC none (l.take i) ++ if endC none (l.take i) = some (loC c) then [] else [c] := by
  obtain ⟨h1, h2⟩ := List.getElem?_eq_some_iff.1 h
  rw [List.take_succ_eq_append_getElem h1, h2, cmr_snoc]
theorem cmr_pre (l : List CV) (i : Nat) : mrgC none (l.take i) <+: mrgC none l := by
  conv => rhs; rw [← List.take_append_drop i l]
  rw [cmr_app]
  exact List.prefix_append _ _
theorem endC_take {l : List CV} {i : Nat} {c : CV} (h : l[i]? = some c) : endC none (l.take (i + 1)) = some (loC c) := by
  obtain ⟨h1, h2⟩ := List.getElem?_eq_some_iff.1 h
  rw [List.take_succ_eq_append_getElem h1, h2, endC_snoc]
end Go.Proofs.YtdmfgechoanmlaaGreatDoor
