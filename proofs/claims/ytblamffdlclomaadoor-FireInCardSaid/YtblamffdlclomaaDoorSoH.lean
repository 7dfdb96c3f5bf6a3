/- A row of structs that the call made itself: sorted. -/
import Derived.Test.YtblamffdlclomaaDoorSoG
namespace Go.Proofs.YtblamffdlclomaaDoor
open Go Go.RowKit Go.Sort Go.Lib
section
variable {α : Type}

/-- The cells of things, one behind the other. -/
def fcl (f : α → List Value) (l : List α) : List Value := l.flatMap f
@[simp] theorem fcl_nil (f : α → List Value) : fcl f [] = [] := rfl
theorem fcl_app (f : α → List Value) (l m : List α) : fcl f (l ++ m) = fcl f l ++ fcl f m := by simp [fcl]
theorem fcl_len {f : α → List Value} {k : Nat} (hk : ∀ x, (f x).length = k) (l : List α) : (fcl f l).length = l.length * k := by
  induction l with
  | nil => simp
  | cons x r ih => show (f x ++ fcl f r).length = _; rw [List.length_append, hk, ih, List.length_cons, Nat.add_mul]; omega
theorem fcl_at {f : α → List Value} {k : Nat} (hk : ∀ x, (f x).length = k) {l : List α} {i c : Nat} {x : α} (hx : l[i]? = some x) (hc : c < k) : (fcl f l)[i * k + c]? = (f x)[c]? := by
  induction l generalizing i with
  | nil => simp at hx
  | cons y r ih =>
    show (f y ++ fcl f r)[i * k + c]? = _
    cases i with
    | zero =>
      simp at hx; subst hx
      rw [Nat.zero_mul, Nat.zero_add, List.getElem?_append_left (by rw [hk]; exact hc)]
    | succ i =>
      rw [List.getElem?_append_right (by rw [hk, Nat.add_mul]; omega), hk, show (i + 1) * k + c - k = i * k + c by rw [Nat.add_mul]; omega]
      exact ih (by simpa using hx)
theorem fcl_one {f : α → List Value} (h1 : ∀ x, ∀ v ∈ f x, v.oneCell' = true) (l : List α) : ∀ u ∈ fcl f l, u.oneCell' = true := by
  intro u hu
  obtain ⟨x, -, hx⟩ := List.mem_flatMap.1 hu
  exact h1 x u hx
variable [Inhabited α]
theorem holds_own {f : α → List Value} {k : Nat} (hk : ∀ x, (f x).length = k) {l : List α} {W : World} {base g n c : Nat} {e : TypeId} (h : W.ownsRow base e k (.slice (some ⟨g, 0, none⟩) n c) n (fcl f l)) (hn : l.length = n) : HoldsK f k W g 0 l.toArray := by
  rcases h.2 with ⟨h0, -⟩ | ⟨g', cap, cur, e1, -, hb, -, -, -, hc⟩
  · cases h0
  · cases e1
    intro t ht
    have ht' : t < l.length * k := by simpa using ht
    have k0 : 0 < k := by rcases Nat.eq_zero_or_pos k with h | h; · subst h; simp at ht'
                          · exact h
    have hi : t / k < l.length := Nat.div_lt_of_lt_mul (by rwa [Nat.mul_comm] at ht')
    have hmod := Nat.mod_lt t k0
    have hv := fcl_at hk (List.getElem?_eq_getElem hi) hmod
    rw [Nat.div_add_mod' t k] at hv
    have hcell : cur.toList[t]? = (f l[t / k])[t % k]? := by
      rw [← hv, ← hc, List.getElem?_take, if_pos (by rw [← hn]; exact ht')]
    refine ⟨?_, by simp [World.frozen?, hb]⟩
    rw [get_flatK f k l.toArray t (by simpa using ht'), Nat.zero_add]
    have e2 : l.toArray[t / k]! = l[t / k] := by simp [hi]
    have e3 : (f l[t / k])[t % k]? = some ((f l[t / k])[t % k]!) := by
      rw [List.getElem?_eq_getElem (by rw [hk]; exact hmod)]
      congr 1
      rw [List.getElem!_eq_getElem?_getD, List.getElem?_eq_getElem (by rw [hk]; exact hmod)]; rfl
    rw [e2]
    show W.cell? ⟨g, t, none⟩ = some ((f l[t / k])[t % k]!)
    rw [← e3, ← hcell]
    have := cell_of_row W g t _ _ _ hb
    rw [this]; simp
theorem sortw_below (f : α → List Value) (k : Nat) {W : World} {g off B : Nat} (hB : B ≤ g) (hW : B ≤ W.heap.size) {d : Array α} {W' : World} (h : SWK f k W g off d W') : Below B W W' := by
  obtain ⟨n, os, rfl⟩ := h
  refine ⟨rfl, rfl, rfl, ?_, fun j hj => ?_⟩
  · simp [sortWorldK, size_putRowK, Sort.ahead]
  · show ((W.heap.modify g _) ++ os)[j]? = _
    rw [Array.getElem?_append_left (by rw [Array.size_modify]; omega), Array.getElem?_modify, if_neg (by omega)]
theorem swk_other {f : α → List Value} {k : Nat} {W : World} {g off : Nat} {d : Array α} {W' : World} (h : SWK f k W g off d W') {j : Nat} (hj : j ≠ g) (hl : j < W.heap.size) : W'.heap[j]? = W.heap[j]? := by
  obtain ⟨n, os, rfl⟩ := h
  show ((W.heap.modify g _) ++ os)[j]? = _
  rw [Array.getElem?_append_left (by rw [Array.size_modify]; omega), Array.getElem?_modify, if_neg (by omega)]
theorem swk_cell {f : α → List Value} {k : Nat} {W : World} {g : Nat} {l m : List α} {W' : World} (h : SWK f k W g 0 m.toArray W') (hg : g < W.heap.size) (h0 : HoldsK f k W g 0 l.toArray) (hl : m.length = l.length) {i c : Nat} {x : α} {v : Value} (hx : m[i]? = some x) (hv : (f x)[c]? = some v) (hc : c < k) : W'.cell? ⟨g, i * k + c, none⟩ = some v := by
  have hi := (List.getElem?_eq_some_iff.1 hx).1
  have := (HoldsK.cell (h.holds hg h0 (by simpa using hl)) (i := i) (c := c) (by simpa using hi) hc).1
  rw [Nat.zero_add] at this
  rw [this]
  have e : m.toArray[i]! = x := by simp only [List.getElem!_toArray]; rw [List.getElem!_eq_getElem?_getD, hx]; rfl
  rw [e, List.getElem!_eq_getElem?_getD, hv]; rfl
end
end Go.Proofs.YtblamffdlclomaaDoor
