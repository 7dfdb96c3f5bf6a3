/- A row of structs that is sorted: what a walk wants at an exchange, and at a comparison. -/
import Derived.Test.YtblamffdlclomaaDoorSoP
import Derived.Shelf.SlSortCmp.KitK
import Derived.Test.YtblamffdlclomaaDoorProg
namespace Go.Proofs.YtblamffdlclomaaDoor
open Go Go.RowKit Go.Sort Go.Lib
section
variable {α : Type} [Inhabited α]

theorem at_row {l P M Q : List α} {a b : α} (h : l = P ++ a :: (M ++ b :: Q)) : l.toArray[P.length]! = a ∧ l.toArray[P.length + 1 + M.length]! = b ∧ P.length + 1 + M.length < l.length := by
  subst h
  refine ⟨by simp, ?_, by simp; omega⟩
  simp only [List.getElem!_toArray]
  rw [List.getElem!_eq_getElem?_getD, List.getElem?_append_right (by omega), show P.length + 1 + M.length - P.length = M.length + 1 by omega, List.getElem?_cons_succ, List.getElem?_append_right (Nat.le_refl _)]
  simp
theorem swp_row {l P M Q : List α} {a b : α} (h : l = P ++ a :: (M ++ b :: Q)) :
    swp l.toArray P.length (P.length + 1 + M.length) = (P ++ b :: (M ++ a :: Q)).toArray ∧ swp l.toArray (P.length + 1 + M.length) P.length = (P ++ b :: (M ++ a :: Q)).toArray := by
  obtain ⟨h1, h2, -⟩ := at_row h
  unfold swp
  rw [h1, h2, List.setIfInBounds_toArray, List.setIfInBounds_toArray, List.setIfInBounds_toArray, List.setIfInBounds_toArray, h, set_two, set_two']
  exact ⟨rfl, rfl⟩

variable {enc : α → List Value} {k : Nat} {w0 : World} {blk off : Nat} {d0 : Array α}
/-- An exchange of the things at i and j: the two loads, the two runs of stores, and the row behind them. -/
def Xch (enc : α → List Value) (k : Nat) (w0 : World) (blk off i j : Nat) (x y : α) (l' : List α) (W : World) : Prop :=
  Sem.run Tryd.prog (loadCellsFrom ⟨blk, off + i * k, none⟩ 0 k #[]) W.drew = .ok (enc x).toArray W.drew ∧
  Sem.run Tryd.prog (loadCellsFrom ⟨blk, off + j * k, none⟩ 0 k #[]) W.drew = .ok (enc y).toArray W.drew ∧
  Sem.run Tryd.prog (storeCells ⟨blk, off + i * k, none⟩ (enc y) 0) W.drew = .ok () (W.drew.setCells blk (off + i * k) (enc y)) ∧
  Sem.run Tryd.prog (storeCells ⟨blk, off + j * k, none⟩ (enc x) 0) (W.drew.setCells blk (off + i * k) (enc y)) = .ok () ((W.drew.setCells blk (off + i * k) (enc y)).setCells blk (off + j * k) (enc x)) ∧
  (enc x).length = k ∧ (enc y).length = k ∧
  SWK enc k w0 blk off l'.toArray ((W.drew.setCells blk (off + i * k) (enc y)).setCells blk (off + j * k) (enc x))
theorem xch_any {W : World} {l l' : List α} {x y : α} {i j : Nat} (S : SWK enc k w0 blk off l.toArray W) (R : RowK enc k w0 blk off d0) (hs : l.length = d0.size) (hi : i < l.length) (hj : j < l.length) (hx : l.toArray[i]! = x) (hy : l.toArray[j]! = y) (hl : swp l.toArray i j = l'.toArray) :
    Xch enc k w0 blk off i j x y l' W := by
  have S1 := S.swapped R i j (by simpa using hi) (by simpa using hj)
  have a1 := S.ld1 R (by simpa using hs) Tryd.prog i (by simpa using hi)
  have a2 := S.ld1 R (by simpa using hs) Tryd.prog j (by simpa using hj)
  have a3 := S.st1 R (by simpa using hs) Tryd.prog i (by simpa using hi) y
  have a4 := S.st2 R (by simpa using hs) Tryd.prog i j (by simpa using hi) (by simpa using hj) y x
  rw [hx] at a1 S1
  rw [hy] at a2 S1
  rw [hl] at S1
  exact ⟨a1, a2, a3, a4, R.hk _, R.hk _, S1⟩
/-- The things at i and, behind it, at j. -/
theorem xch_up {W : World} {l P M Q : List α} {a b : α} {i j : Nat} (S : SWK enc k w0 blk off l.toArray W) (R : RowK enc k w0 blk off d0) (hs : l.length = d0.size) (h : l = P ++ a :: (M ++ b :: Q)) (hi : i = P.length) (hj : j = P.length + 1 + M.length) :
    Xch enc k w0 blk off i j a b (P ++ b :: (M ++ a :: Q)) W := by
  obtain ⟨h1, h2, h3⟩ := at_row h
  subst hi hj
  exact xch_any S R hs (by omega) h3 h1 h2 (swp_row h).1
theorem xch_down {W : World} {l P M Q : List α} {a b : α} {i j : Nat} (S : SWK enc k w0 blk off l.toArray W) (R : RowK enc k w0 blk off d0) (hs : l.length = d0.size) (h : l = P ++ a :: (M ++ b :: Q)) (hi : i = P.length) (hj : j = P.length + 1 + M.length) :
    Xch enc k w0 blk off j i b a (P ++ b :: (M ++ a :: Q)) W := by
  obtain ⟨h1, h2, h3⟩ := at_row h
  subst hi hj
  exact xch_any S R hs h3 (by omega) h2 h1 (swp_row h).2

/-- A comparison of the things at i and j: the two loads, in whatever world of the class, and the call. -/
def Cmpd (enc : α → List Value) (k : Nat) (g : Nat) (cb : Array Value) (v : Int) (blk off i j : Nat) (x y : α) (W : World) : Prop :=
  (∀ n os, Sem.run Tryd.prog (loadCellsFrom ⟨blk, off + i * k, none⟩ 0 k #[]) (grow (W.drewN n) os) = .ok (enc x).toArray (grow (W.drewN n) os)) ∧
  (∀ n os, Sem.run Tryd.prog (loadCellsFrom ⟨blk, off + j * k, none⟩ 0 k #[]) (grow (W.drewN n) os) = .ok (enc y).toArray (grow (W.drewN n) os)) ∧
  (enc x).length = k ∧ (enc y).length = k ∧
  (∀ n os, Calls Tryd.prog g (#[.agg (enc x).toArray, .agg (enc y).toArray] ++ cb) (grow (W.drewN n) os) fun e w' => e = .returned (.int .i64 v) ∧ ∃ q os', w' = grow ((grow (W.drewN n) os).drewN q) os')
theorem cmpd_any {g : Nat} {cb : Array Value} {cf : α → α → Int} {W : World} {l : List α} {x y : α} {i j : Nat} (S : SWK enc k w0 blk off l.toArray W) (R : RowK enc k w0 blk off d0) (C : CmpLays Tryd.prog g cb enc k cf blk off d0.size w0) (hs : l.length = d0.size)
    (hx : l[i]? = some x) (hy : l[j]? = some y) : Cmpd enc k g cb (cf x y) blk off i j x y W := by
  have hi : i < l.length := (List.getElem?_eq_some_iff.1 hx).1
  have hj : j < l.length := (List.getElem?_eq_some_iff.1 hy).1
  have ex : l.toArray[i]! = x := by simp only [List.getElem!_toArray]; rw [List.getElem!_eq_getElem?_getD, hx]; rfl
  have ey : l.toArray[j]! = y := by simp only [List.getElem!_toArray]; rw [List.getElem!_eq_getElem?_getD, hy]; rfl
  refine ⟨fun n os => ?_, fun n os => ?_, R.hk _, R.hk _, fun n os => S.cmp C (by simpa using hs) x y n os⟩
  · rw [← ex]; exact S.ld R (by simpa using hs) Tryd.prog i (by simpa using hi) n os
  · rw [← ey]; exact S.ld R (by simpa using hs) Tryd.prog j (by simpa using hj) n os
end
end Go.Proofs.YtblamffdlclomaaDoor
