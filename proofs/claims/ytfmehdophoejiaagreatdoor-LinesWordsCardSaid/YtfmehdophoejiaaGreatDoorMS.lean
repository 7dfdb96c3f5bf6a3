/- The contracts of dayform.dates and of its closure: the dates from one on, each one a step further, are handed, with their days of the week, to whatever loop they are ranged over by.
The contracts of dayform.dates and search: the first date, from one on, each one a step further, that a day of a month is, or that none has a year; nothing that was in memory changes.
The contracts of dayform.In, and of the law's awake: which date a day of a month is in a month, or that there is none; nothing that was in memory changes. -/
import Derived.Test.YtfmehdophoejiaaGreatDoorME
import Derived.Test.YtfmehdophoejiaaGreatDoorMA
import Derived.Sort.QuietIn
import Derived.Stop.RegionWithIn
import Derived.BigRegionIn
import Derived.LoopNIn
import Derived.LoopIn
import Derived.WalkMore
import Derived.Shelf.Abstract
import Derived.Test.YtfmehdophoejiaaGreatDoorMK
namespace Go.Proofs.YtfmehdophoejiaaGreatDoor
open Go.RowKit
attribute [local go_sem] Oper.semAt_some

abbrev Dx : Type := { x : Int × Int × Int // okD x.1 x.2.1 x.2.2 }
def dD (x : Dx) : Int := dayN x.1.1 x.1.2.1 x.1.2.2
def dxV (x : Dx) : Array Value := #[.agg #[.int .i64 x.1.1, .int .i64 x.1.2.1, .int .i64 x.1.2.2], .int .i64 (wkD (dD x))]
/-- The dates lie one step after another, from day a on. -/
def RowD (a st : Int) (xs : List Dx) : Prop := ∀ (i : Nat) (z : Dx), xs[i]? = some z → dD z = a + st * (i : Int)
theorem row_nil (a st : Int) : RowD a st [] := fun i z h => by simp at h
theorem row_snoc {a st : Int} {xs : List Dx} {z : Dx} (h : RowD a st xs) (hz : dD z = a + st * (xs.length : Int)) : RowD a st (xs ++ [z]) := fun i u hu => by
  by_cases hi : i < xs.length
  · rw [List.getElem?_append_left hi] at hu; exact h i u hu
  · rw [List.getElem?_append_right (by omega)] at hu
    by_cases he : i = xs.length
    · subst he
      simp at hu
      rw [← hu]; exact hz
    · rw [List.getElem?_eq_none (by simp; omega)] at hu; cases hu
theorem dx_in (x : Dx) : inR (dD x) := day_bd x.2

theorem day_step {st a : Int} {n : Nat} (hs : st = 1 ∨ st = -1) (h0 : inR a) (h1 : inR (a + st * (n : Int))) : n < 80000000 := by
  unfold inR at h0 h1
  rcases hs with rfl | rfl <;> omega

theorem drawn_below (B : Nat) (W : World) (n : Nat) : Below B W (W.drewN n) := ⟨rfl, rfl, rfl, Nat.le_refl _, fun _ _ => rfl⟩
theorem set_three {W : World} {g : Nat} {a b c x y z : Int} {t : TypeId} (h : W.heap[g]? = some (.cells #[.int .i64 a, .int .i64 b, .int .i64 c] t (0, 0))) :
    (((W.setCell ⟨g, 0, none⟩ (.int .i64 x)).setCell ⟨g, 1, none⟩ (.int .i64 y)).setCell ⟨g, 2, none⟩ (.int .i64 z)).heap[g]? = some (.cells #[.int .i64 x, .int .i64 y, .int .i64 z] t (0, 0)) := by
  have := tset (i := 2) (tset (i := 1) (tset (i := 0) h (.int .i64 x)) (.int .i64 y)) (.int .i64 z)
  simpa using this
theorem below_three {W : World} {g B : Nat} (hg : B ≤ g) (x y z : Int) : Below B W (((W.setCell ⟨g, 0, none⟩ (.int .i64 x)).setCell ⟨g, 1, none⟩ (.int .i64 y)).setCell ⟨g, 2, none⟩ (.int .i64 z)) :=
  (((Below.refl B W).setCell (p := ⟨g, 0, none⟩) hg _).setCell (p := ⟨g, 1, none⟩) hg _).setCell (p := ⟨g, 2, none⟩) hg _
/-- Where a block of three numbers lies, its cells read so, and may be written. -/
theorem three_at {W : World} {g : Nat} {a b c : Int} {t : TypeId} (h : W.heap[g]? = some (.cells #[.int .i64 a, .int .i64 b, .int .i64 c] t (0, 0))) :
    W.cell? ⟨g, 0, none⟩ = some (.int .i64 a) ∧ W.cell? ⟨g, 1, none⟩ = some (.int .i64 b) ∧ W.cell? ⟨g, 2, none⟩ = some (.int .i64 c) ∧ W.frozen? ⟨g, 0, none⟩ = false ∧ W.frozen? ⟨g, 1, none⟩ = false ∧ W.frozen? ⟨g, 2, none⟩ = false ∧ g < W.heap.size :=
  ⟨cell_of_row W g 0 _ _ (0, 0) h, cell_of_row W g 1 _ _ (0, 0) h, cell_of_row W g 2 _ _ (0, 0) h, by simp [World.frozen?, h], by simp [World.frozen?, h], by simp [World.frozen?, h], (Array.getElem?_eq_some_iff.1 h).1⟩

theorem step_sum (a st : Int) (k : Nat) : a + st * (k : Int) + st = a + st * ((k + 1 : Nat) : Int) := by
  rw [Int.natCast_add, Int.mul_add]; show _ = a + (st * (k : Int) + st * 1); omega

/-- What a round's end tells, as one value. -/
theorem yield_one {e : Ending} {A B : Prop} (h : (e = .returned (.bool true) ∧ A) ∨ (e = .returned (.bool false) ∧ B)) : ∃ b : Bool, e = .returned (.bool b) ∧ Hid ((b = true ∧ A) ∨ (b = false ∧ B)) := by
  rcases h with ⟨rfl, h⟩ | ⟨rfl, h⟩
  · exact ⟨true, rfl, Lib.hid (.inl ⟨rfl, h⟩)⟩
  · exact ⟨false, rfl, Lib.hid (.inr ⟨rfl, h⟩)⟩

end Go.Proofs.YtfmehdophoejiaaGreatDoor

namespace Go.Proofs.YtfmehdophoejiaaGreatDoor
open Go.RowKit Go.Shelf
attribute [local go_sem] Oper.semAt_some

theorem fscope_in {c : Code} {n : Nat} {Q : Exit → Act → World → Prop} {a : Act} {w : World} (h : c.wpIn Fence.wide n Tryz.prog (Exit.noGoto Q) a w) : (Code.scope c).wpIn Fence.wide n Tryz.prog Q a w := wpIn_wide.2 (wp_scope_straight (wpIn_wide.1 h))
/-- The date that is meant, or that it has no year. -/
def SomeHit (h : Int) (w : World) (e : Ending) (w' : World) : Prop := Below w.heap.size w w' ∧
  ((∃ y m d : Int, okD y m d ∧ dayN y m d = h ∧ e = .returned (.tuple #[.agg #[.int .i64 y, .int .i64 m, .int .i64 d], .int .i64 0])) ∨ (¬ inR h ∧ e = .returned (.tuple #[.agg #[.int .i64 0, .int .i64 0, .int .i64 0], .int .i64 10])))

/-- What search's variables hold: the day, where the date is laid, what is found, and the error. -/
structure SrchV (w : World) (S R F E : Nat) (k wk n y m d e0 : Int) (W : World) : Prop where
  bel : Below w.heap.size w W
  dy : W.heap[S]? = some (.cells #[.int .i64 k, .int .i64 wk, .int .i64 n] 30 (0, 0))
  rs : W.heap[R]? = some (.cells #[.int .i64 0, .int .i64 0, .int .i64 0] 120 (0, 0))
  fd : W.heap[F]? = some (.cells #[.int .i64 y, .int .i64 m, .int .i64 d] 120 (0, 0))
  er : W.heap[E]? = some (.cells #[.int .i64 e0] 24 (0, 0))
theorem SrchV.next {w : World} {S R F E : Nat} {k wk n y m d e0 : Int} {W X : World} {B : Nat} (h : SrchV w S R F E k wk n y m d e0 W) (k' : Below B W X) (h0 : w.heap.size ≤ B) (h1 : S < B) (h2 : R < B) (h3 : F < B) (h4 : E < B) : SrchV w S R F E k wk n y m d e0 X :=
  ⟨h.bel.trans (k'.mono h0), (k'.block _ h1).trans h.dy, (k'.block _ h2).trans h.rs, (k'.block _ h3).trans h.fd, (k'.block _ h4).trans h.er⟩

theorem alloc_kept {W : World} {j : Nat} {x : Obj} (h : W.heap[j]? = some x) (o : Obj) : (W.alloc o).heap[j]? = some x := (Below.heap_alloc W o j (Array.getElem?_eq_some_iff.1 h).1).trans h

theorem SrchV.found {w : World} {S R F E : Nat} {k wk n y m d e0 : Int} {W : World} (h : SrchV w S R F E k wk n y m d e0 W) (hF : w.heap.size ≤ F) (hE : w.heap.size ≤ E) (n1 : S ≠ F) (n2 : S ≠ E) (n3 : R ≠ F) (n4 : R ≠ E) (n5 : F ≠ E) (x1 x2 x3 x4 : Int) :
    SrchV w S R F E k wk n x1 x2 x3 x4 ((((W.setCell ⟨F, 0, none⟩ (.int .i64 x1)).setCell ⟨F, 1, none⟩ (.int .i64 x2)).setCell ⟨F, 2, none⟩ (.int .i64 x3)).setCell ⟨E, 0, none⟩ (.int .i64 x4)) := by
  have o3 : ∀ j, j ≠ F → (((W.setCell ⟨F, 0, none⟩ (.int .i64 x1)).setCell ⟨F, 1, none⟩ (.int .i64 x2)).setCell ⟨F, 2, none⟩ (.int .i64 x3)).heap[j]? = W.heap[j]? := fun j hj =>
    ((Below.heap_setCell _ _ _ j (by show j ≠ F; exact hj)).trans (Below.heap_setCell _ _ _ j (by show j ≠ F; exact hj))).trans (Below.heap_setCell _ _ _ j (by show j ≠ F; exact hj))
  have o4 : ∀ (X : World) (j : Nat), j ≠ E → (X.setCell ⟨E, 0, none⟩ (.int .i64 x4)).heap[j]? = X.heap[j]? := fun X j hj => Below.heap_setCell _ _ _ j (by show j ≠ E; exact hj)
  exact ⟨(h.bel.trans (below_three hF _ _ _)).setCell (p := ⟨E, 0, none⟩) hE _, ((o4 _ _ n2).trans (o3 _ n1)).trans h.dy, ((o4 _ _ n4).trans (o3 _ n3)).trans h.rs, (o4 _ _ n5).trans (set_three h.fd), by simpa using tset (i := 0) ((o3 _ (Ne.symm n5)).trans h.er) (.int .i64 x4)⟩

/-- Behind the loop: what is handed back lies where it was stored, and the block for deferred calls is shut. -/
theorem fin_row {W X : World} {R D : Nat} {a b c x y z : Int} {t : TypeId} {o : Obj} (hr : W.heap[R]? = some (.cells #[.int .i64 a, .int .i64 b, .int .i64 c] t (0, 0))) (hd : W.heap[D]? = some o) (ho : o.isCells = false)
    (hX : ((W.setCell ⟨R, 0, none⟩ (.int .i64 x)).setCell ⟨R, 1, none⟩ (.int .i64 y)).setCell ⟨R, 2, none⟩ (.int .i64 z) = X) :
    X.drew.heap[D]? = some o ∧ (∀ o' : Obj, (X.drew.putObj D o').heap[R]? = some (.cells #[.int .i64 x, .int .i64 y, .int .i64 z] t (0, 0))) ∧ ∀ (B : Nat) (o' : Obj), B ≤ R → B ≤ D → Below B W (X.drew.putObj D o') := by
  have hne : D ≠ R := fun e => by
    subst e
    rw [hr] at hd
    cases hd
    cases ho
  have o3 : X.heap[D]? = W.heap[D]? := by
    rw [← hX]
    exact ((Below.heap_setCell _ _ _ D (by show D ≠ R; exact hne)).trans (Below.heap_setCell _ _ _ D (by show D ≠ R; exact hne))).trans (Below.heap_setCell _ _ _ D (by show D ≠ R; exact hne))
  have s3 : X.heap[R]? = some (.cells #[.int .i64 x, .int .i64 y, .int .i64 z] t (0, 0)) := by rw [← hX]; exact set_three hr
  have kb : ∀ B, B ≤ R → Below B W X := fun B hB => by rw [← hX]; exact below_three hB x y z
  have hl := (Array.getElem?_eq_some_iff.1 hd).1
  clear hX
  have e : X.drew.heap = X.heap := rfl
  refine ⟨by rw [e]; exact o3.trans hd, fun o' => (World.putObj_heap_other (Ne.symm hne)).trans (by rw [e]; exact s3), fun B o' h1 h2 => ?_⟩
  have k := kb B h1
  have ks := k.size
  exact (k.drew).grown (grownBy_putObj' X.drew D o') (by rw [e]; omega) (fun k e => by cases e; omega)

theorem hit_row {k wk a st : Int} {xs : List Dx} (hk : k ≠ 0) (h0 : 0 ≤ wk) (h6 : wk ≤ 6) (hs : st = if k = 2 then 1 else -1) (hr : RowD a st xs) (hu : ∀ z ∈ xs, wkD (dD z) ≠ wk) : ∀ j : Nat, j ≤ xs.length → hitD k wk (a + st * (j : Int)) = hitD k wk a
  | 0, _ => by simp
  | j + 1, hj => by
    obtain ⟨z, hz⟩ : ∃ z, xs[j]? = some z := ⟨_, List.getElem?_eq_getElem (by omega)⟩
    have hd := hr j z hz
    have hn := hit_next (a := a + st * (j : Int)) (wk := wk) hk h0 h6 hs (by rw [← hd]; exact hu z (List.mem_of_getElem? hz))
    rw [step_sum] at hn
    rw [hn, hit_row hk h0 h6 hs hr hu j (by omega)]
/-- The loop's end: none has a year. -/
theorem hit_done {k wk a st : Int} {xs : List Dx} (hk : k ≠ 0) (h0 : 0 ≤ wk) (h6 : wk ≤ 6) (hs : st = if k = 2 then 1 else -1) (ha : inR a) (hr : RowD a st xs) (hu : ∀ z ∈ xs, wkD (dD z) ≠ wk) (ho : ¬ inR (a + st * (xs.length : Int))) : ¬ inR (hitD k wk a) := by
  rw [← hit_row hk h0 h6 hs hr hu xs.length (Nat.le_refl _)]
  unfold hitD
  rw [if_neg hk]
  unfold inR at ho ha ⊢
  by_cases h2 : k = 2
  · rw [if_pos h2] at hs
    subst hs
    have := up_spec (a + 1 * (xs.length : Int)) wk h0 h6
    rw [if_pos h2]
    omega
  · rw [if_neg h2] at hs
    subst hs
    have := dn_spec (a + -1 * (xs.length : Int)) wk h0 h6
    rw [if_neg h2]
    omega
/-- A round that leaves: its date is the one. -/
theorem hit_stop {k wk a st : Int} {q : List Dx} {z : Dx} (h0 : 0 ≤ wk) (h6 : wk ≤ 6) (hs : k ≠ 0 → st = if k = 2 then 1 else -1) (hr : RowD a st (q ++ [z])) (hu : ∀ u ∈ q, k ≠ 0 ∧ wkD (dD u) ≠ wk) (hz : k = 0 ∨ wkD (dD z) = wk) : dD z = hitD k wk a := by
  have hd := hr q.length z (by simp)
  by_cases hk : k = 0
  · subst hk
    cases q with
    | nil => rw [hd]; simp [hitD]
    | cons u r => exact absurd rfl (hu u (by simp)).1
  · have hz' := hz.resolve_left hk
    have hr' : RowD a st q := fun i u hi => hr i u (by rw [List.getElem?_append_left (List.getElem?_eq_some_iff.1 hi).1]; exact hi)
    have := hit_row hk h0 h6 (hs hk) hr' (fun u hu' => (hu u hu').2) q.length (Nat.le_refl _)
    rw [← this, ← hd]
    exact (hit_same hz').symm

/-- What is known between two rounds of search. -/
def SrI (w : World) (S R F E : Nat) (k wk n : Int) (pre : List Dx) (W : World) : Prop := (∀ z ∈ pre, k ≠ 0 ∧ wkD (dD z) ≠ wk) ∧ SrchV w S R F E k wk n 0 0 0 10 W
/-- What is known where a round has left the loop. -/
def SrX (w : World) (S R F E : Nat) (k wk n : Int) (id : Nat) (c : Code) (pre : List Dx) (W : World) : Prop := c = .exit id ∧ ∃ (q : List Dx) (z : Dx), pre = q ++ [z] ∧ (∀ u ∈ q, k ≠ 0 ∧ wkD (dD u) ≠ wk) ∧ (k = 0 ∨ wkD (dD z) = wk) ∧ SrchV w S R F E k wk n z.1.1 z.1.2.1 z.1.2.2 0 W

end Go.Proofs.YtfmehdophoejiaaGreatDoor

namespace Go.Proofs.YtfmehdophoejiaaGreatDoor
open Go.RowKit

/-- There is a date. -/
def inW (k wk n y m : Int) : Prop := dfD k wk n ∧ mnD y m n ∧ inR (tgtD k wk n y m)

theorem in_parts {k wk n y m : Int} (hd : dfD k wk n) (hm : mnD y m n) : (k = 0 ∨ k = 1 ∨ k = 2 ∨ k = 3) ∧ 0 ≤ wk ∧ wk ≤ 6 ∧ (stpD k = 1 ∨ stpD k = -1) ∧ (k ≠ 0 → stpD k = if k = 2 then 1 else -1) ∧ okD y m (fstD k n (dim y m)) ∧ dayN y m (fstD k n (dim y m)) = atD k n y m := by
  have h := at_date k wk n y m hd hm
  refine ⟨by unfold dfD at hd; omega, by unfold dfD at hd; omega, by unfold dfD at hd; omega, ?_, ?_, h.1, h.2⟩
  · unfold stpD; split
    · exact .inr rfl
    · exact .inl rfl
  · intro h0
    unfold stpD
    unfold dfD at hd
    by_cases h2 : k = 2
    · rw [if_pos h2, if_neg (by omega)]
    · rw [if_neg h2, if_pos (by omega)]

/-- One word for both. -/
def DateIs (k wk n y m a b c e0 : Int) : Prop := (e0 = 0 ∧ inW k wk n y m ∧ okD a b c ∧ dayN a b c = tgtD k wk n y m) ∨ (e0 = 10 ∧ a = 0 ∧ b = 0 ∧ c = 0 ∧ ¬ inW k wk n y m)
theorem dateis_ex (k wk n y m : Int) : ∃ a b c e0, DateIs k wk n y m a b c e0 := by
  by_cases h : inW k wk n y m
  · obtain ⟨a, b, c, h1, h2⟩ := fdate_ex h.2.2
    exact ⟨a, b, c, 0, .inl ⟨rfl, h, h1, h2⟩⟩
  · exact ⟨0, 0, 0, 10, .inr ⟨rfl, rfl, rfl, rfl, h⟩⟩
theorem wakeA : DateIs 1 0 0 2024 3 2024 3 31 0 := .inl ⟨rfl, ⟨by unfold dfD; omega, by unfold mnD; decide, by unfold inR; decide⟩, by unfold okD; decide, by decide⟩
theorem wakeB : DateIs 2 0 8 2024 3 2024 3 10 0 := .inl ⟨rfl, ⟨by unfold dfD; omega, by unfold mnD; decide, by unfold inR; decide⟩, by unfold okD; decide, by decide⟩

end Go.Proofs.YtfmehdophoejiaaGreatDoor
