/- A range over an iterator that has variables of its own in memory, which it turns between two rounds; a round may first store its element into a variable of the round, and may leave the loop: a law of this text's own, beside the library's.
Three numbers in a block that the call itself has made: what is read of them, what is stored; plain facts on memory, no program is named.
The contracts of dayform.dates and of its closure: the dates from one on, each one a step further, are handed, with their days of the week, to whatever loop they are ranged over by.
The contracts of dayform.dates and search: the first date, from one on, each one a step further, that a day of a month is, or that none has a year; nothing that was in memory changes. -/
import Derived.RangeFuncNested
import Derived.RangeFuncBound
import Derived.RangeFuncCalls
import Derived.RangeFuncLeaves
import Derived.RangeFuncBox
import Derived.OwnWalkIn
import Derived.TacticsInMore
import Derived.Below
import Derived.WalkKit
import Derived.Lib.Hide
import Derived.Test.YtdmfgechoanmlaaGreatDoorMZB
import Derived.Sort.QuietIn
import Derived.Stop.RegionWithIn
import Derived.BigRegionIn
import Derived.LoopNIn
import Derived.LoopIn
import Derived.WalkMore
import Derived.Shelf.Abstract
namespace Go.Proofs.YtdmfgechoanmlaaGreatDoor
open Go Go.RowKit

/-- What lies at B or beyond lies as it lay. -/
structure KeptO (B : Nat) (W W' : World) : Prop where
  size : W.heap.size ≤ W'.heap.size
  same : ∀ j, B ≤ j → j < W.heap.size → W'.heap[j]? = W.heap[j]?
theorem KeptO.refl (B : Nat) (W : World) : KeptO B W W := ⟨Nat.le_refl _, fun _ _ _ => rfl⟩
theorem KeptO.trans {B : Nat} {X Y Z : World} (h : KeptO B X Y) (k : KeptO B Y Z) : KeptO B X Z := ⟨Nat.le_trans h.size k.size, fun j h1 h2 => (k.same j h1 (Nat.lt_of_lt_of_le h2 h.size)).trans (h.same j h1 h2)⟩
theorem KeptO.mono {B B' : Nat} {X Y : World} (h : KeptO B X Y) (hb : B ≤ B') : KeptO B' X Y := ⟨h.size, fun j h1 h2 => h.same j (Nat.le_trans hb h1) h2⟩
theorem KeptO.alloc {B : Nat} {X Y : World} (h : KeptO B X Y) (o : Obj) : KeptO B X (Y.alloc o) :=
  h.trans ⟨by simp, fun j _ h2 => (Below.refl Y.heap.size Y |>.alloc (Nat.le_refl _) o).block j h2⟩
theorem KeptO.below {B : Nat} {X Y : World} (h : Below X.heap.size X Y) : KeptO B X Y := ⟨h.size, fun j _ h2 => h.block j h2⟩
theorem KeptO.setCell {B b : Nat} {X Y : World} (h : KeptO B X Y) (hb : b < B ∨ X.heap.size ≤ b) (o : Nat) (v : Value) : KeptO B X (Y.setCell ⟨b, o, none⟩ v) :=
  ⟨by have e : (Y.setCell ⟨b, o, none⟩ v).heap.size = Y.heap.size := by simp [World.setCell]
      rw [e]; exact h.size, fun j h1 h2 => (Below.heap_setCell Y _ v j (by show j ≠ b; omega)).trans (h.same j h1 h2)⟩
theorem KeptO.put {B l : Nat} (W : World) (o : Obj) (h : l < B) : KeptO B W (W.putObj l o) := ⟨by simp [World.putObj], fun _ h1 _ => World.putObj_heap_other (by omega)⟩

/-- What speaks of the blocks below B alone. -/
def Under {β : Type} (B : Nat) (J : β → World → Prop) : Prop := ∀ s X Y, J s X → Below B X Y → J s Y

section
variable {n : Nat} {P : Program}

/-- An iterator's contract that may turn cells that it has made itself. -/
def SeqOwn {α : Type} (n : Nat) (P : Program) (gf : Nat) (lb : Array Value) (encs : α → Array Value) (Ok : List α → α → Prop) (n0 : Nat) (S Sp : List α → Prop) (w : World) : Prop :=
  ∀ (l : Nat) (J Jx : List α → World → Prop) (W : World), Below w.heap.size w W → Under W.heap.size J → Under W.heap.size Jx →
    (∀ pre x W1, J pre W1 → Ok pre x → W.heap.size ≤ W1.heap.size → YieldAt Fence.wide (n - 1) P l (encs x) W1 fun e W' =>
      (e = .returned (.bool true) ∧ J (pre ++ [x]) W' ∧ Below n0 W1 W' ∧ KeptO W.heap.size W1 W') ∨ (e = .returned (.bool false) ∧ Jx (pre ++ [x]) W')) →
    J [] W → CallsIn Fence.wide n P gf (#[.func (.yield l) #[] #[]] ++ lb) W fun e W' => (∃ v, e = .returned v) ∧ ((∃ xs, S xs ∧ J xs W') ∨ (∃ pre, Sp pre ∧ Jx pre W'))

/-- A loop's book-keeping: its record in block D + 1, its rounds' deferred calls, none, in block D. -/
structure BookO (D : Nat) (r : Loop) (W : World) : Prop where
  lp : W.heap[D + 1]? = some (.loop r)
  dfr : W.heap[D]? = some (.deferred (some []))
theorem BookO.lt {D : Nat} {r : Loop} {W : World} (h : BookO D r W) : D + 1 < W.heap.size := (Array.getElem?_eq_some_iff.1 h.lp).1
theorem BookO.keep {D : Nat} {r : Loop} {W W' : World} (h : BookO D r W) (k : KeptO D W W') : BookO D r W' :=
  ⟨(k.same _ (by omega) h.lt).trans h.lp, (k.same _ (Nat.le_refl _) (by have := h.lt; omega)).trans h.dfr⟩
theorem BookO.put {D : Nat} {r : Loop} {W : World} (h : BookO D r W) (r' : Loop) : BookO D r' (W.putObj (D + 1) (.loop r')) :=
  ⟨World.putObj_heap_same h.lt, (World.putObj_heap_other (by omega)).trans h.dfr⟩
theorem BookO.next {D B : Nat} {r : Loop} {W W' : World} (h : BookO D r W) (k : Below B W W') (hB : D + 2 ≤ B) : BookO D r W' := ⟨(k.block _ (by omega)).trans h.lp, (k.block _ (by omega)).trans h.dfr⟩
theorem BookO.below {D n0 : Nat} {r : Loop} {W : World} (h : BookO D r W) (hn : n0 ≤ D) (r' : Loop) : Below n0 W (W.putObj (D + 1) (.loop r')) :=
  (Below.refl n0 W).grown (grownBy_putObj' W (D + 1) _) (by have := h.lt; omega) (fun j hj => by cases hj; omega)
theorem keptO_put {D B : Nat} (W : World) (o : Obj) (h : D + 1 < B) : KeptO B W (W.putObj (D + 1) o) := KeptO.put W o h

/-- How the body of a round may be left. -/
def postO {α : Type} (D n0 : Nat) (I : List α → World → Prop) (Ix : Code → List α → World → Prop) (xs : List α) (W : World) : Exit → Act → World → Prop
  | .normal, _, W' => KeptO D W W' ∧ Below n0 W W' ∧ I xs W'
  | .ret, _, W' => KeptO D W W' ∧ Ix .ret xs W'
  | .exit id, _, W' => KeptO D W W' ∧ Ix (.exit id) xs W'
  | .goto t, _, W' => KeptO D W W' ∧ Ix (.goto t) xs W'
  | .panic _, _, _ => False
  | .outgrown, _, _ => False

theorem range_own {α : Type} {g : Operand} {ps : Array Tmp} {assign body : Code} {Q : Exit → Act → World → Prop} {a : Act} {w : World}
    (h1 : 1 ≤ n) {gf : Nat} {lb : Array Value} (hg : a.eval g = .func (.func gf) #[] lb) (eg : ∀ args w, (callFunc gf args).run P w = .ok (.enter gf args) w)
    {encs : α → Array Value} {Ok : List α → α → Prop} {n0 : Nat} {S Sp : List α → Prop} (hseq : SeqOwn (n - 1) P gf lb encs Ok n0 S Sp w) (hn0 : n0 ≤ w.heap.size) (hps : ∀ x, (encs x).size = ps.size)
    (I : List α → World → Prop) (Ix : Code → List α → World → Prop) (hI : Under w.heap.size I) (hIx : ∀ c, Under w.heap.size (Ix c)) (h0 : I [] w)
    (hround : ∀ (l : Nat) (pre : List α) (x : α) (W : World), I pre W → Ok pre x → w.heap.size + 2 ≤ W.heap.size → assign.wpIn (Fence.wide.inRound l) (n - 1 - 1) P
      (Exit.then (fun a' W' => KeptO w.heap.size W W' ∧ Below n0 W W' ∧ ∃ M : World → Prop, (∀ X r, M X → M (X.putObj (w.heap.size + 1) (.loop r))) ∧ M W' ∧ ∀ W2, M W2 → body.wpIn (Fence.wide.inRound l) (n - 1 - 1) P (postO w.heap.size n0 I Ix (pre ++ [x]) W2) a' W2) (fun _ _ _ => False))
      { tmps := (ps.zip (encs x)).foldl (fun t (p, v) => t.setIfInBounds p v) a.tmps, defers := [] } W)
    (hdone : ∀ (D : Nat) (xs : List α) (W : World), w.heap.size ≤ D → S xs → I xs W → W.heap[D]? = some (.deferred (some [])) → Q .normal { a with defers := { target := .collected D, args := #[] } :: a.defers } W)
    (hstop : ∀ (D : Nat) (c : Code) (pre : List α) (W : World), w.heap.size ≤ D → Sp pre → Ix c pre W → W.heap[D]? = some (.deferred (some [])) → c.wpIn Fence.wide n P Q { a with defers := { target := .collected D, args := #[] } :: a.defers } W) :
    (Code.rangeFunc g ps assign body).wpIn Fence.wide n P Q a w := by
  refine wpIn_rangeFunc fun fn hfn => ?_
  rw [show Fence.wide.round = none from rfl]
  obtain ⟨D, hD⟩ : ∃ D, w.heap.size = D := ⟨_, rfl⟩
  rw [hD] at hI hIx hn0
  obtain ⟨R, hR⟩ : ∃ R : LoopState → Option Code → Loop, R = fun st pe => { state := st, pending := pe, fn, tmps := a.tmps, params := ps, assign, body, defers := D } := ⟨_, rfl⟩
  obtain ⟨V, hV⟩ : ∃ V, (w.alloc (.deferred (some []))).alloc (.loop (R .ready none)) = V := ⟨_, rfl⟩
  have hVs : V.heap.size = D + 2 := by rw [← hV, ← hD]; simp
  have bV : BookO D (R .ready none) V := by
    constructor
    · rw [← hV, ← hD]
      have := World.alloc_heap_new (w.alloc (.deferred (some []))) (.loop (R .ready none))
      rwa [World.size_alloc] at this
    · rw [← hV, ← hD]
      exact (Below.heap_alloc _ _ _ (by simp)).trans (World.alloc_heap_new w _)
  have kV : Below w.heap.size w V := by rw [← hV]; exact ((Below.refl _ w).alloc (Nat.le_refl _) _).alloc (by simp) _
  have iV : I [] V := hI _ _ _ h0 (hD ▸ kV)
  have putI : ∀ {s : List α} {r : Loop} {W : World} (r' : Loop), BookO D r W → I s W → I s (W.putObj (D + 1) (.loop r')) := fun r' hb h => hI _ _ _ h (hb.below (Nat.le_refl _) r')
  have putX : ∀ {c : Code} {s : List α} {r : Loop} {W : World} (r' : Loop), BookO D r W → Ix c s W → Ix c s (W.putObj (D + 1) (.loop r')) := fun r' hb h => hIx _ _ _ _ h (hb.below (Nat.le_refl _) r')
  have enter : (Instr.enterLoop fn a.tmps ps assign body none).run P w = .ok (D + 1, [{ target := .collected D, args := #[] }]) V := by rw [← hV, hR, ← hD]; exact run_enterLoop_outer _ _ _ _ _
  refine ⟨D + 1, [{ target := .collected D, args := #[] }], V, { target := .fn (.func gf) lb, args := #[.func (.yield (D + 1)) #[] #[]] }, V, gf, #[.func (.yield (D + 1)) #[] #[]] ++ lb, V, enter, by simp only [resolve, hg]; simp [go_sem], fun _ _ => trivial, by simp [invoke, go_sem, eg], fun _ => h1, ?_⟩
  refine (hseq (D + 1) (fun pre W => I pre W ∧ BookO D (R .ready none) W) (fun pre W => ∃ c, Ix c pre W ∧ BookO D (R .done (some c)) W) V kV
    (fun s X Y h k => ⟨hI s X Y h.1 (k.mono (by omega)), h.2.next k (by omega)⟩) (fun s X Y ⟨c, hc, hb⟩ k => ⟨c, hIx c s X Y hc (k.mono (by omega)), hb.next k (by omega)⟩) ?_ ⟨iV, bV⟩).mono ?_
  · rintro pre x W ⟨hi, hb⟩ hok hlt
    rw [hVs] at hlt
    have hy := run_yield (P := P) (args := encs x) hb.lp (by rw [hR]; exact hps x)
    rw [hR] at hy
    refine ⟨fn, _, assign, body, hy, roundIn_of_wpIn hfn (wpIn_mono (hround (D + 1) pre x W hi hok (by omega)) ?_)⟩
    rintro e a' W1 hp
    cases e with
    | normal =>
      rw [hD] at hp
      obtain ⟨ko, kb, M, hM, him, hbody⟩ := hp
      have b1 := hb.keep ko
      have b2 := b1.put { R .ready none with state := .busy }
      have k2 : Below n0 W (W1.putObj (D + 1) (.loop { R .ready none with state := .busy })) := kb.trans (b1.below hn0 _)
      have c2 : KeptO V.heap.size W (W1.putObj (D + 1) (.loop { R .ready none with state := .busy })) := (ko.mono (by omega)).trans (keptO_put W1 _ (by omega))
      refine ⟨_, run_beginRound b1.lp (by rw [hR]), wpIn_mono (hbody _ (hM _ _ him)) ?_⟩
      have close : ∀ (jump : Option Code) (W3 : World), KeptO D (W1.putObj (D + 1) (.loop { R .ready none with state := .busy })) W3 →
          (Instr.endRound (D + 1) jump).run P W3 = .ok (.bool jump.isNone) (W3.putObj (D + 1) (.loop (R (if jump.isNone then .ready else .done) jump))) ∧ BookO D { R .ready none with state := .busy } W3 := fun jump W3 k3 => by
        have b3 := b2.keep k3
        have hr := run_endRound (P := P) jump b3.lp
        rw [hR] at hr ⊢
        exact ⟨hr, by rw [hR] at b3; exact b3⟩
      have leave : ∀ (c : Code) (W3 : World), KeptO D (W1.putObj (D + 1) (.loop { R .ready none with state := .busy })) W3 → Ix c (pre ++ [x]) W3 → Ix c (pre ++ [x]) (W3.putObj (D + 1) (.loop (R .done (some c)))) ∧ BookO D (R .done (some c)) (W3.putObj (D + 1) (.loop (R .done (some c)))) := fun c W3 k3 i3 =>
        ⟨putX _ (b2.keep k3) i3, (b2.keep k3).put _⟩
      rintro e a3 W3 hp
      cases e with
      | normal =>
        obtain ⟨k3, kb3, i3⟩ := hp
        obtain ⟨hr, b3⟩ := close none W3 k3
        exact ⟨_, _, hr, .inl ⟨rfl, ⟨putI _ b3 i3, b3.put _⟩, (k2.trans kb3).trans (b3.below hn0 _), (c2.trans (k3.mono (by omega))).trans (keptO_put W3 _ (by omega))⟩⟩
      | ret =>
        obtain ⟨k3, i3⟩ := hp
        exact ⟨_, _, (close (some .ret) W3 k3).1, .inr ⟨rfl, .ret, leave _ W3 k3 i3⟩⟩
      | exit id =>
        obtain ⟨k3, i3⟩ := hp
        exact ⟨_, _, (close (some (.exit id)) W3 k3).1, .inr ⟨rfl, .exit id, leave _ W3 k3 i3⟩⟩
      | goto t =>
        obtain ⟨k3, i3⟩ := hp
        exact ⟨_, _, (close (some (.goto t)) W3 k3).1, .inr ⟨rfl, .goto t, leave _ W3 k3 i3⟩⟩
      | panic ch => exact hp.elim
      | outgrown => exact hp.elim
    | ret => exact hp.elim
    | exit id => exact hp.elim
    | goto t => exact hp.elim
    | panic ch => exact hp.elim
    | outgrown => exact hp.elim
  · rintro e W2 ⟨⟨v, rfl⟩, (⟨xs, hS, hi, hb⟩ | ⟨pre, hSp, c, hi, hb⟩)⟩
    · refine ⟨none, _, by have := run_endLoop (P := P) hb.lp (by rw [hR]; simp); rw [hR] at this; exact this, ?_⟩
      exact hdone D xs _ (by omega) hS (putI _ hb hi) (hb.put _).dfr
    · refine ⟨some c, _, by have := run_endLoop (P := P) hb.lp (by rw [hR]; simp); rw [hR] at this; exact this, ?_⟩
      exact hstop D c pre _ (by omega) hSp (putX _ hb hi) (hb.put _).dfr
end
end Go.Proofs.YtdmfgechoanmlaaGreatDoor

namespace Go.Proofs.YtdmfgechoanmlaaGreatDoor
open Go Go.RowKit

theorem tset {W : World} {g i : Nat} {cs : Array Value} {t : TypeId} (h : W.heap[g]? = some (.cells cs t (0, 0))) (v : Value) : (W.setCell ⟨g, i, none⟩ v).heap[g]? = some (.cells (cs.setIfInBounds i v) t (0, 0)) := by
  obtain ⟨hlt, hk⟩ := Array.getElem?_eq_some_iff.1 h
  show (W.heap.modify g _)[g]? = _
  rw [Array.getElem?_eq_getElem (by rw [Array.size_modify]; exact hlt), Array.getElem_modify_self, hk]
  simp
/-- Three numbers lie in block g, which is new since w, and nothing that was in w has changed. -/
structure Trp (w : World) (g : Nat) (a b c : Int) (t : TypeId) (W : World) : Prop where
  bel : Below w.heap.size w W
  ge : w.heap.size ≤ g
  blk : W.heap[g]? = some (.cells #[.int .i64 a, .int .i64 b, .int .i64 c] t (0, 0))
theorem Trp.new (w : World) (a b c : Int) (t : TypeId) : Trp w w.heap.size a b c t (w.alloc (.cells #[.int .i64 a, .int .i64 b, .int .i64 c] t)) := ⟨(Below.refl _ _).alloc (Nat.le_refl _) _, Nat.le_refl _, heap_alloc_new w _⟩
theorem Trp.make {w W : World} (h : Below w.heap.size w W) (a b c : Int) (t : TypeId) : Trp w W.heap.size a b c t (W.alloc (.cells #[.int .i64 a, .int .i64 b, .int .i64 c] t)) := ⟨h.alloc h.size _, h.size, heap_alloc_new W _⟩
section
variable {w W W1 : World} {g : Nat} {a b c : Int} {t : TypeId}
theorem Trp.lt (h : Trp w g a b c t W) : g < W.heap.size := (Array.getElem?_eq_some_iff.1 h.blk).1
theorem Trp.next (h : Trp w g a b c t W) (k : Below W.heap.size W W1) : Trp w g a b c t W1 := ⟨h.bel.trans (k.mono h.bel.size), h.ge, (k.block g h.lt).trans h.blk⟩
theorem Trp.more (h : Trp w g a b c t W) (o : Obj) : Trp w g a b c t (W.alloc o) := h.next ((Below.refl _ _).alloc (Nat.le_refl _) _)
theorem Trp.drawn (h : Trp w g a b c t W) : Trp w g a b c t W.drew := h.next (Below.refl _ _).drew
theorem Trp.c0 (h : Trp w g a b c t W) : W.cell? ⟨g, 0, none⟩ = some (.int .i64 a) := cell_of_row W g 0 _ _ (0, 0) h.blk
theorem Trp.c1 (h : Trp w g a b c t W) : W.cell? ⟨g, 1, none⟩ = some (.int .i64 b) := cell_of_row W g 1 _ _ (0, 0) h.blk
theorem Trp.c2 (h : Trp w g a b c t W) : W.cell? ⟨g, 2, none⟩ = some (.int .i64 c) := cell_of_row W g 2 _ _ (0, 0) h.blk
theorem Trp.f0 (h : Trp w g a b c t W) : W.frozen? ⟨g, 0, none⟩ = false := by simp [World.frozen?, h.blk]
theorem Trp.f1 (h : Trp w g a b c t W) : W.frozen? ⟨g, 1, none⟩ = false := by simp [World.frozen?, h.blk]
theorem Trp.f2 (h : Trp w g a b c t W) : W.frozen? ⟨g, 2, none⟩ = false := by simp [World.frozen?, h.blk]
theorem Trp.set0 (h : Trp w g a b c t W) (x : Int) : Trp w g x b c t (W.setCell ⟨g, 0, none⟩ (.int .i64 x)) :=
  ⟨h.bel.setCell (p := ⟨g, 0, none⟩) h.ge _, h.ge, by simpa using tset (i := 0) h.blk (.int .i64 x)⟩
theorem Trp.set1 (h : Trp w g a b c t W) (x : Int) : Trp w g a x c t (W.setCell ⟨g, 1, none⟩ (.int .i64 x)) :=
  ⟨h.bel.setCell (p := ⟨g, 1, none⟩) h.ge _, h.ge, by simpa using tset (i := 1) h.blk (.int .i64 x)⟩
theorem Trp.set2 (h : Trp w g a b c t W) (x : Int) : Trp w g a b x t (W.setCell ⟨g, 2, none⟩ (.int .i64 x)) :=
  ⟨h.bel.setCell (p := ⟨g, 2, none⟩) h.ge _, h.ge, by simpa using tset (i := 2) h.blk (.int .i64 x)⟩
theorem Trp.store (h : Trp w g a b c t W) (x y z : Int) : Trp w g x y z t (((W.setCell ⟨g, 0, none⟩ (.int .i64 x)).setCell ⟨g, 1, none⟩ (.int .i64 y)).setCell ⟨g, 2, none⟩ (.int .i64 z)) := ((h.set0 x).set1 y).set2 z
theorem Trp.ret (h : Trp w g a b c t W) {P : Program} {f : Func} {Q : Ending → World → Prop} {A : Act} (k : ∀ W', Trp w g a b c t W' → bodyPost P f Q Exit.ret A W') : bodyPost P f Q Exit.ret A W := k W h
end
/-- Two numbers lie in block g, which is new since w, and nothing that was in w has changed. -/
structure Duo (w : World) (g : Nat) (a b : Int) (t : TypeId) (W : World) : Prop where
  bel : Below w.heap.size w W
  ge : w.heap.size ≤ g
  blk : W.heap[g]? = some (.cells #[.int .i64 a, .int .i64 b] t (0, 0))
theorem Duo.new (w : World) (a b : Int) (t : TypeId) : Duo w w.heap.size a b t (w.alloc (.cells #[.int .i64 a, .int .i64 b] t)) := ⟨(Below.refl _ _).alloc (Nat.le_refl _) _, Nat.le_refl _, heap_alloc_new w _⟩
section
variable {w W W1 : World} {g : Nat} {a b : Int} {t : TypeId}
theorem Duo.lt (h : Duo w g a b t W) : g < W.heap.size := (Array.getElem?_eq_some_iff.1 h.blk).1
theorem Duo.next (h : Duo w g a b t W) (k : Below W.heap.size W W1) : Duo w g a b t W1 := ⟨h.bel.trans (k.mono h.bel.size), h.ge, (k.block g h.lt).trans h.blk⟩
theorem Duo.more (h : Duo w g a b t W) (o : Obj) : Duo w g a b t (W.alloc o) := h.next ((Below.refl _ _).alloc (Nat.le_refl _) _)
theorem Duo.c0 (h : Duo w g a b t W) : W.cell? ⟨g, 0, none⟩ = some (.int .i64 a) := cell_of_row W g 0 _ _ (0, 0) h.blk
theorem Duo.c1 (h : Duo w g a b t W) : W.cell? ⟨g, 1, none⟩ = some (.int .i64 b) := cell_of_row W g 1 _ _ (0, 0) h.blk
end
end Go.Proofs.YtdmfgechoanmlaaGreatDoor

namespace Go.Proofs.YtdmfgechoanmlaaGreatDoor
open Go.RowKit
attribute [local go_sem] Oper.semAt_some

abbrev Dx : Type := { x : Int × Int × Int // okD x.1 x.2.1 x.2.2 }
def dD (x : Dx) : Int := dayN x.1.1 x.1.2.1 x.1.2.2
def dxV (x : Dx) : Array Value := #[.agg #[.int .i64 x.1.1, .int .i64 x.1.2.1, .int .i64 x.1.2.2], .int .i64 (wkD (dD x))]
/-- The dates lie one step after another, from day a on. -/
def RowD (a st : Int) (xs : List Dx) : Prop := ∀ (i : Nat) (z : Dx), xs[i]? = some z → dD z = a + st * (i : Int)
theorem row_nil (a st : Int) : RowD a st [] := fun i z h => by simp at h
theorem row_snoc {a st : Int} {xs : List Dx} {z : Dx} (h : RowD a st xs) (hz : dD z = a + st * (xs.length : Int)) : RowD a st (xs ++ [z]) := fun i u hu => by
  by_cases hi : i < xs.length
  · rw [List.getElem?_append_left hi] at hu; exact h i u hu
  · rw [List.getElem?_append_right (by omega)] at hu
    by_cases he : i = xs.length
    · subst he
      simp at hu
      rw [← hu]; exact hz
    · rw [List.getElem?_eq_none (by simp; omega)] at hu; cases hu
theorem dx_in (x : Dx) : inR (dD x) := day_bd x.2

theorem day_step {st a : Int} {n : Nat} (hs : st = 1 ∨ st = -1) (h0 : inR a) (h1 : inR (a + st * (n : Int))) : n < 80000000 := by
  unfold inR at h0 h1
  rcases hs with rfl | rfl <;> omega

theorem week_quiet (a : Int) (w : World) (h1 : -9223372036854775808 ≤ a) (h2 : a ≤ 9223372036854775807) :
    Calls Tryz.prog 151 #[.int .i64 a] w fun e w' => e = .returned (.int .i64 (wkD a)) ∧ w = w' := by
  have := weekday_any a w h1 h2
  rwa [show (a % 7 + 4) % 7 = wkD a by unfold wkD; omega] at this

theorem drawn_below (B : Nat) (W : World) (n : Nat) : Below B W (W.drewN n) := ⟨rfl, rfl, rfl, Nat.le_refl _, fun _ _ => rfl⟩
theorem set_three {W : World} {g : Nat} {a b c x y z : Int} {t : TypeId} (h : W.heap[g]? = some (.cells #[.int .i64 a, .int .i64 b, .int .i64 c] t (0, 0))) :
    (((W.setCell ⟨g, 0, none⟩ (.int .i64 x)).setCell ⟨g, 1, none⟩ (.int .i64 y)).setCell ⟨g, 2, none⟩ (.int .i64 z)).heap[g]? = some (.cells #[.int .i64 x, .int .i64 y, .int .i64 z] t (0, 0)) := by
  have := tset (i := 2) (tset (i := 1) (tset (i := 0) h (.int .i64 x)) (.int .i64 y)) (.int .i64 z)
  simpa using this
theorem below_three {W : World} {g B : Nat} (hg : B ≤ g) (x y z : Int) : Below B W (((W.setCell ⟨g, 0, none⟩ (.int .i64 x)).setCell ⟨g, 1, none⟩ (.int .i64 y)).setCell ⟨g, 2, none⟩ (.int .i64 z)) :=
  (((Below.refl B W).setCell (p := ⟨g, 0, none⟩) hg _).setCell (p := ⟨g, 1, none⟩) hg _).setCell (p := ⟨g, 2, none⟩) hg _
/-- Where a block of three numbers lies, its cells read so, and may be written. -/
theorem three_at {W : World} {g : Nat} {a b c : Int} {t : TypeId} (h : W.heap[g]? = some (.cells #[.int .i64 a, .int .i64 b, .int .i64 c] t (0, 0))) :
    W.cell? ⟨g, 0, none⟩ = some (.int .i64 a) ∧ W.cell? ⟨g, 1, none⟩ = some (.int .i64 b) ∧ W.cell? ⟨g, 2, none⟩ = some (.int .i64 c) ∧ W.frozen? ⟨g, 0, none⟩ = false ∧ W.frozen? ⟨g, 1, none⟩ = false ∧ W.frozen? ⟨g, 2, none⟩ = false ∧ g < W.heap.size :=
  ⟨cell_of_row W g 0 _ _ (0, 0) h, cell_of_row W g 1 _ _ (0, 0) h, cell_of_row W g 2 _ _ (0, 0) h, by simp [World.frozen?, h], by simp [World.frozen?, h], by simp [World.frozen?, h], (Array.getElem?_eq_some_iff.1 h).1⟩

theorem step_sum (a st : Int) (k : Nat) : a + st * (k : Int) + st = a + st * ((k + 1 : Nat) : Int) := by
  rw [Int.natCast_add, Int.mul_add]; show _ = a + (st * (k : Int) + st * 1); omega

/-- What a round's end tells, as one value. -/
theorem yield_one {e : Ending} {A B : Prop} (h : (e = .returned (.bool true) ∧ A) ∨ (e = .returned (.bool false) ∧ B)) : ∃ b : Bool, e = .returned (.bool b) ∧ Hid ((b = true ∧ A) ∨ (b = false ∧ B)) := by
  rcases h with ⟨rfl, h⟩ | ⟨rfl, h⟩
  · exact ⟨true, rfl, Lib.hid (.inl ⟨rfl, h⟩)⟩
  · exact ⟨false, rfl, Lib.hid (.inr ⟨rfl, h⟩)⟩

/-- What the loop in dates knows at its head. -/
def HeadD (a st : Int) (G Bs : Nat) (J : List Dx → World → Prop) (v5 v6 : Value) (W : World) : Prop :=
  ∃ (pre : List Dx) (day : Int), v5 = .int .i64 day ∧ day = a + st * (pre.length : Int) ∧ RowD a st pre ∧ J pre W ∧ AhAt W ∧ W.cell? ⟨Bs, 0, none⟩ = some (.int .i64 st) ∧ -37243780 ≤ day ∧ day ≤ 35805089 ∧
    ((v6 = .int .i64 0 ∧ inR day ∧ ∃ y m d : Int, okD y m d ∧ dayN y m d = day ∧ W.heap[G]? = some (.cells #[.int .i64 y, .int .i64 m, .int .i64 d] 167 (0, 0))) ∨
     (v6 = .int .i64 10 ∧ ¬ inR day ∧ ∃ y m d : Int, W.heap[G]? = some (.cells #[.int .i64 y, .int .i64 m, .int .i64 d] 167 (0, 0))))

set_option maxHeartbeats 2000000 in
theorem dates_own (n : Nat) (hn : 1 ≤ n) (Bf Bs : Nat) (y m d st : Int) (w : World) (hok : okD y m d) (hst : st = 1 ∨ st = -1) (hA : AhAt w)
    (hf0 : w.cell? ⟨Bf, 0, none⟩ = some (.int .i64 y)) (hf1 : w.cell? ⟨Bf, 1, none⟩ = some (.int .i64 m)) (hf2 : w.cell? ⟨Bf, 2, none⟩ = some (.int .i64 d)) (hs : w.cell? ⟨Bs, 0, none⟩ = some (.int .i64 st)) :
    SeqOwn n Tryz.prog 150 #[.pointer (some ⟨Bf, 0, none⟩), .pointer (some ⟨Bs, 0, none⟩)] dxV (fun pre x => RowD (dayN y m d) st (pre ++ [x])) w.heap.size
      (fun xs => RowD (dayN y m d) st xs ∧ ¬ inR (dayN y m d + st * (xs.length : Int))) (RowD (dayN y m d) st) w := by
  intro l J Jx W hW hJ hJx hY h0
  refine callsIn_of_wp Tryz.func150 rfl trivial ?_ rfl
  simp only [Tryz.ntmps150, List.size_toArray, List.length_cons, List.length_nil, Nat.reduceAdd, Nat.reduceSub, Array.replicate_succ, Array.replicate_zero, List.push_toArray, List.append_toArray, List.nil_append, List.cons_append]
  have hB := cell_lt hf0
  have hS := cell_lt hs
  have g0 : W.cell? ⟨Bf, 0, none⟩ = some (.int .i64 y) := (hW.cell (p := ⟨_, _, none⟩) hB).trans hf0
  have g1 : W.cell? ⟨Bf, 1, none⟩ = some (.int .i64 m) := (hW.cell (p := ⟨_, _, none⟩) hB).trans hf1
  have g2 : W.cell? ⟨Bf, 2, none⟩ = some (.int .i64 d) := (hW.cell (p := ⟨_, _, none⟩) hB).trans hf2
  have AW := Lib.hid (hA.next hW)
  have SW := Lib.hid ((hW.cell (p := ⟨_, _, none⟩) hS).trans hs)
  have T0 := Lib.hid (Trp.new W y m d 167)
  have HW := Lib.hid hW
  have HJ := Lib.hid hJ
  have HY := Lib.hid hY
  have H0 := Lib.hid h0
  have HO := Lib.hid hok
  have hWs := hW.size
  have hAl := hA.lt
  obtain ⟨a, ha⟩ : ∃ a, dayN y m d = a := ⟨_, rfl⟩
  have hin : inR a := ha ▸ day_bd hok
  have hDY : Hid (∀ X, AhAt X → Calls Tryz.prog 116 #[.agg #[.int .i64 y, .int .i64 m, .int .i64 d]] X fun e w' => e = .returned (.tuple #[.int .i64 a, .int .i64 0]) ∧ Below X.heap.size X w') := Lib.hid fun X h => ha ▸ Days_yes y m d X h hok
  have HI := Lib.hid hin
  rw [ha] at HY ⊢
  have HA := Lib.hid ha
  clear hf0 hf1 hf2 hs hA hW hJ hJx hY h0 hok hin ha
  gi_wp2_with (refine ⟨trivial, ?_⟩; gi_at_call 116; refine (callsIn_wide.2 (hDY.out _ (AW.out.next T0.out.bel))).mono ?_; rintro e w1 ⟨rfl, k1⟩)
  have T1 := Lib.hid (T0.out.next k1)
  have A1 := Lib.hid ((AW.out.next T0.out.bel).next k1)
  clear k1 T0
  gi_loopw [5, 6] (fun v5 v6 wr => HeadD a st W.heap.size Bs J v5 v6 wr) (fun v5 _ _ => (if st = 1 then 35805100 - intOf v5 else intOf v5 + 37243800).toNat)
  case atStart => exact ⟨[], a, rfl, by simp, row_nil _ _, (HJ.out [] _ _ H0.out T1.out.bel), A1.out, (T1.out.bel.cell (p := ⟨_, _, none⟩) (by show Bs < _; omega)).trans SW.out, by have := HI.out; unfold inR at this; omega, by have := HI.out; unfold inR at this; omega, .inl ⟨rfl, HI.out, y, m, d, HO.out, HA.out, T1.out.blk⟩⟩
  case round =>
    obtain ⟨pre, day, rfl, hday, hrow, hj, ha, hs, hd1, hd2, hcase⟩ := hrel
    have HD := Lib.hid hday
    have HR := Lib.hid hrow
    have HJr := Lib.hid hj
    have AR := Lib.hid ha
    have SR := Lib.hid hs
    clear hday hrow hj ha hs T1 A1 SW AW H0 HO HA
    rcases hcase with ⟨rfl, hin, y1, m1, d1, hok, hdn, hblk⟩ | ⟨rfl, hout, y1, m1, d1, hblk⟩
    · have HI1 := Lib.hid hin
      have HB := Lib.hid hblk
      have c0 : wr.cell? ⟨W.heap.size, 0, none⟩ = some (.int .i64 y1) := cell_of_row wr W.heap.size 0 _ _ (0, 0) hblk
      have c1 : wr.cell? ⟨W.heap.size, 1, none⟩ = some (.int .i64 m1) := cell_of_row wr W.heap.size 1 _ _ (0, 0) hblk
      have c2 : wr.cell? ⟨W.heap.size, 2, none⟩ = some (.int .i64 d1) := cell_of_row wr W.heap.size 2 _ _ (0, 0) hblk
      have hlt := (Array.getElem?_eq_some_iff.1 hblk).1
      obtain ⟨x, hxv, hxd⟩ : ∃ x : Dx, dxV x = #[.agg #[.int .i64 y1, .int .i64 m1, .int .i64 d1], .int .i64 (wkD day)] ∧ dD x = day := ⟨⟨(y1, m1, d1), hok⟩, by rw [← hdn]; rfl, hdn⟩
      have RX := Lib.hid (row_snoc HR.out (hxd.trans HD.out))
      obtain ⟨fn, tmps, assign, body, hy, hR⟩ := HY.out pre x wr.drew (HJ.out _ _ _ HJr.out (Below.refl _ _).drew) RX.out (by show _ ≤ wr.heap.size; omega)
      rw [hxv] at hy
      have XD := Lib.hid hxd
      clear hin hblk hok hdn hxv hxd
      gi_wp2
      gi_region_with (first
        | (refine ⟨trivial, ?_⟩; gi_at_call 151; refine (callsIn_wide.2 (week_quiet day _ (by omega) (by omega))).mono ?_; rintro e w2 ⟨rfl, rfl⟩)
        | (refine hR.mono ?_; rintro e W3 hY3; obtain ⟨b, rfl, hb⟩ := yield_one hY3))
      all_goals
        rcases hb.out with ⟨rfl, hj3, kb3, ko3⟩ | ⟨rfl, hjx⟩
        · have blk3 : W3.heap[W.heap.size]? = some (.cells #[.int .i64 y1, .int .i64 m1, .int .i64 d1] 167 (0, 0)) := (ko3.same _ (Nat.le_refl _) hlt).trans HB.out
          have A3 := Lib.hid (AR.out.below (w := wr) (w' := W3) (B := w.heap.size) ((Below.refl _ _).drew.trans kb3) hAl)
          have S3 := Lib.hid ((((Below.refl w.heap.size wr).drew.trans kb3).cell (p := ⟨Bs, 0, none⟩) hS).trans SR.out)
          have J3 := Lib.hid hj3
          have sz3 : W.heap.size < W3.heap.size := (Array.getElem?_eq_some_iff.1 blk3).1
          have B3 := Lib.hid blk3
          have s0 := S3.out
          have hst2 : -1 ≤ st ∧ st ≤ 1 := by omega
          clear hb hY3 hj3 kb3 ko3 blk3 c0 c1 c2 hlt hy hR
          by_cases h2 : inR (day + st)
          · have H2 := Lib.hid h2
            have OF : Hid (∀ X, AhAt X → Calls Tryz.prog 152 #[.int .i64 (day + st)] X (SomeDate (day + st) X)) := Lib.hid fun X h => Of_yes _ X h h2.1 h2.2
            clear h2
            gi_wp2_with (first
              | (refine ⟨trivial, ?_⟩; gi_at_call 152; refine (callsIn_wide.2 (OF.out _ A3.out)).mono ?_; rintro e w4 ⟨y2, m2, d2, hok2, hdn2, rfl, k4⟩
                 have B4 := Lib.hid ((k4.block _ sz3).trans B3.out)
                 have O4 := Lib.hid (And.intro hok2 hdn2)
                 have K4 := Lib.hid k4
                 obtain ⟨e0, e1, e2, f0, f1, f2, l4⟩ := three_at B4.out
                 clear hok2 hdn2 k4))
            go_roundw
            case rel => exact ⟨pre ++ [x], day + st, rfl, by rw [HD.out, List.length_append, List.length_singleton]; exact step_sum _ _ _, RX.out, HJ.out _ _ _ J3.out ((K4.out.mono (by omega)).trans (below_three (Nat.le_refl _) _ _ _)), A3.out.below ((K4.out.mono (by omega)).trans (below_three hWs _ _ _)) hAl, (((K4.out.mono (by omega)).trans (below_three hWs _ _ _)).cell (p := ⟨Bs, 0, none⟩) hS).trans S3.out, by have := H2.out; unfold inR at this; omega, by have := H2.out; unfold inR at this; omega, .inl ⟨rfl, H2.out, y2, m2, d2, O4.out.1, O4.out.2, set_three B4.out⟩⟩
            case measure => rcases hst with rfl | rfl <;> simp [intOf] <;> omega
          · have H2 := Lib.hid h2
            have OF : Hid (∀ X, Calls Tryz.prog 152 #[.int .i64 (day + st)] X fun e w' => e = .returned (.tuple #[.agg #[.int .i64 0, .int .i64 0, .int .i64 0], .int .i64 10]) ∧ Below X.heap.size X w') := Lib.hid fun X => Of_no _ X (by unfold inR at h2; omega)
            clear h2
            gi_wp2_with (first
              | (refine ⟨trivial, ?_⟩; gi_at_call 152; refine (callsIn_wide.2 (OF.out _)).mono ?_; rintro e w4 ⟨rfl, k4⟩
                 have B4 := Lib.hid ((k4.block _ sz3).trans B3.out)
                 have K4 := Lib.hid k4
                 obtain ⟨e0, e1, e2, f0, f1, f2, l4⟩ := three_at B4.out
                 clear k4))
            go_roundw
            case rel => exact ⟨pre ++ [x], day + st, rfl, by rw [HD.out, List.length_append, List.length_singleton]; exact step_sum _ _ _, RX.out, HJ.out _ _ _ J3.out ((K4.out.mono (by omega)).trans (below_three (Nat.le_refl _) _ _ _)), A3.out.below ((K4.out.mono (by omega)).trans (below_three hWs _ _ _)) hAl, (((K4.out.mono (by omega)).trans (below_three hWs _ _ _)).cell (p := ⟨Bs, 0, none⟩) hS).trans S3.out, by have := HI1.out; unfold inR at this; omega, by have := HI1.out; unfold inR at this; omega, .inr ⟨rfl, H2.out, 0, 0, 0, set_three B4.out⟩⟩
            case measure => rcases hst with rfl | rfl <;> simp [intOf] <;> omega
        · clear hb hY3
          gi_wp2
          go_end0
          exact ⟨⟨_, rfl⟩, .inr ⟨pre ++ [x], RX.out, hjx⟩⟩
    · have HI1 := Lib.hid hout
      have HB := Lib.hid hblk
      clear hout hblk
      gi_wp2
      refine wpIn_region_quiet_lit rfl (by kernel_rfl) (by kernel_rfl) ?_
      repeat (first | gi_big_quiet_step (fail) | (refine BigFrame.wpQuietIn_skip (fun _ _ _ _ => trivial) rfl ?_; simp only [Act.put, List.setIfInBounds_toArray, List.set_cons_succ, List.set_cons_zero]))
      refine wpQuietIn_nil ?_
      rintro _ ⟨nq, rfl⟩
      gi_wp2
      go_end0
      exact ⟨⟨_, rfl⟩, .inl ⟨pre, ⟨HR.out, by rw [← HD.out]; exact HI1.out⟩, HJ.out _ _ _ HJr.out (drawn_below _ _ _)⟩⟩
end Go.Proofs.YtdmfgechoanmlaaGreatDoor

namespace Go.Proofs.YtdmfgechoanmlaaGreatDoor
open Go.RowKit Go.Shelf
attribute [local go_sem] Oper.semAt_some

theorem fscope_in {c : Code} {n : Nat} {Q : Exit → Act → World → Prop} {a : Act} {w : World} (h : c.wpIn Fence.wide n Tryz.prog (Exit.noGoto Q) a w) : (Code.scope c).wpIn Fence.wide n Tryz.prog Q a w := wpIn_wide.2 (wp_scope_straight (wpIn_wide.1 h))
/-- The function that dates answers: it knows the first date, and the step. -/
def MadeD (y m d st : Int) (w : World) (e : Ending) (w' : World) : Prop := ∃ Bf Bs : Nat, e = .returned (.func (.func 150) #[] #[.pointer (some ⟨Bf, 0, none⟩), .pointer (some ⟨Bs, 0, none⟩)]) ∧
  (w'.cell? ⟨Bf, 0, none⟩ = some (.int .i64 y) ∧ w'.cell? ⟨Bf, 1, none⟩ = some (.int .i64 m) ∧ w'.cell? ⟨Bf, 2, none⟩ = some (.int .i64 d) ∧ w'.cell? ⟨Bs, 0, none⟩ = some (.int .i64 st)) ∧ Below w.heap.size w w'
theorem ddates_is (y m d st : Int) (w : World) : Calls Tryz.prog 133 #[.agg #[.int .i64 y, .int .i64 m, .int .i64 d], .int .i64 st] w (MadeD y m d st w) := by
  have hmf : ∀ (fn : Fn) (first cap : Array Value) (w : World), (Instr.makeFunc fn first cap).run Tryz.prog w = .ok (.func fn first cap) w := fun _ _ _ _ => rfl
  go_enter Tryz.func133, Tryz.ntmps133
  go_wp2
  go_ret
  exact ⟨w.heap.size, w.heap.size + 1, rfl, ⟨by simp, by simp, by simp, by simp⟩, ((Below.refl _ _).alloc (Nat.le_refl _) _).alloc (by simp) _⟩

/-- The date that is meant, or that it has no year. -/
def SomeHit (h : Int) (w : World) (e : Ending) (w' : World) : Prop := Below w.heap.size w w' ∧
  ((∃ y m d : Int, okD y m d ∧ dayN y m d = h ∧ e = .returned (.tuple #[.agg #[.int .i64 y, .int .i64 m, .int .i64 d], .int .i64 0])) ∨ (¬ inR h ∧ e = .returned (.tuple #[.agg #[.int .i64 0, .int .i64 0, .int .i64 0], .int .i64 10])))

/-- What search's variables hold: the day, where the date is laid, what is found, and the error. -/
structure SrchV (w : World) (S R F E : Nat) (k wk n y m d e0 : Int) (W : World) : Prop where
  bel : Below w.heap.size w W
  dy : W.heap[S]? = some (.cells #[.int .i64 k, .int .i64 wk, .int .i64 n] 48 (0, 0))
  rs : W.heap[R]? = some (.cells #[.int .i64 0, .int .i64 0, .int .i64 0] 167 (0, 0))
  fd : W.heap[F]? = some (.cells #[.int .i64 y, .int .i64 m, .int .i64 d] 167 (0, 0))
  er : W.heap[E]? = some (.cells #[.int .i64 e0] 31 (0, 0))
theorem SrchV.next {w : World} {S R F E : Nat} {k wk n y m d e0 : Int} {W X : World} {B : Nat} (h : SrchV w S R F E k wk n y m d e0 W) (k' : Below B W X) (h0 : w.heap.size ≤ B) (h1 : S < B) (h2 : R < B) (h3 : F < B) (h4 : E < B) : SrchV w S R F E k wk n y m d e0 X :=
  ⟨h.bel.trans (k'.mono h0), (k'.block _ h1).trans h.dy, (k'.block _ h2).trans h.rs, (k'.block _ h3).trans h.fd, (k'.block _ h4).trans h.er⟩

theorem alloc_kept {W : World} {j : Nat} {x : Obj} (h : W.heap[j]? = some x) (o : Obj) : (W.alloc o).heap[j]? = some x := (Below.heap_alloc W o j (Array.getElem?_eq_some_iff.1 h).1).trans h

theorem SrchV.found {w : World} {S R F E : Nat} {k wk n y m d e0 : Int} {W : World} (h : SrchV w S R F E k wk n y m d e0 W) (hF : w.heap.size ≤ F) (hE : w.heap.size ≤ E) (n1 : S ≠ F) (n2 : S ≠ E) (n3 : R ≠ F) (n4 : R ≠ E) (n5 : F ≠ E) (x1 x2 x3 x4 : Int) :
    SrchV w S R F E k wk n x1 x2 x3 x4 ((((W.setCell ⟨F, 0, none⟩ (.int .i64 x1)).setCell ⟨F, 1, none⟩ (.int .i64 x2)).setCell ⟨F, 2, none⟩ (.int .i64 x3)).setCell ⟨E, 0, none⟩ (.int .i64 x4)) := by
  have o3 : ∀ j, j ≠ F → (((W.setCell ⟨F, 0, none⟩ (.int .i64 x1)).setCell ⟨F, 1, none⟩ (.int .i64 x2)).setCell ⟨F, 2, none⟩ (.int .i64 x3)).heap[j]? = W.heap[j]? := fun j hj =>
    ((Below.heap_setCell _ _ _ j (by show j ≠ F; exact hj)).trans (Below.heap_setCell _ _ _ j (by show j ≠ F; exact hj))).trans (Below.heap_setCell _ _ _ j (by show j ≠ F; exact hj))
  have o4 : ∀ (X : World) (j : Nat), j ≠ E → (X.setCell ⟨E, 0, none⟩ (.int .i64 x4)).heap[j]? = X.heap[j]? := fun X j hj => Below.heap_setCell _ _ _ j (by show j ≠ E; exact hj)
  exact ⟨(h.bel.trans (below_three hF _ _ _)).setCell (p := ⟨E, 0, none⟩) hE _, ((o4 _ _ n2).trans (o3 _ n1)).trans h.dy, ((o4 _ _ n4).trans (o3 _ n3)).trans h.rs, (o4 _ _ n5).trans (set_three h.fd), by simpa using tset (i := 0) ((o3 _ (Ne.symm n5)).trans h.er) (.int .i64 x4)⟩

/-- Behind the loop: what is handed back lies where it was stored, and the block for deferred calls is shut. -/
theorem fin_row {W X : World} {R D : Nat} {a b c x y z : Int} {t : TypeId} {o : Obj} (hr : W.heap[R]? = some (.cells #[.int .i64 a, .int .i64 b, .int .i64 c] t (0, 0))) (hd : W.heap[D]? = some o) (ho : o.isCells = false)
    (hX : ((W.setCell ⟨R, 0, none⟩ (.int .i64 x)).setCell ⟨R, 1, none⟩ (.int .i64 y)).setCell ⟨R, 2, none⟩ (.int .i64 z) = X) :
    X.drew.heap[D]? = some o ∧ (∀ o' : Obj, (X.drew.putObj D o').heap[R]? = some (.cells #[.int .i64 x, .int .i64 y, .int .i64 z] t (0, 0))) ∧ ∀ (B : Nat) (o' : Obj), B ≤ R → B ≤ D → Below B W (X.drew.putObj D o') := by
  have hne : D ≠ R := fun e => by
    subst e
    rw [hr] at hd
    cases hd
    cases ho
  have o3 : X.heap[D]? = W.heap[D]? := by
    rw [← hX]
    exact ((Below.heap_setCell _ _ _ D (by show D ≠ R; exact hne)).trans (Below.heap_setCell _ _ _ D (by show D ≠ R; exact hne))).trans (Below.heap_setCell _ _ _ D (by show D ≠ R; exact hne))
  have s3 : X.heap[R]? = some (.cells #[.int .i64 x, .int .i64 y, .int .i64 z] t (0, 0)) := by rw [← hX]; exact set_three hr
  have kb : ∀ B, B ≤ R → Below B W X := fun B hB => by rw [← hX]; exact below_three hB x y z
  have hl := (Array.getElem?_eq_some_iff.1 hd).1
  clear hX
  have e : X.drew.heap = X.heap := rfl
  refine ⟨by rw [e]; exact o3.trans hd, fun o' => (World.putObj_heap_other (Ne.symm hne)).trans (by rw [e]; exact s3), fun B o' h1 h2 => ?_⟩
  have k := kb B h1
  have ks := k.size
  exact (k.drew).grown (grownBy_putObj' X.drew D o') (by rw [e]; omega) (fun k e => by cases e; omega)

theorem hit_row {k wk a st : Int} {xs : List Dx} (hk : k ≠ 0) (h0 : 0 ≤ wk) (h6 : wk ≤ 6) (hs : st = if k = 2 then 1 else -1) (hr : RowD a st xs) (hu : ∀ z ∈ xs, wkD (dD z) ≠ wk) : ∀ j : Nat, j ≤ xs.length → hitD k wk (a + st * (j : Int)) = hitD k wk a
  | 0, _ => by simp
  | j + 1, hj => by
    obtain ⟨z, hz⟩ : ∃ z, xs[j]? = some z := ⟨_, List.getElem?_eq_getElem (by omega)⟩
    have hd := hr j z hz
    have hn := hit_next (a := a + st * (j : Int)) (wk := wk) hk h0 h6 hs (by rw [← hd]; exact hu z (List.mem_of_getElem? hz))
    rw [step_sum] at hn
    rw [hn, hit_row hk h0 h6 hs hr hu j (by omega)]
/-- The loop's end: none has a year. -/
theorem hit_done {k wk a st : Int} {xs : List Dx} (hk : k ≠ 0) (h0 : 0 ≤ wk) (h6 : wk ≤ 6) (hs : st = if k = 2 then 1 else -1) (ha : inR a) (hr : RowD a st xs) (hu : ∀ z ∈ xs, wkD (dD z) ≠ wk) (ho : ¬ inR (a + st * (xs.length : Int))) : ¬ inR (hitD k wk a) := by
  rw [← hit_row hk h0 h6 hs hr hu xs.length (Nat.le_refl _)]
  unfold hitD
  rw [if_neg hk]
  unfold inR at ho ha ⊢
  by_cases h2 : k = 2
  · rw [if_pos h2] at hs
    subst hs
    have := up_spec (a + 1 * (xs.length : Int)) wk h0 h6
    rw [if_pos h2]
    omega
  · rw [if_neg h2] at hs
    subst hs
    have := dn_spec (a + -1 * (xs.length : Int)) wk h0 h6
    rw [if_neg h2]
    omega
/-- A round that leaves: its date is the one. -/
theorem hit_stop {k wk a st : Int} {q : List Dx} {z : Dx} (h0 : 0 ≤ wk) (h6 : wk ≤ 6) (hs : k ≠ 0 → st = if k = 2 then 1 else -1) (hr : RowD a st (q ++ [z])) (hu : ∀ u ∈ q, k ≠ 0 ∧ wkD (dD u) ≠ wk) (hz : k = 0 ∨ wkD (dD z) = wk) : dD z = hitD k wk a := by
  have hd := hr q.length z (by simp)
  by_cases hk : k = 0
  · subst hk
    cases q with
    | nil => rw [hd]; simp [hitD]
    | cons u r => exact absurd rfl (hu u (by simp)).1
  · have hz' := hz.resolve_left hk
    have hr' : RowD a st q := fun i u hi => hr i u (by rw [List.getElem?_append_left (List.getElem?_eq_some_iff.1 hi).1]; exact hi)
    have := hit_row hk h0 h6 (hs hk) hr' (fun u hu' => (hu u hu').2) q.length (Nat.le_refl _)
    rw [← this, ← hd]
    exact (hit_same hz').symm

/-- What is known between two rounds of search. -/
def SrI (w : World) (S R F E : Nat) (k wk n : Int) (pre : List Dx) (W : World) : Prop := (∀ z ∈ pre, k ≠ 0 ∧ wkD (dD z) ≠ wk) ∧ SrchV w S R F E k wk n 0 0 0 10 W
/-- What is known where a round has left the loop. -/
def SrX (w : World) (S R F E : Nat) (k wk n : Int) (id : Nat) (c : Code) (pre : List Dx) (W : World) : Prop := c = .exit id ∧ ∃ (q : List Dx) (z : Dx), pre = q ++ [z] ∧ (∀ u ∈ q, k ≠ 0 ∧ wkD (dD u) ≠ wk) ∧ (k = 0 ∨ wkD (dD z) = wk) ∧ SrchV w S R F E k wk n z.1.1 z.1.2.1 z.1.2.2 0 W

set_option maxHeartbeats 4000000 in
theorem dsearch_in (k wk n y m d st : Int) (w : World) (hk : k = 0 ∨ k = 1 ∨ k = 2 ∨ k = 3) (h0 : 0 ≤ wk) (h6 : wk ≤ 6) (hs0 : st = 1 ∨ st = -1) (hst : k ≠ 0 → st = if k = 2 then 1 else -1) (hok : okD y m d) (hA : AhAt w) (N : Nat) (hN : N = 5) :
    CallsIn Fence.wide N Tryz.prog 115 #[.agg #[.int .i64 k, .int .i64 wk, .int .i64 n], .agg #[.int .i64 y, .int .i64 m, .int .i64 d], .int .i64 st] w (SomeHit (hitD k wk (dayN y m d)) w) := by
  have h1 : 1 ≤ N := by omega
  have HA := Lib.hid hA
  have HO := Lib.hid hok
  have HS := Lib.hid hst
  clear hA hok hst
  refine callsIn_of_wp_marks Tryz.func115 rfl trivial ?_ rfl
  simp only [Tryz.ntmps115, List.size_toArray, List.length_cons, List.length_nil, Nat.reduceAdd, Nat.reduceSub, Array.replicate_succ, Array.replicate_zero, List.push_toArray, List.append_toArray, List.nil_append, List.cons_append]
  gi_wp2
  refine fscope_in ?_
  gi_wp2
  refine wpIn_label ?_
  obtain ⟨W0, hW0⟩ : ∃ W0, ((((w.alloc (.cells #[.int .i64 k, .int .i64 wk, .int .i64 n] 48)).alloc (.cells #[.int .i64 y, .int .i64 m, .int .i64 d] 167)).alloc (.cells #[.int .i64 0, .int .i64 0, .int .i64 0] 167)).alloc (.cells #[.int .i64 0, .int .i64 0, .int .i64 0] 167)).alloc (.cells #[.int .i64 10] 31) = W0 := ⟨_, rfl⟩
  have hsz : W0.heap.size = w.heap.size + 1 + 1 + 1 + 1 + 1 := by rw [← hW0]; simp
  have b0 := alloc_kept (alloc_kept (alloc_kept (alloc_kept (heap_alloc_new w (.cells #[.int .i64 k, .int .i64 wk, .int .i64 n] 48)) (.cells #[.int .i64 y, .int .i64 m, .int .i64 d] 167)) (.cells #[.int .i64 0, .int .i64 0, .int .i64 0] 167)) (.cells #[.int .i64 0, .int .i64 0, .int .i64 0] 167)) (.cells #[.int .i64 10] 31)
  have b1 := alloc_kept (alloc_kept (alloc_kept (heap_alloc_new (w.alloc (.cells #[.int .i64 k, .int .i64 wk, .int .i64 n] 48)) (.cells #[.int .i64 y, .int .i64 m, .int .i64 d] 167)) (.cells #[.int .i64 0, .int .i64 0, .int .i64 0] 167)) (.cells #[.int .i64 0, .int .i64 0, .int .i64 0] 167)) (.cells #[.int .i64 10] 31)
  have b2 := alloc_kept (alloc_kept (heap_alloc_new ((w.alloc (.cells #[.int .i64 k, .int .i64 wk, .int .i64 n] 48)).alloc (.cells #[.int .i64 y, .int .i64 m, .int .i64 d] 167)) (.cells #[.int .i64 0, .int .i64 0, .int .i64 0] 167)) (.cells #[.int .i64 0, .int .i64 0, .int .i64 0] 167)) (.cells #[.int .i64 10] 31)
  have b3 := alloc_kept (heap_alloc_new (((w.alloc (.cells #[.int .i64 k, .int .i64 wk, .int .i64 n] 48)).alloc (.cells #[.int .i64 y, .int .i64 m, .int .i64 d] 167)).alloc (.cells #[.int .i64 0, .int .i64 0, .int .i64 0] 167)) (.cells #[.int .i64 0, .int .i64 0, .int .i64 0] 167)) (.cells #[.int .i64 10] 31)
  have b4 := heap_alloc_new ((((w.alloc (.cells #[.int .i64 k, .int .i64 wk, .int .i64 n] 48)).alloc (.cells #[.int .i64 y, .int .i64 m, .int .i64 d] 167)).alloc (.cells #[.int .i64 0, .int .i64 0, .int .i64 0] 167)).alloc (.cells #[.int .i64 0, .int .i64 0, .int .i64 0] 167)) (.cells #[.int .i64 10] 31)
  simp only [World.size_alloc, hW0] at b0 b1 b2 b3 b4
  have V0 : SrchV w w.heap.size (w.heap.size + 1 + 1) (w.heap.size + 1 + 1 + 1) (w.heap.size + 1 + 1 + 1 + 1) k wk n 0 0 0 10 W0 :=
    ⟨by rw [← hW0]; exact (((((Below.refl _ w).alloc (Nat.le_refl _) _).alloc (by simp) _).alloc (by simp; omega) _).alloc (by simp; omega) _).alloc (by simp; omega) _, b0, b2, b3, b4⟩
  obtain ⟨hc0, hc1, hc2, _⟩ := three_at b1
  clear b0 b1 b2 b3 b4
  have HV0 := Lib.hid V0
  have HZ := Lib.hid hsz
  try simp only [hW0]
  clear V0 hsz hW0
  gi_wp2_with (first
    | (refine ⟨trivial, ?_⟩; gi_at_call 133; refine (callsIn_wide.2 (ddates_is y m d st _)).mono ?_; rintro e w1 ⟨Bf, Bs, rfl, ⟨f0, f1, f2, f3⟩, k1⟩))
  have hw1 := k1.size
  rw [HZ.out] at hw1
  have HV1 := Lib.hid (HV0.out.next k1 (by rw [HZ.out]; omega) (by rw [HZ.out]; omega) (by rw [HZ.out]; omega) (by rw [HZ.out]; omega) (by rw [HZ.out]; omega))
  have A1 := Lib.hid ((HA.out.next HV0.out.bel).next k1)
  have FF := Lib.hid (And.intro f0 (And.intro f1 (And.intro f2 f3)))
  clear k1 hc0 hc1 hc2 f0 f1 f2 f3
  have under : ∀ (I : List Dx → World → Prop), True := fun _ => trivial
  refine range_own h1 (gf := 150) (lb := #[.pointer (some ⟨Bf, 0, none⟩), .pointer (some ⟨Bs, 0, none⟩)]) rfl (enters_of Tryz.func150 (by kernel_rfl) rfl)
    (dates_own (N - 1) (by omega) Bf Bs y m d st w1 HO.out hs0 A1.out FF.out.1 FF.out.2.1 FF.out.2.2.1 FF.out.2.2.2) (Nat.le_refl _) (fun _ => rfl)
    (SrI w w.heap.size (w.heap.size + 1 + 1) (w.heap.size + 1 + 1 + 1) (w.heap.size + 1 + 1 + 1 + 1) k wk n)
    (SrX w w.heap.size (w.heap.size + 1 + 1) (w.heap.size + 1 + 1 + 1) (w.heap.size + 1 + 1 + 1 + 1) k wk n 0)
    ?hI ?hIx ⟨fun z hz => by simp at hz, HV1.out⟩ ?round ?done ?stop
  case hI =>
    rintro pre X Y ⟨h, hv⟩ kb
    exact ⟨h, hv.next kb (by omega) (by omega) (by omega) (by omega) (by omega)⟩
  case hIx =>
    rintro c pre X Y ⟨hc, q, z, e, hu, hz, hv⟩ kb
    exact ⟨hc, q, z, e, hu, hz, hv.next kb (by omega) (by omega) (by omega) (by omega) (by omega)⟩
  case round =>
    rintro l pre ⟨⟨y1, m1, d1⟩, hx⟩ W ⟨hun, hv⟩ hOk hsW
    have HU := Lib.hid hun
    have HV := Lib.hid hv
    obtain ⟨wv, hwv⟩ : ∃ wv, wkD (dD ⟨(y1, m1, d1), hx⟩) = wv := ⟨_, rfl⟩
    have HW := Lib.hid hwv
    clear hun hv hOk
    simp only [dxV]
    rw [hwv]
    clear hwv
    gi_wp2
    refine ⟨(KeptO.refl _ _).alloc _, (Below.refl _ _).alloc (by omega) _, fun X => SrchV w w.heap.size (w.heap.size + 1 + 1) (w.heap.size + 1 + 1 + 1) (w.heap.size + 1 + 1 + 1 + 1) k wk n 0 0 0 10 X ∧ X.heap[W.heap.size]? = some (.cells #[.int .i64 y1, .int .i64 m1, .int .i64 d1] 167 (0, 0)), ?_, ⟨HV.out.next (Below.refl W.heap.size W |>.alloc (Nat.le_refl _) _) (by omega) (by omega) (by omega) (by omega) (by omega), heap_alloc_new W _⟩, ?_⟩
    · rintro X r ⟨hv, hb⟩
      have hlt := (Array.getElem?_eq_some_iff.1 hb).1
      refine ⟨hv.next (B := w1.heap.size) ((Below.refl _ X).grown (grownBy_putObj' X (w1.heap.size + 1) _) (by omega) (fun j hj => by cases hj; omega)) (by omega) (by omega) (by omega) (by omega) (by omega), (World.putObj_heap_other (by omega)).trans hb⟩
    · rintro W2 ⟨hv, hb⟩
      obtain ⟨p0, p1, p2, _, _, _, pl⟩ := three_at hb
      obtain ⟨q0, q1, q2, _, _, _, ql⟩ := three_at hv.dy
      obtain ⟨r0, r1, r2, s0, s1, s2, rl⟩ := three_at hv.fd
      have t0 : W2.cell? ⟨w.heap.size + 1 + 1 + 1 + 1, 0, none⟩ = some (.int .i64 10) := cell_of_row W2 _ 0 _ _ (0, 0) hv.er
      have u0 : W2.frozen? ⟨w.heap.size + 1 + 1 + 1 + 1, 0, none⟩ = false := by simp [World.frozen?, hv.er]
      have V2 := Lib.hid hv
      clear hv hb
      by_cases hm : k ≠ 0 ∧ wv ≠ wk
      · have hne : (wv == wk) = false := by simpa using hm.2
        have hne2 : (wv != wk) = true := by simpa using hm.2
        have HM := Lib.hid hm
        have hk' : k = 1 ∨ k = 2 ∨ k = 3 := by omega
        clear hm hk
        rcases hk' with rfl | rfl | rfl
        all_goals
          gi_wp2
          exact ⟨KeptO.refl _ _, Below.refl _ _, fun z hz => (List.mem_append.1 hz).elim (fun h => HU.out z h) (fun h => by
            obtain rfl := List.mem_singleton.1 h
            exact ⟨HM.out.1, by rw [HW.out]; exact HM.out.2⟩), V2.out⟩
      · have hm' : k = 0 ∨ wv = wk := by omega
        have HZ' : Hid (k = 0 ∨ wkD (dD ⟨(y1, m1, d1), hx⟩) = wk) := Lib.hid (by rw [HW.out]; exact hm')
        have fin : ∀ W3 : World, W3 = (((W2.setCell ⟨w.heap.size + 1 + 1 + 1, 0, none⟩ (.int .i64 y1)).setCell ⟨w.heap.size + 1 + 1 + 1, 1, none⟩ (.int .i64 m1)).setCell ⟨w.heap.size + 1 + 1 + 1, 2, none⟩ (.int .i64 d1)).setCell ⟨w.heap.size + 1 + 1 + 1 + 1, 0, none⟩ (.int .i64 0) →
            KeptO w1.heap.size W2 W3 ∧ SrX w w.heap.size (w.heap.size + 1 + 1) (w.heap.size + 1 + 1 + 1) (w.heap.size + 1 + 1 + 1 + 1) k wk n 0 (.exit 0) (pre ++ [⟨(y1, m1, d1), hx⟩]) W3 := by
          rintro W3 rfl
          refine ⟨((((KeptO.refl _ _).setCell (.inl (by omega)) _ _).setCell (.inl (by omega)) _ _).setCell (.inl (by omega)) _ _).setCell (.inl (by omega)) _ _, rfl, pre, ⟨(y1, m1, d1), hx⟩, rfl, HU.out, HZ'.out, ?_⟩
          exact V2.out.found (by omega) (by omega) (by omega) (by omega) (by omega) (by omega) (by omega) _ _ _ _
        have FIN := Lib.hid fin
        clear fin hm HZ'
        by_cases hk0 : k = 0
        · subst hk0
          clear hk hm'
          gi_wp2
          exact FIN.out _ rfl
        · obtain rfl : wv = wk := hm'.resolve_left hk0
          have hk' : k = 1 ∨ k = 2 ∨ k = 3 := by omega
          clear hk hm' hk0
          rcases hk' with rfl | rfl | rfl
          all_goals
            gi_wp2
            exact FIN.out _ rfl
  case done =>
    rintro D xs W hD ⟨hrow, hno⟩ ⟨hu, hv⟩ hdf
    have NO : Hid (¬ inR (hitD k wk (dayN y m d))) := Lib.hid (by
      by_cases hk0 : k = 0
      · exfalso
        cases xs with
        | nil => exact hno (by rw [List.length_nil]; show inR (_ + st * 0); rw [Int.mul_zero, Int.add_zero]; exact day_bd HO.out)
        | cons u r => exact (hu u (by simp)).1 hk0
      · exact hit_done hk0 h0 h6 (HS.out hk0) (day_bd HO.out) hrow (fun z hz => (hu z hz).2) hno)
    obtain ⟨p0, p1, p2, _, _, _, pl⟩ := three_at hv.fd
    obtain ⟨r0, r1, r2, s0, s1, s2, rl⟩ := three_at hv.rs
    have t0 : W.cell? ⟨w.heap.size + 1 + 1 + 1 + 1, 0, none⟩ = some (.int .i64 10) := cell_of_row W _ 0 _ _ (0, 0) hv.er
    have HV := Lib.hid hv
    have HDF := Lib.hid hdf
    clear hrow hno hu hv hdf hk
    gi_wp2
    refine wpIn_wide.2 ?_
    go_region
    all_goals gi_wp2
    obtain ⟨X, hX⟩ : ∃ X, ((W.setCell ⟨w.heap.size + 1 + 1, 0, none⟩ (.int .i64 0)).setCell ⟨w.heap.size + 1 + 1, 1, none⟩ (.int .i64 0)).setCell ⟨w.heap.size + 1 + 1, 2, none⟩ (.int .i64 0) = X := ⟨_, rfl⟩
    rw [hX]
    obtain ⟨hd, hr, hbe⟩ := fin_row HV.out.rs HDF.out rfl hX
    clear hX
    obtain ⟨z0, z1, z2, _⟩ := three_at (hr (.deferred none))
    have BE := Lib.hid (hbe w.heap.size (.deferred none) (by omega) (by omega))
    refine ⟨by simp, .inl ⟨_, _, rfl, run_takeDeferred hd, ?_⟩⟩
    exact ⟨.tuple #[.agg #[.int .i64 0, .int .i64 0, .int .i64 0], .int .i64 10], by simp [results, Tryz.results115, go_sem, z0, z1, z2], HV.out.bel.trans BE.out, .inr ⟨NO.out, rfl⟩⟩
  case stop =>
    rintro D c pre W hD hrow ⟨rfl, q, ⟨⟨y1, m1, d1⟩, hx⟩, rfl, hu, hz, hv⟩ hdf
    have hh := hit_stop h0 h6 HS.out hrow hu hz
    change dayN y1 m1 d1 = _ at hh
    have YES := Lib.hid (And.intro hx hh)
    change SrchV w w.heap.size (w.heap.size + 1 + 1) (w.heap.size + 1 + 1 + 1) (w.heap.size + 1 + 1 + 1 + 1) k wk n y1 m1 d1 0 W at hv
    obtain ⟨p0, p1, p2, _, _, _, pl⟩ := three_at hv.fd
    obtain ⟨r0, r1, r2, s0, s1, s2, rl⟩ := three_at hv.rs
    have t0 : W.cell? ⟨w.heap.size + 1 + 1 + 1 + 1, 0, none⟩ = some (.int .i64 0) := cell_of_row W _ 0 _ _ (0, 0) hv.er
    have HV := Lib.hid hv
    have HDF := Lib.hid hdf
    clear hrow hu hv hdf hk hz hx hh
    gi_wp2
    refine wpIn_wide.2 ?_
    go_region
    all_goals gi_wp2
    obtain ⟨X, hX⟩ : ∃ X, ((W.setCell ⟨w.heap.size + 1 + 1, 0, none⟩ (.int .i64 y1)).setCell ⟨w.heap.size + 1 + 1, 1, none⟩ (.int .i64 m1)).setCell ⟨w.heap.size + 1 + 1, 2, none⟩ (.int .i64 d1) = X := ⟨_, rfl⟩
    rw [hX]
    obtain ⟨hd, hr, hbe⟩ := fin_row HV.out.rs HDF.out rfl hX
    clear hX
    obtain ⟨z0, z1, z2, _⟩ := three_at (hr (.deferred none))
    have BE := Lib.hid (hbe w.heap.size (.deferred none) (by omega) (by omega))
    refine ⟨by simp, .inl ⟨_, _, rfl, run_takeDeferred hd, ?_⟩⟩
    exact ⟨.tuple #[.agg #[.int .i64 y1, .int .i64 m1, .int .i64 d1], .int .i64 0], by simp [results, Tryz.results115, go_sem, z0, z1, z2], HV.out.bel.trans BE.out, .inl ⟨y1, m1, d1, YES.out.1, YES.out.2, rfl⟩⟩
/-- search. -/
theorem dsearch_is (k wk n y m d st : Int) (w : World) (hk : k = 0 ∨ k = 1 ∨ k = 2 ∨ k = 3) (h0 : 0 ≤ wk) (h6 : wk ≤ 6) (hs0 : st = 1 ∨ st = -1) (hst : k ≠ 0 → st = if k = 2 then 1 else -1) (hok : okD y m d) (hA : AhAt w) :
    Calls Tryz.prog 115 #[.agg #[.int .i64 k, .int .i64 wk, .int .i64 n], .agg #[.int .i64 y, .int .i64 m, .int .i64 d], .int .i64 st] w (SomeHit (hitD k wk (dayN y m d)) w) :=
  callsIn_wide.1 (dsearch_in k wk n y m d st w hk h0 h6 hs0 hst hok hA 5 rfl)
end Go.Proofs.YtdmfgechoanmlaaGreatDoor
