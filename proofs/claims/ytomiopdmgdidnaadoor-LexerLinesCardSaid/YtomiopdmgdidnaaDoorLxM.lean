/- An iterator that itself ranges over another one, said as a contract over invariants that speak of cells, or of what lay before the call; and the range over such an iterator, whose round first stores its element into a variable of the round: laws of this text's own, beside the library's. -/
import Derived.RangeFuncNested
import Derived.RangeFuncBound
import Derived.RangeFuncCalls
import Derived.RangeFuncLeaves
import Derived.RangeFuncBox
import Derived.OwnWalkIn
import Derived.TacticsInMore
import Derived.Test.YtomiopdmgdidnaaDoorLxB
namespace Go.Proofs.YtomiopdmgdidnaaDoor
open Go.RowKit

section
variable {n : Nat} {P : Program}

/-- A round's contract goes into a round of another loop, at whatever depth. -/
theorem yield_inner {m m' l l' : Nat} {args : Array Value} {W : World} {R : Ending → World → Prop} (h : YieldAt Fence.wide m P l args W R) : YieldAt (Fence.wide.inRound l') m' P l args W R := by
  obtain ⟨fn, tmps, assign, body, hy, hR⟩ := h
  exact ⟨fn, tmps, assign, body, hy, hR.1, fun c cs _ => hR.2 c cs (room_wide _)⟩

/-- All of S is told, one behind the other, to a loop that never leaves; the iterator's first block stays as it is. -/
def SeqAll {α : Type} (n : Nat) (P : Program) (gf : Nat) (lb : Array Value) (encs : α → Array Value) (Ok : List α → α → World → Prop) (n0 : Nat) (S : List α → Prop) (w : World) : Prop :=
  ∀ (l : Nat) (J : List α → World → Prop) (W : World), Below w.heap.size w W → OwnFrom W.heap.size J →
    (∀ pre x W1, J pre W1 → Ok pre x W1 → W.heap.size < W1.heap.size → YieldAt Fence.wide (n - 1) P l (encs x) W1 fun e W' => e = .returned (.bool true) ∧ J (pre ++ [x]) W' ∧ Below n0 W1 W' ∧ KeepsFrom W.heap.size W1 W' ∧ W'.heap[W.heap.size]? = W1.heap[W.heap.size]?) →
    J [] W → CallsIn Fence.wide n P gf (#[.func (.yield l) #[] #[]] ++ lb) W fun e W' => (∃ v, e = .returned v) ∧ ∃ xs, S xs ∧ J xs W'

/-- A loop's book-keeping: its record in block D + 1, its rounds' deferred calls, none, in block D. -/
structure Book (D : Nat) (r : Loop) (W : World) : Prop where
  lp : W.heap[D + 1]? = some (.loop r)
  dfr : W.heap[D]? = some (.deferred (some []))
theorem Book.keep {D : Nat} {r : Loop} {W W' : World} (h : Book D r W) (k : KeepsOthers W W') : Book D r W' := ⟨k.same _ _ h.lp rfl, k.same _ _ h.dfr rfl⟩
theorem Book.put {D : Nat} {r : Loop} {W : World} (h : Book D r W) (r' : Loop) : Book D r' (W.putObj (D + 1) (.loop r')) :=
  ⟨World.putObj_heap_same (Array.getElem?_eq_some_iff.1 h.lp).1, (World.putObj_heap_other (by omega)).trans h.dfr⟩
theorem Book.own {β : Type} (B D : Nat) (r : Loop) (h : D + 2 ≤ B) : OwnFrom B (fun (_ : β) W => Book D r W) := fun _ W W' row hs hg hr => by
  have h1 := (Array.getElem?_eq_some_iff.1 hs.lp).1
  have h2 := (Array.getElem?_eq_some_iff.1 hs.dfr).1
  exact ⟨(hg.block (D + 1) h1 (fun e => by have := (hr _ e.symm).1; omega)).trans hs.lp, (hg.block D h2 (fun e => by have := (hr _ e.symm).1; omega)).trans hs.dfr⟩
theorem OwnFrom.put {β : Type} {D : Nat} {I : β → World → Prop} (hI : OwnFrom D I) {s : β} {r : Loop} {W : World} (b : Book D r W) (h : I s W) (r' : Loop) : I s (W.putObj (D + 1) (.loop r')) := hI.putObj _ h (by omega) b.lp rfl
theorem OwnFrom.mono {β : Type} {B B' : Nat} {I : β → World → Prop} (hI : OwnFrom B I) (h : B ≤ B') : OwnFrom B' I := fun s W W' row hs hg hr => hI s W W' row hs hg (fun r e => ⟨Nat.le_trans h (hr r e).1, (hr r e).2⟩)
theorem Book.below {D n0 : Nat} {r : Loop} {W : World} (h : Book D r W) (hn : n0 ≤ D) (r' : Loop) : Below n0 W (W.putObj (D + 1) (.loop r')) :=
  (Below.refl n0 W).grown (grownBy_putObj' W (D + 1) _) (by have := (Array.getElem?_eq_some_iff.1 h.lp).1; omega) (fun j hj => by cases hj; omega)
theorem keeps_put {D B : Nat} (W : World) (o : Obj) (h : D + 1 < B) : KeepsFrom B W (W.putObj (D + 1) o) := KeepsFrom.of_grownBy (grownBy_putObj' W (D + 1) o) (fun j e => by cases e; exact h)

/-- What a part of a round keeps: what is no cells, what lies below n0, and block B. -/
structure Kept1 (n0 B : Nat) (W W' : World) : Prop where
  oth : KeepsOthers W W'
  bel : Below n0 W W'
  at_ : W'.heap[B]? = W.heap[B]?
theorem Kept1.refl (n0 B : Nat) (W : World) : Kept1 n0 B W W := ⟨KeepsOthers.refl W, Below.refl _ _, rfl⟩
theorem Kept1.trans {n0 B : Nat} {X Y Z : World} (h : Kept1 n0 B X Y) (k : Kept1 n0 B Y Z) : Kept1 n0 B X Z := ⟨h.oth.trans k.oth, h.bel.trans k.bel, k.at_.trans h.at_⟩
/-- How the body of a round goes on. -/
def goOn {α : Type} (n0 B : Nat) (I : List α → World → Prop) (xs : List α) (W : World) : Exit → Act → World → Prop
  | .normal, _, W' => Kept1 n0 B W W' ∧ I xs W'
  | _, _, _ => False
theorem at_put {W : World} {B l : Nat} (o : Obj) (h : B ≠ l) : (W.putObj l o).heap[B]? = W.heap[B]? := World.putObj_heap_other (by omega)

theorem range_all {α : Type} {g : Operand} {ps : Array Tmp} {assign body : Code} {Q : Exit → Act → World → Prop} {a : Act} {w : World}
    (h1 : 1 ≤ n) {gf : Nat} {lb : Array Value} (hg : a.eval g = .func (.func gf) #[] lb) (eg : ∀ args w, (callFunc gf args).run P w = .ok (.enter gf args) w)
    {encs : α → Array Value} {Ok : List α → α → World → Prop} {n0 : Nat} {S : List α → Prop} (hseq : SeqAll (n - 1) P gf lb encs Ok n0 S w) (hn0 : n0 ≤ w.heap.size) (hps : ∀ x, (encs x).size = ps.size)
    (I : List α → World → Prop) (hI : OwnFrom w.heap.size I) (h0 : I [] w)
    (hround : ∀ (l : Nat) (pre : List α) (x : α) (W : World), I pre W → Ok pre x W → w.heap.size + 2 < W.heap.size → assign.wpIn (Fence.wide.inRound l) (n - 1 - 1) P
      (Exit.then (fun a' W' => Kept1 n0 (w.heap.size + 2) W W' ∧ ∃ M : Unit → World → Prop, OwnFrom w.heap.size M ∧ M () W' ∧ ∀ W2, M () W2 → w.heap.size + 2 < W2.heap.size → body.wpIn (Fence.wide.inRound l) (n - 1 - 1) P (goOn n0 (w.heap.size + 2) I (pre ++ [x]) W2) a' W2) (fun _ _ _ => False))
      { tmps := (ps.zip (encs x)).foldl (fun t (p, v) => t.setIfInBounds p v) a.tmps, defers := [] } W)
    (hdone : ∀ (D : Nat) (xs : List α) (W : World), w.heap.size ≤ D → S xs → I xs W → W.heap[D]? = some (.deferred (some [])) → Q .normal { a with defers := { target := .collected D, args := #[] } :: a.defers } W) :
    (Code.rangeFunc g ps assign body).wpIn Fence.wide n P Q a w := by
  refine wpIn_rangeFunc fun fn hfn => ?_
  rw [show Fence.wide.round = none from rfl]
  obtain ⟨D, hD⟩ : ∃ D, w.heap.size = D := ⟨_, rfl⟩
  obtain ⟨R, hR⟩ : ∃ R : LoopState → Option Code → Loop, R = fun st pe => { state := st, pending := pe, fn, tmps := a.tmps, params := ps, assign, body, defers := D } := ⟨_, rfl⟩
  obtain ⟨V, hV⟩ : ∃ V, (w.alloc (.deferred (some []))).alloc (.loop (R .ready none)) = V := ⟨_, rfl⟩
  have hVs : V.heap.size = D + 2 := by rw [← hV, ← hD]; simp
  have bV : Book D (R .ready none) V := by
    constructor
    · rw [← hV, ← hD]
      have := World.alloc_heap_new (w.alloc (.deferred (some []))) (.loop (R .ready none))
      rwa [World.size_alloc] at this
    · rw [← hV, ← hD]
      exact (Below.heap_alloc _ _ _ (by simp)).trans (World.alloc_heap_new w _)
  have iV : I [] V := by rw [← hV]; exact hI.alloc _ (hI.alloc _ h0)
  have kV : Below w.heap.size w V := by rw [← hV]; exact ((Below.refl _ w).alloc (Nat.le_refl _) _).alloc (by simp) _
  have enter : (Instr.enterLoop fn a.tmps ps assign body none).run P w = .ok (D + 1, [{ target := .collected D, args := #[] }]) V := by rw [← hV, hR, ← hD]; exact run_enterLoop_outer _ _ _ _ _
  refine ⟨D + 1, [{ target := .collected D, args := #[] }], V, { target := .fn (.func gf) lb, args := #[.func (.yield (D + 1)) #[] #[]] }, V, gf, #[.func (.yield (D + 1)) #[] #[]] ++ lb, V, enter, by simp only [resolve, hg]; simp [go_sem], fun _ _ => trivial, by simp [invoke, go_sem, eg], fun _ => h1, ?_⟩
  refine (hseq (D + 1) (fun pre W => I pre W ∧ Book D (R .ready none) W) V kV
    (OwnFrom.and (OwnFrom.mono hI (by omega)) (Book.own _ D _ (by omega))) ?_ ⟨iV, bV⟩).mono ?_
  · rintro pre x W ⟨hi, hb⟩ hok hlt
    rw [hVs] at hlt
    have hy := run_yield (P := P) (args := encs x) hb.lp (by rw [hR]; exact hps x)
    rw [hR] at hy
    refine ⟨fn, _, assign, body, hy, roundIn_of_wpIn hfn (wpIn_mono (hround (D + 1) pre x W hi hok (by omega)) ?_)⟩
    rintro e a' W1 hp
    cases e with
    | normal =>
      obtain ⟨⟨ko, kb, ka⟩, M, hM, him, hbody⟩ := hp
      have b1 := hb.keep ko
      refine ⟨_, run_beginRound b1.lp (by rw [hR]), wpIn_mono (hbody _ (hD ▸ OwnFrom.put (hD ▸ hM) b1 him _) (by have := ko.size; simp [World.putObj]; omega)) ?_⟩
      have b2 := b1.put { R .ready none with state := .busy }
      have k2 : Below n0 W (W1.putObj (D + 1) (.loop { R .ready none with state := .busy })) := kb.trans (b1.below (by omega) _)
      have c2 : KeepsFrom V.heap.size W (W1.putObj (D + 1) (.loop { R .ready none with state := .busy })) := (ko.from _).trans (keeps_put W1 _ (by omega))
      rintro e a3 W3 hp
      cases e with
      | normal =>
        obtain ⟨⟨k3, kb3, ka3⟩, i3⟩ := hp
        have b3 := b2.keep k3
        have hr := run_endRound (P := P) none b3.lp
        rw [hR] at hr
        exact ⟨_, _, hr, rfl, by rw [hR]; exact ⟨hD ▸ OwnFrom.put (hD ▸ hI) b3 i3 _, b3.put _⟩, (k2.trans kb3).trans (b3.below (by omega) _), (c2.trans (k3.from _)).trans (keeps_put W3 _ (by omega)), by
          rw [hD] at ka ka3
          rw [hVs, at_put _ (by omega), ka3, at_put _ (by omega), ka]⟩
      | ret => exact hp.elim
      | exit id => exact hp.elim
      | goto t => exact hp.elim
      | panic ch => exact hp.elim
      | outgrown => exact hp.elim
    | ret => exact hp.elim
    | exit id => exact hp.elim
    | goto t => exact hp.elim
    | panic ch => exact hp.elim
    | outgrown => exact hp.elim
  · rintro e W2 ⟨⟨v, rfl⟩, xs, hS, hi, hb⟩
    refine ⟨none, _, by have := run_endLoop (P := P) hb.lp (by rw [hR]; simp); rw [hR] at this; exact this, ?_⟩
    exact hdone D xs _ (by omega) hS (hD ▸ OwnFrom.put (hD ▸ hI) hb hi _) (hb.put _).dfr

theorem Book.keepF {D : Nat} {r : Loop} {W W' : World} (h : Book D r W) (k : KeepsFrom D W W') : Book D r W' := ⟨k.same _ _ (by omega) h.lp rfl, k.same _ _ (Nat.le_refl _) h.dfr rfl⟩
theorem Book.grown {D : Nat} {r : Loop} {W W' : World} {row : Option Nat} (h : Book D r W) (hg : W.grownBy W' row) (hr : ∀ j, row = some j → ∃ o : Obj, W.heap[j]? = some o ∧ o.isWalk = true) : Book D r W' :=
  ⟨(grownBy_keeps hg hr h.lp rfl).trans h.lp, (grownBy_keeps hg hr h.dfr rfl).trans h.dfr⟩

/-- An iterator's contract whose rounds are told what may come behind what came. -/
def SeqOk {α : Type} (n : Nat) (P : Program) (gf : Nat) (lb : Array Value) (encs : α → Array Value) (Ok : List α → α → Prop) (n0 : Nat) (S Sp : List α → Prop) (w : World) : Prop :=
  ∀ (l : Nat) (J Jx : List α → World → Prop) (W : World), Below w.heap.size w W → AbidesFrom W.heap.size J → AbidesFrom W.heap.size Jx →
    (∀ pre x W1, J pre W1 → Ok pre x → YieldAt Fence.wide (n - 1) P l (encs x) W1 fun e W' =>
      (e = .returned (.bool true) ∧ J (pre ++ [x]) W' ∧ Below n0 W1 W') ∨ (e = .returned (.bool false) ∧ Jx (pre ++ [x]) W')) →
    J [] W → CallsIn Fence.wide n P gf (#[.func (.yield l) #[] #[]] ++ lb) W fun e W' => (∃ v, e = .returned v) ∧ ((∃ xs, S xs ∧ J xs W') ∨ (∃ pre, Sp pre ∧ Jx pre W'))

theorem range_ok {α : Type} {g : Operand} {ps : Array Tmp} {assign body : Code} {Q : Exit → Act → World → Prop} {a : Act} {w : World}
    (h1 : 1 ≤ n) {gf : Nat} {lb : Array Value} (hg : a.eval g = .func (.func gf) #[] lb) (eg : ∀ args w, (callFunc gf args).run P w = .ok (.enter gf args) w)
    {encs : α → Array Value} {Ok : List α → α → Prop} {n0 : Nat} {S Sp : List α → Prop} (hseq : SeqOk (n - 1) P gf lb encs Ok n0 S Sp w) (hn0 : n0 ≤ w.heap.size) (hps : ∀ x, (encs x).size = ps.size)
    (I : List α → World → Prop) (Ix : Code → List α → World → Prop) (hI : OwnFrom w.heap.size I) (hIx : ∀ c, OwnFrom w.heap.size (Ix c)) (h0 : I [] w) (a1 : α → Act)
    (hassign : ∀ (l : Nat) (x : α) (W : World) (K : Act → World → Prop), K (a1 x) W →
      assign.wpIn (Fence.wide.inRound l) (n - 1 - 1) P (Exit.then K (fun _ _ _ => False)) { tmps := (ps.zip (encs x)).foldl (fun t (p, v) => t.setIfInBounds p v) a.tmps, defers := [] } W)
    (hbody : ∀ (l : Nat) (pre : List α) (x : α) (W : World), I pre W → Ok pre x → body.wpIn (Fence.wide.inRound l) (n - 1 - 1) P (ownPostG w.heap.size (Below n0) I Ix (pre ++ [x]) W) (a1 x) W)
    (hdone : ∀ (D : Nat) (xs : List α) (W : World), w.heap.size ≤ D → S xs → I xs W → W.heap[D]? = some (.deferred (some [])) → Q .normal { a with defers := { target := .collected D, args := #[] } :: a.defers } W)
    (hstop : ∀ (D : Nat) (c : Code) (pre : List α) (W : World), w.heap.size ≤ D → Sp pre → Ix c pre W → W.heap[D]? = some (.deferred (some [])) → c.wpIn Fence.wide n P Q { a with defers := { target := .collected D, args := #[] } :: a.defers } W) :
    (Code.rangeFunc g ps assign body).wpIn Fence.wide n P Q a w := by
  refine wpIn_rangeFunc fun fn hfn => ?_
  rw [show Fence.wide.round = none from rfl]
  obtain ⟨D, hD⟩ : ∃ D, w.heap.size = D := ⟨_, rfl⟩
  obtain ⟨R, hR⟩ : ∃ R : LoopState → Option Code → Loop, R = fun st pe => { state := st, pending := pe, fn, tmps := a.tmps, params := ps, assign, body, defers := D } := ⟨_, rfl⟩
  obtain ⟨V, hV⟩ : ∃ V, (w.alloc (.deferred (some []))).alloc (.loop (R .ready none)) = V := ⟨_, rfl⟩
  have bV : Book D (R .ready none) V := by
    constructor
    · rw [← hV, ← hD]
      have := World.alloc_heap_new (w.alloc (.deferred (some []))) (.loop (R .ready none))
      rwa [World.size_alloc] at this
    · rw [← hV, ← hD]
      exact (Below.heap_alloc _ _ _ (by simp)).trans (World.alloc_heap_new w _)
  have iV : I [] V := by rw [← hV]; exact hI.alloc _ (hI.alloc _ h0)
  have kV : Below w.heap.size w V := by rw [← hV]; exact ((Below.refl _ w).alloc (Nat.le_refl _) _).alloc (by simp) _
  have row : ∀ {A : World} {r : Option Nat}, (∀ j, r = some j → V.heap.size ≤ j ∧ ∃ o : Obj, A.heap[j]? = some o ∧ o.isWalk = true) → ∀ j, r = some j → w.heap.size ≤ j ∧ ∃ o : Obj, A.heap[j]? = some o ∧ o.isCells = false := fun hr j e => by
    obtain ⟨hs, o, ho, hw⟩ := hr j e
    exact ⟨Nat.le_trans kV.size hs, o, ho, Obj.not_cells_of_walk hw⟩
  have enter : (Instr.enterLoop fn a.tmps ps assign body none).run P w = .ok (D + 1, [{ target := .collected D, args := #[] }]) V := by rw [← hV, hR, ← hD]; exact run_enterLoop_outer _ _ _ _ _
  refine ⟨D + 1, [{ target := .collected D, args := #[] }], V, { target := .fn (.func gf) lb, args := #[.func (.yield (D + 1)) #[] #[]] }, V, gf, #[.func (.yield (D + 1)) #[] #[]] ++ lb, V, enter, by simp only [resolve, hg]; simp [go_sem], fun _ _ => trivial, by simp [invoke, go_sem, eg], fun _ => h1, ?_⟩
  refine (hseq (D + 1) (fun pre W => I pre W ∧ Book D (R .ready none) W) (fun pre W => ∃ c, Ix c pre W ∧ Book D (R .done (some c)) W) V kV
    (fun s A B r h g' hr => ⟨hI s A B r h.1 g' (row hr), h.2.grown g' (fun j e => (hr j e).2)⟩) (fun s A B r ⟨c, hc, hb⟩ g' hr => ⟨c, hIx c s A B r hc g' (row hr), hb.grown g' (fun j e => (hr j e).2)⟩) ?_ ⟨iV, bV⟩).mono ?_
  · rintro pre x W ⟨hi, hb⟩ hlen
    have hy := run_yield (P := P) (args := encs x) hb.lp (by rw [hR]; exact hps x)
    rw [hR] at hy
    refine ⟨fn, _, assign, body, hy, roundIn_of_wpIn hfn (hassign _ x W _ ⟨_, run_beginRound hb.lp (by rw [hR]), ?_⟩)⟩
    refine wpIn_mono (hbody (D + 1) pre x _ (hD ▸ OwnFrom.put (hD ▸ hI) hb hi _) hlen) ?_
    have b2 := hb.put { R .ready none with state := .busy }
    have k2 : Below n0 W (W.putObj (D + 1) (.loop { R .ready none with state := .busy })) := hb.below (by omega) _
    rw [hD]
    have close : ∀ (jump : Option Code) (W3 : World), KeepsFrom D (W.putObj (D + 1) (.loop { R .ready none with state := .busy })) W3 →
        (Instr.endRound (D + 1) jump).run P W3 = .ok (.bool jump.isNone) (W3.putObj (D + 1) (.loop (R (if jump.isNone then .ready else .done) jump))) ∧ Book D { R .ready none with state := .busy } W3 := fun jump W3 k3 => by
      have b3 := b2.keepF k3
      have hr := run_endRound (P := P) jump b3.lp
      rw [hR] at hr ⊢
      exact ⟨hr, by rw [hR] at b3; exact b3⟩
    have leave : ∀ (c : Code) (W3 : World), KeepsFrom D (W.putObj (D + 1) (.loop { R .ready none with state := .busy })) W3 → Ix c (pre ++ [x]) W3 → Ix c (pre ++ [x]) (W3.putObj (D + 1) (.loop (R .done (some c)))) ∧ Book D (R .done (some c)) (W3.putObj (D + 1) (.loop (R .done (some c)))) := fun c W3 k3 i3 =>
      ⟨hD ▸ OwnFrom.put (hD ▸ hIx c) (b2.keepF k3) i3 _, (b2.keepF k3).put _⟩
    rintro e a3 W3 hp
    cases e with
    | normal =>
      obtain ⟨k3, kb3, i3⟩ := hp
      obtain ⟨hr, b3⟩ := close none W3 k3
      exact ⟨_, _, hr, .inl ⟨rfl, ⟨hD ▸ OwnFrom.put (hD ▸ hI) b3 i3 _, b3.put _⟩, (k2.trans kb3).trans (b3.below (by omega) _)⟩⟩
    | ret =>
      obtain ⟨k3, i3⟩ := hp
      exact ⟨_, _, (close (some .ret) W3 k3).1, .inr ⟨rfl, .ret, leave _ W3 k3 i3⟩⟩
    | exit id =>
      obtain ⟨k3, i3⟩ := hp
      exact ⟨_, _, (close (some (.exit id)) W3 k3).1, .inr ⟨rfl, .exit id, leave _ W3 k3 i3⟩⟩
    | goto t =>
      obtain ⟨k3, i3⟩ := hp
      exact ⟨_, _, (close (some (.goto t)) W3 k3).1, .inr ⟨rfl, .goto t, leave _ W3 k3 i3⟩⟩
    | panic ch => exact hp.elim
    | outgrown => exact hp.elim
  · rintro e W2 ⟨⟨v, rfl⟩, (⟨xs, hS, hi, hb⟩ | ⟨pre, hSp, c, hi, hb⟩)⟩
    · refine ⟨none, _, by have := run_endLoop (P := P) hb.lp (by rw [hR]; simp); rw [hR] at this; exact this, ?_⟩
      exact hdone D xs _ (by omega) hS (hD ▸ OwnFrom.put (hD ▸ hI) hb hi _) (hb.put _).dfr
    · refine ⟨some c, _, by have := run_endLoop (P := P) hb.lp (by rw [hR]; simp); rw [hR] at this; exact this, ?_⟩
      exact hstop D c pre _ (by omega) hSp (hD ▸ OwnFrom.put (hD ▸ hIx c) hb hi _) (hb.put _).dfr
end
end Go.Proofs.YtomiopdmgdidnaaDoor
