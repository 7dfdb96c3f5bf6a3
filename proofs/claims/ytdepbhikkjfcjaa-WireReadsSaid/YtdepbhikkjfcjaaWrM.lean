/- A range over a function whose round first stores its element into a variable of the caller's: a law of this text's own, beside the library's: between the store and the body another fact holds than between two rounds. -/
import Derived.Test.YtdepbhikkjfcjaaWrB
namespace Go.Proofs.Ytdepbhikkjfcjaa
open Go.RowKit Go.Shelf

section
variable {n : Nat} {P : Program}
/-- A loop's book-keeping: its record in block D + 1, its rounds' deferred calls, none, in block D. -/
structure Book (D : Nat) (r : Loop) (W : World) : Prop where
  lp : W.heap[D + 1]? = some (.loop r)
  dfr : W.heap[D]? = some (.deferred (some []))
theorem Book.keep {D : Nat} {r : Loop} {W W' : World} (h : Book D r W) (k : KeepsOthers W W') : Book D r W' := ⟨k.same _ _ h.lp rfl, k.same _ _ h.dfr rfl⟩
theorem Book.put {D : Nat} {r : Loop} {W : World} (h : Book D r W) (r' : Loop) : Book D r' (W.putObj (D + 1) (.loop r')) :=
  ⟨World.putObj_heap_same (Array.getElem?_eq_some_iff.1 h.lp).1, (World.putObj_heap_other (by omega)).trans h.dfr⟩
theorem Book.grown {D : Nat} {r : Loop} {W W' : World} {row : Option Nat} (h : Book D r W) (hg : W.grownBy W' row) (hr : ∀ j, row = some j → ∃ o : Obj, W.heap[j]? = some o ∧ o.isWalk = true) : Book D r W' :=
  ⟨(grownBy_keeps hg hr h.lp rfl).trans h.lp, (grownBy_keeps hg hr h.dfr rfl).trans h.dfr⟩
theorem OwnFrom.put {β : Type} {D : Nat} {I : β → World → Prop} (hI : OwnFrom D I) {s : β} {r : Loop} {W : World} (b : Book D r W) (h : I s W) (r' : Loop) : I s (W.putObj (D + 1) (.loop r')) := hI.putObj _ h (by omega) b.lp rfl
theorem Book.below {D n0 : Nat} {r : Loop} {W : World} (h : Book D r W) (hn : n0 ≤ D) (r' : Loop) : Below n0 W (W.putObj (D + 1) (.loop r')) :=
  (Below.refl n0 W).grown (grownBy_putObj' W (D + 1) _) (by have := (Array.getElem?_eq_some_iff.1 h.lp).1; omega) (fun j hj => by cases hj; omega)

theorem range_mid {α : Type} {g : Operand} {ps : Array Tmp} {assign body : Code} {Q : Exit → Act → World → Prop} {a : Act} {w : World}
    (h1 : 1 ≤ n) {gf : Nat} {lb : Array Value} (hg : a.eval g = .func (.func gf) #[] lb) (eg : ∀ args w, (callFunc gf args).run P w = .ok (.enter gf args) w)
    {encs : α → Array Value} {n0 N : Nat} {S Sp : List α → Prop} (hseq : SeqStopsK Fence.wide (n - 1) P gf lb encs (Below n0) S Sp N w) (hn0 : n0 ≤ w.heap.size) (hps : ∀ x, (encs x).size = ps.size)
    (I : List α → World → Prop) (Im : α × List α → World → Prop) (Ix : Code → List α → World → Prop) (hI : OwnFrom w.heap.size I) (hIm : OwnFrom w.heap.size Im) (hIx : ∀ c, OwnFrom w.heap.size (Ix c)) (h0 : I [] w)
    (hround : ∀ (l : Nat) (pre : List α) (x : α) (W : World), I pre W → pre.length < N → assign.wpIn (Fence.wide.inRound l) (n - 1 - 1) P
      (Exit.then (fun a' W' => KeepsOthers W W' ∧ Below n0 W W' ∧ Im (x, pre) W' ∧ ∀ W2, Im (x, pre) W2 → body.wpIn (Fence.wide.inRound l) (n - 1 - 1) P (ownPostK (Below n0) I Ix (pre ++ [x]) W2) a' W2) (fun _ _ _ => False))
      { tmps := (ps.zip (encs x)).foldl (fun t (p, v) => t.setIfInBounds p v) a.tmps, defers := [] } W)
    (hdone : ∀ (D : Nat) (xs : List α) (W : World), w.heap.size ≤ D → S xs → I xs W → W.heap[D]? = some (.deferred (some [])) → Q .normal { a with defers := { target := .collected D, args := #[] } :: a.defers } W)
    (hstop : ∀ (D : Nat) (c : Code) (pre : List α) (W : World), w.heap.size ≤ D → Sp pre → Ix c pre W → W.heap[D]? = some (.deferred (some [])) → c.wpIn Fence.wide n P Q { a with defers := { target := .collected D, args := #[] } :: a.defers } W) :
    (Code.rangeFunc g ps assign body).wpIn Fence.wide n P Q a w := by
  refine wpIn_rangeFunc fun fn hfn => ?_
  rw [show Fence.wide.round = none from rfl]
  obtain ⟨D, hD⟩ : ∃ D, w.heap.size = D := ⟨_, rfl⟩
  obtain ⟨R, hR⟩ : ∃ R : LoopState → Option Code → Loop, R = fun st pe => { state := st, pending := pe, fn, tmps := a.tmps, params := ps, assign, body, defers := D } := ⟨_, rfl⟩
  obtain ⟨V, hV⟩ : ∃ V, (w.alloc (.deferred (some []))).alloc (.loop (R .ready none)) = V := ⟨_, rfl⟩
  have bV : Book D (R .ready none) V := by
    constructor
    · rw [← hV, ← hD]
      have := World.alloc_heap_new (w.alloc (.deferred (some []))) (.loop (R .ready none))
      rwa [World.size_alloc] at this
    · rw [← hV, ← hD]
      exact (Below.heap_alloc _ _ _ (by simp)).trans (World.alloc_heap_new w _)
  have iV : I [] V := by rw [← hV]; exact hI.alloc _ (hI.alloc _ h0)
  have kV : Below w.heap.size w V := by rw [← hV]; exact ((Below.refl _ w).alloc (Nat.le_refl _) _).alloc (by simp) _
  have row : ∀ {A : World} {r : Option Nat}, (∀ j, r = some j → V.heap.size ≤ j ∧ ∃ o : Obj, A.heap[j]? = some o ∧ o.isWalk = true) → ∀ j, r = some j → w.heap.size ≤ j ∧ ∃ o : Obj, A.heap[j]? = some o ∧ o.isCells = false := fun hr j e => by
    obtain ⟨hs, o, ho, hw⟩ := hr j e
    exact ⟨Nat.le_trans kV.size hs, o, ho, Obj.not_cells_of_walk hw⟩
  have enter : (Instr.enterLoop fn a.tmps ps assign body none).run P w = .ok (D + 1, [{ target := .collected D, args := #[] }]) V := by rw [← hV, hR, ← hD]; exact run_enterLoop_outer _ _ _ _ _
  refine ⟨D + 1, [{ target := .collected D, args := #[] }], V, { target := .fn (.func gf) lb, args := #[.func (.yield (D + 1)) #[] #[]] }, V, gf, #[.func (.yield (D + 1)) #[] #[]] ++ lb, V, enter, by simp only [resolve, hg]; simp [go_sem], fun _ _ => trivial, by simp [invoke, go_sem, eg], fun _ => h1, ?_⟩
  refine (hseq (D + 1) (fun pre W => I pre W ∧ Book D (R .ready none) W) (fun pre W => ∃ c, Ix c pre W ∧ Book D (R .done (some c)) W) V kV
    (fun s A B r h g' hr => ⟨hI s A B r h.1 g' (row hr), h.2.grown g' (fun j e => (hr j e).2)⟩) (fun s A B r ⟨c, hc, hb⟩ g' hr => ⟨c, hIx c s A B r hc g' (row hr), hb.grown g' (fun j e => (hr j e).2)⟩) ?_ ⟨iV, bV⟩).mono ?_
  · rintro pre x W ⟨hi, hb⟩ hlen
    have hy := run_yield (P := P) (args := encs x) hb.lp (by rw [hR]; exact hps x)
    rw [hR] at hy
    refine ⟨fn, _, assign, body, hy, roundIn_of_wpIn hfn (wpIn_mono (hround (D + 1) pre x W hi hlen) ?_)⟩
    rintro e a' W1 hp
    cases e with
    | normal =>
      obtain ⟨ko, kb, him, hbody⟩ := hp
      have b1 := hb.keep ko
      refine ⟨_, run_beginRound b1.lp (by rw [hR]), wpIn_mono (hbody _ (hD ▸ OwnFrom.put (hD ▸ hIm) b1 him _)) ?_⟩
      have b2 := b1.put { R .ready none with state := .busy }
      have k2 : Below n0 W (W1.putObj (D + 1) (.loop { R .ready none with state := .busy })) := kb.trans (b1.below (by omega) _)
      have close : ∀ (jump : Option Code) (W3 : World), KeepsOthers (W1.putObj (D + 1) (.loop { R .ready none with state := .busy })) W3 →
          (Instr.endRound (D + 1) jump).run P W3 = .ok (.bool jump.isNone) (W3.putObj (D + 1) (.loop (R (if jump.isNone then .ready else .done) jump))) ∧ Book D { R .ready none with state := .busy } W3 := fun jump W3 k3 => by
        have b3 := b2.keep k3
        have hr := run_endRound (P := P) jump b3.lp
        rw [hR] at hr ⊢
        exact ⟨hr, by rw [hR] at b3; exact b3⟩
      have leave : ∀ (c : Code) (W3 : World), KeepsOthers (W1.putObj (D + 1) (.loop { R .ready none with state := .busy })) W3 → Ix c (pre ++ [x]) W3 → Ix c (pre ++ [x]) (W3.putObj (D + 1) (.loop (R .done (some c)))) ∧ Book D (R .done (some c)) (W3.putObj (D + 1) (.loop (R .done (some c)))) := fun c W3 k3 i3 =>
        ⟨hD ▸ OwnFrom.put (hD ▸ hIx c) (b2.keep k3) i3 _, (b2.keep k3).put _⟩
      rintro e a3 W3 hp
      cases e with
      | normal =>
        obtain ⟨k3, kb3, i3⟩ := hp
        obtain ⟨hr, b3⟩ := close none W3 k3
        exact ⟨_, _, hr, .inl ⟨rfl, ⟨hD ▸ OwnFrom.put (hD ▸ hI) b3 i3 _, b3.put _⟩, (k2.trans kb3).trans (b3.below (by omega) _)⟩⟩
      | ret =>
        obtain ⟨k3, i3⟩ := hp
        exact ⟨_, _, (close (some .ret) W3 k3).1, .inr ⟨rfl, .ret, leave _ W3 k3 i3⟩⟩
      | exit id =>
        obtain ⟨k3, i3⟩ := hp
        exact ⟨_, _, (close (some (.exit id)) W3 k3).1, .inr ⟨rfl, .exit id, leave _ W3 k3 i3⟩⟩
      | goto t =>
        obtain ⟨k3, i3⟩ := hp
        exact ⟨_, _, (close (some (.goto t)) W3 k3).1, .inr ⟨rfl, .goto t, leave _ W3 k3 i3⟩⟩
      | panic ch => exact hp.elim
      | outgrown => exact hp.elim
    | ret => exact hp.elim
    | exit id => exact hp.elim
    | goto t => exact hp.elim
    | panic ch => exact hp.elim
    | outgrown => exact hp.elim
  · rintro e W2 ⟨⟨v, rfl⟩, (⟨xs, hS, hi, hb⟩ | ⟨pre, hSp, c, hi, hb⟩)⟩
    · refine ⟨none, _, by have := run_endLoop (P := P) hb.lp (by rw [hR]; simp); rw [hR] at this; exact this, ?_⟩
      exact hdone D xs _ (by omega) hS (hD ▸ OwnFrom.put (hD ▸ hI) hb hi _) (hb.put _).dfr
    · refine ⟨some c, _, by have := run_endLoop (P := P) hb.lp (by rw [hR]; simp); rw [hR] at this; exact this, ?_⟩
      exact hstop D c pre _ (by omega) hSp (hD ▸ OwnFrom.put (hD ▸ hIx c) hb hi _) (hb.put _).dfr
end
end Go.Proofs.Ytdepbhikkjfcjaa
