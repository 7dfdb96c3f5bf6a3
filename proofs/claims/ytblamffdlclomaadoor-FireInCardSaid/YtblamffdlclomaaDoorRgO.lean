/- A range over an iterator that has variables of its own in memory, which it turns between two rounds; a round may first store its element into a variable of the round, and may leave the loop: a law of this text's own, beside the library's. -/
import Derived.RangeFuncNested
import Derived.RangeFuncBound
import Derived.RangeFuncCalls
import Derived.RangeFuncLeaves
import Derived.RangeFuncBox
import Derived.OwnWalkIn
import Derived.TacticsInMore
import Derived.Below
namespace Go.Proofs.YtblamffdlclomaaDoor
open Go Go.RowKit

/-- What lies at B or beyond lies as it lay. -/
structure KeptO (B : Nat) (W W' : World) : Prop where
  size : W.heap.size ≤ W'.heap.size
  same : ∀ j, B ≤ j → j < W.heap.size → W'.heap[j]? = W.heap[j]?
theorem KeptO.refl (B : Nat) (W : World) : KeptO B W W := ⟨Nat.le_refl _, fun _ _ _ => rfl⟩
theorem KeptO.trans {B : Nat} {X Y Z : World} (h : KeptO B X Y) (k : KeptO B Y Z) : KeptO B X Z := ⟨Nat.le_trans h.size k.size, fun j h1 h2 => (k.same j h1 (Nat.lt_of_lt_of_le h2 h.size)).trans (h.same j h1 h2)⟩
theorem KeptO.mono {B B' : Nat} {X Y : World} (h : KeptO B X Y) (hb : B ≤ B') : KeptO B' X Y := ⟨h.size, fun j h1 h2 => h.same j (Nat.le_trans hb h1) h2⟩
theorem KeptO.alloc {B : Nat} {X Y : World} (h : KeptO B X Y) (o : Obj) : KeptO B X (Y.alloc o) :=
  h.trans ⟨by simp, fun j _ h2 => (Below.refl Y.heap.size Y |>.alloc (Nat.le_refl _) o).block j h2⟩
theorem KeptO.below {B : Nat} {X Y : World} (h : Below X.heap.size X Y) : KeptO B X Y := ⟨h.size, fun j _ h2 => h.block j h2⟩
theorem KeptO.setCell {B b : Nat} {X Y : World} (h : KeptO B X Y) (hb : b < B ∨ X.heap.size ≤ b) (o : Nat) (v : Value) : KeptO B X (Y.setCell ⟨b, o, none⟩ v) :=
  ⟨by have e : (Y.setCell ⟨b, o, none⟩ v).heap.size = Y.heap.size := by simp [World.setCell]
      rw [e]; exact h.size, fun j h1 h2 => (Below.heap_setCell Y _ v j (by show j ≠ b; omega)).trans (h.same j h1 h2)⟩
theorem KeptO.put {B l : Nat} (W : World) (o : Obj) (h : l < B) : KeptO B W (W.putObj l o) := ⟨by simp [World.putObj], fun _ h1 _ => World.putObj_heap_other (by omega)⟩

/-- What speaks of the blocks below B alone. -/
def Under {β : Type} (B : Nat) (J : β → World → Prop) : Prop := ∀ s X Y, J s X → Below B X Y → J s Y

section
variable {n : Nat} {P : Program}

/-- An iterator's contract that may turn cells that it has made itself. -/
def SeqOwn {α : Type} (n : Nat) (P : Program) (gf : Nat) (lb : Array Value) (encs : α → Array Value) (Ok : List α → α → Prop) (n0 : Nat) (S Sp : List α → Prop) (w : World) : Prop :=
  ∀ (l : Nat) (J Jx : List α → World → Prop) (W : World), Below w.heap.size w W → Under W.heap.size J → Under W.heap.size Jx →
    (∀ pre x W1, J pre W1 → Ok pre x → W.heap.size ≤ W1.heap.size → YieldAt Fence.wide (n - 1) P l (encs x) W1 fun e W' =>
      (e = .returned (.bool true) ∧ J (pre ++ [x]) W' ∧ Below n0 W1 W' ∧ KeptO W.heap.size W1 W') ∨ (e = .returned (.bool false) ∧ Jx (pre ++ [x]) W')) →
    J [] W → CallsIn Fence.wide n P gf (#[.func (.yield l) #[] #[]] ++ lb) W fun e W' => (∃ v, e = .returned v) ∧ ((∃ xs, S xs ∧ J xs W') ∨ (∃ pre, Sp pre ∧ Jx pre W'))

/-- A loop's book-keeping: its record in block D + 1, its rounds' deferred calls, none, in block D. -/
structure BookO (D : Nat) (r : Loop) (W : World) : Prop where
  lp : W.heap[D + 1]? = some (.loop r)
  dfr : W.heap[D]? = some (.deferred (some []))
theorem BookO.lt {D : Nat} {r : Loop} {W : World} (h : BookO D r W) : D + 1 < W.heap.size := (Array.getElem?_eq_some_iff.1 h.lp).1
theorem BookO.keep {D : Nat} {r : Loop} {W W' : World} (h : BookO D r W) (k : KeptO D W W') : BookO D r W' :=
  ⟨(k.same _ (by omega) h.lt).trans h.lp, (k.same _ (Nat.le_refl _) (by have := h.lt; omega)).trans h.dfr⟩
theorem BookO.put {D : Nat} {r : Loop} {W : World} (h : BookO D r W) (r' : Loop) : BookO D r' (W.putObj (D + 1) (.loop r')) :=
  ⟨World.putObj_heap_same h.lt, (World.putObj_heap_other (by omega)).trans h.dfr⟩
theorem BookO.next {D B : Nat} {r : Loop} {W W' : World} (h : BookO D r W) (k : Below B W W') (hB : D + 2 ≤ B) : BookO D r W' := ⟨(k.block _ (by omega)).trans h.lp, (k.block _ (by omega)).trans h.dfr⟩
theorem BookO.below {D n0 : Nat} {r : Loop} {W : World} (h : BookO D r W) (hn : n0 ≤ D) (r' : Loop) : Below n0 W (W.putObj (D + 1) (.loop r')) :=
  (Below.refl n0 W).grown (grownBy_putObj' W (D + 1) _) (by have := h.lt; omega) (fun j hj => by cases hj; omega)
theorem keptO_put {D B : Nat} (W : World) (o : Obj) (h : D + 1 < B) : KeptO B W (W.putObj (D + 1) o) := KeptO.put W o h

/-- How the body of a round may be left. -/
def postO {α : Type} (D n0 : Nat) (I : List α → World → Prop) (Ix : Code → List α → World → Prop) (xs : List α) (W : World) : Exit → Act → World → Prop
  | .normal, _, W' => KeptO D W W' ∧ Below n0 W W' ∧ I xs W'
  | .ret, _, W' => KeptO D W W' ∧ Ix .ret xs W'
  | .exit id, _, W' => KeptO D W W' ∧ Ix (.exit id) xs W'
  | .goto t, _, W' => KeptO D W W' ∧ Ix (.goto t) xs W'
  | .panic _, _, _ => False
  | .outgrown, _, _ => False

theorem range_own {α : Type} {g : Operand} {ps : Array Tmp} {assign body : Code} {Q : Exit → Act → World → Prop} {a : Act} {w : World}
    (h1 : 1 ≤ n) {gf : Nat} {lb : Array Value} (hg : a.eval g = .func (.func gf) #[] lb) (eg : ∀ args w, (callFunc gf args).run P w = .ok (.enter gf args) w)
    {encs : α → Array Value} {Ok : List α → α → Prop} {n0 : Nat} {S Sp : List α → Prop} (hseq : SeqOwn (n - 1) P gf lb encs Ok n0 S Sp w) (hn0 : n0 ≤ w.heap.size) (hps : ∀ x, (encs x).size = ps.size)
    (I : List α → World → Prop) (Ix : Code → List α → World → Prop) (hI : Under w.heap.size I) (hIx : ∀ c, Under w.heap.size (Ix c)) (h0 : I [] w)
    (hround : ∀ (l : Nat) (pre : List α) (x : α) (W : World), I pre W → Ok pre x → w.heap.size + 2 ≤ W.heap.size → assign.wpIn (Fence.wide.inRound l) (n - 1 - 1) P
      (Exit.then (fun a' W' => KeptO w.heap.size W W' ∧ Below n0 W W' ∧ ∃ M : World → Prop, (∀ X r, M X → M (X.putObj (w.heap.size + 1) (.loop r))) ∧ M W' ∧ ∀ W2, M W2 → body.wpIn (Fence.wide.inRound l) (n - 1 - 1) P (postO w.heap.size n0 I Ix (pre ++ [x]) W2) a' W2) (fun _ _ _ => False))
      { tmps := (ps.zip (encs x)).foldl (fun t (p, v) => t.setIfInBounds p v) a.tmps, defers := [] } W)
    (hdone : ∀ (D : Nat) (xs : List α) (W : World), w.heap.size ≤ D → S xs → I xs W → W.heap[D]? = some (.deferred (some [])) → Q .normal { a with defers := { target := .collected D, args := #[] } :: a.defers } W)
    (hstop : ∀ (D : Nat) (c : Code) (pre : List α) (W : World), w.heap.size ≤ D → Sp pre → Ix c pre W → W.heap[D]? = some (.deferred (some [])) → c.wpIn Fence.wide n P Q { a with defers := { target := .collected D, args := #[] } :: a.defers } W) :
    (Code.rangeFunc g ps assign body).wpIn Fence.wide n P Q a w := by
  refine wpIn_rangeFunc fun fn hfn => ?_
  rw [show Fence.wide.round = none from rfl]
  obtain ⟨D, hD⟩ : ∃ D, w.heap.size = D := ⟨_, rfl⟩
  rw [hD] at hI hIx hn0
  obtain ⟨R, hR⟩ : ∃ R : LoopState → Option Code → Loop, R = fun st pe => { state := st, pending := pe, fn, tmps := a.tmps, params := ps, assign, body, defers := D } := ⟨_, rfl⟩
  obtain ⟨V, hV⟩ : ∃ V, (w.alloc (.deferred (some []))).alloc (.loop (R .ready none)) = V := ⟨_, rfl⟩
  have hVs : V.heap.size = D + 2 := by rw [← hV, ← hD]; simp
  have bV : BookO D (R .ready none) V := by
    constructor
    · rw [← hV, ← hD]
      have := World.alloc_heap_new (w.alloc (.deferred (some []))) (.loop (R .ready none))
      rwa [World.size_alloc] at this
    · rw [← hV, ← hD]
      exact (Below.heap_alloc _ _ _ (by simp)).trans (World.alloc_heap_new w _)
  have kV : Below w.heap.size w V := by rw [← hV]; exact ((Below.refl _ w).alloc (Nat.le_refl _) _).alloc (by simp) _
  have iV : I [] V := hI _ _ _ h0 (hD ▸ kV)
  have putI : ∀ {s : List α} {r : Loop} {W : World} (r' : Loop), BookO D r W → I s W → I s (W.putObj (D + 1) (.loop r')) := fun r' hb h => hI _ _ _ h (hb.below (Nat.le_refl _) r')
  have putX : ∀ {c : Code} {s : List α} {r : Loop} {W : World} (r' : Loop), BookO D r W → Ix c s W → Ix c s (W.putObj (D + 1) (.loop r')) := fun r' hb h => hIx _ _ _ _ h (hb.below (Nat.le_refl _) r')
  have enter : (Instr.enterLoop fn a.tmps ps assign body none).run P w = .ok (D + 1, [{ target := .collected D, args := #[] }]) V := by rw [← hV, hR, ← hD]; exact run_enterLoop_outer _ _ _ _ _
  refine ⟨D + 1, [{ target := .collected D, args := #[] }], V, { target := .fn (.func gf) lb, args := #[.func (.yield (D + 1)) #[] #[]] }, V, gf, #[.func (.yield (D + 1)) #[] #[]] ++ lb, V, enter, by simp only [resolve, hg]; simp [go_sem], fun _ _ => trivial, by simp [invoke, go_sem, eg], fun _ => h1, ?_⟩
  refine (hseq (D + 1) (fun pre W => I pre W ∧ BookO D (R .ready none) W) (fun pre W => ∃ c, Ix c pre W ∧ BookO D (R .done (some c)) W) V kV
    (fun s X Y h k => ⟨hI s X Y h.1 (k.mono (by omega)), h.2.next k (by omega)⟩) (fun s X Y ⟨c, hc, hb⟩ k => ⟨c, hIx c s X Y hc (k.mono (by omega)), hb.next k (by omega)⟩) ?_ ⟨iV, bV⟩).mono ?_
  · rintro pre x W ⟨hi, hb⟩ hok hlt
    rw [hVs] at hlt
    have hy := run_yield (P := P) (args := encs x) hb.lp (by rw [hR]; exact hps x)
    rw [hR] at hy
    refine ⟨fn, _, assign, body, hy, roundIn_of_wpIn hfn (wpIn_mono (hround (D + 1) pre x W hi hok (by omega)) ?_)⟩
    rintro e a' W1 hp
    cases e with
    | normal =>
      rw [hD] at hp
      obtain ⟨ko, kb, M, hM, him, hbody⟩ := hp
      have b1 := hb.keep ko
      have b2 := b1.put { R .ready none with state := .busy }
      have k2 : Below n0 W (W1.putObj (D + 1) (.loop { R .ready none with state := .busy })) := kb.trans (b1.below hn0 _)
      have c2 : KeptO V.heap.size W (W1.putObj (D + 1) (.loop { R .ready none with state := .busy })) := (ko.mono (by omega)).trans (keptO_put W1 _ (by omega))
      refine ⟨_, run_beginRound b1.lp (by rw [hR]), wpIn_mono (hbody _ (hM _ _ him)) ?_⟩
      have close : ∀ (jump : Option Code) (W3 : World), KeptO D (W1.putObj (D + 1) (.loop { R .ready none with state := .busy })) W3 →
          (Instr.endRound (D + 1) jump).run P W3 = .ok (.bool jump.isNone) (W3.putObj (D + 1) (.loop (R (if jump.isNone then .ready else .done) jump))) ∧ BookO D { R .ready none with state := .busy } W3 := fun jump W3 k3 => by
        have b3 := b2.keep k3
        have hr := run_endRound (P := P) jump b3.lp
        rw [hR] at hr ⊢
        exact ⟨hr, by rw [hR] at b3; exact b3⟩
      have leave : ∀ (c : Code) (W3 : World), KeptO D (W1.putObj (D + 1) (.loop { R .ready none with state := .busy })) W3 → Ix c (pre ++ [x]) W3 → Ix c (pre ++ [x]) (W3.putObj (D + 1) (.loop (R .done (some c)))) ∧ BookO D (R .done (some c)) (W3.putObj (D + 1) (.loop (R .done (some c)))) := fun c W3 k3 i3 =>
        ⟨putX _ (b2.keep k3) i3, (b2.keep k3).put _⟩
      rintro e a3 W3 hp
      cases e with
      | normal =>
        obtain ⟨k3, kb3, i3⟩ := hp
        obtain ⟨hr, b3⟩ := close none W3 k3
        exact ⟨_, _, hr, .inl ⟨rfl, ⟨putI _ b3 i3, b3.put _⟩, (k2.trans kb3).trans (b3.below hn0 _), (c2.trans (k3.mono (by omega))).trans (keptO_put W3 _ (by omega))⟩⟩
      | ret =>
        obtain ⟨k3, i3⟩ := hp
        exact ⟨_, _, (close (some .ret) W3 k3).1, .inr ⟨rfl, .ret, leave _ W3 k3 i3⟩⟩
      | exit id =>
        obtain ⟨k3, i3⟩ := hp
        exact ⟨_, _, (close (some (.exit id)) W3 k3).1, .inr ⟨rfl, .exit id, leave _ W3 k3 i3⟩⟩
      | goto t =>
        obtain ⟨k3, i3⟩ := hp
        exact ⟨_, _, (close (some (.goto t)) W3 k3).1, .inr ⟨rfl, .goto t, leave _ W3 k3 i3⟩⟩
      | panic ch => exact hp.elim
      | outgrown => exact hp.elim
    | ret => exact hp.elim
    | exit id => exact hp.elim
    | goto t => exact hp.elim
    | panic ch => exact hp.elim
    | outgrown => exact hp.elim
  · rintro e W2 ⟨⟨v, rfl⟩, (⟨xs, hS, hi, hb⟩ | ⟨pre, hSp, c, hi, hb⟩)⟩
    · refine ⟨none, _, by have := run_endLoop (P := P) hb.lp (by rw [hR]; simp); rw [hR] at this; exact this, ?_⟩
      exact hdone D xs _ (by omega) hS (putI _ hb hi) (hb.put _).dfr
    · refine ⟨some c, _, by have := run_endLoop (P := P) hb.lp (by rw [hR]; simp); rw [hR] at this; exact this, ?_⟩
      exact hstop D c pre _ (by omega) hSp (putX _ hb hi) (hb.put _).dfr
end
end Go.Proofs.YtblamffdlclomaaDoor
