/- A range over an iterator that itself ranges over another one: what a round keeps is told of what is no cells, too. A law of this text's own, beside the library's. -/
import Derived.Test.YtdmfgechoanmlaaGreatDoorMZG
import Derived.RangeFuncWrites
namespace Go.Proofs.YtdmfgechoanmlaaGreatDoor
open Go Go.RowKit

section
variable {n : Nat} {P : Program}

/-- What is known abides the turn of a block that is no cells, or is cells of one kind, and lies at or beyond B. -/
def OwnA {β : Type} (tF : TypeId) (B : Nat) (I : β → World → Prop) : Prop :=
  ∀ s W W' row, I s W → W.grownBy W' row → (∀ r, row = some r → B ≤ r ∧ ∃ o : Obj, W.heap[r]? = some o ∧ (o.isCells = false ∨ ∃ cs fz, o = .cells cs tF fz)) → I s W'
theorem OwnA.from {β : Type} {tF : TypeId} {B : Nat} {I : β → World → Prop} (h : OwnA tF B I) : OwnFrom B I := fun s W W' row hs hg hr => h s W W' row hs hg (fun r e => ⟨(hr r e).1, by obtain ⟨o, h1, h2⟩ := (hr r e).2; exact ⟨o, h1, .inl h2⟩⟩)
theorem OwnA.mono {β : Type} {tF : TypeId} {B B' : Nat} {I : β → World → Prop} (h : OwnA tF B I) (k : B ≤ B') : OwnA tF B' I := fun s W W' row hs hg hr => h s W W' row hs hg (fun r e => ⟨Nat.le_trans k (hr r e).1, (hr r e).2⟩)
theorem OwnA.and {β : Type} {tF : TypeId} {B : Nat} {I I' : β → World → Prop} (h : OwnA tF B I) (h' : OwnA tF B I') : OwnA tF B (fun s W => I s W ∧ I' s W) := fun s W W' row hs hg hr => ⟨h s W W' row hs.1 hg hr, h' s W W' row hs.2 hg hr⟩
theorem BookK.ownA {β : Type} (tF : TypeId) (B D : Nat) (r : Loop) (h : D + 2 ≤ B) : OwnA tF B (fun (_ : β) W => BookK D r W) := fun _ W W' row hs hg hr => by
  have h1 := (Array.getElem?_eq_some_iff.1 hs.lp).1
  have h2 := (Array.getElem?_eq_some_iff.1 hs.dfr).1
  exact ⟨(hg.block (D + 1) h1 (fun e => by have := (hr _ e.symm).1; omega)).trans hs.lp, (hg.block D h2 (fun e => by have := (hr _ e.symm).1; omega)).trans hs.dfr⟩
/-- An iterator's contract, where a round that goes on keeps what is no cells. -/
def SeqKo {α : Type} (tF : TypeId) (n : Nat) (P : Program) (gf : Nat) (lb : Array Value) (encs : α → Array Value) (Ok : List α → α → Prop) (n0 : Nat) (Kp : World → World → Prop) (S Sp : List α → Prop) (w : World) : Prop :=
  ∀ (l : Nat) (J Jx : List α → World → Prop) (W : World), Below w.heap.size w W → OwnA tF W.heap.size J → OwnA tF W.heap.size Jx →
    (∀ pre x W1, J pre W1 → Ok pre x → W.heap.size ≤ W1.heap.size → YieldAt Fence.wide (n - 1) P l (encs x) W1 fun e W' =>
      (e = .returned (.bool true) ∧ J (pre ++ [x]) W' ∧ Below n0 W1 W' ∧ Kp W1 W' ∧ KeepsOthers W1 W') ∨ (e = .returned (.bool false) ∧ Jx (pre ++ [x]) W' ∧ KeepsFrom W.heap.size W1 W')) →
    J [] W → CallsIn Fence.wide n P gf (#[.func (.yield l) #[] #[]] ++ lb) W fun e W' => (∃ v, e = .returned v) ∧ ((∃ xs, S xs ∧ J xs W') ∨ (∃ pre, Sp pre ∧ Jx pre W'))
theorem kfrom_mono {B B' : Nat} {W W' : World} (h : KeepsFrom B W W') (k : B ≤ B') : KeepsFrom B' W W' := ⟨h.size, fun j o hj hk ho => h.same j o (by omega) hk ho⟩
theorem kfrom_trans {B : Nat} {X Y Z : World} (h : KeepsFrom B X Y) (k : KeepsFrom B Y Z) : KeepsFrom B X Z := ⟨Nat.le_trans h.size k.size, fun j o hj hk ho => k.same j o hj (h.same j o hj hk ho) ho⟩
theorem kfrom_put {B l : Nat} (W : World) (o' : Obj) (h : l < B) : KeepsFrom B W (W.putObj l o') := ⟨by simp [World.putObj], fun j o hj hk _ => (World.putObj_heap_other (by omega)).trans hk⟩
theorem BookK.keepF {D : Nat} {r : Loop} {W W' : World} (h : BookK D r W) (k : KeepsFrom D W W') : BookK D r W' := ⟨k.same _ _ (by omega) h.lp rfl, k.same _ _ (Nat.le_refl _) h.dfr rfl⟩
/-- A loop's record is behind a round as it was ahead of it. -/
theorem keeps_round {D : Nat} {r rb : Loop} {W W1 W3 : World} (hb : BookK D r W) (ko : KeepsOthers W W1) (k3 : KeepsOthers (W1.putObj (D + 1) (.loop rb)) W3) : KeepsOthers W (W3.putObj (D + 1) (.loop r)) := by
  have hl := (Array.getElem?_eq_some_iff.1 hb.lp).1
  have h1 := ko.size
  have h2 : W1.heap.size ≤ W3.heap.size := by have := k3.size; simpa [World.putObj] using this
  refine ⟨by simp [World.putObj]; omega, fun k o hk ho => ?_⟩
  by_cases hkd : k = D + 1
  · subst hkd
    rw [hb.lp] at hk
    cases hk
    exact World.putObj_heap_same (by omega)
  · rw [World.putObj_heap_other (by omega)]
    refine k3.same k o ?_ ho
    rw [World.putObj_heap_other (by omega)]
    exact ko.same k o hk ho

theorem range_ko {α : Type} {tF : TypeId} {g : Operand} {ps : Array Tmp} {assign body : Code} {Q : Exit → Act → World → Prop} {a : Act} {w : World}
    (h1 : 1 ≤ n) {gf : Nat} {lb : Array Value} (hg : a.eval g = .func (.func gf) #[] lb) (eg : ∀ args w, (callFunc gf args).run P w = .ok (.enter gf args) w)
    {encs : α → Array Value} {Ok : List α → α → Prop} {n0 : Nat} {Kp : World → World → Prop} {S Sp : List α → Prop} (hseq : SeqKo tF (n - 1) P gf lb encs Ok n0 Kp S Sp w) (hn0 : n0 ≤ w.heap.size) (hps : ∀ x, (encs x).size = ps.size)
    (hKt : ∀ {A B C : World}, Kp A B → Kp B C → Kp A C) (hKb : ∀ (W : World) (l : Nat) (r r' : Loop), W.heap[l]? = some (.loop r) → Kp W (W.putObj l (.loop r')))
    (I : List α → World → Prop) (Ix : Code → List α → World → Prop) (hI0 : OwnA tF w.heap.size I) (hIx0 : ∀ c, OwnA tF w.heap.size (Ix c)) (h0 : I [] w)
    (hround : ∀ (l : Nat) (pre : List α) (x : α) (W : World), I pre W → Ok pre x → w.heap.size + 2 ≤ W.heap.size → assign.wpIn (Fence.wide.inRound l) (n - 1 - 1) P
      (Exit.then (fun a' W' => KeptP n0 Kp W W' ∧ ∃ M : Unit → World → Prop, OwnFrom w.heap.size M ∧ M () W' ∧ ∀ W2, M () W2 → w.heap.size + 2 ≤ W2.heap.size → body.wpIn (Fence.wide.inRound l) (n - 1 - 1) P (postP n0 Kp I Ix (pre ++ [x]) W2) a' W2) (fun _ _ _ => False))
      { tmps := (ps.zip (encs x)).foldl (fun t (p, v) => t.setIfInBounds p v) a.tmps, defers := [] } W)
    (hdone : ∀ (D : Nat) (xs : List α) (W : World), w.heap.size ≤ D → S xs → I xs W → W.heap[D]? = some (.deferred (some [])) → Q .normal { a with defers := { target := .collected D, args := #[] } :: a.defers } W)
    (hstop : ∀ (D : Nat) (c : Code) (pre : List α) (W : World), w.heap.size ≤ D → Sp pre → Ix c pre W → W.heap[D]? = some (.deferred (some [])) → c.wpIn Fence.wide n P Q { a with defers := { target := .collected D, args := #[] } :: a.defers } W) :
    (Code.rangeFunc g ps assign body).wpIn Fence.wide n P Q a w := by
  have hI : OwnFrom w.heap.size I := hI0.from
  have hIx : ∀ c, OwnFrom w.heap.size (Ix c) := fun c => (hIx0 c).from
  refine wpIn_rangeFunc fun fn hfn => ?_
  rw [show Fence.wide.round = none from rfl]
  obtain ⟨D, hD⟩ : ∃ D, w.heap.size = D := ⟨_, rfl⟩
  obtain ⟨R, hR⟩ : ∃ R : LoopState → Option Code → Loop, R = fun st pe => { state := st, pending := pe, fn, tmps := a.tmps, params := ps, assign, body, defers := D } := ⟨_, rfl⟩
  obtain ⟨V, hV⟩ : ∃ V, (w.alloc (.deferred (some []))).alloc (.loop (R .ready none)) = V := ⟨_, rfl⟩
  have hVs : V.heap.size = D + 2 := by rw [← hV, ← hD]; simp
  have bV : BookK D (R .ready none) V := by
    constructor
    · rw [← hV, ← hD]
      have := World.alloc_heap_new (w.alloc (.deferred (some []))) (.loop (R .ready none))
      rwa [World.size_alloc] at this
    · rw [← hV, ← hD]
      exact (Below.heap_alloc _ _ _ (by simp)).trans (World.alloc_heap_new w _)
  have iV : I [] V := by rw [← hV]; exact hI.alloc _ (hI.alloc _ h0)
  have kV : Below w.heap.size w V := by rw [← hV]; exact ((Below.refl _ w).alloc (Nat.le_refl _) _).alloc (by simp) _
  have enter : (Instr.enterLoop fn a.tmps ps assign body none).run P w = .ok (D + 1, [{ target := .collected D, args := #[] }]) V := by rw [← hV, hR, ← hD]; exact run_enterLoop_outer _ _ _ _ _
  refine ⟨D + 1, [{ target := .collected D, args := #[] }], V, { target := .fn (.func gf) lb, args := #[.func (.yield (D + 1)) #[] #[]] }, V, gf, #[.func (.yield (D + 1)) #[] #[]] ++ lb, V, enter, by simp only [resolve, hg]; simp [go_sem], fun _ _ => trivial, by simp [invoke, go_sem, eg], fun _ => h1, ?_⟩
  refine (hseq (D + 1) (fun pre W => I pre W ∧ BookK D (R .ready none) W) (fun pre W => ∃ c, Ix c pre W ∧ BookK D (R .done (some c)) W) V kV
    (OwnA.and (hI0.mono (by omega)) (BookK.ownA tF _ D _ (by omega))) (fun s A B row ⟨c, hc, hb⟩ hg hr => ⟨c, (hIx0 c).mono (by omega) s A B row hc hg hr, BookK.ownA (β := Unit) tF V.heap.size D _ (by omega) () A B row hb hg hr⟩) ?_ ⟨iV, bV⟩).mono ?_
  · rintro pre x W ⟨hi, hb⟩ hok hlt
    rw [hVs] at hlt
    have hy := run_yield (P := P) (args := encs x) hb.lp (by rw [hR]; exact hps x)
    rw [hR] at hy
    refine ⟨fn, _, assign, body, hy, roundIn_of_wpIn hfn (wpIn_mono (hround (D + 1) pre x W hi hok (by omega)) ?_)⟩
    rintro e a' W1 hp
    cases e with
    | normal =>
      obtain ⟨⟨ko, kb, ka⟩, M, hM, him, hbody⟩ := hp
      have b1 := hb.keep ko
      refine ⟨_, run_beginRound b1.lp (by rw [hR]), wpIn_mono (hbody _ (hD ▸ own_putK (hD ▸ hM) b1 him _) (by have := ko.size; simp [World.putObj]; omega)) ?_⟩
      have b2 := b1.put { R .ready none with state := .busy }
      have k2 : Below n0 W (W1.putObj (D + 1) (.loop { R .ready none with state := .busy })) := kb.trans (b1.below (by omega) _)
      have c2 : Kp W (W1.putObj (D + 1) (.loop { R .ready none with state := .busy })) := hKt ka (hKb W1 _ _ _ b1.lp)
      have close : ∀ (jump : Option Code) (W3 : World), KeepsOthers (W1.putObj (D + 1) (.loop { R .ready none with state := .busy })) W3 →
          (Instr.endRound (D + 1) jump).run P W3 = .ok (.bool jump.isNone) (W3.putObj (D + 1) (.loop (R (if jump.isNone then .ready else .done) jump))) ∧ BookK D { R .ready none with state := .busy } W3 := fun jump W3 k3 => by
        have b3 := b2.keep k3
        have hr := run_endRound (P := P) jump b3.lp
        rw [hR] at hr ⊢
        exact ⟨hr, by rw [hR] at b3; exact b3⟩
      have leave : ∀ (c : Code) (W3 : World), KeepsOthers (W1.putObj (D + 1) (.loop { R .ready none with state := .busy })) W3 → Ix c (pre ++ [x]) W3 → Ix c (pre ++ [x]) (W3.putObj (D + 1) (.loop (R .done (some c)))) ∧ BookK D (R .done (some c)) (W3.putObj (D + 1) (.loop (R .done (some c)))) := fun c W3 k3 i3 =>
        ⟨hD ▸ own_putK (hD ▸ hIx c) (b2.keep k3) i3 _, (b2.keep k3).put _⟩
      rintro e a3 W3 hp
      cases e with
      | normal =>
        obtain ⟨⟨k3, kb3, ka3⟩, i3⟩ := hp
        obtain ⟨hr, b3⟩ := close none W3 k3
        exact ⟨_, _, hr, .inl ⟨rfl, ⟨hD ▸ own_putK (hD ▸ hI) b3 i3 _, b3.put _⟩, (k2.trans kb3).trans (b3.below (by omega) _), hKt (hKt c2 ka3) (hKb W3 _ _ _ b3.lp), keeps_round hb ko k3⟩⟩
      | ret =>
        obtain ⟨k3, i3⟩ := hp
        exact ⟨_, _, (close (some .ret) W3 k3).1, .inr ⟨rfl, ⟨.ret, leave _ W3 k3 i3⟩, hVs ▸ kfrom_trans (ko.from _) (kfrom_trans (kfrom_put _ _ (by omega)) (kfrom_trans (k3.from _) (kfrom_put _ _ (by omega))))⟩⟩
      | exit id =>
        obtain ⟨k3, i3⟩ := hp
        exact ⟨_, _, (close (some (.exit id)) W3 k3).1, .inr ⟨rfl, ⟨.exit id, leave _ W3 k3 i3⟩, hVs ▸ kfrom_trans (ko.from _) (kfrom_trans (kfrom_put _ _ (by omega)) (kfrom_trans (k3.from _) (kfrom_put _ _ (by omega))))⟩⟩
      | goto t =>
        obtain ⟨k3, i3⟩ := hp
        exact ⟨_, _, (close (some (.goto t)) W3 k3).1, .inr ⟨rfl, ⟨.goto t, leave _ W3 k3 i3⟩, hVs ▸ kfrom_trans (ko.from _) (kfrom_trans (kfrom_put _ _ (by omega)) (kfrom_trans (k3.from _) (kfrom_put _ _ (by omega))))⟩⟩
      | panic ch => exact hp.elim
      | outgrown => exact hp.elim
    | ret => exact hp.elim
    | exit id => exact hp.elim
    | goto t => exact hp.elim
    | panic ch => exact hp.elim
    | outgrown => exact hp.elim
  · rintro e W2 ⟨⟨v, rfl⟩, (⟨xs, hS, hi, hb⟩ | ⟨pre, hSp, c, hi, hb⟩)⟩
    · refine ⟨none, _, by have := run_endLoop (P := P) hb.lp (by rw [hR]; simp); rw [hR] at this; exact this, ?_⟩
      exact hdone D xs _ (by omega) hS (hD ▸ own_putK (hD ▸ hI) hb hi _) (hb.put _).dfr
    · refine ⟨some c, _, by have := run_endLoop (P := P) hb.lp (by rw [hR]; simp); rw [hR] at this; exact this, ?_⟩
      exact hstop D c pre _ (by omega) hSp (hD ▸ own_putK (hD ▸ hIx c) hb hi _) (hb.put _).dfr

/-- How the body of a round may be left, in a loop over an iterator whose body goes into another loop's round. -/
def postN {α : Type} (B n0 : Nat) (Kp : World → World → Prop) (I : List α → World → Prop) (Ix : Code → List α → World → Prop) (xs : List α) (W : World) : Exit → Act → World → Prop
  | .normal, _, W' => KeptP n0 Kp W W' ∧ I xs W'
  | .ret, _, W' => KeepsFrom B W W' ∧ Ix .ret xs W'
  | .exit id, _, W' => KeepsFrom B W W' ∧ Ix (.exit id) xs W'
  | .goto t, _, W' => KeepsFrom B W W' ∧ Ix (.goto t) xs W'
  | .panic _, _, _ => False
  | .outgrown, _, _ => False

theorem range_kn {α : Type} {g : Operand} {ps : Array Tmp} {assign body : Code} {Q : Exit → Act → World → Prop} {a : Act} {w : World}
    (h1 : 1 ≤ n) {gf : Nat} {lb : Array Value} (hg : a.eval g = .func (.func gf) #[] lb) (eg : ∀ args w, (callFunc gf args).run P w = .ok (.enter gf args) w)
    {encs : α → Array Value} {Ok : List α → α → Prop} {n0 : Nat} {Kp : World → World → Prop} {S Sp : List α → Prop} (hseq : SeqKp (n - 1) P gf lb encs Ok n0 Kp S Sp w) (hn0 : n0 ≤ w.heap.size) (hps : ∀ x, (encs x).size = ps.size)
    (hKt : ∀ {A B C : World}, Kp A B → Kp B C → Kp A C) (hKb : ∀ (W : World) (l : Nat) (r r' : Loop), W.heap[l]? = some (.loop r) → Kp W (W.putObj l (.loop r')))
    (I : List α → World → Prop) (Ix : Code → List α → World → Prop) (hI : OwnFrom w.heap.size I) (hIx : ∀ c, OwnFrom w.heap.size (Ix c)) (h0 : I [] w)
    (hround : ∀ (l : Nat) (pre : List α) (x : α) (W : World), I pre W → Ok pre x → w.heap.size + 2 ≤ W.heap.size → assign.wpIn (Fence.wide.inRound l) (n - 1 - 1) P
      (Exit.then (fun a' W' => KeptP n0 Kp W W' ∧ ∃ M : Unit → World → Prop, OwnFrom w.heap.size M ∧ M () W' ∧ ∀ W2, M () W2 → w.heap.size + 2 ≤ W2.heap.size → body.wpIn (Fence.wide.inRound l) (n - 1 - 1) P (postN w.heap.size n0 Kp I Ix (pre ++ [x]) W2) a' W2) (fun _ _ _ => False))
      { tmps := (ps.zip (encs x)).foldl (fun t (p, v) => t.setIfInBounds p v) a.tmps, defers := [] } W)
    (hdone : ∀ (D : Nat) (xs : List α) (W : World), w.heap.size ≤ D → S xs → I xs W → W.heap[D]? = some (.deferred (some [])) → Q .normal { a with defers := { target := .collected D, args := #[] } :: a.defers } W)
    (hstop : ∀ (D : Nat) (c : Code) (pre : List α) (W : World), w.heap.size ≤ D → Sp pre → Ix c pre W → W.heap[D]? = some (.deferred (some [])) → c.wpIn Fence.wide n P Q { a with defers := { target := .collected D, args := #[] } :: a.defers } W) :
    (Code.rangeFunc g ps assign body).wpIn Fence.wide n P Q a w := by
  refine wpIn_rangeFunc fun fn hfn => ?_
  rw [show Fence.wide.round = none from rfl]
  obtain ⟨D, hD⟩ : ∃ D, w.heap.size = D := ⟨_, rfl⟩
  obtain ⟨R, hR⟩ : ∃ R : LoopState → Option Code → Loop, R = fun st pe => { state := st, pending := pe, fn, tmps := a.tmps, params := ps, assign, body, defers := D } := ⟨_, rfl⟩
  obtain ⟨V, hV⟩ : ∃ V, (w.alloc (.deferred (some []))).alloc (.loop (R .ready none)) = V := ⟨_, rfl⟩
  have hVs : V.heap.size = D + 2 := by rw [← hV, ← hD]; simp
  have bV : BookK D (R .ready none) V := by
    constructor
    · rw [← hV, ← hD]
      have := World.alloc_heap_new (w.alloc (.deferred (some []))) (.loop (R .ready none))
      rwa [World.size_alloc] at this
    · rw [← hV, ← hD]
      exact (Below.heap_alloc _ _ _ (by simp)).trans (World.alloc_heap_new w _)
  have iV : I [] V := by rw [← hV]; exact hI.alloc _ (hI.alloc _ h0)
  have kV : Below w.heap.size w V := by rw [← hV]; exact ((Below.refl _ w).alloc (Nat.le_refl _) _).alloc (by simp) _
  have enter : (Instr.enterLoop fn a.tmps ps assign body none).run P w = .ok (D + 1, [{ target := .collected D, args := #[] }]) V := by rw [← hV, hR, ← hD]; exact run_enterLoop_outer _ _ _ _ _
  refine ⟨D + 1, [{ target := .collected D, args := #[] }], V, { target := .fn (.func gf) lb, args := #[.func (.yield (D + 1)) #[] #[]] }, V, gf, #[.func (.yield (D + 1)) #[] #[]] ++ lb, V, enter, by simp only [resolve, hg]; simp [go_sem], fun _ _ => trivial, by simp [invoke, go_sem, eg], fun _ => h1, ?_⟩
  refine (hseq (D + 1) (fun pre W => I pre W ∧ BookK D (R .ready none) W) (fun pre W => ∃ c, Ix c pre W ∧ BookK D (R .done (some c)) W) V kV
    (OwnFrom.and (own_monoK hI (by omega)) (BookK.own _ D _ (by omega))) (fun s A B row ⟨c, hc, hb⟩ hg hr => ⟨c, own_monoK (hIx c) (by omega) s A B row hc hg hr, BookK.own (β := Unit) V.heap.size D _ (by omega) () A B row hb hg hr⟩) ?_ ⟨iV, bV⟩).mono ?_
  · rintro pre x W ⟨hi, hb⟩ hok hlt
    rw [hVs] at hlt
    have hy := run_yield (P := P) (args := encs x) hb.lp (by rw [hR]; exact hps x)
    rw [hR] at hy
    refine ⟨fn, _, assign, body, hy, roundIn_of_wpIn hfn (wpIn_mono (hround (D + 1) pre x W hi hok (by omega)) ?_)⟩
    rintro e a' W1 hp
    cases e with
    | normal =>
      obtain ⟨⟨ko, kb, ka⟩, M, hM, him, hbody⟩ := hp
      have b1 := hb.keep ko
      refine ⟨_, run_beginRound b1.lp (by rw [hR]), wpIn_mono (hbody _ (hD ▸ own_putK (hD ▸ hM) b1 him _) (by have := ko.size; simp [World.putObj]; omega)) ?_⟩
      have b2 := b1.put { R .ready none with state := .busy }
      have k2 : Below n0 W (W1.putObj (D + 1) (.loop { R .ready none with state := .busy })) := kb.trans (b1.below (by omega) _)
      have c2 : Kp W (W1.putObj (D + 1) (.loop { R .ready none with state := .busy })) := hKt ka (hKb W1 _ _ _ b1.lp)
      have close : ∀ (jump : Option Code) (W3 : World), KeepsFrom D (W1.putObj (D + 1) (.loop { R .ready none with state := .busy })) W3 →
          (Instr.endRound (D + 1) jump).run P W3 = .ok (.bool jump.isNone) (W3.putObj (D + 1) (.loop (R (if jump.isNone then .ready else .done) jump))) ∧ BookK D { R .ready none with state := .busy } W3 := fun jump W3 k3 => by
        have b3 := b2.keepF k3
        have hr := run_endRound (P := P) jump b3.lp
        rw [hR] at hr ⊢
        exact ⟨hr, by rw [hR] at b3; exact b3⟩
      have leave : ∀ (c : Code) (W3 : World), KeepsFrom D (W1.putObj (D + 1) (.loop { R .ready none with state := .busy })) W3 → Ix c (pre ++ [x]) W3 → Ix c (pre ++ [x]) (W3.putObj (D + 1) (.loop (R .done (some c)))) ∧ BookK D (R .done (some c)) (W3.putObj (D + 1) (.loop (R .done (some c)))) := fun c W3 k3 i3 =>
        ⟨hD ▸ own_putK (hD ▸ hIx c) (b2.keepF k3) i3 _, (b2.keepF k3).put _⟩
      rintro e a3 W3 hp
      cases e with
      | normal =>
        obtain ⟨⟨k3, kb3, ka3⟩, i3⟩ := hp
        obtain ⟨hr, b3⟩ := close none W3 (k3.from _)
        exact ⟨_, _, hr, .inl ⟨rfl, ⟨hD ▸ own_putK (hD ▸ hI) b3 i3 _, b3.put _⟩, (k2.trans kb3).trans (b3.below (by omega) _), hKt (hKt c2 ka3) (hKb W3 _ _ _ b3.lp)⟩⟩
      | ret =>
        obtain ⟨k3, i3⟩ := hp
        exact ⟨_, _, (close (some .ret) W3 (hD ▸ k3)).1, .inr ⟨rfl, .ret, leave _ W3 (hD ▸ k3) i3⟩⟩
      | exit id =>
        obtain ⟨k3, i3⟩ := hp
        exact ⟨_, _, (close (some (.exit id)) W3 (hD ▸ k3)).1, .inr ⟨rfl, .exit id, leave _ W3 (hD ▸ k3) i3⟩⟩
      | goto t =>
        obtain ⟨k3, i3⟩ := hp
        exact ⟨_, _, (close (some (.goto t)) W3 (hD ▸ k3)).1, .inr ⟨rfl, .goto t, leave _ W3 (hD ▸ k3) i3⟩⟩
      | panic ch => exact hp.elim
      | outgrown => exact hp.elim
    | ret => exact hp.elim
    | exit id => exact hp.elim
    | goto t => exact hp.elim
    | panic ch => exact hp.elim
    | outgrown => exact hp.elim
  · rintro e W2 ⟨⟨v, rfl⟩, (⟨xs, hS, hi, hb⟩ | ⟨pre, hSp, c, hi, hb⟩)⟩
    · refine ⟨none, _, by have := run_endLoop (P := P) hb.lp (by rw [hR]; simp); rw [hR] at this; exact this, ?_⟩
      exact hdone D xs _ (by omega) hS (hD ▸ own_putK (hD ▸ hI) hb hi _) (hb.put _).dfr
    · refine ⟨some c, _, by have := run_endLoop (P := P) hb.lp (by rw [hR]; simp); rw [hR] at this; exact this, ?_⟩
      exact hstop D c pre _ (by omega) hSp (hD ▸ own_putK (hD ▸ hIx c) hb hi _) (hb.put _).dfr

end
end Go.Proofs.YtdmfgechoanmlaaGreatDoor
