/- A range over an iterator that asks of its rounds that they keep blocks of whatever kind; a round may first lay its element into a variable of its own, and may leave the loop: a law of this text's own, beside the library's.
The contract of the closure of fire.firings: a rule's firings in the years of a course, one after the other, with these, are handed to whatever loop they are ranged over by. -/
import Derived.RangeFuncNested
import Derived.RangeFuncBound
import Derived.RangeFuncCalls
import Derived.RangeFuncLeaves
import Derived.RangeFuncBox
import Derived.OwnWalkIn
import Derived.TacticsInMore
import Derived.Below
import Derived.Test.YtdmfgechoanmlaaGreatDoorMZF
import Derived.Test.YtdmfgechoanmlaaGreatDoorMZC
namespace Go.Proofs.YtdmfgechoanmlaaGreatDoor
open Go Go.RowKit

section
variable {n : Nat} {P : Program}

/-- An iterator's contract: Kp: what a round has to keep. -/
def SeqKp {α : Type} (n : Nat) (P : Program) (gf : Nat) (lb : Array Value) (encs : α → Array Value) (Ok : List α → α → Prop) (n0 : Nat) (Kp : World → World → Prop) (S Sp : List α → Prop) (w : World) : Prop :=
  ∀ (l : Nat) (J Jx : List α → World → Prop) (W : World), Below w.heap.size w W → OwnFrom W.heap.size J → OwnFrom W.heap.size Jx →
    (∀ pre x W1, J pre W1 → Ok pre x → W.heap.size ≤ W1.heap.size → YieldAt Fence.wide (n - 1) P l (encs x) W1 fun e W' =>
      (e = .returned (.bool true) ∧ J (pre ++ [x]) W' ∧ Below n0 W1 W' ∧ Kp W1 W') ∨ (e = .returned (.bool false) ∧ Jx (pre ++ [x]) W')) →
    J [] W → CallsIn Fence.wide n P gf (#[.func (.yield l) #[] #[]] ++ lb) W fun e W' => (∃ v, e = .returned v) ∧ ((∃ xs, S xs ∧ J xs W') ∨ (∃ pre, Sp pre ∧ Jx pre W'))

/-- A loop's book-keeping: its record in block D + 1, its rounds' deferred calls, none, in block D. -/
structure BookK (D : Nat) (r : Loop) (W : World) : Prop where
  lp : W.heap[D + 1]? = some (.loop r)
  dfr : W.heap[D]? = some (.deferred (some []))
theorem BookK.keep {D : Nat} {r : Loop} {W W' : World} (h : BookK D r W) (k : KeepsOthers W W') : BookK D r W' := ⟨k.same _ _ h.lp rfl, k.same _ _ h.dfr rfl⟩
theorem BookK.put {D : Nat} {r : Loop} {W : World} (h : BookK D r W) (r' : Loop) : BookK D r' (W.putObj (D + 1) (.loop r')) :=
  ⟨World.putObj_heap_same (Array.getElem?_eq_some_iff.1 h.lp).1, (World.putObj_heap_other (by omega)).trans h.dfr⟩
theorem BookK.own {β : Type} (B D : Nat) (r : Loop) (h : D + 2 ≤ B) : OwnFrom B (fun (_ : β) W => BookK D r W) := fun _ W W' row hs hg hr => by
  have h1 := (Array.getElem?_eq_some_iff.1 hs.lp).1
  have h2 := (Array.getElem?_eq_some_iff.1 hs.dfr).1
  exact ⟨(hg.block (D + 1) h1 (fun e => by have := (hr _ e.symm).1; omega)).trans hs.lp, (hg.block D h2 (fun e => by have := (hr _ e.symm).1; omega)).trans hs.dfr⟩
theorem own_putK {β : Type} {D : Nat} {I : β → World → Prop} (hI : OwnFrom D I) {s : β} {r : Loop} {W : World} (b : BookK D r W) (h : I s W) (r' : Loop) : I s (W.putObj (D + 1) (.loop r')) := hI.putObj _ h (by omega) b.lp rfl
theorem own_monoK {β : Type} {B B' : Nat} {I : β → World → Prop} (hI : OwnFrom B I) (h : B ≤ B') : OwnFrom B' I := fun s W W' row hs hg hr => hI s W W' row hs hg (fun r e => ⟨Nat.le_trans h (hr r e).1, (hr r e).2⟩)
theorem BookK.below {D n0 : Nat} {r : Loop} {W : World} (h : BookK D r W) (hn : n0 ≤ D) (r' : Loop) : Below n0 W (W.putObj (D + 1) (.loop r')) :=
  (Below.refl n0 W).grown (grownBy_putObj' W (D + 1) _) (by have := (Array.getElem?_eq_some_iff.1 h.lp).1; omega) (fun j hj => by cases hj; omega)

/-- What a part of a round keeps. -/
structure KeptP (n0 : Nat) (Kp : World → World → Prop) (W W' : World) : Prop where
  oth : KeepsOthers W W'
  bel : Below n0 W W'
  kp : Kp W W'
/-- How the body of a round may be left. -/
def postP {α : Type} (n0 : Nat) (Kp : World → World → Prop) (I : List α → World → Prop) (Ix : Code → List α → World → Prop) (xs : List α) (W : World) : Exit → Act → World → Prop
  | .normal, _, W' => KeptP n0 Kp W W' ∧ I xs W'
  | .ret, _, W' => KeepsOthers W W' ∧ Ix .ret xs W'
  | .exit id, _, W' => KeepsOthers W W' ∧ Ix (.exit id) xs W'
  | .goto t, _, W' => KeepsOthers W W' ∧ Ix (.goto t) xs W'
  | .panic _, _, _ => False
  | .outgrown, _, _ => False

theorem range_kp {α : Type} {g : Operand} {ps : Array Tmp} {assign body : Code} {Q : Exit → Act → World → Prop} {a : Act} {w : World}
    (h1 : 1 ≤ n) {gf : Nat} {lb : Array Value} (hg : a.eval g = .func (.func gf) #[] lb) (eg : ∀ args w, (callFunc gf args).run P w = .ok (.enter gf args) w)
    {encs : α → Array Value} {Ok : List α → α → Prop} {n0 : Nat} {Kp : World → World → Prop} {S Sp : List α → Prop} (hseq : SeqKp (n - 1) P gf lb encs Ok n0 Kp S Sp w) (hn0 : n0 ≤ w.heap.size) (hps : ∀ x, (encs x).size = ps.size)
    (hKt : ∀ {A B C : World}, Kp A B → Kp B C → Kp A C) (hKb : ∀ (W : World) (l : Nat) (r r' : Loop), W.heap[l]? = some (.loop r) → Kp W (W.putObj l (.loop r')))
    (I : List α → World → Prop) (Ix : Code → List α → World → Prop) (hI : OwnFrom w.heap.size I) (hIx : ∀ c, OwnFrom w.heap.size (Ix c)) (h0 : I [] w)
    (hround : ∀ (l : Nat) (pre : List α) (x : α) (W : World), I pre W → Ok pre x → w.heap.size + 2 ≤ W.heap.size → assign.wpIn (Fence.wide.inRound l) (n - 1 - 1) P
      (Exit.then (fun a' W' => KeptP n0 Kp W W' ∧ ∃ M : Unit → World → Prop, OwnFrom w.heap.size M ∧ M () W' ∧ ∀ W2, M () W2 → w.heap.size + 2 ≤ W2.heap.size → body.wpIn (Fence.wide.inRound l) (n - 1 - 1) P (postP n0 Kp I Ix (pre ++ [x]) W2) a' W2) (fun _ _ _ => False))
      { tmps := (ps.zip (encs x)).foldl (fun t (p, v) => t.setIfInBounds p v) a.tmps, defers := [] } W)
    (hdone : ∀ (D : Nat) (xs : List α) (W : World), w.heap.size ≤ D → S xs → I xs W → W.heap[D]? = some (.deferred (some [])) → Q .normal { a with defers := { target := .collected D, args := #[] } :: a.defers } W)
    (hstop : ∀ (D : Nat) (c : Code) (pre : List α) (W : World), w.heap.size ≤ D → Sp pre → Ix c pre W → W.heap[D]? = some (.deferred (some [])) → c.wpIn Fence.wide n P Q { a with defers := { target := .collected D, args := #[] } :: a.defers } W) :
    (Code.rangeFunc g ps assign body).wpIn Fence.wide n P Q a w := by
  refine wpIn_rangeFunc fun fn hfn => ?_
  rw [show Fence.wide.round = none from rfl]
  obtain ⟨D, hD⟩ : ∃ D, w.heap.size = D := ⟨_, rfl⟩
  obtain ⟨R, hR⟩ : ∃ R : LoopState → Option Code → Loop, R = fun st pe => { state := st, pending := pe, fn, tmps := a.tmps, params := ps, assign, body, defers := D } := ⟨_, rfl⟩
  obtain ⟨V, hV⟩ : ∃ V, (w.alloc (.deferred (some []))).alloc (.loop (R .ready none)) = V := ⟨_, rfl⟩
  have hVs : V.heap.size = D + 2 := by rw [← hV, ← hD]; simp
  have bV : BookK D (R .ready none) V := by
    constructor
    · rw [← hV, ← hD]
      have := World.alloc_heap_new (w.alloc (.deferred (some []))) (.loop (R .ready none))
      rwa [World.size_alloc] at this
    · rw [← hV, ← hD]
      exact (Below.heap_alloc _ _ _ (by simp)).trans (World.alloc_heap_new w _)
  have iV : I [] V := by rw [← hV]; exact hI.alloc _ (hI.alloc _ h0)
  have kV : Below w.heap.size w V := by rw [← hV]; exact ((Below.refl _ w).alloc (Nat.le_refl _) _).alloc (by simp) _
  have enter : (Instr.enterLoop fn a.tmps ps assign body none).run P w = .ok (D + 1, [{ target := .collected D, args := #[] }]) V := by rw [← hV, hR, ← hD]; exact run_enterLoop_outer _ _ _ _ _
  refine ⟨D + 1, [{ target := .collected D, args := #[] }], V, { target := .fn (.func gf) lb, args := #[.func (.yield (D + 1)) #[] #[]] }, V, gf, #[.func (.yield (D + 1)) #[] #[]] ++ lb, V, enter, by simp only [resolve, hg]; simp [go_sem], fun _ _ => trivial, by simp [invoke, go_sem, eg], fun _ => h1, ?_⟩
  refine (hseq (D + 1) (fun pre W => I pre W ∧ BookK D (R .ready none) W) (fun pre W => ∃ c, Ix c pre W ∧ BookK D (R .done (some c)) W) V kV
    (OwnFrom.and (own_monoK hI (by omega)) (BookK.own _ D _ (by omega))) (fun s A B row ⟨c, hc, hb⟩ hg hr => ⟨c, own_monoK (hIx c) (by omega) s A B row hc hg hr, BookK.own (β := Unit) V.heap.size D _ (by omega) () A B row hb hg hr⟩) ?_ ⟨iV, bV⟩).mono ?_
  · rintro pre x W ⟨hi, hb⟩ hok hlt
    rw [hVs] at hlt
    have hy := run_yield (P := P) (args := encs x) hb.lp (by rw [hR]; exact hps x)
    rw [hR] at hy
    refine ⟨fn, _, assign, body, hy, roundIn_of_wpIn hfn (wpIn_mono (hround (D + 1) pre x W hi hok (by omega)) ?_)⟩
    rintro e a' W1 hp
    cases e with
    | normal =>
      obtain ⟨⟨ko, kb, ka⟩, M, hM, him, hbody⟩ := hp
      have b1 := hb.keep ko
      refine ⟨_, run_beginRound b1.lp (by rw [hR]), wpIn_mono (hbody _ (hD ▸ own_putK (hD ▸ hM) b1 him _) (by have := ko.size; simp [World.putObj]; omega)) ?_⟩
      have b2 := b1.put { R .ready none with state := .busy }
      have k2 : Below n0 W (W1.putObj (D + 1) (.loop { R .ready none with state := .busy })) := kb.trans (b1.below (by omega) _)
      have c2 : Kp W (W1.putObj (D + 1) (.loop { R .ready none with state := .busy })) := hKt ka (hKb W1 _ _ _ b1.lp)
      have close : ∀ (jump : Option Code) (W3 : World), KeepsOthers (W1.putObj (D + 1) (.loop { R .ready none with state := .busy })) W3 →
          (Instr.endRound (D + 1) jump).run P W3 = .ok (.bool jump.isNone) (W3.putObj (D + 1) (.loop (R (if jump.isNone then .ready else .done) jump))) ∧ BookK D { R .ready none with state := .busy } W3 := fun jump W3 k3 => by
        have b3 := b2.keep k3
        have hr := run_endRound (P := P) jump b3.lp
        rw [hR] at hr ⊢
        exact ⟨hr, by rw [hR] at b3; exact b3⟩
      have leave : ∀ (c : Code) (W3 : World), KeepsOthers (W1.putObj (D + 1) (.loop { R .ready none with state := .busy })) W3 → Ix c (pre ++ [x]) W3 → Ix c (pre ++ [x]) (W3.putObj (D + 1) (.loop (R .done (some c)))) ∧ BookK D (R .done (some c)) (W3.putObj (D + 1) (.loop (R .done (some c)))) := fun c W3 k3 i3 =>
        ⟨hD ▸ own_putK (hD ▸ hIx c) (b2.keep k3) i3 _, (b2.keep k3).put _⟩
      rintro e a3 W3 hp
      cases e with
      | normal =>
        obtain ⟨⟨k3, kb3, ka3⟩, i3⟩ := hp
        obtain ⟨hr, b3⟩ := close none W3 k3
        exact ⟨_, _, hr, .inl ⟨rfl, ⟨hD ▸ own_putK (hD ▸ hI) b3 i3 _, b3.put _⟩, (k2.trans kb3).trans (b3.below (by omega) _), hKt (hKt c2 ka3) (hKb W3 _ _ _ b3.lp)⟩⟩
      | ret =>
        obtain ⟨k3, i3⟩ := hp
        exact ⟨_, _, (close (some .ret) W3 k3).1, .inr ⟨rfl, .ret, leave _ W3 k3 i3⟩⟩
      | exit id =>
        obtain ⟨k3, i3⟩ := hp
        exact ⟨_, _, (close (some (.exit id)) W3 k3).1, .inr ⟨rfl, .exit id, leave _ W3 k3 i3⟩⟩
      | goto t =>
        obtain ⟨k3, i3⟩ := hp
        exact ⟨_, _, (close (some (.goto t)) W3 k3).1, .inr ⟨rfl, .goto t, leave _ W3 k3 i3⟩⟩
      | panic ch => exact hp.elim
      | outgrown => exact hp.elim
    | ret => exact hp.elim
    | exit id => exact hp.elim
    | goto t => exact hp.elim
    | panic ch => exact hp.elim
    | outgrown => exact hp.elim
  · rintro e W2 ⟨⟨v, rfl⟩, (⟨xs, hS, hi, hb⟩ | ⟨pre, hSp, c, hi, hb⟩)⟩
    · refine ⟨none, _, by have := run_endLoop (P := P) hb.lp (by rw [hR]; simp); rw [hR] at this; exact this, ?_⟩
      exact hdone D xs _ (by omega) hS (hD ▸ own_putK (hD ▸ hI) hb hi _) (hb.put _).dfr
    · refine ⟨some c, _, by have := run_endLoop (P := P) hb.lp (by rw [hR]; simp); rw [hR] at this; exact this, ?_⟩
      exact hstop D c pre _ (by omega) hSp (hD ▸ own_putK (hD ▸ hIx c) hb hi _) (hb.put _).dfr

/-- A part of the code that comes to its end in the normal way. -/
def calmQ (Q : Exit → Act → World → Prop) : Exit → Act → World → Prop
  | .normal, a, w => Q .normal a w
  | _, _, _ => False
theorem wpIn_calm {F : Fence} {c : Code} {Q : Exit → Act → World → Prop} {a : Act} {w : World} (h : c.wpIn F n P (calmQ Q) a w) : c.wpIn F n P Q a w := wpIn_mono h fun e a w hq => by
  cases e with
  | normal => exact hq
  | _ => exact hq.elim
/-- Blocks of cells of some types lie as they lay. -/
def KpT (ok : TypeId → Bool) (X Y : World) : Prop := ∀ (k : Nat) (cs : Array Value) (t : TypeId) (fz : Nat × Nat), X.heap[k]? = some (Obj.cells cs t fz) → ok t = true → Y.heap[k]? = X.heap[k]?
theorem KpT.trans {ok : TypeId → Bool} {A B C : World} (h : KpT ok A B) (k : KpT ok B C) : KpT ok A C := fun j cs t fz hj ht => by
  have h1 := h j cs t fz hj ht
  exact (k j cs t fz (h1.trans hj) ht).trans h1
theorem KpT.put {ok : TypeId → Bool} (W : World) (l : Nat) (r r' : Loop) (h : W.heap[l]? = some (.loop r)) : KpT ok W (W.putObj l (.loop r')) := fun k cs t fz hk _ =>
  World.putObj_heap_other (fun e => by subst e; rw [h] at hk; cases hk)
theorem KpT.below {ok : TypeId → Bool} {X Y : World} (h : Below X.heap.size X Y) : KpT ok X Y := fun k _ _ _ hk _ => h.block k (Array.getElem?_eq_some_iff.1 hk).1
theorem KpT.grown {ok : TypeId → Bool} {X Y : World} {row : Option Nat} (h : X.grownBy Y row) (hr : ∀ j, row = some j → ∃ cs t fz, X.heap[j]? = some (Obj.cells cs t fz) ∧ ok t = false) : KpT ok X Y := fun k cs t fz hk ht =>
  h.block k (Array.getElem?_eq_some_iff.1 hk).1 (fun e => by
    obtain ⟨cs', t', fz', h1, h2⟩ := hr k e.symm
    rw [hk] at h1; cases h1; rw [ht] at h2; cases h2)
end
end Go.Proofs.YtdmfgechoanmlaaGreatDoor

namespace Go.Proofs.YtdmfgechoanmlaaGreatDoor
open Go Go.RowKit
attribute [local go_sem] Oper.semAt_some
attribute [local go_sem] coV fvV rV cR

def encF (x : Int × FV) : Array Value := #[.int .i64 x.1, fvV x.2]
/-- What the loop in firings knows at its head. -/
structure HeadF (r : RV) (F T : Int) (N : Nat) (L o G Br : Nat) (J : List (Int × FV) → World → Prop) (k s : Nat) (W : World) : Prop where
  kn : k ≤ N
  s7 : s ≤ 7
  sk : s ≤ k
  sil : ∀ y, F + k - s ≤ y → y < F + k → ¬ frY r y
  j : J (frL r F k) W
  own : W.heap[G]? = some (.cells #[.int .i64 F, .int .i64 T, .int .i64 1] 192 (0, 0))
  rul : RulAt L o r W
  ptr : W.heap[Br]? = some (.cells #[.pointer (some ⟨L, o, none⟩)] 178 (0, 0))
  ah : LaidF W

theorem grown_bel {W W' : World} (h : Below W.heap.size W W') (row : Option Nat) : W.grownBy W' row := ⟨h.os, h.tape, h.output, h.size, fun k hk _ => h.block k hk⟩
theorem HeadF.next {r : RV} {F T : Int} {N L o G Br B k s : Nat} {J : List (Int × FV) → World → Prop} {W W' : World} (h : HeadF r F T N L o G Br J k s W) (HJ : OwnFrom B J) (kb : Below W.heap.size W W') : HeadF r F T N L o G Br J k s W' :=
  ⟨h.kn, h.s7, h.sk, h.sil, HJ _ _ _ none h.j (grown_bel kb none) (fun r e => by cases e), (kb.block _ (Array.getElem?_eq_some_iff.1 h.own).1).trans h.own, h.rul.next kb, (kb.block _ (Array.getElem?_eq_some_iff.1 h.ptr).1).trans h.ptr, h.ah.next kb⟩

theorem HeadF.skip {r : RV} {F T : Int} {N L o G Br k s : Nat} {J : List (Int × FV) → World → Prop} {W : World} (h : HeadF r F T N L o G Br J k s W) (hk : k < N) (hs : s < 7) (nf : ¬ frY r (F + k)) : HeadF r F T N L o G Br J (k + 1) (s + 1) W :=
  ⟨hk, by omega, by have := h.sk; omega, fun y a b => by
    by_cases hy : y < F + k
    · exact h.sil y (by omega) hy
    · obtain rfl : y = F + k := by omega
      exact nf, by rw [frL_no nf]; exact h.j, h.own, h.rul, h.ptr, h.ah⟩
theorem HeadF.over {r : RV} {F T : Int} {N L o G Br k : Nat} {J : List (Int × FV) → World → Prop} {W : World} (h : HeadF r F T N L o G Br J k 7 W) (hk : k < N) (nf : ¬ frY r (F + k)) (hf : r.fr ≤ F) (ht : F + k ≤ r.tl) : J (frL r F N) W := by
  have := h.sk
  have all := silent_ever (r := r) (z := F + k - 7) (by omega) (by omega) (fun y a b => by
    by_cases hy : y < F + k
    · exact h.sil y (by omega) hy
    · obtain rfl : y = F + k := by omega
      exact nf)
  rw [frL_still (Nat.le_of_lt hk) fun j _ _ => all _]; exact h.j
theorem HeadF.fired {r : RV} {F T : Int} {N L o G Br n0 k s : Nat} {J : List (Int × FV) → World → Prop} {W W' : World} (h : HeadF r F T N L o G Br J k s W) (hk : k < N) (hf : frY r (F + k)) (hJ : J (frL r F k ++ [(F + k, frF r (F + k))]) W') (kb : Below n0 W W') (ko : KpT (fun t => t == 192 || t == 178) W W') (hL : L < n0) (hA : LaidF W') : HeadF r F T N L o G Br J (k + 1) 0 W' :=
  ⟨hk, by omega, by omega, fun y a b => by omega, by rw [frL_yes hf]; exact hJ, (ko G _ _ _ h.own (by simp)).trans h.own, h.rul.below hL kb, (ko Br _ _ _ h.ptr (by simp)).trans h.ptr, hA⟩

set_option maxHeartbeats 4000000 in
set_option maxRecDepth 20000 in
theorem firings_own (n : Nat) (hn : 1 ≤ n) (Bc Br L o : Nat) (r : RV) (a b F T : Int) (N : Nat) (w : World) (hr : RulAt L o r w) (hok : okR r) (hA : LaidF w)
    (hc0 : w.cell? ⟨Bc, 0, none⟩ = some (.int .i64 a)) (hc1 : w.cell? ⟨Bc, 1, none⟩ = some (.int .i64 b)) (hc2 : w.cell? ⟨Bc, 2, none⟩ = some (.int .i64 1)) (hp : w.heap[Br]? = some (.cells #[.pointer (some ⟨L, o, none⟩)] 178 (0, 0))) (n0 : Nat) (hL0 : L < n0) (hG0 : 2 < n0)
    (hF : max (max a r.fr) (-100000) = F) (hT : min (min b r.tl) 100000 = T) (hN : (T + 1 - F).toNat = N) (hF1 : -99000 ≤ F) (hT1 : T ≤ 99000) :
    SeqKp n Tryz.prog 155 #[.pointer (some ⟨Bc, 0, none⟩), .pointer (some ⟨Br, 0, none⟩)] encF (fun pre x => pre ++ [x] <+: frL r F N) n0 (KpT (fun t => t == 192 || t == 178)) (fun xs => xs = frL r F N) (fun pre => pre <+: frL r F N) w := by
  intro l J Jx W hW hJ hJx hY h0
  refine callsIn_of_wp Tryz.func155 rfl trivial ?_ rfl
  simp only [Tryz.ntmps155, List.size_toArray, List.length_cons, List.length_nil, Nat.reduceAdd, Nat.reduceSub, Array.replicate_succ, Array.replicate_zero, List.push_toArray, List.append_toArray, List.nil_append, List.cons_append]
  have hB := cell_lt hc0
  have hS := (Array.getElem?_eq_some_iff.1 hp).1
  have g0 : W.cell? ⟨Bc, 0, none⟩ = some (.int .i64 a) := (hW.cell (p := ⟨_, _, none⟩) hB).trans hc0
  have g1 : W.cell? ⟨Bc, 1, none⟩ = some (.int .i64 b) := (hW.cell (p := ⟨_, _, none⟩) hB).trans hc1
  have g2 : W.cell? ⟨Bc, 2, none⟩ = some (.int .i64 1) := (hW.cell (p := ⟨_, _, none⟩) hB).trans hc2
  have g4 := (hW.block Br hS).trans hp
  have g3 := cel1 g4
  have AW := Lib.hid (hA.next hW)
  have RW := Lib.hid (hr.next hW)
  have PT := Lib.hid g4
  have HJ := Lib.hid hJ
  have HY := Lib.hid hY
  have H0 := Lib.hid h0
  have HO := Lib.hid hok
  have hWs := hW.size
  have hrl := hr.1
  have PA := Lib.hid (fun X (h : RulAt L o r X) => fpart_is L o r a b F T X h hF hT)
  have HN := Lib.hid hN
  have HB := Lib.hid (And.intro hF hT)
  clear hc0 hc1 hc2 hp hA hW hJ hJx hY h0 hok hr hF hT hN
  gi_wp2
  refine fscope_in ?_
  gi_wp2_with (refine ⟨trivial, ?_⟩; gi_at_call 137; refine (callsIn_wide.2 (PA.out _ RW.out)).mono ?_; rintro e w1 ⟨rfl, k1⟩; simp only [coV])
  refine wpIn_label ?_
  have X := Lib.hid (BlkN.make k1 #[.int .i64 F, .int .i64 T, .int .i64 1] 192)
  have hG := k1.size
  obtain ⟨c0, c1, c2⟩ := cel3 X.out.blk
  have J0 := Lib.hid (HJ.out [] _ _ none H0.out (grown_bel X.out.bel none) (fun r e => by cases e))
  have A0 := Lib.hid (AW.out.next X.out.bel)
  have R0 := Lib.hid (RW.out.next X.out.bel)
  have P0 := Lib.hid ((X.out.bel.block Br (by omega)).trans PT.out)
  clear k1 g0 g1 g2 g3 g4 H0 AW RW PT
  gi_wp2
  clear c0 c1 c2
  generalize w1.heap.size = G at X hG ⊢
  gi_loopw [5, 6] (fun v5 v6 wr => ∃ k s : Nat, v5 = .int .i64 s ∧ v6 = .int .i64 (F + k) ∧ HeadF r F T N L o G Br J k s wr) (fun v5 v6 _ => N - (intOf v6 - F).toNat)
  case atStart => exact ⟨0, 0, rfl, by simp, ⟨by omega, by omega, by omega, fun y a b => by omega, J0.out, X.out.blk, R0.out, P0.out, A0.out⟩⟩
  case round =>
    obtain ⟨k, s, rfl, rfl, HH⟩ := hrel
    have H := Lib.hid HH
    have gl := (Array.getElem?_eq_some_iff.1 HH.own).1
    have kn := HH.kn
    have s7 := HH.s7
    have sk := HH.sk
    clear HH X J0 A0 R0 P0
    obtain ⟨c0, c1, c2⟩ := cel3 H.out.own
    by_cases hlt : k < N
    · have hyT : F + (k : Int) ≤ T := by have := HN.out; omega
      have HS := Lib.hid (fun X => fhas_is F T (F + k) true X (decide_eq_true hyT).symm)
      obtain ⟨f, bb, hof⟩ := ofA_ex r (F + k)
      have hny : nrY (F + k) := ⟨by omega, by omega⟩
      have OF := Lib.hid (fun X (hX : LaidF X) => fof_is r (F + k) f bb X hX HO.out hny hof)
      have HOF := Lib.hid hof
      clear hof hny
      cases bb with
      | false =>
        have NF : Hid (¬ frY r (F + k)) := by rcases HOF.out with ⟨h, -⟩ | ⟨-, h, -⟩; (cases h); exact Lib.hid h
        by_cases h8 : s = 7
        · subst h8
          have FIN := Lib.hid (fun X (hX : HeadF r F T N L o G Br J k 7 X) => hX.over hlt NF.out (by have := HB.out.1; omega) (by have := HB.out.2; omega))
          gi_wp2_with (first
            | (refine ⟨trivial, ?_⟩; gi_at_call 138; refine (callsIn_wide.2 (HS.out _)).mono ?_; rintro e w2 ⟨rfl, k2⟩
               have H2 := Lib.hid (H.out.next HJ.out k2)
               have gl2 := (Array.getElem?_eq_some_iff.1 H2.out.own).1
               have p2 := cel1 H2.out.ptr
               obtain ⟨r0, r1, r2, r3, r4, r5, r6, r7, r8, r9, r10⟩ := H2.out.rul.cells
               clear k2 c0 c1 c2
               simp only [])
            | (refine ⟨trivial, ?_⟩; gi_at_call 156; refine (callsIn_wide.2 (OF.out _ H2.out.ah)).mono ?_; rintro e w3 ⟨rfl, k3⟩
               have H3 := Lib.hid (H2.out.next HJ.out (k3.alloc k3.size (.cells #[.int .i64 f.nm, .int .i64 f.kd, .int .i64 f.sv, .string ⟨f.lt.toArray⟩] 145)))
               obtain ⟨c0, c1, c2⟩ := cel3 H3.out.own
               clear k3 r0 r1 r2 r3 r4 r5 r6 r7 r8 r9 r10 p2
               simp only [fvV]))
          try rw [Exit.noGoto_normal]
          go_end0
          exact ⟨⟨_, rfl⟩, .inl ⟨_, rfl, FIN.out _ H3.out⟩⟩
        · have h8z : (((s : Int) + 1) == 8) = false := by simp; omega
          gi_wp2_with (first
            | (refine ⟨trivial, ?_⟩; gi_at_call 138; refine (callsIn_wide.2 (HS.out _)).mono ?_; rintro e w2 ⟨rfl, k2⟩
               have H2 := Lib.hid (H.out.next HJ.out k2)
               have gl2 := (Array.getElem?_eq_some_iff.1 H2.out.own).1
               have p2 := cel1 H2.out.ptr
               obtain ⟨r0, r1, r2, r3, r4, r5, r6, r7, r8, r9, r10⟩ := H2.out.rul.cells
               clear k2 c0 c1 c2
               simp only [])
            | (refine ⟨trivial, ?_⟩; gi_at_call 156; refine (callsIn_wide.2 (OF.out _ H2.out.ah)).mono ?_; rintro e w3 ⟨rfl, k3⟩
               have H3 := Lib.hid (H2.out.next HJ.out (k3.alloc k3.size (.cells #[.int .i64 f.nm, .int .i64 f.kd, .int .i64 f.sv, .string ⟨f.lt.toArray⟩] 145)))
               obtain ⟨c0, c1, c2⟩ := cel3 H3.out.own
               clear k3 r0 r1 r2 r3 r4 r5 r6 r7 r8 r9 r10 p2
               simp only [fvV]))
          go_roundw
          case rel => exact ⟨k + 1, s + 1, by go_num, by rw [Int.natCast_add, ← Int.add_assoc]; rfl, H3.out.skip hlt (by omega) NF.out⟩
          case measure => simp [intOf]; omega
      | true =>
        have YF : Hid (frY r (F + k) ∧ f = frF r (F + k)) := by rcases HOF.out with ⟨-, h, h2⟩ | ⟨h, -⟩; (exact Lib.hid ⟨h, h2⟩); cases h
        have PX : Hid (frL r F k ++ [(F + (k : Int), f)] <+: frL r F N) := Lib.hid (by rw [YF.out.2, ← frL_yes YF.out.1]; exact frL_pre r F hlt)
        gi_wp2_with (first
          | (refine ⟨trivial, ?_⟩; gi_at_call 138; refine (callsIn_wide.2 (HS.out _)).mono ?_; rintro e w2 ⟨rfl, k2⟩
             have H2 := Lib.hid (H.out.next HJ.out k2)
             have gl2 := (Array.getElem?_eq_some_iff.1 H2.out.own).1
             have p2 := cel1 H2.out.ptr
             obtain ⟨r0, r1, r2, r3, r4, r5, r6, r7, r8, r9, r10⟩ := H2.out.rul.cells
             clear k2 c0 c1 c2
             simp only [])
          | (refine ⟨trivial, ?_⟩; gi_at_call 156; refine (callsIn_wide.2 (OF.out _ H2.out.ah)).mono ?_; rintro e w3 ⟨rfl, k3⟩
             have H3 := Lib.hid (H2.out.next HJ.out (k3.alloc k3.size (.cells #[.int .i64 f.nm, .int .i64 f.kd, .int .i64 f.sv, .string ⟨f.lt.toArray⟩] 145)))
             obtain ⟨c0, c1, c2⟩ := cel3 H3.out.own
             obtain ⟨fn, tmps, assign, body, hy, hR⟩ := HY.out (frL r F k) (F + (k : Int), f) _ H3.out.j PX.out (by have := k3.size; rw [World.size_alloc]; omega)
             simp only [encF, fvV] at hy
             clear k3 r0 r1 r2 r3 r4 r5 r6 r7 r8 r9 r10 p2
             simp only [fvV]))
        refine hR.mono ?_
        rintro e W3 (⟨rfl, hJ3, kb3, ko3⟩ | ⟨rfl, hJx⟩)
        · have H4 := Lib.hid (H3.out.fired hlt YF.out.1 (by rw [← YF.out.2]; exact hJ3) kb3 ko3 hL0 ⟨H3.out.ah.ah.below kb3 hG0⟩)
          clear hJ3 kb3 ko3 hy hR c0 c1 c2
          obtain ⟨c0, c1, c2⟩ := cel3 H4.out.own
          gi_wp2
          go_roundw
          case rel => exact ⟨k + 1, 0, rfl, by rw [Int.natCast_add, ← Int.add_assoc]; rfl, H4.out⟩
          case measure => simp [intOf]; omega
        · clear hy hR
          gi_wp2
          try rw [Exit.noGoto_normal]
          go_end0
          exact ⟨⟨_, rfl⟩, .inr ⟨_, PX.out, hJx⟩⟩
    · obtain rfl : k = N := by have := H.out.kn; omega
      have hyT : ¬ F + (k : Int) ≤ T := by have := HN.out; omega
      have HS : Hid (∀ X, Calls Tryz.prog 138 #[.agg #[.int .i64 F, .int .i64 T, .int .i64 1], .int .i64 (F + (k : Int))] X fun e w' => e = .returned (.bool false) ∧ Below X.heap.size X w') := fun X => fhas_is F T (F + k) false X (decide_eq_false hyT).symm
      gi_wp2_with (refine ⟨trivial, ?_⟩; gi_at_call 138; with_reducible refine (callsIn_wide.2 (HS.out _)).mono ?_; rintro e w2 ⟨rfl, k2⟩
                   have H2 := Lib.hid (H.out.next HJ.out k2)
                   clear k2 c0 c1 c2
                   simp only [])
      try rw [Exit.noGoto_normal]
      go_end0
      exact ⟨⟨_, rfl⟩, .inl ⟨_, rfl, H2.out.j⟩⟩
end Go.Proofs.YtdmfgechoanmlaaGreatDoor
