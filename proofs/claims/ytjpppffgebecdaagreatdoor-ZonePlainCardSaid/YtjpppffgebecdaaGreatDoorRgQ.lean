/- A region that draws its order inside a round of a range over a function: its operations read, and its callees change nothing that lies: walked once, in the text's order. A law of this text's own, beside the library's. -/
import Derived.Deep.QuietTactic
import Derived.RangeFuncCalls
import Derived.OrdersIn
import Derived.TacticsIn
import Derived.Below
namespace Go.Proofs.YtjpppffgebecdaaGreatDoor
open Go Go.RowKit

/-- A world in which nothing that lies in v has changed. -/
structure Bel (v : World) where
  w : World
  k : Below v.heap.size v w
instance (v : World) : Inhabited (Bel v) := ⟨⟨v, Below.refl _ _⟩⟩
def noDefer (o : Oper) : Bool := match o.op with | .defer _ => false | _ => true
section
variable {P : Program} {n l : Nat} {C : World → Prop} {md : Region.Mode} {ops : Array Oper}
theorem quiet_in_round {o : Oper} {a : Act} {K : Act → Prop} {K' : Act → World → Prop} {Q : Exit → Act → World → Prop} {w : World} (hd : noDefer o = true) (hw : C w) (h : ∀ a w', C w' → K a → K' a w') (hh : o.quiet P a C K) :
    o.wpIn (Fence.wide.inRound l) n P a w K' Q := by
  obtain ⟨v, q1, q2⟩ := hh
  have q3 := q1 w hw
  refine ⟨fun _ _ => trivial, ?_⟩
  have e : Oper.semAt (Fence.wide.inRound l).round a.eval o = execOp a.eval o := Oper.semAt_eq _ _ _ fun c hc => by
    unfold noDefer at hd
    rw [hc] at hd
    cases hd
  rw [e]
  unfold Oper.quietAt at q3
  generalize (execOp a.eval o).run P w = r at q3 ⊢
  rcases r with ⟨x, w'⟩ | ⟨x, w'⟩
  · cases x <;> simp only [Oper.quietUpon] at q3
    all_goals simp only [Oper.uponIn]
    · obtain ⟨rfl, rfl⟩ := q3
      exact h _ _ hw q2
    · obtain ⟨rfl, rfl⟩ := q3
      exact h _ _ hw q2
    · obtain ⟨rfl, hc⟩ := q3
      refine ⟨fun e => (by cases e), CallsIn.inRound l (callsIn_wide.2 (hc.mono ?_))⟩
      rintro e w2 ⟨rfl, hw2⟩
      exact h _ _ hw2 q2
  · simp only [Oper.quietUpon] at q3
theorem quiet_op_round (hnd : ops.all noDefer = true) {i : Nat} {a : Act} {K : Act → Prop} {K' : Act → World → Prop} {Q : Exit → Act → World → Prop} {w : World} (hw : C w) (h : ∀ a w', C w' → K a → K' a w') (hh : qOp P ops C i K a) :
    wpOpIn (Fence.wide.inRound l) n P ops Q i K' a w := by
  unfold qOp at hh
  unfold wpOpIn
  cases ho : ops[i]? with
  | none => simp only [ho] at hh ⊢; exact h _ _ hw hh
  | some o =>
    have hd : noDefer o = true := by
      obtain ⟨hi, e⟩ := Array.getElem?_eq_some_iff.1 ho
      rw [← e]
      exact Array.all_eq_true.1 hnd i hi
    simp only [ho] at hh ⊢
    by_cases hx : Region.wanted o (yielded ops a.tmps) = true
    · simp only [hx, if_true] at hh ⊢
      exact quiet_in_round hd hw h hh
    · simp only [hx] at hh ⊢
      exact ⟨fun _ _ => trivial, h _ _ hw hh⟩
theorem quiet_any_round (hnd : ops.all noDefer = true) {Q : Act → Prop} {Q' : Exit → Act → World → Prop} (hQ : ∀ a w, C w → Q a → Q' .normal a w) : ∀ (fuel : Nat) (listed : Array Bool) (a : Act) (w : World), C w →
    wpAnyQ P md ops C Q fuel listed a → wpAnyIn (Fence.wide.inRound l) n P md ops Q' fuel listed a w
  | 0, _, _, _, hw, h => ⟨h.1, hQ _ _ hw h.2⟩
  | fuel + 1, _, _, _, hw, h => ⟨fun h0 => hQ _ _ hw (h.1 h0), fun i hi => quiet_op_round hnd hw (fun a' w' hw' => quiet_any_round hnd hQ fuel _ a' w' hw') (h.2 i hi)⟩
theorem region_round {id : Nat} {Q : Exit → Act → World → Prop} {a : Act} {w : World} {os : List Oper} (hm : P.follows .mixedOrders = true) (hB : Region.lexB .any os.toArray = true) (hnd : os.toArray.all noDefer = true)
    (h : wpQuiet P os.toArray (fun w' => ∃ x : Bel w, w' = x.w) (fun a' => ∀ w', (∃ x : Bel w, w' = x.w) → Q .normal a' w') os a) : (Code.region id os.toArray true).wpIn (Fence.wide.inRound l) n P Q a w := by
  simp only [Region.lexB, Bool.and_eq_true] at hB
  refine wpIn_region_any hm (quiet_any_round (C := fun w' => ∃ x : Bel w, w' = x.w) hnd (Q := fun a' => ∀ w', (∃ x : Bel w, w' = x.w) → Q .normal a' w') (fun _ w' hw' h => h w' hw') _ _ _ _ ⟨⟨_, (Below.refl _ w).drew⟩, rfl⟩ ?_)
  have := wpAnyQ_lex (C := fun w' => ∃ x : Bel w, w' = x.w) (md := .any) hB.1 os 0 (Array.replicate os.toArray.size false) a (by simp) (by simpa using hB.2) h
  simpa using this
/-- The same outside a round. -/
theorem region_bel {id : Nat} {Q : Exit → Act → World → Prop} {a : Act} {w : World} {os : List Oper} (hm : P.follows .mixedOrders = true) (hB : Region.lexB .any os.toArray = true)
    (h : wpQuiet P os.toArray (fun w' => ∃ x : Bel w, w' = x.w) (fun a' => ∀ w', (∃ x : Bel w, w' = x.w) → Q .normal a' w') os a) : (Code.region id os.toArray true).wp P Q a w :=
  wp_region_quiet (C := fun w' => ∃ x : Bel w, w' = x.w) hm hB ⟨⟨_, (Below.refl _ w).drew⟩, rfl⟩ (by simpa using h)
end
end Go.Proofs.YtjpppffgebecdaaGreatDoor
