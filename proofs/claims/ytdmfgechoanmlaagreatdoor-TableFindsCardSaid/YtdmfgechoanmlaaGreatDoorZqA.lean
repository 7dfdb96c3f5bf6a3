/- Firings of no rules: fire.Fired's iterator, and those that it ranges over, hand nothing on. -/
import Derived.Test.YtdmfgechoanmlaaGreatDoorZmC
import Derived.Test.YtdmfgechoanmlaaGreatDoorMYK
namespace Go.Proofs.YtdmfgechoanmlaaGreatDoor
open Go Go.RowKit Go.Sort Go.Shelf
attribute [local go_sem] Oper.semAt_some
attribute [local go_sem] fvV

/-- An iterator that hands nothing on, in whatever world that knows K. -/
def NoIt (N : Nat) (g : Nat) (lb : Array Value) (K : World → Prop) : Prop :=
  ∀ (l : Nat) (W : World), K W → CallsIn Fence.wide N Tryz.prog g (#[.func (.yield l) #[] #[]] ++ lb) W fun e W' => (∃ v, e = .returned v) ∧ Below W.heap.size W W'
theorem NoIt.seq {α : Type} {N g : Nat} {lb : Array Value} {K : World → Prop} (h : NoIt N g lb K) (hK : ∀ X Y, K X → Below X.heap.size X Y → K Y) (T : TypeId → Bool) (encs : α → Array Value) (n0 : Nat) (Kp : World → World → Prop) (w : World) (hw : K w) :
    SeqKs T N Tryz.prog g lb encs (fun _ _ => False) n0 Kp (fun xs => xs = []) (fun _ => False) w := by
  intro l J Jx W hW hJ hJx hY h0
  refine (h l W (hK w W hw hW)).mono ?_
  rintro e W' ⟨hv, hk⟩
  exact ⟨hv, .inl ⟨[], rfl, hJ.bel h0 hk⟩⟩
theorem ownS_below {β : Type} {T : TypeId → Bool} {n0 B : Nat} {w : World} (h1 : n0 ≤ w.heap.size) (h2 : n0 ≤ B) : OwnS T B (fun (_ : β) W => Below n0 w W) := fun _ W W' row h hg hr =>
  h.trans ((Below.refl n0 W).grown hg (by have := h.size; omega) (fun j hj => by have := (hr j hj).1; omega))
/-- Two seconds of the calendar, far from its ends. -/
structure FarS (s : Int) : Prop where
  q : inS s
  y1 : -99000 ≤ ySec s
  y2 : ySec s ≤ 99000
theorem FarS.of {s : Int} (h1 : -2200000000000 ≤ s) (h2 : s ≤ 2200000000000) : FarS s := by
  have h := ySec_spec s
  refine ⟨by unfold inS; omega, ?_, ?_⟩
  · rcases Int.lt_or_le (ySec s) (-99000) with h3 | h3
    · have := ny_mono (ySec s + 1) (-98999) (by omega)
      have e : ny (-98999) = -36880000 ∨ ny (-98999) < -30000000 := by unfold ny; omega
      omega
    · exact h3
  · rcases Int.lt_or_le 99000 (ySec s) with h3 | h3
    · have := ny_mono 99001 (ySec s) (by omega)
      have e : ny 99001 > 30000000 := by unfold ny; omega
      omega
    · exact h3
/-- What between's iterator reads. -/
structure BnB (B : Nat) (c0 : Nat) (lo hi : Int) (W : World) : Prop where
  b0 : W.heap[B]? = some (.cells #[.slice none 0 c0] 80 (0, 0))
  b1 : W.heap[B + 1]? = some (.cells #[.int .i64 lo] 3 (0, 0))
  b2 : W.heap[B + 2]? = some (.cells #[.int .i64 hi] 3 (0, 0))
  ah : AhAt W
theorem BnB.next {B c0 : Nat} {lo hi : Int} {W W' : World} (h : BnB B c0 lo hi W) (k : Below W.heap.size W W') : BnB B c0 lo hi W' :=
  ⟨(k.block _ (Array.getElem?_eq_some_iff.1 h.b0).1).trans h.b0, (k.block _ (Array.getElem?_eq_some_iff.1 h.b1).1).trans h.b1, (k.block _ (Array.getElem?_eq_some_iff.1 h.b2).1).trans h.b2, h.ah.next k⟩
theorem rows_none {α : Type} {c : Nat} {f : α → Array Value} (A : Option Addr) (W : World) : RowsAt c f A ([] : List α) W := fun i x hx => by simp at hx
set_option maxRecDepth 20000 in
set_option maxHeartbeats 1000000 in
theorem betw_none (N : Nat) (hN : 1 ≤ N) (B c0 : Nat) (lo hi : Int) (hlo : FarS lo) (hhi : FarS hi) :
    NoIt N 142 #[.pointer (some ⟨B, 0, none⟩), .pointer (some ⟨B + 1, 0, none⟩), .pointer (some ⟨B + 2, 0, none⟩)] (BnB B c0 lo hi) := by
  intro l W hW
  have HB := Lib.hid hW
  have SPN := Lib.hid (fun X => span_is none 0 c0 [] _ _ X (rows_none none X) rfl (by omega) rfl rfl)
  obtain ⟨p, hp⟩ : ∃ p, ySec lo = p := ⟨_, rfl⟩
  obtain ⟨q, hq⟩ : ∃ q, ySec hi = q := ⟨_, rfl⟩
  obtain ⟨sp, hsp⟩ : ∃ s, smS p = s := ⟨_, rfl⟩
  have p1 := hlo.y1
  have p2 := hlo.y2
  have q1 := hhi.y1
  have q2 := hhi.y2
  rw [hp] at p1 p2
  rw [hq] at q1 q2
  have YL := Lib.hid (fun X (h : AhAt X) => yearOf_is lo p X h hlo.q hp)
  have YH := Lib.hid (fun X (h : AhAt X) => yearOf_is hi q X h hhi.q hq)
  have SM := Lib.hid (fun X (h : AhAt X) => summer_is p sp X h (by omega) (by omega) hsp)
  rw [show max (spA []) (-100000) = 100001 from rfl, show min (spB []) 100000 = -100001 from rfl] at SPN
  have c0' := cel1 HB.out.b0
  have c1' := cel1 HB.out.b1
  have c2' := cel1 HB.out.b2
  clear hW hlo hhi hp hq hsp
  refine callsIn_of_wp Tryz.func142 rfl trivial ?_ rfl
  simp only [Tryz.ntmps142, List.size_toArray, List.length_cons, List.length_nil, Nat.reduceAdd, Nat.reduceSub, Array.replicate_succ, Array.replicate_zero, List.push_toArray, List.append_toArray, List.nil_append, List.cons_append]
  gi_wp2_with (first
    | (refine ⟨trivial, ?_⟩; gi_at_call 143; refine (callsIn_wide.2 (SPN.out _)).mono ?_; rintro e w1 ⟨rfl, k1⟩
       have HB1 := Lib.hid (HB.out.next k1)
       have K1 := Lib.hid k1
       clear k1 c0' c1' c2'
       have c1' := cel1 HB1.out.b1
       simp only [])
    | (refine ⟨trivial, ?_⟩; gi_at_call 120; refine (callsIn_wide.2 (YL.out _ HB1.out.ah)).mono ?_; rintro e w2 ⟨rfl, k2⟩
       have HB2 := Lib.hid (HB1.out.next k2)
       have K2 := Lib.hid (K1.out.trans (k2.mono K1.out.size))
       clear k2 c1'
       have c1' := cel1 HB2.out.b1
       simp only []))
  have mixed : Tryz.prog.follows .mixedOrders = true := by kernel_rfl
  have d1 := bel_cell c1'
  have w0 : IntKind.i64.wrap (p - 1) = p - 1 := IntWalk.i64_in _ (by omega)
  have w1' : IntKind.i64.wrap (q + 1) = q + 1 := IntWalk.i64_in _ (by omega)
  clear c1'
  refine wpIn_calm ?_
  refine wpIn_wide.2 ?_
  refine region_bel mixed (by kernel_rfl) ?_
  repeat (quiet_step ((go_at_call 144; rename_i y; refine (SM.out _ (HB2.out.next y.k).ah).mono ?_; rintro e w6 ⟨rfl, k6⟩; exact ⟨rfl, ⟨w6, y.k.trans (k6.mono y.k.size)⟩, rfl⟩)))
  refine wpQuiet_nil ?_
  rintro w6 ⟨x6, hx6⟩
  have k6 : Below w2.heap.size w2 w6 := hx6 ▸ x6.k
  have HB6 := Lib.hid (HB2.out.next k6)
  have K6 := Lib.hid (K2.out.trans (k6.mono K2.out.size))
  clear hx6 x6 k6 d1
  simp only [calmQ]
  have c2' := cel1 HB6.out.b2
  have c1' := cel1 HB6.out.b1
  obtain ⟨yl, hyl⟩ : ∃ y, (lo < sp ∧ p - 1 = y) ∨ (¬ lo < sp ∧ p = y) := by
    by_cases h : lo < sp
    · exact ⟨_, .inl ⟨h, rfl⟩⟩
    · exact ⟨_, .inr ⟨h, rfl⟩⟩
  have mm0 := fmax2 Tryz.prog 3 yl 100001 100001 (by omega)
  have mm1 := fmin2 Tryz.prog 3 (-100001) (q + 1) (-100001) (by omega)
  rcases hyl with ⟨hls, hpy⟩ | ⟨hls, hpy⟩
  all_goals
    gi_wp2_with (first
      | (refine ⟨trivial, ?_⟩; gi_at_call 120; refine (callsIn_wide.2 (YH.out _ HB6.out.ah)).mono ?_; rintro e w7 ⟨rfl, k7⟩
         have HB7 := Lib.hid (HB6.out.next k7)
         have K7 := Lib.hid (K6.out.trans (k7.mono K6.out.size))
         clear k7 c1' c2'
         have c1' := cel1 HB7.out.b1
         simp only []))
    clear hls hpy c1'
    gi_loopw [7, 8, 9] (fun v7 v8 v9 wr => v7 = .int .i64 100001 ∧ v8 = .int .i64 lo ∧ v9 = .int .i64 1 ∧ Below W.heap.size W wr) (fun _ _ _ _ => 0)
    case atStart => exact ⟨rfl, rfl, rfl, K7.out⟩
    case round =>
      obtain ⟨rfl, rfl, rfl, hk⟩ := hrel
      have HK := Lib.hid hk
      clear hk
      gi_wp2
      go_end0
      exact ⟨⟨_, rfl⟩, HK.out⟩
end Go.Proofs.YtdmfgechoanmlaaGreatDoor
