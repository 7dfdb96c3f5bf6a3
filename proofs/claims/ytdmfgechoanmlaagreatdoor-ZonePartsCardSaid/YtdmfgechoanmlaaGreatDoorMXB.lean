/- A region that draws its order, whose first operation is a move that only the last ones want: it is taken first; the others but the last ones read, or call what changes nothing that lies. A law of this text's own, beside the library's.
A zone whose last era is parted in two that are alike but for their ends: in which of the eras an instant is, and that it shows the same.
What the law ZoneParts lays: eras in a list of its own, its own variables, the iterator of spans.
The law ZoneParts: where its first tests keep a world out. -/
import Derived.Test.YtdmfgechoanmlaaGreatDoorMZN
import Derived.Test.YtdmfgechoanmlaaGreatDoorMZG
import Derived.Test.YtdmfgechoanmlaaGreatDoorMXA
import Derived.Test.YtdmfgechoanmlaaGreatDoorMYH
import Derived.Test.YtdmfgechoanmlaaGreatDoorMYE
import Derived.Test.YtdmfgechoanmlaaGreatDoorZmJ
import Derived.Test.YtdmfgechoanmlaaGreatDoorZnI
namespace Go.Proofs.YtdmfgechoanmlaaGreatDoor
open Go Go.RowKit

section
variable {P : Program} {ops : Array Oper} {md : Region.Mode} {C : World → Prop}
def sinkLate (md : Region.Mode) (ops : Array Oper) (n : Nat) : Bool :=
  (List.range n).all fun i => i == 0 || (List.range (n + 1)).any fun j => decide (i < j) && Region.waitsFor md ops j i
theorem late_waits {n : Nat} {listed : Array Bool} (hs : sinkLate md ops n = true) (hc : Region.chainB md ops n = true) (hn : n < ops.size) (inv : HeadInv md ops n listed) (h0 : listed.getD 0 false = true) :
    ∀ (d i : Nat), n - i = d → i < n → listed.getD i true = false → ∀ t, n ≤ t → t ∉ Region.ready md ops listed := by
  intro d
  induction d using Nat.strongRecOn with
  | _ d ih =>
    intro i hd hi hun t ht hr
    obtain ⟨_, ot, hot, hall⟩ := mem_ready.1 hr
    have htlt : t < ops.size := (Array.getElem?_eq_some_iff.1 hot).1
    by_cases htn : t = n
    · subst htn
      have h1 := List.all_eq_true.1 hs i (List.mem_range.2 hi)
      have hi0 : i ≠ 0 := by
        rintro rfl
        rw [getD_both hun] at h0
        cases h0
      simp only [Bool.or_eq_true, beq_iff_eq, hi0, false_or] at h1
      obtain ⟨j, hj, hj2⟩ := List.any_eq_true.1 h1
      simp only [Bool.and_eq_true, decide_eq_true_eq] at hj2
      obtain ⟨oj, hoj, e, he, hb, hon⟩ := Region.waitsFor_spec hj2.2
      have hjle : j ≤ t := by have := List.mem_range.1 hj; omega
      by_cases hjt : j = t
      · subst hjt
        have : oj = ot := Option.some.inj (hoj.symm.trans hot)
        subst this
        have h2 := hall e he hb
        rw [hon, getD_both hun] at h2
        cases h2
      · cases hl : listed.getD j false with
        | true =>
          have h2 := inv.closed j oj hoj hl e he hb
          rw [hon, getD_both hun] at h2
          cases h2
        | false =>
          have hjs : j < listed.size := by rw [inv.size]; omega
          exact ih (t - j) (by omega) j rfl (by omega) (getD_in hjs hl) t (Nat.le_refl _) hr
    · have h1 := List.all_eq_true.1 hc t (List.mem_range.2 htlt)
      simp only [Bool.or_eq_true, decide_eq_true_eq] at h1
      rcases h1 with h1 | h1
      · omega
      · obtain ⟨o', ho', e, he, hb, hon⟩ := Region.waitsFor_spec h1
        have : o' = ot := Option.some.inj (ho'.symm.trans hot)
        subst this
        have h2 := hall e he hb
        rw [hon, getD_both (inv.tail (t - 1) (by omega) (by omega))] at h2
        cases h2
theorem anyT_first0 {n i : Nat} {oi : Oper} {v : Value} {L : Array Bool → Act → Prop} (hi : ops[i]? = some oi) (hsel : ∀ (j : Nat) (o : Oper) cs b, ops[j]? = some o → o.op ≠ .select cs b)
    (hs : sinkLate md ops n = true) (hc : Region.chainB md ops n = true) (hn : n < ops.size) (hin : i < n) (hdone : ∀ listed a, L listed a → ∀ j ∈ Region.ready md ops listed, n ≤ j) :
    ∀ (f : Nat) (listed : Array Bool) (a : Act), HeadInv md ops n listed → listed.getD 0 false = true →
      (∀ j oj, ops[j]? = some oj → j ≠ i → listed.getD j true = false → (∀ e ∈ oj.after, Region.binds md e = true → e.on ≠ i) → oi.apart ops oj = true) →
      i ∈ Region.ready md ops listed → YieldsIn P ops C oi v a → anyT P md ops C n L f (listed.setIfInBounds i true) (a.put oi.dst v) → anyT P md ops C n L (f + 1) listed a := by
  intro f
  induction f with
  | zero =>
    intro listed a inv h0 _ hr hy H
    have hun := (mem_ready.1 hr).1
    refine ⟨fun h => (by rw [h] at hr; cases hr), fun j hj => ?_⟩
    have hjn : j < n := by
      rcases Nat.lt_or_ge j n with h | h
      · exact h
      · exact absurd hj (late_waits hs hc hn inv h0 _ i rfl hin hun j h)
    refine ⟨hjn, ?_⟩
    by_cases hji : j = i
    · subst hji; exact hy.qOp hi H
    · have := hdone _ _ H j (ready_mono hj hji)
      omega
  | succ f ih =>
    intro listed a inv h0 hfree hr hy H
    have hun := (mem_ready.1 hr).1
    refine ⟨fun h => (by rw [h] at hr; cases hr), fun j hj => ?_⟩
    have hjn : j < n := by
      rcases Nat.lt_or_ge j n with h | h
      · exact h
      · exact absurd hj (late_waits hs hc hn inv h0 _ i rfl hin hun j h)
    refine ⟨hjn, ?_⟩
    by_cases hji : j = i
    · subst hji; exact hy.qOp hi H
    · have h1 := (H.2 j (ready_mono hj hji)).2
      obtain ⟨hjun, oj, hoj, hall⟩ := mem_ready.1 hj
      have hnot : ∀ e ∈ oj.after, Region.binds md e = true → e.on ≠ i := fun e he hb heq => by
        have h1 := hall e he hb
        rw [heq, getD_both hun] at h1
        cases h1
      have h2 := qOp_put hoj (hfree j oj hoj hji hjun hnot) (fun cs b => hsel i oi cs b hi) (fun cs b => hsel j oj cs b hoj) hy h1
      have hfree' : ∀ k ok, ops[k]? = some ok → k ≠ i → (listed.setIfInBounds j true).getD k true = false →
          (∀ e ∈ ok.after, Region.binds md e = true → e.on ≠ i) → oi.apart ops ok = true := fun k ok hk hki hun hno => by
        refine hfree k ok hk hki ?_ hno
        by_cases hjk : j = k
        · subst hjk; exact hjun
        · rw [getD_set_ne true hjk] at hun; exact hun
      refine qOp_mono (fun a' h3 => ih (listed.setIfInBounds j true) a' (inv.set hj hjn) (getD_set_true h0) hfree' (ready_mono hr (Ne.symm hji)) h3.1 ?_) h2
      rw [Array.setIfInBounds_comm _ _ hji]
      exact h3.2
theorem anyT_lex0 {n g : Nat} {Lq : Act → Prop} (hsel : Region.noSelect ops = true) (hs : sinkLate md ops n = true) (hc : Region.chainB md ops n = true) (hn : n < ops.size) :
    ∀ (l : List Oper) (k : Nat) (listed : Array Bool) (a : Act), (∀ j, j < l.length → l[j]? = ops[k + j]?) → k + l.length = n → HeadInv md ops n listed → listed.getD 0 false = true →
    Region.lexHead md ops g l.length k listed = true → wpQuiet P ops C Lq l a →
    anyT P md ops C n (fun listed' a' => Region.seqB md ops g n listed' = true ∧ Lq a') l.length listed a
  | [], k, listed, a, _, hk, _, _, hB, h => by
    have : k = n := by simpa using hk
    subst this
    exact ⟨by simpa [Region.lexHead] using hB, h⟩
  | o :: l, k, listed, a, hl, hk, inv, h0, hB, h => by
    have hk0 : ops[k]? = some o := by simpa using (hl 0 (by simp)).symm
    simp only [List.length_cons, Region.lexHead, Bool.and_eq_true] at hB
    obtain ⟨⟨hr, hf⟩, hB'⟩ := hB
    have hkn : k < n := by simp only [List.length_cons] at hk; omega
    have hr' : k ∈ Region.ready md ops listed := by simpa using hr
    have hst : qOp P ops C k (wpQuiet P ops C Lq l) a := by unfold qOp; simp only [hk0]; exact h
    obtain ⟨v, hy, hK⟩ := yieldsIn_of_qOp hk0 hst
    exact anyT_first0 hk0 (Region.noSelect_spec hsel) hs hc hn hkn (fun listed' a' hL => seqB_ready hL.1) l.length listed a inv h0 (Region.free_spec hk0 hf) hr' hy
      (anyT_lex0 hsel hs hc hn l (k + 1) _ _ (fun j hj => by have := hl (j + 1) (by simp; omega); simpa [Nat.add_assoc, Nat.add_comm 1 j] using this) (by simp only [List.length_cons] at hk; omega) (inv.set hr' hkn) (getD_set_true h0) hB' hK)
def lexLateB (md : Region.Mode) (ops : Array Oper) (n : Nat) : Bool :=
  Region.noSelect ops && decide (n < ops.size) && decide (0 < n) && sinkLate md ops n && Region.chainB md ops n && (Region.ready md ops (Array.replicate ops.size false)).contains 0 && Region.free md ops (Array.replicate ops.size false) 0 &&
    Region.lexHead md ops (ops.size - n) (n - 1) 1 ((Array.replicate ops.size false).setIfInBounds 0 true)
theorem wp_calm {c : Code} {Q : Exit → Act → World → Prop} {a : Act} {w : World} (h : c.wp P (calmQ Q) a w) : c.wp P Q a w := wpIn_wide.1 (wpIn_calm (n := 0) (wpIn_wide.2 h))
theorem region_late {id : Nat} {Q : Exit → Act → World → Prop} {a : Act} {w : World} {l : List Oper} (n : Nat) (o : Oper) (v : Value) (ho : l[0]? = some o) (hm : P.follows .mixedOrders = true) (hB : lexLateB .any l.toArray n = true) (hy : Yields P l.toArray o v a)
    (h : wpQuiet P l.toArray (fun w' => ∃ x : Bel w, w' = x.w) (fun a' => ∀ w', (∃ x : Bel w, w' = x.w) → wpList P l.toArray (calmQ Q) (l.drop n) a' w') ((l.drop 1).take (n - 1)) (a.put o.dst v)) : (Code.region id l.toArray true).wp P Q a w := by
  refine wp_calm ?_
  simp only [lexLateB, Bool.and_eq_true, decide_eq_true_eq] at hB
  obtain ⟨⟨⟨⟨⟨⟨⟨hsel, hn⟩, hn0⟩, hs⟩, hc⟩, hrd⟩, hfr⟩, hlex⟩ := hB
  have hn' : n < l.length := by simpa using hn
  have htl : ((l.drop 1).take (n - 1)).length = n - 1 := by simp; omega
  have hdl : (l.drop n).length = l.toArray.size - n := by simp
  have ho' : l.toArray[0]? = some o := by simpa using ho
  have hr0 : 0 ∈ Region.ready .any l.toArray (Array.replicate l.toArray.size false) := by simpa using hrd
  have inv0 : HeadInv .any l.toArray n (Array.replicate l.toArray.size false) :=
    ⟨by simp, fun j oj _ hl => (by rw [getD_replicate_false] at hl; cases hl), fun t _ ht => getD_in (by simpa using ht) (getD_replicate_false _ _)⟩
  have h00 : ((Array.replicate l.toArray.size false).setIfInBounds 0 true).getD 0 false = true := by
    have : 0 < l.length := by omega
    simp [this]
  have H := anyT_lex0 (C := fun w' => ∃ x : Bel w, w' = x.w) (md := .any) (g := l.toArray.size - n) hsel hs hc hn ((l.drop 1).take (n - 1)) 1 _ _ (fun j hj => by
    have hj' : j < n - 1 := by rw [htl] at hj; exact hj
    simp [hj', Nat.add_comm 1 j]) (by rw [htl]; omega) (inv0.set hr0 hn0) h00 (by rw [htl]; exact hlex) h
  refine wp_region_any hm ?_
  have hT := anyT_run (Q' := calmQ Q) (g := l.toArray.size - n) (fun listed a' w' hw' hL => by
    have := wpAny_of_seq (md := .any) (Q' := calmQ Q) (l.drop n) n listed a' w' (fun j => by simp [List.getElem?_drop]) (by rw [hdl]; exact hL.1) (hL.2 w' hw')
    rwa [hdl] at this) _ _ _ _ ⟨⟨_, (Below.refl _ w).drew⟩, rfl⟩ H
  have := wpAny_take (md := .any) (Q := calmQ Q) ho' hsel hfr hrd (fun c a w hq => hq) hy hT
  rw [htl, show n - 1 + (l.toArray.size - n) + 1 = l.toArray.size by omega] at this
  exact this
end
end Go.Proofs.YtdmfgechoanmlaaGreatDoor

namespace Go.Proofs.YtdmfgechoanmlaaGreatDoor
open Go Go.RowKit Go.Sort

/-- What an era shows at an instant. -/
def lc1 (x : WV) (e : EV) (t : Int) : Int := e.of + svW e (zW x e).rs t
def lc2 (x : WV) (e : EV) (t : Int) : Bool := svW e (zW x e).rs t != 0
def lc3 (x : WV) (e : EV) (t : Int) : List UInt8 := shS e.fm (e.of + svW e (zW x e).rs t) (svW e (zW x e).rs t != 0) (ltW e (zW x e).rs (zW x e).rs.length t)
/-- What the calls answer at an instant. -/
structure ZsP (x : WV) (t : Int) (k : Nat) (e : EV) (p1 : Int) (p2 : Bool) (p3 : List UInt8) (w : World) : Prop where
  hk : kF (endsV (aW x) x.es x.es.length) t = k
  he : x.es[k]? = some e
  wi : ∀ W, Below w.heap.size w W → Calls Tryz.prog 33 #[evV e, rlV (wR x) e, .int .i64 t] W fun r w' => r = .returned (.tuple #[locV p1 p2 p3, .int .i64 0]) ∧ Below W.heap.size W w'
theorem pf2_kind {ne : EV → Int} {es : List EV} {i : Nat} {e : EV} (he : es[i]? = some e) (h : f2V ne es i = 0) : kdK e.fm ≠ none := by
  unfold f2V at h
  rw [eD_at he] at h
  intro hn
  unfold erE at h
  rw [if_pos hn] at h
  cases h
theorem pshE_zero {f : List UInt8} {off : Int} (h : kdK f ≠ none) (h1 : -360000 < off) (h2 : off < 360000) : shE f off = 0 := by
  unfold shE
  split
  · rename_i hn; exact absurd hn h
  · unfold ofE; rw [if_neg (by omega)]
  · rfl
theorem ZsP.at {x : WV} {t : Int} {k : Nat} {e : EV} {p1 : Int} {p2 : Bool} {p3 : List UInt8} {w : World} (h : ZsP x t k e p1 p2 p3 w) (Z : ZoneW x w (wR x) wN (aW x) vW) (h0 : opE (wR x) wN (aW x) x.es = 0) (t1 : -2199023255552 ≤ t) (t2 : t ≤ 2199023255552) (W : World) (kW : Below w.heap.size w W) :
    Calls Tryz.prog 13 #[zoV x, setsV x, .int .i64 t] W fun r w' => r = .returned (.tuple #[locV p1 p2 p3, .int .i64 0]) ∧ Below W.heap.size W w' :=
  zat_in x W (Z.next kW) t 0 p1 p2 p3 e h0 t1 t2 k h.hk h.he (Lib.hid fun W' k' => h.wi W' (bthen kW k'))
theorem zsI_at (x : WV) (t : Int) (w : World) (hA : LaidZ w) (hX : WvAt x w) (_ : WvOk x) (hF : FewW x) (hL : ∀ s ∈ x.ss, ∀ r ∈ s.rs, r.lt.length ≤ 1000000000000000) (ht : NrT t) (h0 : opE (wR x) wN (aW x) x.es = 0) :
    ∃ k e, ZsP x t k e (lc1 x e t) (lc2 x e t) (lc3 x e t) w := by
  obtain ⟨hn0, -, z2, -⟩ := opE_zero h0
  have hel := endsV_len (aW x) x.es
  have hkl := kF_le (endsV (aW x) x.es x.es.length) t
  obtain ⟨k, hk⟩ : ∃ k, kF (endsV (aW x) x.es x.es.length) t = k := ⟨_, rfl⟩
  have hkn : k < x.es.length := by omega
  obtain ⟨e, he⟩ : ∃ e, x.es[k]? = some e := ⟨_, List.getElem?_eq_getElem hkn⟩
  have hm := List.mem_of_getElem? he
  obtain ⟨hR, -⟩ := f2_right he (z2 k hkn)
  have hkd := pf2_kind he (z2 k hkn)
  have ho := tmB_no hR.1
  have hv := tmB_no hR.2.1
  have hz := zW_ok hX hF hL e
  have hfm : e.fm.length ≤ 1000 := by have := (hF.es e hm).1; omega
  refine ⟨k, e, ?_⟩
  unfold lc1 lc2 lc3
  have hrl := zW_val x e
  generalize zW x e = z at hz hrl ⊢
  have hP : LatP z.rs.length z.rs e.of t := ⟨rfl, by have := hz.n6; omega, hz.ok, hz.ap, ho.1, ho.2, ht⟩
  have hl := hz.ltW e t
  have hs := hz.svW e t hv.1 hv.2
  have hsh : shE e.fm (e.of + svW e z.rs t) = 0 := pshE_zero hkd (by omega) (by omega)
  have WI := fun W (k : Below w.heap.size w W) => zwithin_is e z.a z.rs.length z.c z.rs t (svW e z.rs t) _ (ltW e z.rs z.rs.length t) _ W (hA.next k).f (hA.next k).b (hz.rl.next k) hP hv.1 hv.2 hfm hl rfl rfl rfl rfl
  unfold plU plO at WI
  rw [hsh, if_pos rfl] at WI
  exact ⟨hk, he, by rw [hrl]; exact WI⟩
/-- An era that ends at another one's Until. -/
def ptE (e u : EV) : EV := ⟨e.of, e.rl, e.sv, e.fm, true, u.uy, u.um, u.dk, u.dw, u.dn, u.sc, u.ck⟩
/-- Eras, of which the last one is parted. -/
def ptL (es : List EV) (u : EV) : List EV := es.take (es.length - 1) ++ [ptE (eD es (es.length - 1)) u, eD es (es.length - 1)]
def ptW (x : WV) (A : Option Addr) (c : Nat) (l : List EV) : WV := ⟨x.nm, A, c, l, x.sa, x.cs, x.ss⟩
theorem ptL_len {es : List EV} {u : EV} (h : 0 < es.length) : (ptL es u).length = es.length + 1 := by
  unfold ptL; rw [List.length_append, List.length_take]; simp; omega
theorem ptL_mem {es : List EV} {u e : EV} (h : 0 < es.length) (he : e ∈ ptL es u) : e ∈ es ∨ ∃ e' ∈ es, e = ptE e' u := by
  have hl : eD es (es.length - 1) ∈ es := by
    obtain ⟨e', h'⟩ : ∃ e', es[es.length - 1]? = some e' := ⟨_, List.getElem?_eq_getElem (by omega)⟩
    rw [eD_at h']; exact List.mem_of_getElem? h'
  unfold ptL at he
  rcases List.mem_append.1 he with h1 | h1
  · exact .inl (List.mem_of_mem_take h1)
  · simp at h1
    rcases h1 with rfl | rfl
    · exact .inr ⟨_, hl, rfl⟩
    · exact .inl hl
theorem kF_app (l : List Int) (b t : Int) : (kF (l ++ [b]) t = kF l t ∧ kF l t < l.length) ∨ (kF l t = l.length ∧ (kF (l ++ [b]) t = l.length ∨ kF (l ++ [b]) t = l.length + 1)) := by
  induction l with
  | nil =>
    refine .inr ⟨rfl, ?_⟩
    unfold kF
    by_cases h : b ≤ t
    · right; simp [h]
    · left; simp [h]
  | cons a l ih =>
    unfold kF at ih ⊢
    by_cases h : a ≤ t
    · rw [List.cons_append, List.takeWhile_cons_of_pos (by simpa using h), List.takeWhile_cons_of_pos (by simpa using h)]
      simp only [List.length_cons]
      rcases ih with ⟨h1, h2⟩ | ⟨h1, h2 | h2⟩
      · left; omega
      · right; omega
      · right; omega
    · rw [List.cons_append, List.takeWhile_cons_of_neg (by simpa using h), List.takeWhile_cons_of_neg (by simpa using h)]
      left; simp
theorem pt_ends (x : WV) (A : Option Addr) (c : Nat) (u : EV) (h : 0 < x.es.length) : endsV (aW (ptW x A c (ptL x.es u))) (ptL x.es u) (ptL x.es u).length = endsV (aW x) x.es x.es.length ++ [aW x (ptE (eD x.es (x.es.length - 1)) u)] := by
  have e1 : aW (ptW x A c (ptL x.es u)) = aW x := rfl
  rw [e1]
  unfold endsV
  rw [ptL_len h, show min (x.es.length + 1) (x.es.length + 1 - 1) = x.es.length by omega, show min x.es.length (x.es.length - 1) = x.es.length - 1 by omega]
  have e2 : (ptL x.es u).take x.es.length = x.es.take (x.es.length - 1) ++ [ptE (eD x.es (x.es.length - 1)) u] := by
    have hl : (x.es.take (x.es.length - 1)).length = x.es.length - 1 := by rw [List.length_take]; omega
    unfold ptL
    rw [List.take_append, hl, List.take_of_length_le (by omega), show x.es.length - (x.es.length - 1) = 1 by omega]; rfl
  rw [e2, List.map_append]; rfl
theorem pt_era {x : WV} {A : Option Addr} {c : Nat} {u : EV} {t : Int} {k k' : Nat} {e e' : EV} (hk : kF (endsV (aW x) x.es x.es.length) t = k) (he : x.es[k]? = some e)
    (hk' : kF (endsV (aW (ptW x A c (ptL x.es u))) (ptL x.es u) (ptL x.es u).length) t = k') (he' : (ptL x.es u)[k']? = some e') : e' = e ∨ e' = ptE e u := by
  have hn : 0 < x.es.length := by have := (List.getElem?_eq_some_iff.1 he).1; omega
  have hel := endsV_len (aW x) x.es
  have hl : (x.es.take (x.es.length - 1)).length = x.es.length - 1 := by rw [List.length_take]; omega
  rw [pt_ends x A c u hn] at hk'
  unfold ptL at he'
  rcases kF_app (endsV (aW x) x.es x.es.length) (aW x (ptE (eD x.es (x.es.length - 1)) u)) t with ⟨h1, h2⟩ | ⟨h1, h2 | h2⟩
  · have : k' = k := by omega
    subst this
    rw [List.getElem?_append_left (by omega), List.getElem?_take_of_lt (by omega), he] at he'
    exact .inl (Option.some.inj he').symm
  · have e1 : k = x.es.length - 1 := by omega
    have e2 : k' = x.es.length - 1 := by omega
    rw [List.getElem?_append_right (by omega), hl, e2, Nat.sub_self] at he'
    rw [e1] at he
    rw [eD_at he] at he'
    exact .inr (Option.some.inj he').symm
  · have e1 : k = x.es.length - 1 := by omega
    have e2 : k' = x.es.length - 1 + 1 := by omega
    rw [List.getElem?_append_right (by omega), hl, e2, show x.es.length - 1 + 1 - (x.es.length - 1) = 1 by omega] at he'
    rw [e1] at he
    rw [eD_at he] at he'
    exact .inl (Option.some.inj he').symm
/-- What is shown at an instant by a world, and by one whose last era is parted. -/
structure PtI (x y : WV) (t : Int) (p1 : Int) (p2 : Bool) (p3 : List UInt8) (w : World) : Prop where
  a : ∀ W, Below w.heap.size w W → Calls Tryz.prog 13 #[zoV x, setsV x, .int .i64 t] W fun r w' => r = .returned (.tuple #[locV p1 p2 p3, .int .i64 0]) ∧ Below W.heap.size W w'
  b : ∀ W, Below w.heap.size w W → Calls Tryz.prog 13 #[zoV y, setsV y, .int .i64 t] W fun r w' => r = .returned (.tuple #[locV p1 p2 p3, .int .i64 0]) ∧ Below W.heap.size W w'
theorem ptI_ex (x : WV) (A : Option Addr) (c : Nat) (u : EV) (t : Int) (w : World) (hA : LaidZ w) (hX : WvAt x w) (hO : WvOk x) (hF : FewW x) (hL : ∀ s ∈ x.ss, ∀ r ∈ s.rs, r.lt.length ≤ 1000000000000000) (h0 : opE (wR x) wN (aW x) x.es = 0)
    (hX' : WvAt (ptW x A c (ptL x.es u)) w) (hO' : WvOk (ptW x A c (ptL x.es u))) (hF' : FewW (ptW x A c (ptL x.es u))) (h0' : opE (wR (ptW x A c (ptL x.es u))) wN (aW (ptW x A c (ptL x.es u))) (ptL x.es u) = 0) (ht : NrT t) :
    ∃ p1 p2 p3, PtI x (ptW x A c (ptL x.es u)) t p1 p2 p3 w := by
  obtain ⟨k, e, Z⟩ := zsI_at x t w hA hX hO hF hL ht h0
  obtain ⟨k', e', Z'⟩ := zsI_at (ptW x A c (ptL x.es u)) t w hA hX' hO' hF' hL ht h0'
  have t1 : -2199023255552 ≤ t := by have := ht.1; omega
  have t2 : t ≤ 2199023255552 := by have := ht.2; omega
  have ZW := opW_of hA hX hO hF hL
  have ZW' := opW_of hA hX' hO' hF' hL
  refine ⟨lc1 x e t, lc2 x e t, lc3 x e t, fun W kW => Z.at ZW h0 t1 t2 W kW, fun W kW => ?_⟩
  have := Z'.at ZW' h0' t1 t2 W kW
  rcases pt_era Z.hk Z.he Z'.hk Z'.he with rfl | rfl
  · exact this
  · exact this
/-- What lies in memory of it. -/
theorem pt_at {x : WV} {A : Option Addr} {c : Nat} {l : List EV} {w : World} (hX : WvAt x w) (h : RowsAt 12 cE A l w) : WvAt (ptW x A c l) w := ⟨h, hX.ss, hX.rl⟩
theorem pt_ok {x : WV} {A : Option Addr} {c : Nat} {u : EV} (hO : WvOk x) (hn : 0 < x.es.length) (h3 : x.es.length ≤ 3) : WvOk (ptW x A c (ptL x.es u)) :=
  ⟨by show (ptL x.es u).length ≤ maxLen; rw [ptL_len hn]; simp only [maxLen]; omega, hO.sz, hO.rz, fun e he => by
    rcases ptL_mem hn he with h | ⟨e', h, rfl⟩
    · exact hO.en e h
    · exact hO.en e' h⟩
/-- Where the middle one of three eras begins, and ends. -/
theorem pt_rise {x : WV} (h0 : opE (wR x) wN (aW x) x.es = 0) {k : Nat} (h1 : 0 < k) (h2 : k + 1 < x.es.length) (b : Int) : zspB (endsV (aW x) x.es x.es.length) b k < zspE (endsV (aW x) x.es x.es.length) k := by
  obtain ⟨-, -, -, z3⟩ := opE_zero h0
  have hf := z3 k (by omega)
  unfold f3V at hf
  have hlt : aW x (eD x.es (k - 1)) < aW x (eD x.es k) := by
    by_cases h : aW x (eD x.es k) ≤ aW x (eD x.es (k - 1))
    · rw [if_pos ⟨h2, h1, h⟩] at hf; cases hf
    · omega
  have hat : ∀ j, j + 1 < x.es.length → ∀ d, (endsV (aW x) x.es x.es.length).getD j d = aW x (eD x.es j) := fun j hj d => by
    obtain ⟨e, he⟩ : ∃ e, x.es[j]? = some e := ⟨_, List.getElem?_eq_getElem (by omega)⟩
    rw [List.getD_eq_getElem?_getD, eD_at he]
    unfold endsV
    rw [List.getElem?_map, List.getElem?_take_of_lt (by omega), he]; rfl
  unfold zspB zspE
  rw [if_neg (by omega), hat (k - 1) (by omega), hat k h2]
  exact hlt
end Go.Proofs.YtdmfgechoanmlaaGreatDoor

namespace Go.Proofs.YtdmfgechoanmlaaGreatDoor
open Go Go.RowKit Go.Sort Go.Shelf

/-- Eras in a list of the call's own. -/
def OwnEr (b : Nat) (v : Value) (L : List EV) (W : World) : Prop := W.ownsRow b 54 12 v L.length (fcl (fun x => (cE x).toList) L)
theorem OwnEr.slice {b : Nat} {v : Value} {L : List EV} {W : World} (h : OwnEr b v L W) : ∃ A c, v = .slice A L.length c := by
  rcases h.2 with ⟨e, hn⟩ | ⟨g', cap, cur, e, -⟩
  · exact ⟨none, 0, by rw [e, hn]⟩
  · exact ⟨_, _, e⟩
theorem OwnEr.keep {b : Nat} {v : Value} {L : List EV} {W W' : World} (h : OwnEr b v L W) (k : Below W.heap.size W W') : OwnEr b v L W' :=
  World.ownsRow.kept h (grown_bel k none) (by cases h : v.ownBlock with | none => exact .inl rfl | some r => exact .inr (by simp))
theorem OwnEr.push {b : Nat} {v : Value} {L : List EV} {W : World} {x : EV} (h : W.ownsRow b 54 12 v (L.length + 1) (fcl (fun x => (cE x).toList) L ++ (cE x).toList)) : OwnEr b v (L ++ [x]) W := by
  unfold OwnEr
  have e : fcl (fun x => (cE x).toList) [x] = (cE x).toList := by simp [fcl]
  rw [List.length_append, List.length_singleton, fcl_app, e]
  exact h
theorem OwnEr.rows {b c n : Nat} {A : Option Addr} {L : List EV} {W : World} (h : OwnEr b (.slice A n c) L W) : RowsAt 12 cE A L W := by
  unfold OwnEr at h
  rcases h.2 with ⟨e, hn⟩ | ⟨g, cap, cur, e, -⟩
  · intro i x hx
    have := (List.getElem?_eq_some_iff.1 hx).1
    omega
  · injection e with e1 e2 e3
    subst e1 e2
    exact (gown cE_len h).1
theorem eown_below {W W' : World} {b k n : Nat} {e : TypeId} {v : Value} {xs : List Value} (h : W.ownsRow b e k v n xs) (hg : W.grownBy W' v.ownBlock) (hb : b ≤ W.heap.size) : Below b W W' := by
  refine (Below.refl b W).grown hg hb fun j hj => ?_
  rcases h.2 with ⟨rfl, -⟩ | ⟨g, cap, cur, rfl, h1, -⟩
  · simp [Value.ownBlock] at hj
  · simp [Value.ownBlock] at hj; omega
theorem wpList_epush {w : World} {ops : Array Oper} {rest : List Oper} {o : Oper} {a : Act} {Q : Exit → Act → World → Prop} (hgd : o.guard = none) (s x : Operand)
    (ho : o.op = .call { callee := .builtin .append, args := #[s, x], argTypes := #[22, 22] }) {base : Nat} {v : Value} {L : List EV} (y : EV) (X : OwnEr base v L w)
    (hs : a.eval s = v) (ad : Addr) (hx : a.eval x = .slice (some ad) 1 1) (hb : ∀ j u, (cE y).toList[j]? = some u → w.cell? (ad.add j) = some u) (hl : L.length ≤ 100000) (hbase : base ≤ w.heap.size)
    (h : ∀ v' w', OwnEr base v' (L ++ [y]) w' → Below base w w' → w.grownBy w' v.ownBlock → wpList Tryz.prog ops Q rest (a.put o.dst v') w') : wpList Tryz.prog ops Q (o :: rest) a w := by
  obtain ⟨i0, hi0, hz0, hz1, hz2⟩ := info_parts ze_info
  refine wpList_append_own_at _ hgd s x _ ho base 54 i0 _ 12 112 Tryz.underlying22 hi0 hz0 hz1 hz2 rfl (by omega) v L.length _ hs X ad 1 1 (cE y).toList hx rfl hb (cE_one y) (by simp only [maxLen]; omega) (by omega) hbase ?_
  intro v' w' hown hg _ _
  exact h v' w' (OwnEr.push hown) (eown_below X hg hbase) hg
theorem er_new (W : World) (x : EV) (t : TypeId) : ∀ j u, (cE x).toList[j]? = some u → (W.alloc (.cells (cE x) t)).cell? ((⟨W.heap.size, 0, none⟩ : Addr).add j) = some u := by
  intro j u hu
  have h := heap_alloc_new W (.cells (cE x) t)
  have := cell_of_row _ W.heap.size j _ _ _ h
  rw [add_off, Nat.zero_add, this]
  simpa using hu
theorem er_two (w : World) (o : Obj) (x : EV) (t : TypeId) : ∀ j u, (cE x).toList[j]? = some u → ((w.alloc o).alloc (.cells (cE x) t)).cell? ((⟨w.heap.size + 1, 0, none⟩ : Addr).add j) = some u := by
  have := er_new (w.alloc o) x t
  rwa [World.size_alloc] at this
theorem er_three (w : World) (o o' : Obj) (x : EV) (t : TypeId) : ∀ j u, (cE x).toList[j]? = some u → (((w.alloc o).alloc o').alloc (.cells (cE x) t)).cell? ((⟨w.heap.size + 1 + 1, 0, none⟩ : Addr).add j) = some u := by
  have := er_two (w.alloc o) o' x t
  rwa [World.size_alloc] at this
/-- A block that came later than the list is none of its own. -/
theorem OwnEr.other {b g : Nat} {v : Value} {L : List EV} {W V V' : World} {C : Array Value} {t : TypeId} (h : OwnEr b v L W) (hg : V.grownBy V' v.ownBlock) (hb : V.heap[g]? = some (.cells C t (0, 0))) (hw : W.heap.size ≤ g) : V'.heap[g]? = some (.cells C t (0, 0)) :=
  (hg.block g (Array.getElem?_eq_some_iff.1 hb).1 (fun e => by have := (World.ownsRow.lt h g e.symm).2; omega)).trans hb
theorem er_first (w : World) (x y : EV) (t : TypeId) : (((w.alloc (.cells (cE x) t)).alloc (.cells (cE y) t)).alloc (.cells (cE y) t)).heap[w.heap.size]? = some (.cells (cE x) t (0, 0)) := by
  rw [Below.heap_alloc _ _ _ (by simp; omega), Below.heap_alloc _ _ _ (by simp)]
  exact World.alloc_heap_new w _
/-- The parted eras, as far as they are laid. -/
def ptP (es : List EV) (u : EV) (i : Nat) : List EV := if i = es.length then ptL es u else es.take i
theorem ptP_zero {es : List EV} {u : EV} (h : 0 < es.length) : ptP es u 0 = [] := by unfold ptP; rw [if_neg (by omega)]; rfl
theorem ptP_all (es : List EV) (u : EV) : ptP es u es.length = ptL es u := by unfold ptP; rw [if_pos rfl]
theorem ptP_mid {es : List EV} {u e : EV} {i : Nat} (he : es[i]? = some e) (h : i + 1 < es.length) : ptP es u (i + 1) = ptP es u i ++ [e] := by
  unfold ptP
  rw [if_neg (by omega), if_neg (by omega), take_snoc he]
theorem ptP_last {es : List EV} {u e : EV} {i : Nat} (he : es[i]? = some e) (h : i + 1 = es.length) : ptP es u (i + 1) = ptP es u i ++ [ptE e u] ++ [e] := by
  unfold ptP
  rw [if_pos h, if_neg (by omega)]
  unfold ptL
  rw [show es.length - 1 = i by omega, eD_at he, List.append_assoc]; rfl
theorem ptP_len {es : List EV} {u : EV} {i : Nat} (h : 0 < es.length) (h3 : es.length ≤ 3) : (ptP es u i).length ≤ 4 := by
  unfold ptP
  split
  · rw [ptL_len h]; omega
  · rw [List.length_take]; omega
/-- The law's own variables. -/
structure PtB (x : WV) (u : EV) (n : Nat) (w : World) (g1 g2 g3 : Nat) (W : World) : Prop where
  bel : Below w.heap.size w W
  e1 : g1 = w.heap.size + 1
  e2 : g2 = w.heap.size + 2
  e3 : g3 = w.heap.size + 3
  b3 : W.heap[w.heap.size]? = some (.cells #[.string ⟨x.nm.toArray⟩, .slice x.az n x.cz, .slice x.sa x.ss.length x.cs] 27 (0, 0))
  b5 : W.heap[g1]? = some (.cells (cU u) 52 (0, 0))
  b6 : W.heap[g2]? = some (.cells #[.bool false] 4 (0, 0))
  b7 : W.heap[g3]? = some (.cells #[.int .i64 (n : Int)] 3 (0, 0))
theorem PtB.under {x : WV} {u : EV} {n b g1 g2 g3 : Nat} {w W W' : World} (h : PtB x u n w g1 g2 g3 W) (k : Below b W W') (hb : w.heap.size + 4 ≤ b) : PtB x u n w g1 g2 g3 W' := by
  have := h.e1
  have := h.e2
  have := h.e3
  exact ⟨h.bel.trans (k.mono (by omega)), h.e1, h.e2, h.e3, (k.block _ (by omega)).trans h.b3, (k.block _ (by omega)).trans h.b5, (k.block _ (by omega)).trans h.b6, (k.block _ (by omega)).trans h.b7⟩
theorem PtB.sz {x : WV} {u : EV} {n g1 g2 g3 : Nat} {w W : World} (h : PtB x u n w g1 g2 g3 W) : w.heap.size + 4 ≤ W.heap.size := by have := (Array.getElem?_eq_some_iff.1 h.b7).1; have := h.e3; omega
theorem PtB.lts {x : WV} {u : EV} {n g1 g2 g3 : Nat} {w W : World} (h : PtB x u n w g1 g2 g3 W) : w.heap.size < W.heap.size ∧ g1 < W.heap.size ∧ g2 < W.heap.size ∧ g3 < W.heap.size := by have := h.sz; have := h.e1; have := h.e2; have := h.e3; omega
theorem PtB.next {x : WV} {u : EV} {n g1 g2 g3 : Nat} {w W W' : World} (h : PtB x u n w g1 g2 g3 W) (k : Below W.heap.size W W') : PtB x u n w g1 g2 g3 W' := h.under k h.sz
theorem PtB.cels {x : WV} {u : EV} {n g1 g2 g3 : Nat} {w W : World} (h : PtB x u n w g1 g2 g3 W) : (W.cell? ⟨w.heap.size, 0, none⟩ = some (.string ⟨x.nm.toArray⟩) ∧ W.cell? ⟨w.heap.size, 1, none⟩ = some (.slice x.az n x.cz) ∧ W.cell? ⟨w.heap.size, 2, none⟩ = some (.slice x.sa x.ss.length x.cs)) ∧ W.cell? ⟨g3, 0, none⟩ = some (.int .i64 (n : Int)) := ⟨cel3 h.b3, cel1 h.b7⟩
theorem PtB.fin {x : WV} {u : EV} {n g1 g2 g3 : Nat} {w W : World} (h : PtB x u n w g1 g2 g3 W) : (W.setCell ⟨g2, 0, none⟩ (.bool true)).cell? ⟨g2, 0, none⟩ = some (.bool true) ∧ Below w.heap.size w (W.setCell ⟨g2, 0, none⟩ (.bool true)) := by
  refine ⟨?_, h.bel.setCell (p := ⟨g2, 0, none⟩) (by show w.heap.size ≤ g2; have := h.e2; omega) _⟩
  have := blk_set (i := 0) h.b6 (.bool true)
  exact cel1 (by simpa using this)
theorem PtB.fin2 {x : WV} {u : EV} {n g1 g2 g3 D : Nat} {w W : World} (h : PtB x u n w g1 g2 g3 W) (hd : W.heap[D]? = some (.deferred (some []))) (hD : w.heap.size + 4 ≤ D) :
    (W.setCell ⟨g2, 0, none⟩ (.bool true)).heap[D]? = some (.deferred (some [])) ∧ ((W.setCell ⟨g2, 0, none⟩ (.bool true)).putObj D (.deferred none)).cell? ⟨g2, 0, none⟩ = some (.bool true) ∧ Below w.heap.size w ((W.setCell ⟨g2, 0, none⟩ (.bool true)).putObj D (.deferred none)) := by
  have e2 := h.e2
  have hb := blk_set (i := 0) h.b6 (.bool true)
  have hb' : (W.setCell ⟨g2, 0, none⟩ (.bool true)).heap[g2]? = some (.cells #[.bool true] 4 (0, 0)) := by simpa using hb
  refine ⟨by rw [Below.heap_setCell _ _ _ _ (by show D ≠ g2; omega)]; exact hd, cel1 ((World.putObj_heap_other (by omega)).trans hb'), h.fin.2.grown (grownBy_putObj' _ D _) (by have := h.fin.2.size; omega) (fun k e => by injection e with e; omega)⟩
theorem pt_end {S : Nat} {w5 W2 W3 : World} {b0 d : Int} {k : Nat} (KD : Below W2.heap.size W2 W3) (h14 : Go.Boxed W3 S 3 (.int .i64 b0)) (h15 : Go.Boxed W3 (S + 1) 3 (.int .i64 (k : Int))) (DB : Below S w5 W3) (hS : S ≤ W2.heap.size) :
    (KeepsOthers W2 ((W3.setCell ⟨S, 0, none⟩ (.int .i64 d)).setCell ⟨S + 1, 0, none⟩ (.int .i64 ((k : Int) + 1))) ∧ Below S W2 ((W3.setCell ⟨S, 0, none⟩ (.int .i64 d)).setCell ⟨S + 1, 0, none⟩ (.int .i64 ((k : Int) + 1)))) ∧
    Go.Boxed ((W3.setCell ⟨S, 0, none⟩ (.int .i64 d)).setCell ⟨S + 1, 0, none⟩ (.int .i64 ((k : Int) + 1))) S 3 (.int .i64 d) ∧ Go.Boxed ((W3.setCell ⟨S, 0, none⟩ (.int .i64 d)).setCell ⟨S + 1, 0, none⟩ (.int .i64 ((k : Int) + 1))) (S + 1) 3 (.int .i64 ((k + 1 : Nat) : Int)) ∧
    Below S w5 ((W3.setCell ⟨S, 0, none⟩ (.int .i64 d)).setCell ⟨S + 1, 0, none⟩ (.int .i64 ((k : Int) + 1))) := by
  have bb : Below S W3 ((W3.setCell ⟨S, 0, none⟩ (.int .i64 d)).setCell ⟨S + 1, 0, none⟩ (.int .i64 ((k : Int) + 1))) := ((Below.refl S W3).setCell (p := ⟨S, 0, none⟩) (Nat.le_refl _) _).setCell (p := ⟨S + 1, 0, none⟩) (Nat.le_succ _) _
  refine ⟨⟨(KeepsOthers.of_grownBy (grown_bel KD none) (fun j o e => by cases e)).trans ((KeepsOthers.setCell _ _ _).trans (KeepsOthers.setCell _ _ _)), (KD.mono hS).trans bb⟩, ?_, ?_, DB.trans bb⟩
  · exact (h14.set _).kept (grownBy_setCell' _ (S + 1) _) (fun e => by injection e with e; omega)
  · exact (h15.kept (grownBy_setCell' W3 S _) (fun e => by injection e with e; omega)).set _
theorem pt_last (ns : List Int) (n : Nat) (b : Int) (hn : 0 < n) (h : ns.length = n - 1) : zspB ns b n = 2199023255553 := by
  unfold zspB
  rw [if_neg (by omega), List.getD_eq_getElem?_getD, List.getElem?_eq_none (by omega)]; rfl
theorem PtB.make (x : WV) (u : EV) (n : Nat) (w : World) : PtB x u n w (w.heap.size + 1) (w.heap.size + 1 + 1) (w.heap.size + 1 + 1 + 1) ((((w.alloc (.cells #[.string ⟨x.nm.toArray⟩, .slice x.az n x.cz, .slice x.sa x.ss.length x.cs] 27)).alloc (.cells (cU u) 52)).alloc (.cells #[.bool false] 4)).alloc (.cells #[.int .i64 (n : Int)] 3)) := by
  obtain ⟨w1, h1⟩ : ∃ w1, w.alloc (.cells #[.string ⟨x.nm.toArray⟩, .slice x.az n x.cz, .slice x.sa x.ss.length x.cs] 27) = w1 := ⟨_, rfl⟩
  obtain ⟨w2, h2⟩ : ∃ w2, w1.alloc (.cells (cU u) 52) = w2 := ⟨_, rfl⟩
  obtain ⟨w3, h3⟩ : ∃ w3, w2.alloc (.cells #[.bool false] 4) = w3 := ⟨_, rfl⟩
  have s1 : w1.heap.size = w.heap.size + 1 := by rw [← h1]; simp
  have s2 : w2.heap.size = w.heap.size + 2 := by rw [← h2]; simp [s1]
  have s3 : w3.heap.size = w.heap.size + 3 := by rw [← h3]; simp [s2]
  have a1 := heap_alloc_new w (.cells #[.string ⟨x.nm.toArray⟩, .slice x.az n x.cz, .slice x.sa x.ss.length x.cs] 27)
  have a2 := heap_alloc_new w1 (.cells (cU u) 52)
  have a3 := heap_alloc_new w2 (.cells #[.bool false] 4)
  have a4 := heap_alloc_new w3 (.cells #[.int .i64 (n : Int)] 3)
  have k1 : Below w.heap.size w w1 := by rw [← h1]; exact (Below.refl _ _).alloc (Nat.le_refl _) _
  have k2 : Below w1.heap.size w1 w2 := by rw [← h2]; exact (Below.refl _ _).alloc (Nat.le_refl _) _
  have k3 : Below w2.heap.size w2 w3 := by rw [← h3]; exact (Below.refl _ _).alloc (Nat.le_refl _) _
  have k4 : Below w3.heap.size w3 (w3.alloc (.cells #[.int .i64 (n : Int)] 3)) := (Below.refl _ _).alloc (Nat.le_refl _) _
  rw [h1] at a1 ⊢
  rw [h2] at a2 ⊢
  rw [h3] at a3 ⊢
  rw [s1] at a2
  rw [s2] at a3
  rw [s3] at a4
  have q2 := bthen k1 k2
  have q3 := bthen q2 k3
  exact ⟨bthen q3 k4, rfl, rfl, rfl, (k4.block _ (by omega)).trans ((k3.block _ (by omega)).trans ((k2.block _ (by omega)).trans a1)), (k4.block _ (by omega)).trans ((k3.block _ (by omega)).trans a2), (k4.block _ (by omega)).trans a3, a4⟩
theorem cel7 {W : World} {g : Nat} {u : EV} {t : TypeId} (h : W.heap[g]? = some (.cells (cU u) t (0, 0))) :
    W.cell? ⟨g, 0, none⟩ = some (.int .i64 u.uy) ∧ W.cell? ⟨g, 1, none⟩ = some (.int .i64 u.um) ∧ W.cell? ⟨g, 2, none⟩ = some (.int .i64 u.dk) ∧ W.cell? ⟨g, 3, none⟩ = some (.int .i64 u.dw) ∧ W.cell? ⟨g, 4, none⟩ = some (.int .i64 u.dn) ∧ W.cell? ⟨g, 5, none⟩ = some (.int .i64 u.sc) ∧ W.cell? ⟨g, 6, none⟩ = some (.int .i64 u.ck) := cells7 h
section
variable {Be Bw : Nat} {A : Option Addr} {m c : Nat} {Vr : Value} {Ae : Option Addr} {ce : Nat} {es : List EV} {ns : List Int}
theorem SpR.beneath {w X Y : World} (h : SpR Be Bw A m c Vr Ae ce es ns X) (h4 : SpR Be Bw A m c Vr Ae ce es ns w) (k : Below w.heap.size X Y) : SpR Be Bw A m c Vr Ae ce es ns Y :=
  ⟨(k.block _ (Array.getElem?_eq_some_iff.1 h4.be).1).trans h.be, (k.block _ (Array.getElem?_eq_some_iff.1 h4.bw).1).trans h.bw,
   fun i x hx => by
    obtain ⟨L, off, e, h1, h2⟩ := h.es i x hx
    obtain ⟨L', off', e', h1', -⟩ := h4.es i x hx
    rw [e] at e'; cases e'
    exact ⟨L, off, e, Nat.lt_of_lt_of_le h1 k.size, fun j v hj hv => (k.cell (p := ⟨L, _, none⟩) h1').trans (h2 j v hj hv)⟩,
   fun i x hx => by
    obtain ⟨g, e, h1, h2⟩ := h.ns i x hx
    obtain ⟨g', e', h1', -⟩ := h4.ns i x hx
    rw [e] at e'; cases e'
    exact ⟨g, e, Nat.lt_of_lt_of_le h1 k.size, (k.cell (p := ⟨g, i, none⟩) h1').trans h2⟩⟩
end
theorem spans_of {R : EV → Option Addr × Nat × Nat} {ne aE vE : EV → Int} (x : WV) (w : World) (H : ZoneW x w R ne aE vE) (hX : RowsAt 12 cE x.az x.es w) (hv : opE R ne aE x.es = 0) :
    Calls Tryz.prog 17 #[zoV x, setsV x] w fun r w' =>
      ∃ Be Bw g c Vr Ae ce, r = .returned (.func (.func 39) #[] #[.pointer (some ⟨Be, 0, none⟩), .pointer (some ⟨Bw, 0, none⟩)]) ∧ SpR Be Bw (some ⟨g, 0, none⟩) x.es.length c Vr Ae ce x.es (endsV aE x.es x.es.length) w' ∧ Below w.heap.size w w' := by
  have n4 := H.op.n4
  obtain ⟨h0, -, -, -⟩ := opE_zero hv
  obtain ⟨e, he⟩ : ∃ e, x.es[0]? = some e := ⟨_, List.getElem?_eq_getElem (by omega)⟩
  obtain ⟨L, off, haz, -, -⟩ := hX 0 e he
  have OP := fun W (kW : Below w.heap.size w W) => open_is x W (H.next kW).op (H.next kW).b (H.next kW).es 0 hv
  unfold zoV setsV
  unfold setsV at OP
  rw [haz] at OP hX ⊢
  refine (spans_core x.nm L off x.es.length x.cz (wvV x) x.es (rowsV R x.es x.es.length).length (endsV aE x.es x.es.length) w rfl n4 (by omega) hX (Lib.hid fun W kW => (OP W kW).mono ?_)).mono ?_
  · rintro r w' ⟨⟨A1, n1, c1, A2, n2, c2, rfl, g1, -⟩, k1⟩
    obtain ⟨rfl, rfl, -, gi⟩ := g1 rfl
    exact ⟨⟨A1, c1, A2, c2, rfl, gi⟩, k1⟩
  · rintro r w' ⟨Be, Bw, g, c, Vr, Ae, ce, h1, h2, -, -, h3⟩
    exact ⟨Be, Bw, g, c, Vr, Ae, ce, h1, h2, h3⟩
/-- A region that draws its order, and only reads, in a round of a range over a function. -/
theorem region_rdraw {P : Program} {n l id : Nat} {Q : Exit → Act → World → Prop} {a : Act} {w : World} {os : List Oper} (hm : P.follows .mixedOrders = true) (hB : Region.lexB .any os.toArray = true) (hnd : os.toArray.all noDefer = true)
    (h : wpQuiet P os.toArray (fun w' => ∃ k, w' = w.drewN k) (fun a' => ∀ w', (∃ k, w' = w.drewN k) → Q .normal a' w') os a) : (Code.region id os.toArray true).wpIn (Fence.wide.inRound l) n P Q a w := by
  simp only [Region.lexB, Bool.and_eq_true] at hB
  refine wpIn_region_any hm (quiet_any_round (C := fun w' => ∃ k, w' = w.drewN k) hnd (Q := fun a' => ∀ w', (∃ k, w' = w.drewN k) → Q .normal a' w') (fun _ w' hw' h => h w' hw') _ _ _ _ ⟨1, rfl⟩ ?_)
  have := wpAnyQ_lex (C := fun w' => ∃ k, w' = w.drewN k) (md := .any) hB.1 os 0 (Array.replicate os.toArray.size false) a (by simp) (by simpa using hB.2) h
  simpa using this
theorem ownS_of {β : Type} {B : Nat} {I : β → World → Prop} (h : OwnFrom B I) : OwnS (fun _ => false) B I := fun s W W' row hs hg hr =>
  h s W W' row hs hg (fun r e => ⟨(hr r e).1, by
    obtain ⟨o, h1, h2 | ⟨cs, t, fz, -, h3⟩⟩ := (hr r e).2
    · exact ⟨o, h1, h2⟩
    · cases h3⟩)
theorem seq_nil (f : Nat) (b : Array Value) (W : World) : (binOp .eql 61 (.func (.func f) #[] b) .nilFunc).run Tryz.prog W = .ok (.bool false) W := by kernel_rfl
/-- Numbers that came in. -/
def NumsAt (A : Option Addr) (l : List Int) (w : World) : Prop := ∀ i n, l[i]? = some n → ∃ L off, A = some ⟨L, off, none⟩ ∧ L < w.heap.size ∧ w.cell? ⟨L, off + i, none⟩ = some (.int .i64 n)
theorem NumsAt.next {A : Option Addr} {l : List Int} {w w' : World} (h : NumsAt A l w) (k : Below w.heap.size w w') : NumsAt A l w' := fun i n hn => by
  obtain ⟨L, off, e, hL, hc⟩ := h i n hn
  exact ⟨L, off, e, Nat.lt_of_lt_of_le hL k.size, (k.cell (p := ⟨L, off + i, none⟩) hL).trans hc⟩
/-- What is asked of the world whose last era is parted. -/
structure PtY (x : WV) (u : EV) (A : Option Addr) (c M n : Nat) (b : Bool) (v : Int) (W : World) : Prop where
  few : ∀ W', Below W.heap.size W W' → Calls Tryz.prog 6 #[.agg #[.string ⟨x.nm.toArray⟩, .slice A M c, .slice x.sa x.ss.length x.cs]] W' fun e w' => e = .returned (.bool b) ∧ Below W'.heap.size W' w'
  chk : b = true → ∀ W', Below W.heap.size W W' → Calls Tryz.prog 9 #[.agg #[.string ⟨x.nm.toArray⟩, .slice A M c], .func (.func 10) #[.agg #[.string ⟨x.nm.toArray⟩, .slice A M c, .slice x.sa x.ss.length x.cs]] #[]] W' fun e w' => e = .returned (.int .i64 v) ∧ Below W'.heap.size W' w'
  ats : b = true → v = 0 → ∀ t, NrT t → ∃ p1 p2 p3, (∀ W', Below W.heap.size W W' → Calls Tryz.prog 13 #[.agg #[.string ⟨x.nm.toArray⟩, .slice x.az n x.cz], .func (.func 10) #[.agg #[.string ⟨x.nm.toArray⟩, .slice x.az n x.cz, .slice x.sa x.ss.length x.cs]] #[], .int .i64 t] W' fun r w' => r = .returned (.tuple #[locV p1 p2 p3, .int .i64 0]) ∧ Below W'.heap.size W' w') ∧
    ∀ W', Below W.heap.size W W' → Calls Tryz.prog 13 #[.agg #[.string ⟨x.nm.toArray⟩, .slice A M c], .func (.func 10) #[.agg #[.string ⟨x.nm.toArray⟩, .slice A M c, .slice x.sa x.ss.length x.cs]] #[], .int .i64 t] W' fun r w' => r = .returned (.tuple #[locV p1 p2 p3, .int .i64 0]) ∧ Below W'.heap.size W' w'
theorem ptY_ex (x : WV) (u : EV) (A : Option Addr) (c M n : Nat) (W : World) (hA : LaidZ W) (hX : WvAt x W) (hO : WvOk x) (hF : FewW x) (hL : ∀ s ∈ x.ss, ∀ r ∈ s.rs, r.lt.length ≤ 1000000000000000) (h0 : opE (wR x) wN (aW x) x.es = 0) (hR : RowsAt 12 cE A (ptL x.es u) W) (h3 : x.es.length ≤ 3) (hn : x.es.length = n) (hM : (ptL x.es u).length = M) :
    ∃ b v, PtY x u A c M n b v W := by
  subst hn hM
  have hn0 : 0 < x.es.length := by obtain ⟨h, -⟩ := opE_zero h0; omega
  have hX' : WvAt (ptW x A c (ptL x.es u)) W := pt_at hX hR
  have hO' : WvOk (ptW x A c (ptL x.es u)) := pt_ok hO hn0 h3
  by_cases hF' : FewW (ptW x A c (ptL x.es u))
  · have ZW' := opW_of hA hX' hO' hF' hL
    refine ⟨true, _, ⟨fun W' k => few_is (ptW x A c (ptL x.es u)) true W' (hX'.next k) hO' (Lib.hid (.inl ⟨rfl, hF'⟩)), fun _ W' k => zcheck_is (ptW x A c (ptL x.es u)) W' (ZW'.next k) _ rfl, fun _ h0' t ht => ?_⟩⟩
    obtain ⟨p1, p2, p3, h⟩ := ptI_ex x A c u t W hA hX hO hF hL h0 hX' hO' hF' h0' ht
    exact ⟨p1, p2, p3, h.a, h.b⟩
  · exact ⟨false, 0, ⟨fun W' k => few_is (ptW x A c (ptL x.es u)) false W' (hX'.next k) hO' (Lib.hid (.inr ⟨rfl, hF'⟩)), fun h => (by cases h), fun h => (by cases h)⟩⟩
end Go.Proofs.YtdmfgechoanmlaaGreatDoor

namespace Go.Proofs.YtdmfgechoanmlaaGreatDoor
open Go Go.RowKit Go.Sort Go.Shelf
attribute [local go_sem] Oper.semAt_some

/-- A world of up to three eras, whose zone may be, and up to ten instants. -/
def PtIn (x : WV) (l : List Int) : Prop := FewW x ∧ l.length ≤ 10 ∧ opE (wR x) wN (aW x) x.es = 0 ∧ x.es.length ≤ 3
set_option maxRecDepth 20000 in
set_option maxHeartbeats 2000000 in
theorem zpt_out (x : WV) (A : Option Addr) (c : Nat) (l : List Int) (u : EV) (w : World) (hA : LaidZ w) (hX : WvAt x w) (hO : WvOk x) (hL : ∀ s ∈ x.ss, ∀ r ∈ s.rs, r.lt.length ≤ 1000000000000000) (h : ¬ PtIn x l) :
    Calls Tryz.prog 4 #[wvV x, .slice A l.length c, uvV u] w fun e w' => e = .returned (.bool true) ∧ Below w.heap.size w w' := by
  have hmf : ∀ (fn : Fn) (first cap : Array Value) (w : World), (Instr.makeFunc fn first cap).run Tryz.prog w = .ok (.func fn first cap) w := fun _ _ _ _ => rfl
  have AW := Lib.hid (fun W (k : Below w.heap.size w W) => zawake_is W (Lib.hid (hA.next k).b))
  have FT := fun b W (k : Below w.heap.size w W) (hb : (b = true ∧ FewW x) ∨ (b = false ∧ ¬ FewW x)) => few_is x b W (hX.next k) hO (Lib.hid hb)
  have CH := fun (hF : FewW x) W (k : Below w.heap.size w W) => zcheck_is x W ((opW_of hA hX hO hF hL).next k) _ rfl
  obtain ⟨n, hn⟩ : ∃ n, x.es.length = n := ⟨_, rfl⟩
  obtain ⟨v, hv⟩ : ∃ v, opE (wR x) wN (aW x) x.es = v := ⟨_, rfl⟩
  obtain ⟨m, hm⟩ : ∃ m, l.length = m := ⟨_, rfl⟩
  unfold PtIn at h
  unfold zoV setsV wvV at *
  unfold uvV
  rw [hn] at h FT CH ⊢
  rw [hv] at h CH
  rw [hm] at h ⊢
  clear hA hX hO hL hn hv hm
  refine callsIn_wide.1 (callsIn_of_wp_marks (n := 6) Tryz.func4 rfl trivial ?_ rfl)
  simp only [Tryz.ntmps4, List.size_toArray, List.length_cons, List.length_nil, Nat.reduceAdd, Nat.reduceSub, Array.replicate_succ, Array.replicate_zero, List.push_toArray, List.append_toArray, List.nil_append, List.cons_append]
  refine wpIn_wide.2 ?_
  repeat (first | go_values | go_skip | go_guarded | go_step | go_upon | go_back)
  have P0 := PtB.make x u n w
  revert P0
  generalize ((((w.alloc (.cells #[.string ⟨x.nm.toArray⟩, .slice x.az n x.cz, .slice x.sa x.ss.length x.cs] 27)).alloc (.cells (cU u) 52)).alloc (.cells #[.bool false] 4)).alloc (.cells #[.int .i64 (n : Int)] 3)) = W0
  generalize w.heap.size + 1 = g1
  generalize g1 + 1 = g2
  generalize g2 + 1 = g3
  intro P0
  have P0 := Lib.hid P0
  obtain ⟨⟨c0, c1, c2⟩, c3⟩ := P0.out.cels
  have V : (¬ FewW x ∧ FewW x = False) ∨ (FewW x ∧ ¬ (m : Int) ≤ 10) ∨ (FewW x ∧ (m : Int) ≤ 10 ∧ (v != 0) = true) ∨ (FewW x ∧ (m : Int) ≤ 10 ∧ v = 0 ∧ (3 : Int) < (n : Int)) := by
    by_cases h1 : FewW x
    · by_cases h2 : m ≤ 10
      · by_cases h3 : v = 0
        · exact .inr (.inr (.inr ⟨h1, by omega, h3, by
            have : ¬ n ≤ 3 := fun h4 => h ⟨h1, h2, h3, h4⟩
            omega⟩))
        · exact .inr (.inr (.inl ⟨h1, by omega, by simpa using h3⟩))
      · exact .inr (.inl ⟨h1, by omega⟩)
    · exact .inl ⟨h1, by simp [h1]⟩
  clear h
  obtain ⟨b, hb⟩ : ∃ b, (b = true ∧ FewW x) ∨ (b = false ∧ ¬ FewW x) := by
    by_cases h1 : FewW x
    · exact ⟨true, .inl ⟨rfl, h1⟩⟩
    · exact ⟨false, .inr ⟨rfl, h1⟩⟩
  have FT := Lib.hid fun W k => FT b W k hb
  have CH := Lib.hid CH
  have HB := Lib.hid hb
  clear hb
  rcases V with ⟨hf, -⟩ | ⟨hf, h2⟩ | ⟨hf, h2, h3⟩ | ⟨hf, h2, rfl, h4⟩
  · obtain rfl : b = false := by
      rcases HB.out with ⟨-, h⟩ | ⟨h, -⟩
      · exact absurd h hf
      · exact h
    clear hf
    repeat (first
      | (refine (FT.out _ P0.out.bel).mono ?_; (rintro e w1 ⟨rfl, k1⟩); have P1 := Lib.hid (P0.out.next k1); clear k1 c0 c1 c2 c3; obtain ⟨⟨c0, c1, c2⟩, c3⟩ := P1.out.cels; simp only [])
      | (go_at_call 7; (with_reducible refine (AW.out _ P1.out.bel).mono ?_); (rintro e w9 ⟨rfl, k9⟩); have P9 := Lib.hid (P1.out.next k9); have q6 := cel1 P9.out.b6; have q7 := frz (j := 0) P9.out.b6; simp only [])
      | go_values | go_skip | go_guarded | go_step | go_upon | go_back)
    exact ⟨.bool true, by simp [results, Tryz.results4, go_sem, P9.out.fin.1], rfl, P9.out.fin.2⟩
  · obtain rfl : b = true := by
      rcases HB.out with ⟨h, -⟩ | ⟨-, h⟩
      · exact h
      · exact absurd hf h
    have h2' : (10 : Int) < (m : Int) := by omega
    repeat (first
      | (refine (FT.out _ P0.out.bel).mono ?_; (rintro e w1 ⟨rfl, k1⟩); have P1 := Lib.hid (P0.out.next k1); clear k1 c0 c1 c2 c3; obtain ⟨⟨c0, c1, c2⟩, c3⟩ := P1.out.cels; simp only [])
      | (go_at_call 7; (with_reducible refine (AW.out _ P1.out.bel).mono ?_); (rintro e w9 ⟨rfl, k9⟩); have P9 := Lib.hid (P1.out.next k9); have q6 := cel1 P9.out.b6; have q7 := frz (j := 0) P9.out.b6; simp only [])
      | go_values | go_skip | go_guarded | go_step | go_upon | go_back)
    exact ⟨.bool true, by simp [results, Tryz.results4, go_sem, P9.out.fin.1], rfl, P9.out.fin.2⟩
  · obtain rfl : b = true := by
      rcases HB.out with ⟨h, -⟩ | ⟨-, h⟩
      · exact h
      · exact absurd hf h
    have h2' : ¬ (10 : Int) < (m : Int) := by omega
    repeat (first
      | (go_at_call 7; (with_reducible refine (AW.out _ P2.out.bel).mono ?_); (rintro e w9 ⟨rfl, k9⟩); have P9 := Lib.hid (P2.out.next k9); have q6 := cel1 P9.out.b6; have q7 := frz (j := 0) P9.out.b6; simp only [])
      | (go_at_call 9; (with_reducible refine (CH.out hf _ P1.out.bel).mono ?_); (rintro e w2 ⟨rfl, k2⟩); have P2 := Lib.hid (P1.out.next k2); clear k2 c0 c1 c2 c3; obtain ⟨⟨c0, c1, c2⟩, c3⟩ := P2.out.cels; simp only [])
      | (refine (FT.out _ P0.out.bel).mono ?_; (rintro e w1 ⟨rfl, k1⟩); have P1 := Lib.hid (P0.out.next k1); clear k1 c0 c1 c2 c3; obtain ⟨⟨c0, c1, c2⟩, c3⟩ := P1.out.cels; simp only [])
      | go_values | go_skip | go_guarded | go_step | go_upon | go_back)
    exact ⟨.bool true, by simp [results, Tryz.results4, go_sem, P9.out.fin.1], rfl, P9.out.fin.2⟩
  · obtain rfl : b = true := by
      rcases HB.out with ⟨h, -⟩ | ⟨-, h⟩
      · exact h
      · exact absurd hf h
    have h2' : ¬ (10 : Int) < (m : Int) := by omega
    repeat (first
      | (go_at_call 7; (with_reducible refine (AW.out _ P2.out.bel).mono ?_); (rintro e w9 ⟨rfl, k9⟩); have P9 := Lib.hid (P2.out.next k9); have q6 := cel1 P9.out.b6; have q7 := frz (j := 0) P9.out.b6; simp only [])
      | (go_at_call 9; (with_reducible refine (CH.out hf _ P1.out.bel).mono ?_); (rintro e w2 ⟨rfl, k2⟩); have P2 := Lib.hid (P1.out.next k2); clear k2 c0 c1 c2 c3; obtain ⟨⟨c0, c1, c2⟩, c3⟩ := P2.out.cels; simp only [])
      | (refine (FT.out _ P0.out.bel).mono ?_; (rintro e w1 ⟨rfl, k1⟩); have P1 := Lib.hid (P0.out.next k1); clear k1 c0 c1 c2 c3; obtain ⟨⟨c0, c1, c2⟩, c3⟩ := P1.out.cels; simp only [])
      | go_values | go_skip | go_guarded | go_step | go_upon | go_back)
    exact ⟨.bool true, by simp [results, Tryz.results4, go_sem, P9.out.fin.1], rfl, P9.out.fin.2⟩
end Go.Proofs.YtdmfgechoanmlaaGreatDoor
