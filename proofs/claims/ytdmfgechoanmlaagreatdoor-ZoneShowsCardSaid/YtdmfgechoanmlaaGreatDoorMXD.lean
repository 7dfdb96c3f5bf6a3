/- A region that draws its order, whose first operation is a move that only the last ones want: it is taken first; the others but the last ones read, or call what changes nothing that lies. A law of this text's own, beside the library's.
The contract of the law wrong: what is wrong with a world, or its ends, as the program tells them. -/
import Derived.Test.YtdmfgechoanmlaaGreatDoorMZN
import Derived.Test.YtdmfgechoanmlaaGreatDoorMZG
import Derived.Test.YtdmfgechoanmlaaGreatDoorMXC
namespace Go.Proofs.YtdmfgechoanmlaaGreatDoor
open Go Go.RowKit

section
variable {P : Program} {ops : Array Oper} {md : Region.Mode} {C : World → Prop}
def sinkLate (md : Region.Mode) (ops : Array Oper) (n : Nat) : Bool :=
  (List.range n).all fun i => i == 0 || (List.range (n + 1)).any fun j => decide (i < j) && Region.waitsFor md ops j i
theorem late_waits {n : Nat} {listed : Array Bool} (hs : sinkLate md ops n = true) (hc : Region.chainB md ops n = true) (hn : n < ops.size) (inv : HeadInv md ops n listed) (h0 : listed.getD 0 false = true) :
    ∀ (d i : Nat), n - i = d → i < n → listed.getD i true = false → ∀ t, n ≤ t → t ∉ Region.ready md ops listed := by
  intro d
  induction d using Nat.strongRecOn with
  | _ d ih =>
    intro i hd hi hun t ht hr
    obtain ⟨_, ot, hot, hall⟩ := mem_ready.1 hr
    have htlt : t < ops.size := (Array.getElem?_eq_some_iff.1 hot).1
    by_cases htn : t = n
    · subst htn
      have h1 := List.all_eq_true.1 hs i (List.mem_range.2 hi)
      have hi0 : i ≠ 0 := by
        rintro rfl
        rw [getD_both hun] at h0
        cases h0
      simp only [Bool.or_eq_true, beq_iff_eq, hi0, false_or] at h1
      obtain ⟨j, hj, hj2⟩ := List.any_eq_true.1 h1
      simp only [Bool.and_eq_true, decide_eq_true_eq] at hj2
      obtain ⟨oj, hoj, e, he, hb, hon⟩ := Region.waitsFor_spec hj2.2
      have hjle : j ≤ t := by have := List.mem_range.1 hj; omega
      by_cases hjt : j = t
      · subst hjt
        have : oj = ot := Option.some.inj (hoj.symm.trans hot)
        subst this
        have h2 := hall e he hb
        rw [hon, getD_both hun] at h2
        cases h2
      · cases hl : listed.getD j false with
        | true =>
          have h2 := inv.closed j oj hoj hl e he hb
          rw [hon, getD_both hun] at h2
          cases h2
        | false =>
          have hjs : j < listed.size := by rw [inv.size]; omega
          exact ih (t - j) (by omega) j rfl (by omega) (getD_in hjs hl) t (Nat.le_refl _) hr
    · have h1 := List.all_eq_true.1 hc t (List.mem_range.2 htlt)
      simp only [Bool.or_eq_true, decide_eq_true_eq] at h1
      rcases h1 with h1 | h1
      · omega
      · obtain ⟨o', ho', e, he, hb, hon⟩ := Region.waitsFor_spec h1
        have : o' = ot := Option.some.inj (ho'.symm.trans hot)
        subst this
        have h2 := hall e he hb
        rw [hon, getD_both (inv.tail (t - 1) (by omega) (by omega))] at h2
        cases h2
theorem anyT_first0 {n i : Nat} {oi : Oper} {v : Value} {L : Array Bool → Act → Prop} (hi : ops[i]? = some oi) (hsel : ∀ (j : Nat) (o : Oper) cs b, ops[j]? = some o → o.op ≠ .select cs b)
    (hs : sinkLate md ops n = true) (hc : Region.chainB md ops n = true) (hn : n < ops.size) (hin : i < n) (hdone : ∀ listed a, L listed a → ∀ j ∈ Region.ready md ops listed, n ≤ j) :
    ∀ (f : Nat) (listed : Array Bool) (a : Act), HeadInv md ops n listed → listed.getD 0 false = true →
      (∀ j oj, ops[j]? = some oj → j ≠ i → listed.getD j true = false → (∀ e ∈ oj.after, Region.binds md e = true → e.on ≠ i) → oi.apart ops oj = true) →
      i ∈ Region.ready md ops listed → YieldsIn P ops C oi v a → anyT P md ops C n L f (listed.setIfInBounds i true) (a.put oi.dst v) → anyT P md ops C n L (f + 1) listed a := by
  intro f
  induction f with
  | zero =>
    intro listed a inv h0 _ hr hy H
    have hun := (mem_ready.1 hr).1
    refine ⟨fun h => (by rw [h] at hr; cases hr), fun j hj => ?_⟩
    have hjn : j < n := by
      rcases Nat.lt_or_ge j n with h | h
      · exact h
      · exact absurd hj (late_waits hs hc hn inv h0 _ i rfl hin hun j h)
    refine ⟨hjn, ?_⟩
    by_cases hji : j = i
    · subst hji; exact hy.qOp hi H
    · have := hdone _ _ H j (ready_mono hj hji)
      omega
  | succ f ih =>
    intro listed a inv h0 hfree hr hy H
    have hun := (mem_ready.1 hr).1
    refine ⟨fun h => (by rw [h] at hr; cases hr), fun j hj => ?_⟩
    have hjn : j < n := by
      rcases Nat.lt_or_ge j n with h | h
      · exact h
      · exact absurd hj (late_waits hs hc hn inv h0 _ i rfl hin hun j h)
    refine ⟨hjn, ?_⟩
    by_cases hji : j = i
    · subst hji; exact hy.qOp hi H
    · have h1 := (H.2 j (ready_mono hj hji)).2
      obtain ⟨hjun, oj, hoj, hall⟩ := mem_ready.1 hj
      have hnot : ∀ e ∈ oj.after, Region.binds md e = true → e.on ≠ i := fun e he hb heq => by
        have h1 := hall e he hb
        rw [heq, getD_both hun] at h1
        cases h1
      have h2 := qOp_put hoj (hfree j oj hoj hji hjun hnot) (fun cs b => hsel i oi cs b hi) (fun cs b => hsel j oj cs b hoj) hy h1
      have hfree' : ∀ k ok, ops[k]? = some ok → k ≠ i → (listed.setIfInBounds j true).getD k true = false →
          (∀ e ∈ ok.after, Region.binds md e = true → e.on ≠ i) → oi.apart ops ok = true := fun k ok hk hki hun hno => by
        refine hfree k ok hk hki ?_ hno
        by_cases hjk : j = k
        · subst hjk; exact hjun
        · rw [getD_set_ne true hjk] at hun; exact hun
      refine qOp_mono (fun a' h3 => ih (listed.setIfInBounds j true) a' (inv.set hj hjn) (getD_set_true h0) hfree' (ready_mono hr (Ne.symm hji)) h3.1 ?_) h2
      rw [Array.setIfInBounds_comm _ _ hji]
      exact h3.2
theorem anyT_lex0 {n g : Nat} {Lq : Act → Prop} (hsel : Region.noSelect ops = true) (hs : sinkLate md ops n = true) (hc : Region.chainB md ops n = true) (hn : n < ops.size) :
    ∀ (l : List Oper) (k : Nat) (listed : Array Bool) (a : Act), (∀ j, j < l.length → l[j]? = ops[k + j]?) → k + l.length = n → HeadInv md ops n listed → listed.getD 0 false = true →
    Region.lexHead md ops g l.length k listed = true → wpQuiet P ops C Lq l a →
    anyT P md ops C n (fun listed' a' => Region.seqB md ops g n listed' = true ∧ Lq a') l.length listed a
  | [], k, listed, a, _, hk, _, _, hB, h => by
    have : k = n := by simpa using hk
    subst this
    exact ⟨by simpa [Region.lexHead] using hB, h⟩
  | o :: l, k, listed, a, hl, hk, inv, h0, hB, h => by
    have hk0 : ops[k]? = some o := by simpa using (hl 0 (by simp)).symm
    simp only [List.length_cons, Region.lexHead, Bool.and_eq_true] at hB
    obtain ⟨⟨hr, hf⟩, hB'⟩ := hB
    have hkn : k < n := by simp only [List.length_cons] at hk; omega
    have hr' : k ∈ Region.ready md ops listed := by simpa using hr
    have hst : qOp P ops C k (wpQuiet P ops C Lq l) a := by unfold qOp; simp only [hk0]; exact h
    obtain ⟨v, hy, hK⟩ := yieldsIn_of_qOp hk0 hst
    exact anyT_first0 hk0 (Region.noSelect_spec hsel) hs hc hn hkn (fun listed' a' hL => seqB_ready hL.1) l.length listed a inv h0 (Region.free_spec hk0 hf) hr' hy
      (anyT_lex0 hsel hs hc hn l (k + 1) _ _ (fun j hj => by have := hl (j + 1) (by simp; omega); simpa [Nat.add_assoc, Nat.add_comm 1 j] using this) (by simp only [List.length_cons] at hk; omega) (inv.set hr' hkn) (getD_set_true h0) hB' hK)
def lexLateB (md : Region.Mode) (ops : Array Oper) (n : Nat) : Bool :=
  Region.noSelect ops && decide (n < ops.size) && decide (0 < n) && sinkLate md ops n && Region.chainB md ops n && (Region.ready md ops (Array.replicate ops.size false)).contains 0 && Region.free md ops (Array.replicate ops.size false) 0 &&
    Region.lexHead md ops (ops.size - n) (n - 1) 1 ((Array.replicate ops.size false).setIfInBounds 0 true)
theorem wp_calm {c : Code} {Q : Exit → Act → World → Prop} {a : Act} {w : World} (h : c.wp P (calmQ Q) a w) : c.wp P Q a w := wpIn_wide.1 (wpIn_calm (n := 0) (wpIn_wide.2 h))
theorem region_late {id : Nat} {Q : Exit → Act → World → Prop} {a : Act} {w : World} {l : List Oper} (n : Nat) (o : Oper) (v : Value) (ho : l[0]? = some o) (hm : P.follows .mixedOrders = true) (hB : lexLateB .any l.toArray n = true) (hy : Yields P l.toArray o v a)
    (h : wpQuiet P l.toArray (fun w' => ∃ x : Bel w, w' = x.w) (fun a' => ∀ w', (∃ x : Bel w, w' = x.w) → wpList P l.toArray (calmQ Q) (l.drop n) a' w') ((l.drop 1).take (n - 1)) (a.put o.dst v)) : (Code.region id l.toArray true).wp P Q a w := by
  refine wp_calm ?_
  simp only [lexLateB, Bool.and_eq_true, decide_eq_true_eq] at hB
  obtain ⟨⟨⟨⟨⟨⟨⟨hsel, hn⟩, hn0⟩, hs⟩, hc⟩, hrd⟩, hfr⟩, hlex⟩ := hB
  have hn' : n < l.length := by simpa using hn
  have htl : ((l.drop 1).take (n - 1)).length = n - 1 := by simp; omega
  have hdl : (l.drop n).length = l.toArray.size - n := by simp
  have ho' : l.toArray[0]? = some o := by simpa using ho
  have hr0 : 0 ∈ Region.ready .any l.toArray (Array.replicate l.toArray.size false) := by simpa using hrd
  have inv0 : HeadInv .any l.toArray n (Array.replicate l.toArray.size false) :=
    ⟨by simp, fun j oj _ hl => (by rw [getD_replicate_false] at hl; cases hl), fun t _ ht => getD_in (by simpa using ht) (getD_replicate_false _ _)⟩
  have h00 : ((Array.replicate l.toArray.size false).setIfInBounds 0 true).getD 0 false = true := by
    have : 0 < l.length := by omega
    simp [this]
  have H := anyT_lex0 (C := fun w' => ∃ x : Bel w, w' = x.w) (md := .any) (g := l.toArray.size - n) hsel hs hc hn ((l.drop 1).take (n - 1)) 1 _ _ (fun j hj => by
    have hj' : j < n - 1 := by rw [htl] at hj; exact hj
    simp [hj', Nat.add_comm 1 j]) (by rw [htl]; omega) (inv0.set hr0 hn0) h00 (by rw [htl]; exact hlex) h
  refine wp_region_any hm ?_
  have hT := anyT_run (Q' := calmQ Q) (g := l.toArray.size - n) (fun listed a' w' hw' hL => by
    have := wpAny_of_seq (md := .any) (Q' := calmQ Q) (l.drop n) n listed a' w' (fun j => by simp [List.getElem?_drop]) (by rw [hdl]; exact hL.1) (hL.2 w' hw')
    rwa [hdl] at this) _ _ _ _ ⟨⟨_, (Below.refl _ w).drew⟩, rfl⟩ H
  have := wpAny_take (md := .any) (Q := calmQ Q) ho' hsel hfr hrd (fun c a w hq => hq) hy hT
  rw [htl, show n - 1 + (l.toArray.size - n) + 1 = l.toArray.size by omega] at this
  exact this
end
end Go.Proofs.YtdmfgechoanmlaaGreatDoor

namespace Go.Proofs.YtdmfgechoanmlaaGreatDoor
open Go Go.RowKit Go.Sort
attribute [local go_sem] Oper.semAt_some

/-- What wrong answers. -/
def WrongIs (x : WV) (v : Int) (w : World) (r : Ending) (w' : World) : Prop :=
  ∃ A n c, r = .returned (.tuple #[.int .i64 v, .slice A n c]) ∧ (v = 0 → n = (endsV (aW x) x.es x.es.length).length ∧ IntsAt A (endsV (aW x) x.es x.es.length) w') ∧ (v ≠ 0 → n = 0) ∧ Below w.heap.size w w'
theorem WrongIs.no {x : WV} {v q : Int} {w w' : World} (h : q ≠ 0) (hv : v = q) (k : Below w.heap.size w w') : WrongIs x v w (.returned (.tuple #[.int .i64 q, .slice none 0 0])) w' :=
  ⟨none, 0, 0, by rw [hv], fun e => absurd (hv.symm.trans e) h, fun _ => rfl, k⟩
set_option maxRecDepth 20000 in
set_option maxHeartbeats 3000000 in
theorem lwrong_is (x : WV) (w : World) (_ : LaidZ w) (hX : WvAt x w) (hO : WvOk x) (hF : FewW x) (hL : ∀ s ∈ x.ss, ∀ r ∈ s.rs, r.lt.length ≤ 1000000000000000) (v : Int) (hv : opE (wR x) wN (aW x) x.es = v) :
    Calls Tryz.prog 8 #[wvV x] w (WrongIs x v w) := by
  have mixed : Tryz.prog.follows .mixedOrders = true := by kernel_rfl
  obtain ⟨n, hn⟩ : ∃ n, x.es.length = n := ⟨_, rfl⟩
  have hn4 : n ≤ 4 := by have := hF.ne; omega
  have HX := Lib.hid hX
  have HF := Lib.hid hF
  have Z0 : Hid (n = 0 → v = 16) := Lib.hid fun h => by rw [← hv]; unfold opE; rw [if_pos (hn.trans h)]
  have G1 : Hid (∀ i, i < n → f1V (wR x) x.es i ≠ 0 → (∀ j, j < i → f1V (wR x) x.es j = 0) → v = f1V (wR x) x.es i) := Lib.hid fun i hi h hz => by rw [← hv]; exact opE_first1 (by omega) h hz
  have G2 : Hid ((∀ j, j < n → f1V (wR x) x.es j = 0) → ∀ i, i < n → f2V wN x.es i ≠ 0 → (∀ j, j < i → f2V wN x.es j = 0) → v = f2V wN x.es i) := Lib.hid fun h1 i hi h hz => by rw [← hv]; exact opE_first2 (by rw [hn]; exact h1) (by omega) h hz
  have G3 : Hid ((∀ j, j < n → f1V (wR x) x.es j = 0) → (∀ j, j < n → f2V wN x.es j = 0) → ∀ i, i < n → f3V (aW x) x.es i ≠ 0 → (∀ j, j < i → f3V (aW x) x.es j = 0) → v = f3V (aW x) x.es i) := Lib.hid fun h1 h2 i hi h hz => by rw [← hv]; exact opE_first3 (by rw [hn]; exact h1) (by rw [hn]; exact h2) (by omega) h hz
  have G4 : Hid (n ≠ 0 → (∀ j, j < n → f1V (wR x) x.es j = 0) → (∀ j, j < n → f2V wN x.es j = 0) → (∀ j, j < n → f3V (aW x) x.es j = 0) → v = 0) := Lib.hid fun h0 h1 h2 h3 => by rw [← hv]; exact opE_all (by omega) (by rw [hn]; exact h1) (by rw [hn]; exact h2) (by rw [hn]; exact h3)
  have OF := Lib.hid (fun nm W (k : Below w.heap.size w W) => wof_is x nm W (hX.next k) hO)
  have RWS := Lib.hid (fun W (k : Below w.heap.size w W) => lrows_is x W (hX.next k) hO hF hL)
  have REN : Hid (∀ (i : Nat) (e : EV), x.es[i]? = some e → f2V wN x.es i = 0 → i + 1 < n → ∀ W v', POut v' (psR x e) W → Calls Tryz.prog 30 #[evV e, .agg #[v', .string ⟨(ltR x e).toArray⟩]] W fun r w' => r = .returned (.int .i64 (aW x e)) ∧ Below W.heap.size W w') := Lib.hid fun i e he h2 hi W v' hv' => lend_is hX hF hL he h2 (by omega) W v' hv'
  have X0 := Lib.hid (BlkN.make (Below.refl w.heap.size w) #[.string ⟨x.nm.toArray⟩, .slice x.az x.es.length x.cz, .slice x.sa x.ss.length x.cs] 27)
  obtain ⟨c0, c1, c2⟩ := cel3 X0.out.blk
  have HN := Lib.hid hn
  unfold wvV at *
  simp only [hn] at OF RWS X0 c0 c1 c2 ⊢
  clear hX hO hF hL hn hv
  by_cases hn0 : n = 0
  · subst hn0
    have R := Lib.hid (Z0.out rfl)
    clear Z0 G1 G2 G3 G4 OF RWS REN
    go_enter Tryz.func8, Tryz.ntmps8
    repeat (first | go_values | go_skip | go_guarded | go_step | go_upon | go_back)
    go_ret2
    exact WrongIs.no (by decide) R.out X0.out.bel
  have hnb : ((n : Int) == 0) = false := by simpa using hn0
  have HN0 := Lib.hid hn0
  clear Z0 hn0
  go_enter Tryz.func8, Tryz.ntmps8
  repeat (first | go_values | go_skip | go_guarded | go_step | go_upon | go_back)
  go_loopw [5] (fun vi wr => ∃ i : Nat, vi = .int .i64 i ∧ i ≤ n ∧ (∀ j, j < i → f1V (wR x) x.es j = 0) ∧ BlkN w w.heap.size #[.string ⟨x.nm.toArray⟩, .slice x.az n x.cz, .slice x.sa x.ss.length x.cs] 27 wr) (fun vi _ => n - (intOf vi).toNat)
  case atStart => exact ⟨0, rfl, Nat.zero_le _, fun j h => absurd h (by omega), X0.out⟩
  case round =>
    clear X0 c0 c1 c2
    obtain ⟨i, rfl, i1, ha, hX⟩ := hrel
    obtain ⟨c0, c1, c2⟩ := cel3 hX.blk
    have A1 := Lib.hid ha
    have X := Lib.hid hX
    clear ha hX
    have wi : IntKind.i64.wrap ((i : Int) + 1) = (i : Int) + 1 := IntWalk.i64_in _ (by omega)
    by_cases hlt : i < n
    · have hii : (i : Int) < (n : Int) := by omega
      obtain ⟨e, he⟩ : ∃ e, x.es[i]? = some e := ⟨_, List.getElem?_eq_getElem (by rw [HN.out]; exact hlt)⟩
      obtain ⟨L, off, haz, hL', x0, x1, -⟩ := era_cells (HX.out.es.next X.out.bel) he
      have HE := Lib.hid he
      have HAZ := Lib.hid haz
      rw [haz] at c1
      have NX : Hid (f1V (wR x) x.es i = 0 → ∀ j, j < i + 1 → f1V (wR x) x.es j = 0) := Lib.hid fun h j hj => by
        by_cases hji : j = i
        · rw [hji]; exact h
        · exact A1.out j (by omega)
      have d0 := bel_cell c0
      have d1 := bel_cell c1
      have d2 := bel_cell c2
      have d3 := bel_cell x1
      clear he haz hL' x0
      by_cases hr : e.rl.isEmpty = true
      · have FZ := Lib.hid (NX.out (by unfold f1V; rw [eD_at HE.out, if_neg (by rw [hr]; simp)]))
        clear REN RWS G1 G2 G3 G4
        repeat (first | go_values | go_skip | go_guarded | go_step | go_upon | go_back)
        refine region_bel mixed (by kernel_rfl) ?_
        repeat (with_reducible refine wpQuiet_step ?_; intro K hK; go_simp; (with_reducible refine hK _ ?_); clear hK K)
        with_reducible refine wpQuiet_nil ?_
        rintro w8 ⟨x8, hx8⟩
        have X8 := Lib.hid (X.out.next (hx8 ▸ x8.k))
        clear hx8 x8 d0 d1 d2 d3 c0 c1 c2 x1
        repeat (first | go_values | go_skip | go_guarded | go_step | go_upon | go_back)
        go_round
        case rel => exact ⟨i + 1, rfl, by omega, FZ.out, X8.out⟩
        case measure => simp [intOf]; omega
      · have hrb : e.rl.isEmpty = false := by simpa using hr
        have OFe := Lib.hid (OF.out e.rl)
        rw [HAZ.out] at OFe
        have F1 : Hid (f1V (wR x) x.es i = if (ofW x e.rl).rs.length = 0 then 16 else 0) := Lib.hid (by
          unfold f1V
          rw [eD_at HE.out]
          by_cases h0 : (ofW x e.rl).rs.length = 0
          · rw [if_pos ⟨hrb, h0⟩, if_pos h0]
          · rw [if_neg (fun h => h0 h.2), if_neg h0])
        generalize ofW x e.rl = z at OFe F1
        obtain ⟨m, hm⟩ : ∃ m, z.rs.length = m := ⟨_, rfl⟩
        rw [hm] at OFe F1
        clear hm hr
        by_cases hm0 : m = 0
        · subst hm0
          have F1' := F1.out
          rw [if_pos rfl] at F1'
          have R : Hid (v = 16) := Lib.hid (by have := G1.out i hlt (by rw [F1']; decide) A1.out; rw [this, F1'])
          clear REN RWS G1 G2 G3 G4 F1' F1
          repeat (first | go_values | go_skip | go_guarded | go_step | go_upon | go_back)
          refine region_bel mixed (by kernel_rfl) ?_
          repeat (with_reducible refine wpQuiet_step ?_; intro K hK; go_simp; first | ((with_reducible refine hK _ ?_); clear hK K) | (apply Exists.intro; refine ⟨fun _ => ?_, hK _ ?_⟩; (go_at_call 10; rename_i y; refine (OFe.out _ (X.out.bel.trans (y.k.mono X.out.bel.size))).mono ?_; rintro r w6 ⟨rfl, k6⟩; exact ⟨rfl, ⟨w6, y.k.trans (k6.mono y.k.size)⟩, rfl⟩); clear hK K))
          with_reducible refine wpQuiet_nil ?_
          rintro w8 ⟨x8, hx8⟩
          have X8 := Lib.hid (X.out.next (hx8 ▸ x8.k))
          clear hx8 x8 d0 d1 d2 d3 c0 c1 c2 x1
          repeat (first | go_values | go_skip | go_guarded | go_step | go_upon | go_back)
          go_ret2
          exact WrongIs.no (by decide) R.out X8.out.bel
        · have F1' := F1.out
          rw [if_neg hm0] at F1'
          have FZ := Lib.hid (NX.out F1')
          have hmb : ((m : Int) == 0) = false := by simpa using hm0
          clear REN RWS G1 G2 G3 G4 F1' F1 hm0
          repeat (first | go_values | go_skip | go_guarded | go_step | go_upon | go_back)
          refine region_bel mixed (by kernel_rfl) ?_
          repeat (with_reducible refine wpQuiet_step ?_; intro K hK; go_simp; first | ((with_reducible refine hK _ ?_); clear hK K) | (apply Exists.intro; refine ⟨fun _ => ?_, hK _ ?_⟩; (go_at_call 10; rename_i y; refine (OFe.out _ (X.out.bel.trans (y.k.mono X.out.bel.size))).mono ?_; rintro r w6 ⟨rfl, k6⟩; exact ⟨rfl, ⟨w6, y.k.trans (k6.mono y.k.size)⟩, rfl⟩); clear hK K))
          with_reducible refine wpQuiet_nil ?_
          rintro w8 ⟨x8, hx8⟩
          have X8 := Lib.hid (X.out.next (hx8 ▸ x8.k))
          clear hx8 x8 d0 d1 d2 d3 c0 c1 c2 x1
          repeat (first | go_values | go_skip | go_guarded | go_step | go_upon | go_back)
          go_round
          case rel => exact ⟨i + 1, rfl, by omega, FZ.out, X8.out⟩
          case measure => simp [intOf]; omega
    · have hin : n = i := by omega
      subst hin
      have hii : ¬ ((n : Nat) : Int) < (n : Int) := by omega
      have F1A := Lib.hid A1.out
      clear A1 OF G1 wi hlt
      repeat (first | go_values | go_skip | go_guarded | go_step | go_upon | go_back)
      clear hii c0 c1 c2
      go_loopw [6] (fun vi wq => ∃ i : Nat, vi = .int .i64 i ∧ i ≤ n ∧ (∀ j, j < i → f2V wN x.es j = 0) ∧ BlkN w w.heap.size #[.string ⟨x.nm.toArray⟩, .slice x.az n x.cz, .slice x.sa x.ss.length x.cs] 27 wq) (fun vi _ => n - (intOf vi).toNat)
      case atStart => exact ⟨0, rfl, Nat.zero_le _, fun j h => absurd h (by omega), X.out⟩
      case round =>
        clear X
        obtain ⟨i, rfl, i1, ha, hX⟩ := hrel
        obtain ⟨c0, c1, c2⟩ := cel3 hX.blk
        have A2 := Lib.hid ha
        have X := Lib.hid hX
        clear ha hX
        have wi : IntKind.i64.wrap ((i : Int) + 1) = (i : Int) + 1 := IntWalk.i64_in _ (by omega)
        by_cases hlt : i < n
        · have hii : (i : Int) < (n : Int) := by omega
          obtain ⟨e, he⟩ : ∃ e, x.es[i]? = some e := ⟨_, List.getElem?_eq_getElem (by rw [HN.out]; exact hlt)⟩
          obtain ⟨L, off, haz, hL', x0, x1, x2, x3, x4, x5, x6, x7, x8, x9, x10, x11⟩ := era_cells (HX.out.es.next X.out.bel) he
          have hfe := HF.out.es e (List.mem_of_getElem? he)
          rw [haz] at c1
          have NX2 : Hid (f2V wN x.es i = 0 → ∀ j, j < i + 1 → f2V wN x.es j = 0) := Lib.hid fun h j hj => by
            by_cases hji : j = i
            · rw [hji]; exact h
            · exact A2.out j (by omega)
          obtain ⟨κ, hκ⟩ : ∃ κ, kdR e.fm = κ := ⟨_, rfl⟩
          obtain ⟨q, hq⟩ : ∃ q, f2V wN x.es i = q := ⟨_, rfl⟩
          obtain ⟨there, hth⟩ : ∃ t, decide (e.dn ≤ dim e.uy e.um) = t := ⟨_, rfl⟩
          have KD := Lib.hid (fun W => rkind_is e.fm κ (abAtV e.fm) W (by have := hfe.1; omega) (Lib.hid ⟨hκ, rfl⟩))
          obtain ⟨n9, hnm⟩ : ∃ n9 : Int, e.en = true → ∀ W, Calls Tryz.prog 29 #[uvV e] W fun r w' => r = .returned (.tuple #[.int .i64 n9, .bool there]) ∧ Below W.heap.size W w' := by
            by_cases hen : e.en = true
            · obtain ⟨n9, -, h⟩ := lnom_is hfe hen
              rw [hth] at h
              exact ⟨n9, fun _ => h⟩
            · exact ⟨0, fun h => absurd h hen⟩
          have NM := Lib.hid hnm
          have ways := era_ways (q := q) hlt hκ (there := there) (fun h => by rw [nomOk_iff hfe h, ← hth, decide_eq_true_iff]) (by rw [← hq]; unfold f2V; rw [eD_at he, HN.out])
          have HQ := Lib.hid hq
          have X1 := Lib.hid (X.out.more (.cells (cE e) 54))
          have Y := Lib.hid (BlkN.make X.out.bel (cE e) 54)
          obtain ⟨y0, y1, y2, y3, y4, y5, y6, y7, y8, y9, y10, y11⟩ := cells12 Y.out.blk
          generalize abAtV e.fm = a0 at KD
          obtain ⟨of, rl, sv, fm, en, uy, um, dk, dw, dn, sc, ck⟩ := e
          unfold uvV cU at NM
          unfold cE at X1 Y
          simp only at ways NM KD X1 Y y0 y1 y2 y3 y4 y5 y6 y7 y8 y9 y10 y11 x0 x1 x2 x3 x4 x5 x6 x7 x8 x9 x10 x11
          clear hκ hq hth hnm hfe haz hL' he
          rcases ways with ⟨b0, rfl⟩ | ⟨b0, ways⟩
          · have R : Hid (v = f2V wN x.es i) := Lib.hid (G2.out F1A.out i hlt (by rw [HQ.out]; decide) A2.out)
            rw [HQ.out] at R
            clear REN RWS G2 G3 G4
            repeat (first
              | (go_at_call 28; (with_reducible refine (KD.out _).mono ?_); rintro r w2 ⟨rfl, k2⟩; have X2 := Lib.hid (X1.out.next k2); have Y2 := Lib.hid (Y.out.next k2); clear k2 y0 y1 y2 y3 y4 y5 y6 y7 y8 y9 y10 y11; obtain ⟨y0, y1, y2, y3, y4, y5, y6, y7, y8, y9, y10, y11⟩ := cells12 Y2.out.blk; simp only [])
              | (go_at_call 29; (with_reducible refine (NM.out rfl _).mono ?_); rintro r w3 ⟨rfl, k3⟩; have X3 := Lib.hid (X2.out.next k3); have Y3 := Lib.hid (Y2.out.next k3); clear k3 y0 y1 y2 y3 y4 y5 y6 y7 y8 y9 y10 y11; obtain ⟨y0, y1, y2, y3, y4, y5, y6, y7, y8, y9, y10, y11⟩ := cells12 Y3.out.blk; simp only [])
              | go_values | go_skip | go_guarded | go_step | go_upon | go_back)
            go_ret2
            first | exact WrongIs.no (by decide) R.out X3.out.bel | exact WrongIs.no (by decide) R.out X2.out.bel
          rcases ways with ⟨b1, rfl⟩ | ⟨b1, b2, rfl⟩ | ⟨b1, b2, b3, rfl⟩ | ⟨b1, b2, b3, b4, rfl⟩ | ⟨b1, b2, b3, b4, ways⟩
          · have R : Hid (v = f2V wN x.es i) := Lib.hid (G2.out F1A.out i hlt (by rw [HQ.out]; decide) A2.out)
            rw [HQ.out] at R
            clear REN RWS G2 G3 G4
            repeat (first
              | (go_at_call 28; (with_reducible refine (KD.out _).mono ?_); rintro r w2 ⟨rfl, k2⟩; have X2 := Lib.hid (X1.out.next k2); have Y2 := Lib.hid (Y.out.next k2); clear k2 y0 y1 y2 y3 y4 y5 y6 y7 y8 y9 y10 y11; obtain ⟨y0, y1, y2, y3, y4, y5, y6, y7, y8, y9, y10, y11⟩ := cells12 Y2.out.blk; simp only [])
              | (go_at_call 29; (with_reducible refine (NM.out rfl _).mono ?_); rintro r w3 ⟨rfl, k3⟩; have X3 := Lib.hid (X2.out.next k3); have Y3 := Lib.hid (Y2.out.next k3); clear k3 y0 y1 y2 y3 y4 y5 y6 y7 y8 y9 y10 y11; obtain ⟨y0, y1, y2, y3, y4, y5, y6, y7, y8, y9, y10, y11⟩ := cells12 Y3.out.blk; simp only [])
              | go_values | go_skip | go_guarded | go_step | go_upon | go_back)
            go_ret2
            first | exact WrongIs.no (by decide) R.out X3.out.bel | exact WrongIs.no (by decide) R.out X2.out.bel
          · have R : Hid (v = f2V wN x.es i) := Lib.hid (G2.out F1A.out i hlt (by rw [HQ.out]; decide) A2.out)
            rw [HQ.out] at R
            clear REN RWS G2 G3 G4
            repeat (first
              | (go_at_call 28; (with_reducible refine (KD.out _).mono ?_); rintro r w2 ⟨rfl, k2⟩; have X2 := Lib.hid (X1.out.next k2); have Y2 := Lib.hid (Y.out.next k2); clear k2 y0 y1 y2 y3 y4 y5 y6 y7 y8 y9 y10 y11; obtain ⟨y0, y1, y2, y3, y4, y5, y6, y7, y8, y9, y10, y11⟩ := cells12 Y2.out.blk; simp only [])
              | (go_at_call 29; (with_reducible refine (NM.out rfl _).mono ?_); rintro r w3 ⟨rfl, k3⟩; have X3 := Lib.hid (X2.out.next k3); have Y3 := Lib.hid (Y2.out.next k3); clear k3 y0 y1 y2 y3 y4 y5 y6 y7 y8 y9 y10 y11; obtain ⟨y0, y1, y2, y3, y4, y5, y6, y7, y8, y9, y10, y11⟩ := cells12 Y3.out.blk; simp only [])
              | go_values | go_skip | go_guarded | go_step | go_upon | go_back)
            go_ret2
            first | exact WrongIs.no (by decide) R.out X3.out.bel | exact WrongIs.no (by decide) R.out X2.out.bel
          · have R : Hid (v = f2V wN x.es i) := Lib.hid (G2.out F1A.out i hlt (by rw [HQ.out]; decide) A2.out)
            rw [HQ.out] at R
            clear REN RWS G2 G3 G4
            repeat (first
              | (go_at_call 28; (with_reducible refine (KD.out _).mono ?_); rintro r w2 ⟨rfl, k2⟩; have X2 := Lib.hid (X1.out.next k2); have Y2 := Lib.hid (Y.out.next k2); clear k2 y0 y1 y2 y3 y4 y5 y6 y7 y8 y9 y10 y11; obtain ⟨y0, y1, y2, y3, y4, y5, y6, y7, y8, y9, y10, y11⟩ := cells12 Y2.out.blk; simp only [])
              | (go_at_call 29; (with_reducible refine (NM.out rfl _).mono ?_); rintro r w3 ⟨rfl, k3⟩; have X3 := Lib.hid (X2.out.next k3); have Y3 := Lib.hid (Y2.out.next k3); clear k3 y0 y1 y2 y3 y4 y5 y6 y7 y8 y9 y10 y11; obtain ⟨y0, y1, y2, y3, y4, y5, y6, y7, y8, y9, y10, y11⟩ := cells12 Y3.out.blk; simp only [])
              | go_values | go_skip | go_guarded | go_step | go_upon | go_back)
            go_ret2
            first | exact WrongIs.no (by decide) R.out X3.out.bel | exact WrongIs.no (by decide) R.out X2.out.bel
          · have R : Hid (v = f2V wN x.es i) := Lib.hid (G2.out F1A.out i hlt (by rw [HQ.out]; decide) A2.out)
            rw [HQ.out] at R
            clear REN RWS G2 G3 G4
            repeat (first
              | (go_at_call 28; (with_reducible refine (KD.out _).mono ?_); rintro r w2 ⟨rfl, k2⟩; have X2 := Lib.hid (X1.out.next k2); have Y2 := Lib.hid (Y.out.next k2); clear k2 y0 y1 y2 y3 y4 y5 y6 y7 y8 y9 y10 y11; obtain ⟨y0, y1, y2, y3, y4, y5, y6, y7, y8, y9, y10, y11⟩ := cells12 Y2.out.blk; simp only [])
              | (go_at_call 29; (with_reducible refine (NM.out rfl _).mono ?_); rintro r w3 ⟨rfl, k3⟩; have X3 := Lib.hid (X2.out.next k3); have Y3 := Lib.hid (Y2.out.next k3); clear k3 y0 y1 y2 y3 y4 y5 y6 y7 y8 y9 y10 y11; obtain ⟨y0, y1, y2, y3, y4, y5, y6, y7, y8, y9, y10, y11⟩ := cells12 Y3.out.blk; simp only [])
              | go_values | go_skip | go_guarded | go_step | go_upon | go_back)
            go_ret2
            first | exact WrongIs.no (by decide) R.out X3.out.bel | exact WrongIs.no (by decide) R.out X2.out.bel
          rcases ways with ⟨b5, b6, rfl⟩ | ⟨⟨b5, rfl⟩ | b5, ways⟩
          · have R : Hid (v = f2V wN x.es i) := Lib.hid (G2.out F1A.out i hlt (by rw [HQ.out]; decide) A2.out)
            rw [HQ.out] at R
            clear REN RWS G2 G3 G4
            repeat (first
              | (go_at_call 28; (with_reducible refine (KD.out _).mono ?_); rintro r w2 ⟨rfl, k2⟩; have X2 := Lib.hid (X1.out.next k2); have Y2 := Lib.hid (Y.out.next k2); clear k2 y0 y1 y2 y3 y4 y5 y6 y7 y8 y9 y10 y11; obtain ⟨y0, y1, y2, y3, y4, y5, y6, y7, y8, y9, y10, y11⟩ := cells12 Y2.out.blk; simp only [])
              | (go_at_call 29; (with_reducible refine (NM.out rfl _).mono ?_); rintro r w3 ⟨rfl, k3⟩; have X3 := Lib.hid (X2.out.next k3); have Y3 := Lib.hid (Y2.out.next k3); clear k3 y0 y1 y2 y3 y4 y5 y6 y7 y8 y9 y10 y11; obtain ⟨y0, y1, y2, y3, y4, y5, y6, y7, y8, y9, y10, y11⟩ := cells12 Y3.out.blk; simp only [])
              | go_values | go_skip | go_guarded | go_step | go_upon | go_back)
            go_ret2
            first | exact WrongIs.no (by decide) R.out X3.out.bel | exact WrongIs.no (by decide) R.out X2.out.bel
          all_goals
            rcases ways with ⟨rfl, b7, rfl⟩ | ⟨rfl, b7, rfl⟩ | ⟨rfl, b7, rfl⟩ | ⟨rfl, b7, ways⟩
            · have R : Hid (v = f2V wN x.es i) := Lib.hid (G2.out F1A.out i hlt (by rw [HQ.out]; decide) A2.out)
              rw [HQ.out] at R
              clear REN RWS G2 G3 G4
              repeat (first
                | (go_at_call 28; (with_reducible refine (KD.out _).mono ?_); rintro r w2 ⟨rfl, k2⟩; have X2 := Lib.hid (X1.out.next k2); have Y2 := Lib.hid (Y.out.next k2); clear k2 y0 y1 y2 y3 y4 y5 y6 y7 y8 y9 y10 y11; obtain ⟨y0, y1, y2, y3, y4, y5, y6, y7, y8, y9, y10, y11⟩ := cells12 Y2.out.blk; simp only [])
                | (go_at_call 29; (with_reducible refine (NM.out rfl _).mono ?_); rintro r w3 ⟨rfl, k3⟩; have X3 := Lib.hid (X2.out.next k3); have Y3 := Lib.hid (Y2.out.next k3); clear k3 y0 y1 y2 y3 y4 y5 y6 y7 y8 y9 y10 y11; obtain ⟨y0, y1, y2, y3, y4, y5, y6, y7, y8, y9, y10, y11⟩ := cells12 Y3.out.blk; simp only [])
                | go_values | go_skip | go_guarded | go_step | go_upon | go_back)
              go_ret2
              first | exact WrongIs.no (by decide) R.out X3.out.bel | exact WrongIs.no (by decide) R.out X2.out.bel
            · have R : Hid (v = f2V wN x.es i) := Lib.hid (G2.out F1A.out i hlt (by rw [HQ.out]; decide) A2.out)
              rw [HQ.out] at R
              clear REN RWS G2 G3 G4
              repeat (first
                | (go_at_call 28; (with_reducible refine (KD.out _).mono ?_); rintro r w2 ⟨rfl, k2⟩; have X2 := Lib.hid (X1.out.next k2); have Y2 := Lib.hid (Y.out.next k2); clear k2 y0 y1 y2 y3 y4 y5 y6 y7 y8 y9 y10 y11; obtain ⟨y0, y1, y2, y3, y4, y5, y6, y7, y8, y9, y10, y11⟩ := cells12 Y2.out.blk; simp only [])
                | (go_at_call 29; (with_reducible refine (NM.out rfl _).mono ?_); rintro r w3 ⟨rfl, k3⟩; have X3 := Lib.hid (X2.out.next k3); have Y3 := Lib.hid (Y2.out.next k3); clear k3 y0 y1 y2 y3 y4 y5 y6 y7 y8 y9 y10 y11; obtain ⟨y0, y1, y2, y3, y4, y5, y6, y7, y8, y9, y10, y11⟩ := cells12 Y3.out.blk; simp only [])
                | go_values | go_skip | go_guarded | go_step | go_upon | go_back)
              go_ret2
              first | exact WrongIs.no (by decide) R.out X3.out.bel | exact WrongIs.no (by decide) R.out X2.out.bel
            · clear REN RWS G2 G3 G4
              repeat (first
                | (go_at_call 28; (with_reducible refine (KD.out _).mono ?_); rintro r w2 ⟨rfl, k2⟩; have X2 := Lib.hid (X1.out.next k2); have Y2 := Lib.hid (Y.out.next k2); clear k2 y0 y1 y2 y3 y4 y5 y6 y7 y8 y9 y10 y11; obtain ⟨y0, y1, y2, y3, y4, y5, y6, y7, y8, y9, y10, y11⟩ := cells12 Y2.out.blk; simp only [])
                | (go_at_call 29; (with_reducible refine (NM.out rfl _).mono ?_); rintro r w3 ⟨rfl, k3⟩; have X3 := Lib.hid (X2.out.next k3); have Y3 := Lib.hid (Y2.out.next k3); clear k3 y0 y1 y2 y3 y4 y5 y6 y7 y8 y9 y10 y11; obtain ⟨y0, y1, y2, y3, y4, y5, y6, y7, y8, y9, y10, y11⟩ := cells12 Y3.out.blk; simp only [])
                | go_values | go_skip | go_guarded | go_step | go_upon | go_back)
              go_round
              case rel => first | exact ⟨i + 1, rfl, by omega, NX2.out HQ.out, X3.out⟩ | exact ⟨i + 1, rfl, by omega, NX2.out HQ.out, X2.out⟩
              case measure => simp [intOf]; omega
            rcases ways with ⟨rfl, rfl⟩ | ⟨rfl, b8, rfl⟩ | ⟨rfl, b8, b9, rfl⟩ | ⟨rfl, b8, b9, rfl⟩
            · have R : Hid (v = f2V wN x.es i) := Lib.hid (G2.out F1A.out i hlt (by rw [HQ.out]; decide) A2.out)
              rw [HQ.out] at R
              clear REN RWS G2 G3 G4
              repeat (first
                | (go_at_call 28; (with_reducible refine (KD.out _).mono ?_); rintro r w2 ⟨rfl, k2⟩; have X2 := Lib.hid (X1.out.next k2); have Y2 := Lib.hid (Y.out.next k2); clear k2 y0 y1 y2 y3 y4 y5 y6 y7 y8 y9 y10 y11; obtain ⟨y0, y1, y2, y3, y4, y5, y6, y7, y8, y9, y10, y11⟩ := cells12 Y2.out.blk; simp only [])
                | (go_at_call 29; (with_reducible refine (NM.out rfl _).mono ?_); rintro r w3 ⟨rfl, k3⟩; have X3 := Lib.hid (X2.out.next k3); have Y3 := Lib.hid (Y2.out.next k3); clear k3 y0 y1 y2 y3 y4 y5 y6 y7 y8 y9 y10 y11; obtain ⟨y0, y1, y2, y3, y4, y5, y6, y7, y8, y9, y10, y11⟩ := cells12 Y3.out.blk; simp only [])
                | go_values | go_skip | go_guarded | go_step | go_upon | go_back)
              go_ret2
              first | exact WrongIs.no (by decide) R.out X3.out.bel | exact WrongIs.no (by decide) R.out X2.out.bel
            · have R : Hid (v = f2V wN x.es i) := Lib.hid (G2.out F1A.out i hlt (by rw [HQ.out]; decide) A2.out)
              rw [HQ.out] at R
              clear REN RWS G2 G3 G4
              repeat (first
                | (go_at_call 28; (with_reducible refine (KD.out _).mono ?_); rintro r w2 ⟨rfl, k2⟩; have X2 := Lib.hid (X1.out.next k2); have Y2 := Lib.hid (Y.out.next k2); clear k2 y0 y1 y2 y3 y4 y5 y6 y7 y8 y9 y10 y11; obtain ⟨y0, y1, y2, y3, y4, y5, y6, y7, y8, y9, y10, y11⟩ := cells12 Y2.out.blk; simp only [])
                | (go_at_call 29; (with_reducible refine (NM.out rfl _).mono ?_); rintro r w3 ⟨rfl, k3⟩; have X3 := Lib.hid (X2.out.next k3); have Y3 := Lib.hid (Y2.out.next k3); clear k3 y0 y1 y2 y3 y4 y5 y6 y7 y8 y9 y10 y11; obtain ⟨y0, y1, y2, y3, y4, y5, y6, y7, y8, y9, y10, y11⟩ := cells12 Y3.out.blk; simp only [])
                | go_values | go_skip | go_guarded | go_step | go_upon | go_back)
              go_ret2
              first | exact WrongIs.no (by decide) R.out X3.out.bel | exact WrongIs.no (by decide) R.out X2.out.bel
            · have R : Hid (v = f2V wN x.es i) := Lib.hid (G2.out F1A.out i hlt (by rw [HQ.out]; decide) A2.out)
              rw [HQ.out] at R
              clear REN RWS G2 G3 G4
              repeat (first
                | (go_at_call 28; (with_reducible refine (KD.out _).mono ?_); rintro r w2 ⟨rfl, k2⟩; have X2 := Lib.hid (X1.out.next k2); have Y2 := Lib.hid (Y.out.next k2); clear k2 y0 y1 y2 y3 y4 y5 y6 y7 y8 y9 y10 y11; obtain ⟨y0, y1, y2, y3, y4, y5, y6, y7, y8, y9, y10, y11⟩ := cells12 Y2.out.blk; simp only [])
                | (go_at_call 29; (with_reducible refine (NM.out rfl _).mono ?_); rintro r w3 ⟨rfl, k3⟩; have X3 := Lib.hid (X2.out.next k3); have Y3 := Lib.hid (Y2.out.next k3); clear k3 y0 y1 y2 y3 y4 y5 y6 y7 y8 y9 y10 y11; obtain ⟨y0, y1, y2, y3, y4, y5, y6, y7, y8, y9, y10, y11⟩ := cells12 Y3.out.blk; simp only [])
                | go_values | go_skip | go_guarded | go_step | go_upon | go_back)
              go_ret2
              first | exact WrongIs.no (by decide) R.out X3.out.bel | exact WrongIs.no (by decide) R.out X2.out.bel
            · clear REN RWS G2 G3 G4
              repeat (first
                | (go_at_call 28; (with_reducible refine (KD.out _).mono ?_); rintro r w2 ⟨rfl, k2⟩; have X2 := Lib.hid (X1.out.next k2); have Y2 := Lib.hid (Y.out.next k2); clear k2 y0 y1 y2 y3 y4 y5 y6 y7 y8 y9 y10 y11; obtain ⟨y0, y1, y2, y3, y4, y5, y6, y7, y8, y9, y10, y11⟩ := cells12 Y2.out.blk; simp only [])
                | (go_at_call 29; (with_reducible refine (NM.out rfl _).mono ?_); rintro r w3 ⟨rfl, k3⟩; have X3 := Lib.hid (X2.out.next k3); have Y3 := Lib.hid (Y2.out.next k3); clear k3 y0 y1 y2 y3 y4 y5 y6 y7 y8 y9 y10 y11; obtain ⟨y0, y1, y2, y3, y4, y5, y6, y7, y8, y9, y10, y11⟩ := cells12 Y3.out.blk; simp only [])
                | go_values | go_skip | go_guarded | go_step | go_upon | go_back)
              go_round
              case rel => first | exact ⟨i + 1, rfl, by omega, NX2.out HQ.out, X3.out⟩ | exact ⟨i + 1, rfl, by omega, NX2.out HQ.out, X2.out⟩
              case measure => simp [intOf]; omega
        · have hin : n = i := by omega
          subst hin
          have hii : ¬ ((n : Nat) : Int) < (n : Int) := by omega
          have F2A := Lib.hid A2.out
          clear A2 wi hlt G2
          repeat (first
            | (go_at_call 12; (with_reducible refine (RWS.out _ X.out.bel).mono ?_); rintro r wB ⟨v12, rfl, hrows, kB⟩
               obtain ⟨l, hOw, hRk⟩ := hrows
               have hll : l.length = n := by rw [hRk.1, HN.out]
               obtain ⟨r0, hr0⟩ : ∃ r0, l[0]? = some r0 := ⟨_, List.getElem?_eq_getElem (by have := HN0.out; omega)⟩
               rw [hll] at hOw
               obtain ⟨g12, c12, rfl, -, -, -, -⟩ := rws_cells hOw hll hr0
               have XB := Lib.hid (X.out.next kB)
               have OWB := Lib.hid hOw
               have RKB := Lib.hid hRk
               have LL := Lib.hid hll
               clear hOw hRk hr0 kB hll c0 c1 c2
               simp only [])
            | go_values | go_skip | go_guarded | go_step | go_upon | go_back)
          clear hii RWS X
          go_loopw [13, 14] (fun v13 vi wq => ∃ (i : Nat) (c : Nat) (A : Option Addr), vi = .int .i64 i ∧ v13 = .slice A i c ∧ i ≤ n - 1 ∧ wq.ownsRow wB.heap.size 3 1 (.slice A i c) i (((x.es.take i).map (aW x)).map fun n => Value.int .i64 n) ∧ Below wB.heap.size wB wq) (fun _ vi _ => n - (intOf vi).toNat)
          case atStart => exact ⟨0, 0, none, rfl, rfl, Nat.zero_le _, World.ownsRow_nil _ _ _ _, Below.refl _ _⟩
          case round =>
            obtain ⟨i, cc, A, rfl, rfl, i1, hOw, hb⟩ := hrel
            have OI := Lib.hid hOw
            have KB := Lib.hid hb
            have n0 := HN0.out
            have wi : IntKind.i64.wrap ((i : Int) + 1) = (i : Int) + 1 := IntWalk.i64_in _ (by omega)
            clear hOw hb
            by_cases hlt : i + 1 < n
            · have hii : (i : Int) + 1 < (n : Int) := by omega
              have hii2 : (i : Int) < (n : Int) := by omega
              obtain ⟨e, he⟩ : ∃ e, x.es[i]? = some e := ⟨_, List.getElem?_eq_getElem (by rw [HN.out]; omega)⟩
              have XQ := Lib.hid (XB.out.next KB.out)
              obtain ⟨c0, c1, c2⟩ := cel3 XQ.out.blk
              obtain ⟨L, off, haz, hL', x0, x1, x2, x3, x4, x5, x6, x7, x8, x9, x10, x11⟩ := era_cells (HX.out.es.next XQ.out.bel) he
              rw [haz] at c1
              obtain ⟨r, hr⟩ : ∃ r, l[i]? = some r := ⟨_, List.getElem?_eq_getElem (by rw [LL.out]; omega)⟩
              obtain ⟨g', c', e1, -, hg', q0, q1⟩ := rws_cells (OWB.out.kept (grown_of_bel KB.out none) (by simp [Value.ownBlock])) LL.out hr
              cases e1
              obtain ⟨hp, hlt2⟩ := RKB.out.2 i e r he hr
              have hp' := hp.next KB.out
              obtain ⟨ar, nr, cr, hsl⟩ := pout_slice hp'
              rw [hsl] at q0 hp'
              rw [hlt2] at q1
              have RE := Lib.hid (fun W (k : Below wr.heap.size wr W) => REN.out i e he (F2A.out i (by omega)) hlt W _ (hp'.next k))
              have HSN : Hid ((x.es.take (i + 1)).map (aW x) = (x.es.take i).map (aW x) ++ [aW x e]) := Lib.hid (by rw [take_snoc he, List.map_append]; rfl)
              clear he haz hr hp hlt2 hp' hsl hL' hg'
              generalize psR x e = pse at RE
              generalize ltR x e = lte at RE q1
              generalize aW x e = a0 at RE HSN
              obtain ⟨of, rl, sv, fm, en, uy, um, dk, dw, dn, sc, ck⟩ := e
              unfold evV cE at RE
              simp only at RE x0 x1 x2 x3 x4 x5 x6 x7 x8 x9 x10 x11
              have d0 := bel_cell x0
              have d1 := bel_cell x1
              have d2 := bel_cell x2
              have d3 := bel_cell x3
              have d4 := bel_cell x4
              have d5 := bel_cell x5
              have d6 := bel_cell x6
              have d7 := bel_cell x7
              have d8 := bel_cell x8
              have d9 := bel_cell x9
              have d10 := bel_cell x10
              have d11 := bel_cell x11
              have d12 := bel_cell c1
              have d13 := bel_cell q0
              have d14 := bel_cell q1
              have l9 : i ≤ 100000 := by omega
              clear REN G3 G4
              repeat (first | go_values | go_skip | go_guarded | go_step | go_upon | go_back)
              clear x0 x1 x2 x3 x4 x5 x6 x7 x8 x9 x10 x11 c0 c1 c2 q0 q1
              refine region_late 11 _ (.slice A i cc) rfl mixed (by kernel_rfl) (.inl ⟨rfl, fun _ => rfl⟩) ?_
              simp only [List.take_succ_cons, List.take_zero, List.drop_succ_cons, List.drop_zero, Nat.reduceSub]
              repeat (with_reducible refine wpQuiet_step ?_; intro K hK; go_simp; (with_reducible refine hK _ ?_); clear hK K)
              with_reducible refine wpQuiet_nil ?_
              rintro w6 ⟨x6, hx6⟩
              have k6 : Below wr.heap.size wr w6 := hx6 ▸ x6.k
              have K6 := Lib.hid k6
              clear hx6 x6 k6 d0 d1 d2 d3 d4 d5 d6 d7 d8 d9 d10 d11 d12 d13 d14
              repeat (first
                | (go_at_call 30; (with_reducible refine (RE.out _ K6.out).mono ?_); rintro r w7 ⟨rfl, k7⟩
                   have K7 := Lib.hid (K6.out.trans (k7.mono K6.out.size))
                   have K8 := Lib.hid (bmk K7.out (.cells #[.int .i64 a0] 3))
                   have p1 : (w7.alloc (.cells #[.int .i64 a0] 3)).cell? ⟨w7.heap.size, 0, none⟩ = some (.int .i64 a0) := by simp
                   have O8 := Lib.hid (OI.out.kept (grown_of_bel K8.out none) (by cases A <;> simp [Value.ownBlock]))
                   clear k7
                   simp only [])
                | (at_builtin; refine wpList_zpush (by rfl) (.tmp 134) (.tmp 146) (by rfl) rfl O8.out (by rfl) ⟨w7.heap.size, 0, none⟩ _ (by rfl) (by rfl) p1 l9 (by have := K7.out.size; have := KB.out.size; simp; omega) ?_; intro A' c'' w' hown hg
                   have OW' := Lib.hid hown
                   have KF := Lib.hid ((KB.out.trans (K8.out.mono KB.out.size)).grown hg (by have := K8.out.size; have := KB.out.size; omega) (fun j hj => by have := (O8.out.lt j hj).1; omega))
                   clear hown hg)
                | go_values | go_skip | go_guarded | go_step | go_upon | go_back)
              simp only [calmQ]
              repeat (first | go_values | go_skip | go_guarded | go_step | go_upon | go_back)
              go_round
              case rel => exact ⟨i + 1, c'', A', rfl, rfl, by omega, by rw [HSN.out, List.map_append]; exact OW'.out, KF.out⟩
              case measure => simp [intOf]; omega
            · have hin : i = n - 1 := by omega
              subst hin
              have hii : ¬ ((n - 1 : Nat) : Int) + 1 < (n : Int) := by omega
              obtain ⟨m, hm⟩ : ∃ m, n - 1 = m := ⟨_, rfl⟩
              rw [hm] at OI hii wi
              simp only [hm]
              have HEN : Hid ((x.es.take m).map (aW x) = endsV (aW x) x.es x.es.length) := Lib.hid (by unfold endsV; rw [HN.out, show min n (n - 1) = m by omega])
              have hmn : m + 1 = n := by omega
              have XQ := Lib.hid (XB.out.next KB.out)
              have EQ3 : Hid (∀ j, 0 < j → j < m → ∀ a b, ((x.es.take m).map (aW x))[j]? = some a → ((x.es.take m).map (aW x))[j - 1]? = some b → f3V (aW x) x.es j = if a ≤ b then 17 else 0) := Lib.hid fun j h0 hj a b ha hb => by
                obtain ⟨ea, hea⟩ : ∃ e, x.es[j]? = some e := ⟨_, List.getElem?_eq_getElem (by rw [HN.out]; omega)⟩
                obtain ⟨eb, heb⟩ : ∃ e, x.es[j - 1]? = some e := ⟨_, List.getElem?_eq_getElem (by rw [HN.out]; omega)⟩
                rw [List.getElem?_map, List.getElem?_take_of_lt (by omega), hea] at ha
                rw [List.getElem?_map, List.getElem?_take_of_lt (by omega), heb] at hb
                cases ha
                cases hb
                unfold f3V
                rw [eD_at hea, eD_at heb, HN.out]
                by_cases hle : aW x ea ≤ aW x eb
                · rw [if_pos ⟨by omega, h0, hle⟩, if_pos hle]
                · rw [if_neg (fun h => hle h.2.2), if_neg hle]
              have LEN : ((x.es.take m).map (aW x)).length = m := by rw [List.length_map, List.length_take, HN.out]; omega
              generalize (x.es.take m).map (aW x) = L at OI HEN EQ3 LEN
              clear hm i1 n0 REN OWB RKB LL
              repeat (first | go_values | go_skip | go_guarded | go_step | go_upon | go_back)
              generalize wr = wC at *
              go_loopw [15] (fun vi wz => ∃ j : Nat, vi = .int .i64 j ∧ 1 ≤ j ∧ j ≤ n ∧ (∀ q, q < j → f3V (aW x) x.es q = 0) ∧ Below wC.heap.size wC wz) (fun vi _ => n - (intOf vi).toNat)
              case atStart => exact ⟨1, rfl, Nat.le_refl _, by omega, fun q hq => by
                obtain rfl : q = 0 := by omega
                unfold f3V; rw [if_neg (fun h => absurd h.2.1 (by omega))], Below.refl _ _⟩
              case round =>
                obtain ⟨j, rfl, j1, j2, ha, hb⟩ := hrel
                have A3 := Lib.hid ha
                have KC := Lib.hid hb
                clear ha hb
                have wj : IntKind.i64.wrap ((j : Int) + 1) = (j : Int) + 1 := IntWalk.i64_in _ (by omega)
                by_cases hlt4 : j < m
                · have hjj : (j : Int) < (m : Int) := by omega
                  obtain ⟨k, rfl⟩ : ∃ k, j = k + 1 := ⟨j - 1, by omega⟩
                  have hkk : (k : Int) < (m : Int) := by omega
                  have hjj2 : (k : Int) + 1 < (m : Int) := by omega
                  have tn : ((k : Int) + 1).toNat = k + 1 := by omega
                  have wk2 : IntKind.i64.wrap ((k : Int) + 1 - 1) = (k : Int) := by rw [show (k : Int) + 1 - 1 = (k : Int) by omega]; exact IntWalk.i64_in _ (by omega)
                  have n0 : (0 : Int) ≤ (k : Int) + 1 := by omega
                  have wk3 : IntKind.i64.wrap (k : Int) = (k : Int) := IntWalk.i64_in _ (by omega)
                  have wk : IntKind.i64.wrap (((k + 1 : Nat) : Int) - 1) = (k : Int) := by rw [show ((k + 1 : Nat) : Int) - 1 = (k : Int) by omega]; exact IntWalk.i64_in _ (by omega)
                  obtain ⟨ge, cape, rfl, rfl, hce⟩ := wown_cells OI.out (by omega)
                  obtain ⟨a, hla⟩ : ∃ a, L[k + 1]? = some a := ⟨_, List.getElem?_eq_getElem (by rw [LEN]; omega)⟩
                  obtain ⟨b, hlb⟩ : ∃ b, L[k]? = some b := ⟨_, List.getElem?_eq_getElem (by rw [LEN]; omega)⟩
                  have q1 := hce (k + 1) (.int .i64 a) (by rw [List.getElem?_map, hla]; rfl)
                  have q2 := hce k (.int .i64 b) (by rw [List.getElem?_map, hlb]; rfl)
                  have d1 := bel_cell ((KC.out.cell (p := ⟨ge, k + 1, none⟩) (cell_lt q1)).trans q1)
                  have d2 := bel_cell ((KC.out.cell (p := ⟨ge, k, none⟩) (cell_lt q2)).trans q2)
                  have F3 := Lib.hid (EQ3.out (k + 1) (by omega) hlt4 a b hla hlb)
                  clear q1 q2 hce hla hlb
                  by_cases hle : a ≤ b
                  · have F3' := F3.out
                    rw [if_pos hle] at F3'
                    have R : Hid (v = 17) := Lib.hid (by have := G3.out F1A.out F2A.out (k + 1) (by omega) (by rw [F3']; decide) A3.out; rw [this, F3'])
                    have dl : decide (a ≤ b) = true := decide_eq_true hle
                    clear hle G3 G4 EQ3 F3' F3
                    repeat (first | go_values | go_skip | go_guarded | go_step | go_upon | go_back)
                    refine region_bel mixed (by kernel_rfl) ?_
                    repeat (with_reducible refine wpQuiet_step ?_; intro K hK; go_simp; (with_reducible refine hK _ ?_); clear hK K)
                    with_reducible refine wpQuiet_nil ?_
                    rintro w8 ⟨x8, hx8⟩
                    have K8 := Lib.hid (KC.out.trans ((hx8 ▸ x8.k : Below wr.heap.size wr w8).mono KC.out.size))
                    clear hx8 x8 d1 d2
                    repeat (first | go_values | go_skip | go_guarded | go_step | go_upon | go_back)
                    go_ret2
                    exact WrongIs.no (by decide) R.out (bthen XQ.out.bel K8.out)
                  · have F3' := F3.out
                    rw [if_neg hle] at F3'
                    have FZ : Hid (∀ q, q < k + 1 + 1 → f3V (aW x) x.es q = 0) := Lib.hid fun q hq => by
                      by_cases hqk : q = k + 1
                      · rw [hqk]; exact F3'
                      · exact A3.out q (by omega)
                    have dl : decide (a ≤ b) = false := decide_eq_false hle
                    clear hle G3 G4 EQ3 F3' F3
                    repeat (first | go_values | go_skip | go_guarded | go_step | go_upon | go_back)
                    refine region_bel mixed (by kernel_rfl) ?_
                    repeat (with_reducible refine wpQuiet_step ?_; intro K hK; go_simp; (with_reducible refine hK _ ?_); clear hK K)
                    with_reducible refine wpQuiet_nil ?_
                    rintro w8 ⟨x8, hx8⟩
                    have K8 := Lib.hid (KC.out.trans ((hx8 ▸ x8.k : Below wr.heap.size wr w8).mono KC.out.size))
                    clear hx8 x8 d1 d2
                    repeat (first | go_values | go_skip | go_guarded | go_step | go_upon | go_back)
                    go_round
                    case rel => exact ⟨k + 1 + 1, rfl, by omega, by omega, FZ.out, K8.out⟩
                    case measure => simp [intOf]; omega
                · have hjj : ¬ (j : Int) < (m : Int) := by omega
                  have R : Hid (v = 0) := Lib.hid (G4.out HN0.out F1A.out F2A.out fun q hq => by
                    by_cases hqj : q < j
                    · exact A3.out q hqj
                    · unfold f3V
                      rw [if_neg (fun h => by have := h.1; have := HN.out; omega)])
                  clear G3 G4 EQ3
                  repeat (first | go_values | go_skip | go_guarded | go_step | go_upon | go_back)
                  go_ret2
                  exact ⟨A, m, cc, by rw [R.out]; rfl, fun _ => ⟨by rw [← HEN.out, LEN], by rw [← HEN.out]; exact wown_ints LEN OI.out (fun k hk1 hk2 => KC.out.block k hk2) KC.out.size⟩, fun h => absurd R.out h, bthen XQ.out.bel KC.out⟩
end Go.Proofs.YtdmfgechoanmlaaGreatDoor
