/- The contract of the law's Rows: the firings of each era's rules, by the document's answer.
What the law's wrong asks of a world, plain; and what it calls.
What the law ZoneShows calls at one instant of a world in which nothing is wrong: which era it is, and what it shows, by each of both answers.
For whatever world and instants the law ZoneShows returns true: where its first tests keep them out. -/
import Derived.Test.YtdmfgechoanmlaaGreatDoorMYE
import Derived.Test.YtdmfgechoanmlaaGreatDoorMXA
import Derived.Test.YtdmfgechoanmlaaGreatDoorMYB
namespace Go.Proofs.YtdmfgechoanmlaaGreatDoor
open Go Go.RowKit Go.Sort
attribute [local go_sem] Oper.semAt_some

/-- A row: its firings' value, and the letter. -/
abbrev RW := Value × List UInt8
def cRw (r : RW) : List Value := [r.1, .string ⟨r.2.toArray⟩]
theorem cRw_len (r : RW) : (cRw r).length = 2 := rfl
theorem rw_info : (Tryz.prog.info? 57).map (fun i => (i.zero, i.size, i.bytes)) = some (some (.agg #[.slice none 0 0, .string ⟨#[]⟩]), 2, 40) := by kernel_rfl
def psR (x : WV) (e : EV) : List PV := if e.rl.isEmpty then [] else psW (ofW x e.rl)
def ltR (x : WV) (e : EV) : List UInt8 := if e.rl.isEmpty then [] else ltrL (ofW x e.rl).rs (ofW x e.rl).rs.length
/-- Values of rows that belong to eras. -/
def RwsOk (x : WV) (es : List EV) (l : List RW) (W : World) : Prop := l.length = es.length ∧ ∀ (i : Nat) (e : EV) (r : RW), es[i]? = some e → l[i]? = some r → POut r.1 (psR x e) W ∧ r.2 = ltR x e
theorem RwsOk.next {x : WV} {es : List EV} {l : List RW} {W W' : World} (h : RwsOk x es l W) (k : Below W.heap.size W W') : RwsOk x es l W' := ⟨h.1, fun i e r he hr => ⟨(h.2 i e r he hr).1.next k, (h.2 i e r he hr).2⟩⟩
theorem POut.kept {v : Value} {l : List PV} {W W' : World} {r : Option Nat} (h : POut v l W) (hg : W.grownBy W' r) (hr : ∀ k, r = some k → ∃ a n c, W.cell? ⟨k, 0, none⟩ = some (.slice a n c)) : POut v l W' := by
  rcases h with h | ⟨g, c', e, hp, hc⟩
  · exact .inl h
  · refine .inr ⟨g, c', e, fun k p hk => ?_, hc⟩
    obtain ⟨L, off, e1, hL, hcell⟩ := hp k p hk
    refine ⟨L, off, e1, Nat.lt_of_lt_of_le hL hg.size, fun j u hj hu => ?_⟩
    have hne : some L ≠ r := by
      intro hLr
      obtain ⟨a, n, c, hB⟩ := hr L hLr.symm
      cases e1
      cases l with
      | nil => simp at hk
      | cons q l =>
        obtain ⟨L', off', e', -, hcell'⟩ := hp 0 q rfl
        cases e'
        have := hcell' 0 _ (by omega) (show (cP q).toArray[0]? = some (.int .i64 q.1.nm) from rfl)
        simp only [Nat.zero_mul, Nat.add_zero] at this
        rw [hB] at this
        cases this
    have hb := hg.block L hL hne
    have := hcell j u hj hu
    unfold World.cell? at this ⊢
    rw [hb]; exact this
theorem pout_slice {v : Value} {l : List PV} {W : World} (h : POut v l W) : ∃ a n c, v = .slice a n c := by
  obtain ⟨A, c, e, -, -⟩ := pout_form h rfl
  exact ⟨A, _, c, e⟩
theorem cRw_one {r : RW} (h : ∃ a n c, r.1 = .slice a n c) : ∀ u ∈ cRw r, u.oneCell' = true := by
  obtain ⟨a, n, c, h⟩ := h
  intro u hu
  simp [cRw] at hu
  rcases hu with rfl | rfl
  · rw [h]; rfl
  · rfl
/-- A row's cells lie in the own list. -/
theorem rws_cells {W : World} {b n : Nat} {v : Value} {l : List RW} (h : W.ownsRow b 57 2 v n (fcl cRw l)) (hn : l.length = n) {i : Nat} {r : RW} (hr : l[i]? = some r) :
    ∃ g c, v = .slice (some ⟨g, 0, none⟩) n c ∧ v.ownBlock = some g ∧ g < W.heap.size ∧ W.cell? ⟨g, i * 2, none⟩ = some r.1 ∧ W.cell? ⟨g, i * 2 + 1, none⟩ = some (.string ⟨r.2.toArray⟩) := by
  rcases h.2 with ⟨h0, h1⟩ | ⟨g', cap, cur, e1, -, hb, hn', -, -, hc⟩
  · have := (List.getElem?_eq_some_iff.1 hr).1
    omega
  · have at' : ∀ j u, j < 2 → (cRw r)[j]? = some u → W.cell? ⟨g', i * 2 + j, none⟩ = some u := fun j u hj hu => by
      have := fcl_at cRw_len hr hj
      rw [← hc, List.getElem?_take] at this
      rw [hu] at this
      split at this
      · have hcl := cell_of_row W g' (i * 2 + j) _ _ _ hb
        rw [hcl, ← this]; simp
      · cases this
    refine ⟨g', cap, e1, by rw [e1]; rfl, (Array.getElem?_eq_some_iff.1 hb).1, ?_, at' 1 _ (by omega) rfl⟩
    have := at' 0 _ (by omega) rfl
    simpa using this
/-- One row behind an own list of rows. -/
theorem wpList_rwpush {w : World} {ops : Array Oper} {rest : List Oper} {o : Oper} {a : Act} {Q : Exit → Act → World → Prop} (hgd : o.guard = none) (s x : Operand)
    (ho : o.op = .call { callee := .builtin .append, args := #[s, x], argTypes := #[38, 38] }) {b : Nat} {v1 : Value} {l1 : List RW} (X : w.ownsRow b 57 2 v1 l1.length (fcl cRw l1))
    (hs : a.eval s = v1) (ad : Addr) (r : RW) (hr1 : ∃ a n c, r.1 = .slice a n c) (hx : a.eval x = .slice (some ad) 1 1) (hb : ∀ j u, (cRw r)[j]? = some u → w.cell? (ad.add j) = some u) (hl : l1.length ≤ 100) (hbase : b ≤ w.heap.size)
    (h : ∀ v' w', w'.ownsRow b 57 2 v' (l1 ++ [r]).length (fcl cRw (l1 ++ [r])) → w.grownBy w' v1.ownBlock → wpList Tryz.prog ops Q rest (a.put o.dst v') w') : wpList Tryz.prog ops Q (o :: rest) a w := by
  obtain ⟨i0, hi0, hz0, hz1, hz2⟩ := info_parts rw_info
  refine wpList_append_own_at _ hgd s x _ ho b 57 i0 _ 2 40 Tryz.underlying38 hi0 hz0 hz1 hz2 rfl (by omega) v1 l1.length (fcl cRw l1) hs X ad 1 1 (cRw r) hx rfl hb (cRw_one hr1) (by simp only [maxLen]; omega) (by omega) hbase ?_
  intro v' w' hown hg _ hw
  exact h v' w' (by rw [List.length_append, fcl_app]; simpa [fcl] using hown) hg
theorem rw_new (W : World) (p : RW) (t : TypeId) : ∀ j u, (cRw p)[j]? = some u → (W.alloc (.cells #[p.1, .string ⟨p.2.toArray⟩] t)).cell? ((⟨W.heap.size, 0, none⟩ : Addr).add j) = some u := by
  intro j u hu
  have h := heap_alloc_new W (.cells #[p.1, .string ⟨p.2.toArray⟩] t)
  have := cell_of_row _ W.heap.size j _ _ _ h
  have e : (⟨W.heap.size, 0, none⟩ : Addr).add j = ⟨W.heap.size, j, none⟩ := by cases j <;> simp [Addr.add]
  rw [e, this]
  simpa [cRw] using hu
theorem RwsOk.snoc {x : WV} {es : List EV} {l : List RW} {W : World} {i : Nat} {e : EV} {r : RW} (h : RwsOk x (es.take i) l W) (he : es[i]? = some e) (h1 : POut r.1 (psR x e) W) (h2 : r.2 = ltR x e) : RwsOk x (es.take (i + 1)) (l ++ [r]) W := by
  obtain ⟨hi, hh⟩ := List.getElem?_eq_some_iff.1 he
  have hl : (es.take i).length = i := by rw [List.length_take]; omega
  have ht : es.take (i + 1) = es.take i ++ [e] := by rw [List.take_succ_eq_append_getElem hi, hh]
  refine ⟨by rw [ht, List.length_append, List.length_append, h.1]; rfl, fun j f q hf hq => ?_⟩
  rw [ht] at hf
  have hll : l.length = i := by rw [h.1, hl]
  rcases Nat.lt_or_ge j i with hj | hj
  · rw [List.getElem?_append_left (by omega)] at hf hq
    exact h.2 j f q hf hq
  · rw [List.getElem?_append_right (by omega)] at hf hq
    have : j - i = 0 := by
      have := (List.getElem?_eq_some_iff.1 hq).1
      simp at this
      rw [← hll]; exact this
    rw [hl, this] at hf
    rw [hll, this] at hq
    simp at hf hq
    subst hf hq
    exact ⟨h1, h2⟩
theorem setC_sz (W : World) (p : Addr) (v : Value) : (W.setCell p v).heap.size = W.heap.size := by simp
theorem rws_first {x : WV} {es : List EV} {l : List RW} {W : World} {b : Nat} {v : Value} (h : RwsOk x es l W) (ho : W.ownsRow b 57 2 v l.length (fcl cRw l)) (h0 : l = [] → v = .slice none 0 0) : ∀ k, v.ownBlock = some k → ∃ a n c, W.cell? ⟨k, 0, none⟩ = some (.slice a n c) := by
  intro k hk
  cases l with
  | nil => rw [h0 rfl] at hk; simp [Value.ownBlock] at hk
  | cons r l =>
    obtain ⟨g, c, -, hg, -, hc, -⟩ := rws_cells ho rfl (i := 0) (r := r) rfl
    rw [hg] at hk
    injection hk with hk
    subst hk
    obtain ⟨e, he⟩ : ∃ e, es[0]? = some e := ⟨_, List.getElem?_eq_getElem (by have := h.1; simp at this; omega)⟩
    obtain ⟨a, n, c', hs⟩ := pout_slice (h.2 0 e r he rfl).1
    rw [Nat.zero_mul, hs] at hc
    exact ⟨a, n, c', hc⟩
theorem RwsOk.kept {x : WV} {es : List EV} {l : List RW} {W W' : World} {r : Option Nat} (h : RwsOk x es l W) (hg : W.grownBy W' r) (hr : ∀ k, r = some k → ∃ a n c, W.cell? ⟨k, 0, none⟩ = some (.slice a n c)) : RwsOk x es l W' := ⟨h.1, fun i e q he hq => ⟨(h.2 i e q he hq).1.kept hg hr, (h.2 i e q he hq).2⟩⟩
/-- What Rows answers: a list of the call's own. -/
def RowsIs (x : WV) (b : Nat) (v : Value) (W : World) : Prop := ∃ l, W.ownsRow b 57 2 v l.length (fcl cRw l) ∧ RwsOk x x.es l W

set_option maxRecDepth 20000 in
set_option maxHeartbeats 2000000 in
theorem lrows_is (x : WV) (w : World) (hX : WvAt x w) (hO : WvOk x) (hF : FewW x) (hL : ∀ s ∈ x.ss, ∀ r ∈ s.rs, r.lt.length ≤ 1000000000000000) :
    Calls Tryz.prog 12 #[wvV x] w fun r w' => ∃ v, r = .returned v ∧ RowsIs x (w.heap.size + 1) v w' ∧ Below w.heap.size w w' := by
  have mixed : Tryz.prog.follows .mixedOrders = true := by kernel_rfl
  have HX := Lib.hid hX
  have OF := Lib.hid (fun nm W (k : Below w.heap.size w W) => wof_is x nm W (hX.next k) hO)
  have AL := Lib.hid (fun nm W (k : Below w.heap.size w W) => rof_is (ofW x nm).a (ofW x nm).rs.length (ofW x nm).c (ofW x nm).rs W ((RlsOk.of hX hF hL nm).rl.next k) rfl (RlsOk.of hX hF hL nm).n6 (fun r hr => ((RlsOk.of hX hF hL nm).ok r hr).1))
  have X0 := Lib.hid (BlkN.make (Below.refl w.heap.size w) #[.string ⟨x.nm.toArray⟩, .slice x.az x.es.length x.cz, .slice x.sa x.ss.length x.cs] 27)
  obtain ⟨c0, c1, c2⟩ := cel3 X0.out.blk
  obtain ⟨n, hn⟩ : ∃ n, x.es.length = n := ⟨_, rfl⟩
  have hn4 : n ≤ 4 := by have := hF.ne; omega
  have HN := Lib.hid hn
  unfold wvV at *
  simp only [hn] at OF X0 c0 c1 c2 ⊢
  clear hX hO hF hL hn
  go_enter Tryz.func12, Tryz.ntmps12
  repeat (first | go_values | go_skip | go_guarded | go_step | go_upon | go_back)
  go_loopw [3, 4] (fun v3 vi wr => ∃ (i : Nat) (l : List RW), vi = .int .i64 i ∧ i ≤ n ∧ wr.ownsRow (w.heap.size + 1) 57 2 v3 l.length (fcl cRw l) ∧ (l = [] → v3 = .slice none 0 0) ∧ RwsOk x (x.es.take i) l wr ∧ BlkN w w.heap.size #[.string ⟨x.nm.toArray⟩, .slice x.az n x.cz, .slice x.sa x.ss.length x.cs] 27 wr) (fun _ vi _ => n - (intOf vi).toNat)
  case atStart => exact ⟨0, [], rfl, Nat.zero_le _, World.ownsRow_nil _ _ _ _, fun _ => rfl, ⟨rfl, fun i e r he => by simp at he⟩, X0.out⟩
  case round =>
    clear X0 c0 c1 c2
    obtain ⟨i, l, rfl, i1, hOw, hne, hRk, hX⟩ := hrel
    obtain ⟨c0, c1, c2⟩ := cel3 hX.blk
    have OW := Lib.hid hOw
    have NE := Lib.hid hne
    have RK := Lib.hid hRk
    have X := Lib.hid hX
    have hll : l.length = i := by rw [hRk.1, List.length_take, HN.out]; omega
    have LL := Lib.hid hll
    clear hOw hne hRk hX hll
    have wi : IntKind.i64.wrap ((i : Int) + 1) = (i : Int) + 1 := IntWalk.i64_in _ (by omega)
    by_cases hlt : i < n
    · have hii : (i : Int) < (n : Int) := by omega
      obtain ⟨e, he⟩ : ∃ e, x.es[i]? = some e := ⟨_, List.getElem?_eq_getElem (by rw [HN.out]; exact hlt)⟩
      have HE := Lib.hid he
      obtain ⟨L, off, haz, hL', x0, x1, -⟩ := era_cells (HX.out.es.next X.out.bel) he
      have HAZ := Lib.hid haz
      rw [haz] at c1
      have R0 := Lib.hid (BlkN.make X.out.bel #[.slice none 0 0, .string ⟨#[]⟩] 57)
      have X1 := Lib.hid (X.out.more (.cells #[.slice none 0 0, .string ⟨#[]⟩] 57))
      have kA : Below wr.heap.size wr (wr.alloc (.cells #[.slice none 0 0, .string ⟨#[]⟩] 57)) := (Below.refl _ wr).alloc (Nat.le_refl _) _
      have K1 := Lib.hid (RK.out.next kA)
      have O1 := Lib.hid (OW.out.kept (grown_of_bel kA none) (by cases u3.ownBlock <;> simp))
      have q1 : (wr.alloc (.cells #[.slice none 0 0, .string ⟨#[]⟩] 57)).cell? ⟨L, off + i * 12 + 1, none⟩ = some (.string ⟨e.rl.toArray⟩) := (kA.cell (p := ⟨L, off + i * 12 + 1, none⟩) hL').trans x1
      obtain ⟨d0, d1, d2⟩ := cel3 X1.out.blk
      rw [haz] at d1
      obtain ⟨r0, r1⟩ := cel2 R0.out.blk
      have l9 : l.length ≤ 100 := by rw [LL.out]; omega
      clear he hL' x0 x1 kA haz
      by_cases hr : e.rl.isEmpty = true
      · have hps : psR x e = [] := by unfold psR; rw [if_pos hr]
        have hlt' : ltR x e = [] := by unfold ltR; rw [if_pos hr]
        have PO : Hid (∀ W, POut (.slice none 0 0) (psR x e) W) := Lib.hid fun W => by rw [hps]; exact .inl ⟨rfl, rfl⟩
        have LT : Hid (([] : List UInt8) = ltR x e) := Lib.hid hlt'.symm
        have O2 := Lib.hid (O1.out.kept (grown_of_bel ((Below.refl _ (wr.alloc (.cells #[.slice none 0 0, .string ⟨#[]⟩] 57))).alloc (Nat.le_refl _) (.cells #[.slice none 0 0, .string ⟨#[]⟩] 57)) none) (by cases u3.ownBlock <;> simp))
        have K2 := Lib.hid (K1.out.next ((Below.refl _ (wr.alloc (.cells #[.slice none 0 0, .string ⟨#[]⟩] 57))).alloc (Nat.le_refl _) (.cells #[.slice none 0 0, .string ⟨#[]⟩] 57)))
        have X2 := Lib.hid (X1.out.more (.cells #[.slice none 0 0, .string ⟨#[]⟩] 57))
        clear hps hlt'
        repeat (first
          | (at_builtin; refine wpList_rwpush rfl (.tmp 33) (.tmp 35) rfl O2.out rfl ⟨wr.heap.size + 1, 0, none⟩ (.slice none 0 0, []) ⟨none, 0, 0, rfl⟩ rfl (fun j u hu => by have := rw_new (wr.alloc (.cells #[.slice none 0 0, .string ⟨#[]⟩] 57)) (.slice none 0 0, []) 57 j u hu; rwa [World.size_alloc] at this) l9 (by have := X.out.bel.size; simp; omega) ?_
             intro v5 w5 hown hg
             have OW5 := Lib.hid hown
             have X5 := Lib.hid (X2.out.gr hg (fun r hr => by have := O2.out.lt r hr; omega))
             have K5 := Lib.hid ((K2.out.kept hg (rws_first K2.out O2.out NE.out)).snoc (r := (.slice none 0 0, [])) HE.out (PO.out w5) LT.out)
             clear hown hg)
          | go_values | go_skip | go_guarded | go_step | go_upon | go_back)
        go_round
        case rel => exact ⟨i + 1, l ++ [(.slice none 0 0, [])], rfl, by omega, OW5.out, fun h => by simp at h, K5.out, X5.out⟩
        case measure => simp [intOf]; omega
      · have hrb : e.rl.isEmpty = false := by simpa using hr
        have hps : psR x e = psW (ofW x e.rl) := by unfold psR; rw [if_neg hr]
        have hlt' : ltR x e = ltrL (ofW x e.rl).rs (ofW x e.rl).rs.length := by unfold ltR; rw [if_neg hr]
        have OFe := Lib.hid (OF.out e.rl)
        rw [HAZ.out] at OFe
        have ALe : Hid (∀ W, Below w.heap.size w W → Calls Tryz.prog 32 #[.slice (ofW x e.rl).a (ofW x e.rl).rs.length (ofW x e.rl).c] W fun r w' => ∃ v, r = .returned (.agg #[v, .string ⟨(ltR x e).toArray⟩]) ∧ POut v (psR x e) w' ∧ Below W.heap.size W w') := Lib.hid (by rw [hps, hlt']; exact AL.out e.rl)
        clear hps hlt' hr
        generalize ofW x e.rl = z at OFe ALe
        have f0 := bel_cell d0
        have f1 := bel_cell d1
        have f2 := bel_cell d2
        have f3 := bel_cell q1
        repeat (first | go_values | go_skip | go_guarded | go_step | go_upon | go_back)
        refine region_tail 8 mixed (by kernel_rfl) ?_
        simp only [List.take_succ_cons, List.take_zero, List.drop_succ_cons, List.drop_zero]
        repeat (quiet_step ((fail)))
        refine wpQuiet_nil ?_
        rintro w6 ⟨x6, hx6⟩
        have k6 : Below _ _ w6 := hx6 ▸ x6.k
        have X6 := Lib.hid (X1.out.next k6)
        have R6 := Lib.hid (R0.out.next k6)
        have K6 := Lib.hid (K1.out.next k6)
        have O6 := Lib.hid (O1.out.kept (grown_of_bel k6 none) (by cases u3.ownBlock <;> simp))
        have RB := Lib.hid R0.out.lt
        clear hx6 x6 k6 f0 f1 f2 f3 c0 c1 c2 d0 d1 d2 q1 r0 r1 X1 R0 K1 O1
        repeat (first
          | (go_at_call 32; (with_reducible refine (ALe.out _ X7.out.bel).mono ?_); rintro r w8 ⟨v, rfl, hv, k8⟩
             obtain ⟨A1, c1', rfl, -, -⟩ := pout_form hv rfl
             have X8 := Lib.hid (X7.out.next k8)
             have R8 := Lib.hid (R7.out.next k8)
             have K8 := Lib.hid (K7.out.next k8)
             have O8 := Lib.hid (O7.out.kept (grown_of_bel k8 none) (by cases u3.ownBlock <;> simp))
             have V8 := Lib.hid hv
             obtain ⟨r0, r1⟩ := cel2 R8.out.blk
             have f0 := frz (j := 0) R8.out.blk
             have f1 := frz (j := 1) R8.out.blk
             have g1 := setC_grown w8 wr.heap.size 0 (.slice A1 (psR x e).length c1')
             have g2 := setC_grown (w8.setCell ⟨wr.heap.size, 0, none⟩ (.slice A1 (psR x e).length c1')) wr.heap.size 1 (.string ⟨(ltR x e).toArray⟩)
             have s1 := World.cell?_setCell_same w8 ⟨wr.heap.size, 0, none⟩ (.slice A1 (psR x e).length c1') r0
             have nb := fun k (hk : u3.ownBlock = some k) => (OW.out.lt k hk).2
             have n9 : u3.ownBlock = none ∨ u3.ownBlock ≠ some wr.heap.size := .inr fun h => by have := nb _ h; omega
             have kb : Below ((w8.setCell ⟨wr.heap.size, 0, none⟩ (.slice A1 (psR x e).length c1')).setCell ⟨wr.heap.size, 1, none⟩ (.string ⟨(ltR x e).toArray⟩)).heap.size ((w8.setCell ⟨wr.heap.size, 0, none⟩ (.slice A1 (psR x e).length c1')).setCell ⟨wr.heap.size, 1, none⟩ (.string ⟨(ltR x e).toArray⟩)) (((w8.setCell ⟨wr.heap.size, 0, none⟩ (.slice A1 (psR x e).length c1')).setCell ⟨wr.heap.size, 1, none⟩ (.string ⟨(ltR x e).toArray⟩)).alloc (.cells #[.slice A1 (psR x e).length c1', .string ⟨(ltR x e).toArray⟩] 57)) := (Below.refl _ _).alloc (Nat.le_refl _) _
             have X9 := Lib.hid (((X8.out.gr g1 (fun r hr => by injection hr with hr; have := X.out.lt; omega)).gr g2 (fun r hr => by injection hr with hr; have := X.out.lt; omega)).next kb)
             have O9 := Lib.hid (((O8.out.kept g1 n9).kept g2 n9).kept (grown_of_bel kb none) (by cases u3.ownBlock <;> simp))
             have K9 := Lib.hid (((K8.out.kept g1 (fun k hk => by injection hk with hk; subst hk; exact ⟨_, _, _, r0⟩)).kept g2 (fun k hk => by injection hk with hk; subst hk; exact ⟨_, _, _, s1⟩)).next kb)
             have V9 := Lib.hid (((V8.out.kept g1 (fun k hk => by injection hk with hk; subst hk; exact ⟨_, _, _, r0⟩)).kept g2 (fun k hk => by injection hk with hk; subst hk; exact ⟨_, _, _, s1⟩)).next kb)
             have S9 := X8.out.bel.size
             clear hv k8 g1 g2 s1 nb n9 kb
             simp only [])
          | (at_builtin; refine wpList_rwpush rfl (.tmp 33) (.tmp 35) rfl O9.out rfl ⟨w8.heap.size, 0, none⟩ (.slice A1 (psR x e).length c1', ltR x e) ⟨A1, _, c1', rfl⟩ rfl (fun j u hu => by have := rw_new ((w8.setCell ⟨wr.heap.size, 0, none⟩ (.slice A1 (psR x e).length c1')).setCell ⟨wr.heap.size, 1, none⟩ (.string ⟨(ltR x e).toArray⟩)) (.slice A1 (psR x e).length c1', ltR x e) 57 j u hu; rwa [setC_sz, setC_sz] at this) l9 (by have := X8.out.lt; simp; omega) ?_
             intro v5 w5 hown hg
             have OW5 := Lib.hid hown
             have X5 := Lib.hid (X9.out.gr hg (fun r hr => by have := O9.out.lt r hr; omega))
             have fr := rws_first K9.out O9.out NE.out
             have K5 := Lib.hid ((K9.out.kept hg fr).snoc (r := (.slice A1 (psR x e).length c1', ltR x e)) HE.out (V9.out.kept hg fr) rfl)
             clear hown hg fr)
          | (go_at_call 10; (with_reducible refine (OFe.out _ X6.out.bel).mono ?_); rintro r w7 ⟨rfl, k7⟩
             have X7 := Lib.hid (X6.out.next k7)
             have R7 := Lib.hid (R6.out.next k7)
             have K7 := Lib.hid (K6.out.next k7)
             have O7 := Lib.hid (O6.out.kept (grown_of_bel k7 none) (by cases u3.ownBlock <;> simp))
             clear k7
             simp only [])
          | go_values | go_skip | go_guarded | go_step | go_upon | go_back)
        go_round
        case rel => exact ⟨i + 1, l ++ [(.slice A1 (psR x e).length c1', ltR x e)], rfl, by omega, OW5.out, fun h => by simp at h, K5.out, X5.out⟩
        case measure => simp [intOf]; omega
    · obtain rfl : i = n := by omega
      have hii : ¬ ((i : Nat) : Int) < (i : Int) := by omega
      have KF : Hid (RwsOk x x.es l wr) := Lib.hid (by
        have := RK.out
        rwa [List.take_of_length_le (by rw [HN.out]; exact Nat.le_refl _)] at this)
      repeat (first | go_values | go_skip | go_guarded | go_step | go_upon | go_back)
      go_ret
      exact ⟨u3, rfl, ⟨l, OW.out, KF.out⟩, X.out.bel⟩
end Go.Proofs.YtdmfgechoanmlaaGreatDoor

namespace Go.Proofs.YtdmfgechoanmlaaGreatDoor
open Go Go.RowKit Go.Sort

section
variable {R : EV → Option Addr × Nat × Nat} {ne aE : EV → Int} {es : List EV}
theorem opE_first1 {i : Nat} (hi : i < es.length) (h : f1V R es i ≠ 0) (hz : ∀ j, j < i → f1V R es j = 0) : opE R ne aE es = f1V R es i := by
  unfold opE
  rw [if_neg (by omega), fwF_first h hz hi, if_pos h]
theorem opE_first2 {i : Nat} (h1 : ∀ j, j < es.length → f1V R es j = 0) (hi : i < es.length) (h : f2V ne es i ≠ 0) (hz : ∀ j, j < i → f2V ne es j = 0) : opE R ne aE es = f2V ne es i := by
  unfold opE
  rw [if_neg (by omega), fwF_zero h1, if_neg (fun k => k rfl), fwF_first h hz hi, if_pos h]
theorem opE_first3 {i : Nat} (h1 : ∀ j, j < es.length → f1V R es j = 0) (h2 : ∀ j, j < es.length → f2V ne es j = 0) (hi : i < es.length) (h : f3V aE es i ≠ 0) (hz : ∀ j, j < i → f3V aE es j = 0) : opE R ne aE es = f3V aE es i := by
  unfold opE
  rw [if_neg (by omega), fwF_zero h1, if_neg (fun k => k rfl), fwF_zero h2, if_neg (fun k => k rfl), fwF_first h hz hi]
theorem opE_all (h0 : es.length ≠ 0) (h1 : ∀ j, j < es.length → f1V R es j = 0) (h2 : ∀ j, j < es.length → f2V ne es j = 0) (h3 : ∀ j, j < es.length → f3V aE es j = 0) : opE R ne aE es = 0 := by
  unfold opE
  rw [if_neg h0, fwF_zero h1, if_neg (fun k => k rfl), fwF_zero h2, if_neg (fun k => k rfl), fwF_zero h3]
end
theorem psR_eq (x : WV) (e : EV) : psR x e = psW (zW x e) := by
  unfold psR zW
  split <;> rfl
theorem ltR_eq (x : WV) (e : EV) : ltR x e = ltrL (zW x e).rs (zW x e).rs.length := by
  unfold ltR zW
  split <;> rfl
theorem nomOk_iff {e : EV} (hf : FewE e) (he : e.en = true) : NomOk e ↔ (e.dn ≤ dim e.uy e.um ∧ 0 ≤ e.ck ∧ e.ck ≤ 2) := by
  obtain ⟨y1, y2, m1, m2, s1, s2, hd⟩ := hf.2 he
  constructor
  · exact fun hn => ⟨hn.2.2.1.2.1.2.2.2.2, hn.1, hn.2.1⟩
  · rintro ⟨hn, k1, k2⟩
    exact ⟨k1, k2, ⟨hd, ⟨by omega, by omega, m1, m2, hn⟩, tgt_in hd ⟨by omega, by omega⟩ m1 m2 hn⟩, by omega, by omega⟩
theorem lnom_is {e : EV} (hf : FewE e) (he : e.en = true) : ∃ n : Int, (e.dn ≤ dim e.uy e.um → n = nmU e) ∧ ∀ W, Calls Tryz.prog 29 #[uvV e] W fun r w' => r = .returned (.tuple #[.int .i64 n, .bool (decide (e.dn ≤ dim e.uy e.um))]) ∧ Below W.heap.size W w' := by
  obtain ⟨y1, y2, m1, m2, s1, s2, hd⟩ := hf.2 he
  by_cases hn : e.dn ≤ dim e.uy e.um
  · have hb := tgt_near hd (⟨by omega, by omega⟩ : nrY e.uy) m1 m2 hn
    refine ⟨nmU e, fun _ => rfl, fun W => ?_⟩
    rw [decide_eq_true hn]
    exact rnom_is e (tgtD e.dk e.dw e.dn e.uy e.um) (nmU e) true W (Lib.hid fun W' => xday_yes e.dk e.dw e.dn e.uy e.um _ W' (by omega) (by omega) m1 m2 hd hn rfl) ⟨by omega, by omega⟩ (by omega) (by omega) (by unfold nmU; omega)
  · refine ⟨e.sc, fun h => absurd h hn, fun W => ?_⟩
    rw [decide_eq_false hn]
    exact rnom_is e 0 e.sc false W (Lib.hid fun W' => xday_no e.dk e.dw e.dn e.uy e.um W' (by omega) (by omega) m1 m2 hd (by omega)) ⟨by omega, by omega⟩ (by omega) (by omega) (by omega)
theorem lend_is {x : WV} {w : World} (hX : WvAt x w) (hF : FewW x) (hL : ∀ s ∈ x.ss, ∀ r ∈ s.rs, r.lt.length ≤ 1000000000000000) {i : Nat} {e : EV} (he : x.es[i]? = some e) (h2 : f2V wN x.es i = 0) (hi : i + 1 < x.es.length) (W : World) (v' : Value) (hv : POut v' (psR x e) W) :
    Calls Tryz.prog 30 #[evV e, .agg #[v', .string ⟨(ltR x e).toArray⟩]] W fun r w' => r = .returned (.int .i64 (aW x e)) ∧ Below W.heap.size W w' := by
  obtain ⟨hR, hen⟩ := f2_right he h2
  have he1 := hen.2 hi
  have hf := hF.es e (List.mem_of_getElem? he)
  obtain ⟨hE, hok⟩ := era_right hf hR he1
  have hz := zW_ok hX hF hL e
  have hs := hz.svN e hE.v1 hE.v2
  have hn := (hE.nom he1).1 hok
  obtain ⟨-, t1, t2⟩ := hE.bd he1 hn
  obtain ⟨y1, y2, m1, m2, s1, s2, hd⟩ := hf.2 he1
  obtain ⟨n, hn1, NM⟩ := lnom_is hf he1
  rw [hn1 hn, decide_eq_true hn] at NM
  rw [psR_eq] at hv
  rw [ltR_eq]
  refine rend_is e v' _ (psW (zW x e)) (svN e (zW x e).rs) _ W hv (Lib.hid ⟨hz.row.1, by omega, by omega, ⟨t1, t2⟩, hE.o1, hE.o2, hE.k1, hE.k2, hs.1, hs.2, hz.row.2, by rw [psW_fst]; rfl, ?_⟩) (Lib.hid NM)
  unfold aW
  rw [if_pos he1, zW_svN]
/-- Which way an era goes that is asked what is wrong with it. -/
theorem era_ways {e : EV} {i n : Nat} {q κ : Int} {there : Bool} (hi : i < n) (hκ : kdR e.fm = κ) (ht : e.en = true → (NomOk e ↔ (there = true ∧ 0 ≤ e.ck ∧ e.ck ≤ 2))) (hq : erE e (decide (i + 1 = n)) (wN e) = q) :
    (κ < 0 ∧ q = 12) ∨ (¬ κ < 0 ∧ ((e.of ≤ -90000 ∧ q = 10) ∨ (¬ e.of ≤ -90000 ∧ 90000 ≤ e.of ∧ q = 10) ∨ (¬ e.of ≤ -90000 ∧ ¬ 90000 ≤ e.of ∧ e.sv ≤ -90000 ∧ q = 10) ∨ (¬ e.of ≤ -90000 ∧ ¬ 90000 ≤ e.of ∧ ¬ e.sv ≤ -90000 ∧ 90000 ≤ e.sv ∧ q = 10) ∨
      (¬ e.of ≤ -90000 ∧ ¬ 90000 ≤ e.of ∧ ¬ e.sv ≤ -90000 ∧ ¬ 90000 ≤ e.sv ∧ ((e.rl.isEmpty = false ∧ (e.sv != 0) = true ∧ q = 12) ∨ (((e.rl.isEmpty = false ∧ e.sv = 0) ∨ e.rl.isEmpty = true) ∧
        ((e.en = true ∧ ¬ (i : Int) + 1 < (n : Int) ∧ q = 12) ∨ (e.en = false ∧ (i : Int) + 1 < (n : Int) ∧ q = 12) ∨ (e.en = false ∧ ¬ (i : Int) + 1 < (n : Int) ∧ q = 0) ∨
         (e.en = true ∧ (i : Int) + 1 < (n : Int) ∧ ((there = false ∧ q = 10) ∨ (there = true ∧ e.ck < 0 ∧ q = 10) ∨ (there = true ∧ ¬ e.ck < 0 ∧ 2 < e.ck ∧ q = 10) ∨ (there = true ∧ ¬ e.ck < 0 ∧ ¬ 2 < e.ck ∧ q = 0))))))))) := by
  have tm : ∀ n : Int, tmB n = true → n ≤ -90000 ∨ (¬ n ≤ -90000 ∧ 90000 ≤ n) := fun n h => by unfold tmB at h; simp at h; omega
  rcases erE_ways e _ _ q hq with ⟨hk, hq⟩ | ⟨k, hk, hw⟩
  · left
    refine ⟨?_, hq⟩
    rw [← hκ]; unfold kdR; rw [hk]; decide
  · right
    refine ⟨by rw [← hκ]; unfold kdR; rw [hk]; simp, ?_⟩
    rcases hw with ⟨h1, hq⟩ | ⟨h1, h2, hq⟩ | ⟨h1, h2, hw⟩
    · rcases tm _ h1 with h | ⟨h, h'⟩
      · exact .inl ⟨h, hq⟩
      · exact .inr (.inl ⟨h, h', hq⟩)
    · have h1' := tmB_no h1
      rcases tm _ h2 with h | ⟨h, h'⟩
      · exact .inr (.inr (.inl ⟨by omega, by omega, h, hq⟩))
      · exact .inr (.inr (.inr (.inl ⟨by omega, by omega, h, h', hq⟩)))
    · have h1' := tmB_no h1
      have h2' := tmB_no h2
      refine .inr (.inr (.inr (.inr ⟨by omega, by omega, by omega, by omega, ?_⟩)))
      rcases hw with h | ⟨hv, hw⟩
      · exact .inl h
      · refine .inr ⟨hv, ?_⟩
        rcases hw with ⟨h3, hq⟩ | ⟨h3, h4, hq⟩ | ⟨h3, h4, hq⟩
        · by_cases hl : i + 1 = n
          · rw [decide_eq_true hl] at h3
            exact .inl ⟨h3, by omega, hq⟩
          · rw [decide_eq_false hl] at h3
            exact .inr (.inl ⟨h3, by omega, hq⟩)
        · have hl := of_decide_eq_false h4
          refine .inr (.inr (.inr ⟨h3, by omega, ?_⟩))
          have hn := ht h3
          unfold wN at hq
          by_cases hk : NomOk e
          · rw [if_pos hk] at hq
            have := hn.1 hk
            exact .inr (.inr (.inr ⟨this.1, by omega, by omega, hq⟩))
          · rw [if_neg hk] at hq
            by_cases h5 : there = true
            · by_cases h6 : e.ck < 0
              · exact .inr (.inl ⟨h5, h6, hq⟩)
              · exact .inr (.inr (.inl ⟨h5, h6, Int.not_le.1 fun h7 => hk (hn.2 ⟨h5, by omega, h7⟩), hq⟩))
            · exact .inl ⟨by simpa using h5, hq⟩
        · have hl := of_decide_eq_true h4
          exact .inr (.inr (.inl ⟨h3, by omega, hq⟩))
end Go.Proofs.YtdmfgechoanmlaaGreatDoor

namespace Go.Proofs.YtdmfgechoanmlaaGreatDoor
open Go Go.RowKit Go.Sort

/-- What the calls answer at an instant. -/
structure ZsI (x : WV) (t : Int) (k : Nat) (e : EV) (p1 : Int) (p2 : Bool) (p3 : List UInt8) (w : World) : Prop where
  hk : kF (endsV (aW x) x.es x.es.length) t = k
  he : x.es[k]? = some e
  wi : ∀ W, Below w.heap.size w W → Calls Tryz.prog 33 #[evV e, rlV (wR x) e, .int .i64 t] W fun r w' => r = .returned (.tuple #[locV p1 p2 p3, .int .i64 0]) ∧ Below W.heap.size W w'
  rw : ∀ W v, POut v (psR x e) W → Calls Tryz.prog 15 #[evV e, .agg #[v, .string ⟨(ltR x e).toArray⟩], .int .i64 t] W fun r w' => r = .returned (.tuple #[locV p1 p2 p3, .bool true]) ∧ Below W.heap.size W w'
theorem f2_kind {ne : EV → Int} {es : List EV} {i : Nat} {e : EV} (he : es[i]? = some e) (h : f2V ne es i = 0) : kdK e.fm ≠ none := by
  unfold f2V at h
  rw [eD_at he] at h
  intro hn
  unfold erE at h
  rw [if_pos hn] at h
  cases h
theorem shE_zero {f : List UInt8} {off : Int} (h : kdK f ≠ none) (h1 : -360000 < off) (h2 : off < 360000) : shE f off = 0 := by
  unfold shE
  split
  · rename_i hn; exact absurd hn h
  · unfold ofE; rw [if_neg (by omega)]
  · rfl
theorem zsI_ex (x : WV) (t : Int) (w : World) (hA : LaidZ w) (hX : WvAt x w) (_ : WvOk x) (hF : FewW x) (hL : ∀ s ∈ x.ss, ∀ r ∈ s.rs, r.lt.length ≤ 1000000000000000) (ht : NrT t) (h0 : opE (wR x) wN (aW x) x.es = 0) :
    ∃ k e p1 p2 p3, ZsI x t k e p1 p2 p3 w := by
  obtain ⟨hn0, -, z2, -⟩ := opE_zero h0
  have hel := endsV_len (aW x) x.es
  have hkl := kF_le (endsV (aW x) x.es x.es.length) t
  obtain ⟨k, hk⟩ : ∃ k, kF (endsV (aW x) x.es x.es.length) t = k := ⟨_, rfl⟩
  have hkn : k < x.es.length := by omega
  obtain ⟨e, he⟩ : ∃ e, x.es[k]? = some e := ⟨_, List.getElem?_eq_getElem hkn⟩
  have hm := List.mem_of_getElem? he
  obtain ⟨hR, -⟩ := f2_right he (z2 k hkn)
  have hkd := f2_kind he (z2 k hkn)
  have ho := tmB_no hR.1
  have hv := tmB_no hR.2.1
  have hz := zW_ok hX hF hL e
  have hfm : e.fm.length ≤ 1000 := by have := (hF.es e hm).1; omega
  refine ⟨k, e, ?_⟩
  have hpr := psR_eq x e
  have hlr := ltR_eq x e
  have hrl := zW_val x e
  generalize zW x e = z at hz hpr hlr hrl
  have hP : LatP z.rs.length z.rs e.of t := ⟨rfl, by have := hz.n6; omega, hz.ok, hz.ap, ho.1, ho.2, ht⟩
  have hl := hz.ltW e t
  have hs := hz.svW e t hv.1 hv.2
  have WR : WitR e (psW z) (ltrL z.rs z.rs.length) t (svW e z.rs t) (ltW e z.rs z.rs.length t) := ⟨hz.row.1, ho.1, ho.2, hs.1, hs.2, hz.row.2, by rw [psW_fst]; rfl, by rw [psW_fst]; rfl⟩
  have hsh : shE e.fm (e.of + svW e z.rs t) = 0 := shE_zero hkd (by omega) (by omega)
  have RW := fun W v (hv : POut v (psW z) W) => rwithin_is e v (ltrL z.rs z.rs.length) (psW z) t (svW e z.rs t) (ltW e z.rs z.rs.length t) _ _ (decide (shE e.fm (e.of + svW e z.rs t) = 0)) W hv (Lib.hid WR) rfl
    (Lib.hid fun W' => rshow_is e.fm _ _ (e.of + svW e z.rs t) _ _ W' (Lib.hid ⟨hfm, hl⟩) (Lib.hid ⟨rfl, rfl⟩))
  have WI := fun W (k : Below w.heap.size w W) => zwithin_is e z.a z.rs.length z.c z.rs t (svW e z.rs t) _ (ltW e z.rs z.rs.length t) _ W (hA.next k).f (hA.next k).b (hz.rl.next k) hP hv.1 hv.2 hfm hl rfl rfl rfl rfl
  unfold plU plO at WI
  rw [show decide (shE e.fm (e.of + svW e z.rs t) = 0) = true by simpa using hsh] at RW
  rw [hsh, if_pos rfl] at WI
  exact ⟨_, _, _, hk, he, by rw [hrl]; exact WI, by rw [hpr, hlr]; exact RW⟩
theorem ZsI.at {x : WV} {t : Int} {k : Nat} {e : EV} {p1 : Int} {p2 : Bool} {p3 : List UInt8} {w : World} (h : ZsI x t k e p1 p2 p3 w) (Z : ZoneW x w (wR x) wN (aW x) vW) (h0 : opE (wR x) wN (aW x) x.es = 0) (t1 : -2199023255552 ≤ t) (t2 : t ≤ 2199023255552) (W : World) (kW : Below w.heap.size w W) :
    Calls Tryz.prog 13 #[zoV x, setsV x, .int .i64 t] W fun r w' => r = .returned (.tuple #[locV p1 p2 p3, .int .i64 0]) ∧ Below W.heap.size W w' :=
  zat_in x W (Z.next kW) t 0 p1 p2 p3 e h0 t1 t2 k h.hk h.he (Lib.hid fun W' k' => h.wi W' (bthen kW k'))
end Go.Proofs.YtdmfgechoanmlaaGreatDoor

namespace Go.Proofs.YtdmfgechoanmlaaGreatDoor
open Go Go.RowKit Go.Sort
attribute [local go_sem] Oper.semAt_some

set_option maxRecDepth 20000 in
set_option maxHeartbeats 2000000 in
theorem zsh_out (x : WV) (A : Option Addr) (c : Nat) (l : List Int) (w : World) (hA : LaidZ w) (hX : WvAt x w) (hO : WvOk x) (h : ¬ (FewW x ∧ l.length ≤ 10)) :
    Calls Tryz.prog 3 #[wvV x, .slice A l.length c] w fun e w' => e = .returned (.bool true) ∧ Below w.heap.size w w' := by
  have AW := Lib.hid (fun W (k : Below w.heap.size w W) => zawake_is W (Lib.hid (hA.next k).b))
  have FT := Lib.hid (fun W (k : Below w.heap.size w W) (hf : FewW x) => few_is x true W (hX.next k) hO (Lib.hid (.inl ⟨rfl, hf⟩)))
  have FF := Lib.hid (fun W (k : Below w.heap.size w W) (hf : ¬ FewW x) => few_is x false W (hX.next k) hO (Lib.hid (.inr ⟨rfl, hf⟩)))
  have H := Lib.hid h
  clear hA hX hO h
  have X0 := Lib.hid (BlkN.make (Below.refl w.heap.size w) #[.string ⟨x.nm.toArray⟩, .slice x.az x.es.length x.cz, .slice x.sa x.ss.length x.cs] 27)
  obtain ⟨c0, c1, c2⟩ := cel3 X0.out.blk
  unfold wvV at *
  by_cases hf : FewW x
  · have TF := Lib.hid (fun W k => FT.out W k hf)
    have hl : (10 : Int) < (l.length : Int) := by have := H.out; exact Int.ofNat_lt.2 (by apply Nat.lt_of_not_le; intro h9; exact this ⟨hf, h9⟩)
    clear FF FT hf H
    go_enter Tryz.func3, Tryz.ntmps3
    repeat (first
      | (go_at_call 6; (with_reducible refine (TF.out _ X0.out.bel).mono ?_); (rintro e w1 ⟨rfl, k1⟩); have X1 := Lib.hid (X0.out.next k1); clear k1 c0 c1 c2; obtain ⟨c0, c1, c2⟩ := cel3 X1.out.blk; simp only [])
      | (go_at_call 7; (with_reducible refine (AW.out _ X1.out.bel).mono ?_); (rintro e w9 ⟨rfl, k9⟩); have X9 := Lib.hid (X1.out.next k9); simp only [])
      | go_values | go_skip | go_guarded | go_step | go_upon | go_back)
    go_ret
    exact ⟨rfl, X9.out.bel⟩
  · have TF := Lib.hid (fun W k => FF.out W k hf)
    clear FF FT hf
    go_enter Tryz.func3, Tryz.ntmps3
    repeat (first
      | (go_at_call 6; (with_reducible refine (TF.out _ X0.out.bel).mono ?_); (rintro e w1 ⟨rfl, k1⟩); have X1 := Lib.hid (X0.out.next k1); clear k1 c0 c1 c2; obtain ⟨c0, c1, c2⟩ := cel3 X1.out.blk; simp only [])
      | (go_at_call 7; (with_reducible refine (AW.out _ X1.out.bel).mono ?_); (rintro e w9 ⟨rfl, k9⟩); have X9 := Lib.hid (X1.out.next k9); simp only [])
      | go_values | go_skip | go_guarded | go_step | go_upon | go_back)
    go_ret
    exact ⟨rfl, X9.out.bel⟩
end Go.Proofs.YtdmfgechoanmlaaGreatDoor
