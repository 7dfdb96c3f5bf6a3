/- The law ZoneParts: a world of up to three eras, whose zone may be.
For whatever world, instants and Until the law ZoneParts returns true: as the card's arguments open. -/
import Derived.Test.YtdmfgechoanmlaaGreatDoorMXB
import Derived.BigQuiet
import Derived.Deep.CutRange
import Derived.WalkSmall
import Derived.Deep.RegionHeld3
import Derived.Test.YtdmfgechoanmlaaGreatDoorMZQ
import Derived.Test.YtdmfgechoanmlaaGreatDoorMYE
namespace Go.Proofs.YtdmfgechoanmlaaGreatDoor
open Go Go.RowKit Go.Sort Go.Shelf
attribute [local go_sem] Oper.semAt_some

set_option maxRecDepth 20000 in
set_option maxHeartbeats 4000000 in
theorem zpt_in (x : WV) (A : Option Addr) (c : Nat) (l : List Int) (u : EV) (w : World) (hA : LaidZ w) (hX : WvAt x w) (hO : WvOk x) (hL : ∀ s ∈ x.ss, ∀ r ∈ s.rs, r.lt.length ≤ 1000000000000000) (hI : NumsAt A l w) (h : PtIn x l) :
    Calls Tryz.prog 4 #[wvV x, .slice A l.length c, uvV u] w fun e w' => e = .returned (.bool true) ∧ Below w.heap.size w w' := by
  have mixed : Tryz.prog.follows .mixedOrders = true := by kernel_rfl
  have hmf : ∀ (fn : Fn) (first cap : Array Value) (w : World), (Instr.makeFunc fn first cap).run Tryz.prog w = .ok (.func fn first cap) w := fun _ _ _ _ => rfl
  obtain ⟨hF, hl, h0, h3⟩ := h
  have hn0 : 0 < x.es.length := by obtain ⟨h, -⟩ := opE_zero h0; omega
  have ZW := opW_of hA hX hO hF hL
  have hel := endsV_len (aW x) x.es
  have AW := Lib.hid (fun W (k : Below w.heap.size w W) => zawake_is W (Lib.hid (hA.next k).b))
  have FT := Lib.hid (fun W (k : Below w.heap.size w W) => few_is x true W (hX.next k) hO (Lib.hid (.inl ⟨rfl, hF⟩)))
  have CH := Lib.hid (fun W (k : Below w.heap.size w W) => zcheck_is x W (ZW.next k) 0 h0)
  have SN := Lib.hid (fun W (k : Below w.heap.size w W) => spans_of x W (ZW.next k) (hX.next k).es h0)
  have ES := Lib.hid (fun W (k : Below w.heap.size w W) => (hX.next k).es)
  have PY := Lib.hid (fun A' c' M W (k : Below w.heap.size w W) hR hM => ptY_ex x u A' c' M _ W (hA.next k) (hX.next k) hO hF hL h0 hR h3 rfl hM)
  have RS := Lib.hid (fun k h1 h2 => pt_rise h0 (k := k) h1 h2 (-2199023255553))
  have PZ := Lib.hid (ptP_zero (u := u) hn0)
  have PA := Lib.hid (ptP_all x.es u)
  have PL := Lib.hid (fun i => ptP_len (u := u) (i := i) hn0 h3)
  have PM := Lib.hid (fun i e (he : x.es[i]? = some e) h => ptP_mid (u := u) he h)
  have PT := Lib.hid (fun i e (he : x.es[i]? = some e) h => ptP_last (u := u) he h)
  have I := Lib.hid hI
  obtain ⟨n, hn⟩ : ∃ n, x.es.length = n := ⟨_, rfl⟩
  obtain ⟨m, hm⟩ : ∃ m, l.length = m := ⟨_, rfl⟩
  have HN := Lib.hid hn
  have HM := Lib.hid hm
  unfold zoV setsV wvV at *
  unfold uvV
  rw [hn] at FT CH SN PY RS PA PM PT hn0 h3 hel ⊢
  rw [hm] at hl ⊢
  obtain ⟨ns, hns⟩ : ∃ ns, endsV (aW x) x.es n = ns := ⟨_, rfl⟩
  rw [hns] at SN RS hel
  have HEL := Lib.hid hel
  clear hA hX hO hL hn hm hI ZW h0 hF hns hel
  have h10 : ¬ (10 : Int) < (m : Int) := by omega
  have hn3 : ¬ (3 : Int) < (n : Int) := by omega
  refine callsIn_wide.1 (callsIn_of_wp_marks (n := 6) Tryz.func4 rfl trivial ?_ rfl)
  simp only [Tryz.ntmps4, List.size_toArray, List.length_cons, List.length_nil, Nat.reduceAdd, Nat.reduceSub, Array.replicate_succ, Array.replicate_zero, List.push_toArray, List.append_toArray, List.nil_append, List.cons_append]
  refine wpIn_wide.2 ?_
  repeat (first | go_values | go_skip | go_guarded | go_step | go_upon | go_back)
  have P0 := PtB.make x u n w
  revert P0
  generalize ((((w.alloc (.cells #[.string ⟨x.nm.toArray⟩, .slice x.az n x.cz, .slice x.sa x.ss.length x.cs] 27)).alloc (.cells (cU u) 52)).alloc (.cells #[.bool false] 4)).alloc (.cells #[.int .i64 (n : Int)] 3)) = W0
  generalize w.heap.size + 1 = g1
  generalize g1 + 1 = g2
  generalize g2 + 1 = g3
  intro P0
  have P0 := Lib.hid P0
  obtain ⟨⟨c0, c1, c2⟩, c3⟩ := P0.out.cels
  repeat (first
    | (go_at_call 9; (with_reducible refine (CH.out _ P1.out.bel).mono ?_); (rintro e w2 ⟨rfl, k2⟩); have P2 := Lib.hid (P1.out.next k2); clear k2 c0 c1 c2 c3; obtain ⟨⟨c0, c1, c2⟩, c3⟩ := P2.out.cels; simp only [])
    | (refine (FT.out _ P0.out.bel).mono ?_; (rintro e w1 ⟨rfl, k1⟩); have P1 := Lib.hid (P0.out.next k1); clear k1 c0 c1 c2 c3; obtain ⟨⟨c0, c1, c2⟩, c3⟩ := P1.out.cels; simp only [])
    | go_values | go_skip | go_guarded | go_step | go_upon | go_back)
  have hb2 : w.heap.size + 4 ≤ w2.heap.size := P2.out.sz
  go_loopw [8, 9] (fun v8 v9 wr => ∃ i : Nat, v9 = .int .i64 (i : Int) ∧ i ≤ n ∧ OwnEr (w.heap.size + 4) v8 (ptP x.es u i) wr ∧ PtB x u n w g1 g2 g3 wr) (fun _ v9 _ => n - (intOf v9).toNat)
  case atStart => exact ⟨0, rfl, Nat.zero_le _, by rw [PZ.out]; exact World.ownsRow_nil _ _ _ _, P2.out⟩
  case round =>
    clear P0 P1 P2 c0 c1 c2 c3 hb2
    rename_i v8 _
    obtain ⟨i, rfl, hi, ho, hp⟩ := hrel
    have O := Lib.hid ho
    have P := Lib.hid hp
    clear ho hp
    obtain ⟨⟨c0, c1, c2⟩, c3⟩ := P.out.cels
    by_cases hlt : i < n
    · have hlt' : (i : Int) < (n : Int) := by omega
      have wn : IntKind.i64.wrap ((n : Int) - 1) = (n : Int) - 1 := IntWalk.i64_in _ (by omega)
      obtain ⟨e, he⟩ : ∃ e, x.es[i]? = some e := ⟨_, List.getElem?_eq_getElem (by rw [HN.out]; exact hlt)⟩
      obtain ⟨L, off, eA, hL, x0, x1, x2, x3, x4, x5, x6, x7, x8, x9, x10, x11⟩ := era_cells' (ES.out wr P.out.bel) he
      rw [eA] at c1
      obtain ⟨hs0, hg1, hg2, hg3⟩ := P.out.lts
      have hsz := P.out.sz
      obtain ⟨y0, y1, y2, y3, y4, y5, y6⟩ := cel7 P.out.b5
      have HE := Lib.hid he
      clear he eA
      by_cases hl1 : i + 1 = n
      · have t1 : ((i : Int) == (n : Int) - 1) = true := by simp; omega
        have HL1 := Lib.hid hl1
        clear hl1
        have KA : Hid (Below wr.heap.size wr (((wr.alloc (.cells (cE e) 54)).alloc (.cells (cE (ptE e u)) 54)).alloc (.cells (cE (ptE e u)) 54))) := Lib.hid ((((Below.refl wr.heap.size wr).alloc (Nat.le_refl _) _).alloc (by simp) _).alloc (by simp; omega) _)
        repeat (first
          | (at_builtin; refine wpList_epush (by rfl) _ _ rfl e (O7.out.keep KB.out) rfl ⟨w7.heap.size, 0, none⟩ rfl (er_new w7 e 54) (by have := PL.out i; simp; omega) (by have := B7.out.size; simp at this ⊢; omega) ?_; intro v'' w8 hown hbl _; have O8 := Lib.hid hown; have B8 := Lib.hid hbl; clear hown hbl; simp only [])
          | (at_builtin; refine wpList_epush (by rfl) _ _ rfl (ptE e u) (O.out.keep KA.out) rfl ⟨wr.heap.size + 1 + 1, 0, none⟩ rfl (er_three wr (.cells (cE e) 54) (.cells (cE (ptE e u)) 54) (ptE e u) 54) (Nat.le_trans (PL.out i) (by decide)) (by simp; omega) ?_; intro v' w7 hown hbl hgr; have O7 := Lib.hid hown; have B7 := Lib.hid hbl
             obtain ⟨z0, z1, z2, z3, z4, z5, z6, z7, z8, z9, z10, z11⟩ := cells12 (O.out.other hgr (er_first wr e (ptE e u) 54) (Nat.le_refl _))
             have KB : Hid (Below w7.heap.size w7 (w7.alloc (.cells (cE e) 54))) := Lib.hid ((Below.refl _ _).alloc (Nat.le_refl _) _)
             clear hown hbl hgr; simp only [])
          | go_values | go_skip | go_guarded | go_step | go_upon | go_back)
        exact ⟨⟨i + 1, by simp, by omega, by rw [PT.out i e HE.out HL1.out]; exact O8.out, (((P.out.next KA.out).under B7.out (Nat.le_refl _)).next KB.out).under B8.out (Nat.le_refl _)⟩, by simp [intOf]; omega⟩
      · have t1 : ((i : Int) == (n : Int) - 1) = false := by simp; omega
        have KA : Hid (Below wr.heap.size wr ((wr.alloc (.cells (cE e) 54)).alloc (.cells (cE e) 54))) := Lib.hid (((Below.refl wr.heap.size wr).alloc (Nat.le_refl _) _).alloc (by simp) _)
        repeat (first
          | (at_builtin; go_loud (refine wpList_epush (by rfl) _ _ rfl e (O.out.keep KA.out) rfl ⟨wr.heap.size + 1, 0, none⟩ rfl (er_two wr (.cells (cE e) 54) e 54) (Nat.le_trans (PL.out i) (by decide)) (by simp; omega) ?_); intro v' w7 hown hbl _; have O7 := Lib.hid hown; have B7 := Lib.hid hbl; clear hown hbl; simp only [])
          | go_values | go_skip | go_guarded | go_step | go_upon | go_back)
        exact ⟨⟨i + 1, by simp, by omega, by rw [PM.out i e HE.out (by omega)]; exact O7.out, (P.out.next KA.out).under B7.out (Nat.le_refl _)⟩, by simp [intOf]; omega⟩
    · obtain rfl : i = n := by omega
      have hlt' : ¬ ((i : Nat) : Int) < (i : Int) := by omega
      generalize wr = Wv at *
      clear wr
      rw [PA.out] at O
      obtain ⟨A', c', rfl⟩ := O.out.slice
      obtain ⟨M, hM⟩ : ∃ M, (ptL x.es u).length = M := ⟨_, rfl⟩
      obtain ⟨b, v, hY⟩ := PY.out A' c' M Wv P.out.bel O.out.rows hM
      have Y := Lib.hid hY
      rw [hM]
      obtain ⟨hs0, hg1, hg2, hg3⟩ := P.out.lts
      have hn3' := h3
      clear O hM hY PY PA PM PT PL
      have hnil := seq_nil
      have KV := Lib.hid (BlkN.make (Below.refl Wv.heap.size Wv) #[.string ⟨x.nm.toArray⟩, .slice A' M c', .slice x.sa x.ss.length x.cs] 27)
      repeat (first
        | (go_at_call 17; (with_reducible refine (SN.out _ (bthen P.out.bel KV.out.bel)).mono ?_); (rintro r w5 ⟨Be, Bw, gc, cc, Vr, Ae, ce, rfl, hSp, k5⟩)
           have P5 := Lib.hid ((P.out.next KV.out.bel).next k5)
           have V5 := Lib.hid (KV.out.next k5)
           have S5 := Lib.hid hSp
           have K5 := Lib.hid (bthen KV.out.bel k5)
           clear hSp k5 c0 c1 c2 c3
           simp only [])
        | go_values | go_skip | go_guarded | go_step | go_upon | go_back)
      obtain ⟨S, hS⟩ : ∃ S, w5.heap.size = S := ⟨_, rfl⟩
      obtain ⟨w6, e6⟩ : ∃ W, ((w5.alloc (.cells #[.int .i64 (-2199023255553)] 3)).alloc (.cells #[.int .i64 0] 3)) = W := ⟨_, rfl⟩
      have s6 : w6.heap.size = S + 2 := by rw [← e6, ← hS]; simp
      have k56 : Below w5.heap.size w5 w6 := by rw [← e6]; exact ((Below.refl _ _).alloc (Nat.le_refl _) _).alloc (by simp) _
      have b14 : Go.Boxed w6 S 3 (.int .i64 (-2199023255553)) := by
        rw [← e6, ← hS]
        exact (Below.heap_alloc _ _ _ (by simp)).trans (World.alloc_heap_new w5 _)
      have b15 : Go.Boxed w6 (S + 1) 3 (.int .i64 0) := by
        rw [← e6, ← hS]
        have := World.alloc_heap_new (w5.alloc (.cells #[.int .i64 (-2199023255553)] 3)) (.cells #[.int .i64 0] 3)
        rwa [World.size_alloc] at this
      simp only [e6, hS]
      have hs4 : w.heap.size + 4 ≤ S := by rw [← hS]; exact P5.out.sz
      have SP6 := S5.out.next k56
      have SEQ := spans_seq (6 - 1) (by omega) (fun _ => false) S (fun _ _ => True) Be Bw (some ⟨gc, 0, none⟩) i cc Vr Ae ce x.es ns w6 HN.out (by omega) SP6 (fun X Y hX hB _ => hX.beneath S5.out (by rw [hS]; exact hB))
      have K6 := Lib.hid k56
      clear SP6 k56 e6
      refine wpIn_wide.1 (range_ks (n := 6) (by omega) (gf := 39) (lb := #[.pointer (some ⟨Be, 0, none⟩), .pointer (some ⟨Bw, 0, none⟩)]) rfl (enters_of Tryz.func39 (by kernel_rfl) rfl) SEQ (by omega) (fun _ => rfl) (fun _ _ => trivial) (fun _ _ _ _ _ => trivial)
        (fun pre X => Go.Boxed X S 3 (.int .i64 (zspB ns (-2199023255553) pre.length)) ∧ Go.Boxed X (S + 1) 3 (.int .i64 (pre.length : Int)) ∧ Below S w5 X) (fun _ _ _ => False) ?own (fun _ _ _ _ _ h => h.elim) ⟨b14, b15, hS ▸ K6.out⟩ ?round ?done (fun _ _ _ _ _ _ h => h.elim))
      case own => exact ownS_of (OwnFrom.and (Own.from (boxed_own S 3 (fun pre : List SpV => .int .i64 (zspB ns (-2199023255553) pre.length))) _) (OwnFrom.and (Own.from (boxed_own (S + 1) 3 (fun pre : List SpV => .int .i64 (pre.length : Int))) _) (ownFrom_below (by omega) (by omega))))
      case round =>
        clear SEQ b14 b15 AW FT CH SN Y K6 S5 hnil
        rintro l2 pre ⟨e, b0, d⟩ X ⟨h14, h15, hB⟩ hOk hsX
        obtain ⟨k, hk⟩ : ∃ k, pre.length = k := ⟨_, rfl⟩
        have hat : (spL x.es ns (-2199023255553))[k]? = some (e, b0, d) := by
          obtain ⟨rest, hr⟩ := hOk
          rw [← hr, ← hk]; simp
        have hki : k < i := by
          have := (List.getElem?_eq_some_iff.1 hat).1
          rw [spL_len, HN.out] at this; exact this
        obtain ⟨e', he⟩ : ∃ e', x.es[k]? = some e' := ⟨_, List.getElem?_eq_getElem (by rw [HN.out]; exact hki)⟩
        have hat2 := spL_at x.es ns (-2199023255553) k e' he
        rw [hat] at hat2
        obtain ⟨rfl, hb0, hd0⟩ : e = e' ∧ b0 = zspB ns (-2199023255553) k ∧ d = zspE ns k := by simpa using hat2
        have RK : Hid (0 < k → k + 1 < i → b0 < d) := Lib.hid fun h1 h2 => by rw [hb0, hd0]; exact RS.out k h1 h2
        have ZN : Hid (zspB ns (-2199023255553) (k + 1) = d) := Lib.hid (by rw [hd0]; unfold zspB zspE; rw [if_neg (by omega)]; rfl)
        have PL1 : Hid ((pre ++ [((e, b0, d) : SpV)]).length = k + 1) := Lib.hid (by rw [List.length_append, hk]; rfl)
        have HE := Lib.hid he
        rw [hk, ← hb0] at h14
        rw [hk] at h15
        simp only [encSp, evV, cE]
        obtain ⟨X1, hX1⟩ : ∃ X1, ((X.alloc (.cells #[.int .i64 e.of, .string ⟨e.rl.toArray⟩, .int .i64 e.sv, .string ⟨e.fm.toArray⟩, .bool e.en, .int .i64 e.uy, .int .i64 e.um, .int .i64 e.dk, .int .i64 e.dw, .int .i64 e.dn, .int .i64 e.sc, .int .i64 e.ck] 54)).alloc (.cells #[.int .i64 b0, .int .i64 d] 63)) = X1 := ⟨_, rfl⟩
        have bX : RowKit.Below X.heap.size X X1 := by rw [← hX1]; exact ((Below.refl _ X).alloc (Nat.le_refl _) _).alloc (by simp) _
        have e1 : X1.heap[X.heap.size]? = some (.cells (cE e) 54 (0, 0)) := by rw [← hX1, Below.heap_alloc _ _ _ (by simp)]; exact World.alloc_heap_new X _
        have e2 : X1.heap[X.heap.size + 1]? = some (.cells #[.int .i64 b0, .int .i64 d] 63 (0, 0)) := by
          rw [← hX1]
          have := World.alloc_heap_new (X.alloc (.cells #[.int .i64 e.of, .string ⟨e.rl.toArray⟩, .int .i64 e.sv, .string ⟨e.fm.toArray⟩, .bool e.en, .int .i64 e.uy, .int .i64 e.um, .int .i64 e.dk, .int .i64 e.dw, .int .i64 e.dn, .int .i64 e.sc, .int .i64 e.ck] 54)) (.cells #[.int .i64 b0, .int .i64 d] 63)
          rwa [World.size_alloc] at this
        have ko : KeepsOthers X X1 := KeepsOthers.of_grownBy (grown_bel bX none) (fun j o e => by cases e)
        have hSX : S + 2 ≤ X.heap.size := by omega
        clear hOk hat hat2 hb0 hd0 he RS
        gi_wp2
        try simp only [hX1]
        refine ⟨⟨ko, bX.mono (by omega), trivial⟩, fun _ Y => ((Go.Boxed Y S 3 (.int .i64 b0) ∧ Go.Boxed Y (S + 1) 3 (.int .i64 (k : Int)) ∧ Below S w5 Y) ∧ Y.heap[X.heap.size]? = some (.cells (cE e) 54 (0, 0))) ∧ Y.heap[X.heap.size + 1]? = some (.cells #[.int .i64 b0, .int .i64 d] 63 (0, 0)),
          OwnFrom.and (OwnFrom.and (OwnFrom.and (Own.from (boxed_own S 3 (fun _ : Unit => .int .i64 b0)) _) (OwnFrom.and (Own.from (boxed_own (S + 1) 3 (fun _ : Unit => .int .i64 (k : Int))) _) (ownFrom_below (by omega) (by omega))))
            (fun s A B row h hg hr => (hg.block _ (Array.getElem?_eq_some_iff.1 h).1 (fun e => by obtain ⟨-, o, ho, hc⟩ := hr _ e.symm; rw [h] at ho; cases ho; cases hc)).trans h)) (fun s A B row h hg hr => (hg.block _ (Array.getElem?_eq_some_iff.1 h).1 (fun e => by obtain ⟨-, o, ho, hc⟩ := hr _ e.symm; rw [h] at ho; cases ho; cases hc)).trans h),
          ⟨⟨⟨(bX.block S (by omega)).trans h14, (bX.block (S + 1) (by omega)).trans h15, hB.trans (bX.mono (by omega))⟩, e1⟩, e2⟩, ?_⟩
        clear hX1 bX e1 e2 ko h14 h15 hB hsX
        rintro W2 ⟨⟨⟨h14, h15, hB⟩, g1b⟩, g2b⟩ hs2
        have P2' := Lib.hid (P5.out.under hB hs4)
        obtain ⟨⟨c0, c1, c2⟩, c3⟩ := P2'.out.cels
        obtain ⟨L, off, eA, hL, -, -, -, x3, -, -, -, -, -, -, -, -⟩ := era_cells' (ES.out W2 P2'.out.bel) HE.out
        rw [eA] at c1
        have c14 := h14.cell
        have c15 := h15.cell
        obtain ⟨-, -, -, y3, -, -, -, -, -, -, -, -⟩ := cells12 g1b
        obtain ⟨u0, u1⟩ := cel2 g2b
        have H14 := Lib.hid h14
        have H15 := Lib.hid h15
        have HB := Lib.hid hB
        have k1 : (k : Int) < (i : Int) := by omega
        have k2 : decide (i ≤ k) = false := decide_eq_false (by omega)
        have k3 : decide ((i : Int) ≤ (k : Int)) = false := decide_eq_false (by omega)
        have wi : IntKind.i64.wrap ((i : Int) - 1) = (i : Int) - 1 := IntWalk.i64_in _ (by omega)
        have V : (decide (d ≤ b0) = false) ∨ (decide (d ≤ b0) = true ∧ k = 0) ∨ (decide (d ≤ b0) = true ∧ 0 < k ∧ ¬ k + 1 < i) := by
          by_cases h : d ≤ b0
          · right
            by_cases h2 : k = 0
            · exact .inl ⟨decide_eq_true h, h2⟩
            · exact .inr ⟨decide_eq_true h, by omega, fun h3 => by have := RK.out (by omega) h3; omega⟩
          · exact .inl (decide_eq_false h)
        clear RK h14 h15 hB g1b g2b eA
        rcases V with v1 | ⟨v1, h0k⟩ | ⟨v1, v2, v3⟩
        · gi_wp2
          refine region_rdraw mixed (by kernel_rfl) (by kernel_rfl) ?_
          repeat (go_big_quiet_step (fail))
          refine wpQuiet_nil ?_
          rintro _ ⟨nq, rfl⟩
          have x14 : Go.Boxed (W2.drewN nq) S 3 (.int .i64 b0) := H14.out
          have x15 : Go.Boxed (W2.drewN nq) (S + 1) 3 (.int .i64 (k : Int)) := H15.out
          have u1' : (W2.drewN nq).cell? ⟨X.heap.size + 1, 1, none⟩ = some (.int .i64 d) := u1
          have c14 := x14.cell
          have f14 := x14.frozen
          have l14 := x14.lt
          have c15 := x15.cell
          have f15 := x15.frozen
          have l15 := x15.lt
          have DB : Hid (Below S w5 (W2.drewN nq)) := Lib.hid (below_drewN HB.out nq)
          have KD : Hid (Below W2.heap.size W2 (W2.drewN nq)) := Lib.hid (below_drewN (Below.refl _ _) nq)
          generalize W2.drewN nq = W3 at *
          gi_wp2
          have F := pt_end (d := d) KD.out x14 x15 DB.out (by omega)
          exact ⟨⟨F.1.1, F.1.2, trivial⟩, by rw [PL1.out, ZN.out]; exact F.2.1, by rw [PL1.out]; exact F.2.2.1, F.2.2.2⟩
        · have q1 : decide (0 < k) = false := decide_eq_false (by omega)
          have q2 : decide ((0 : Int) < (k : Int)) = false := decide_eq_false (by omega)
          clear h0k
          gi_wp2
          refine region_rdraw mixed (by kernel_rfl) (by kernel_rfl) ?_
          repeat (go_big_quiet_step (fail))
          refine wpQuiet_nil ?_
          rintro _ ⟨nq, rfl⟩
          have x14 : Go.Boxed (W2.drewN nq) S 3 (.int .i64 b0) := H14.out
          have x15 : Go.Boxed (W2.drewN nq) (S + 1) 3 (.int .i64 (k : Int)) := H15.out
          have u1' : (W2.drewN nq).cell? ⟨X.heap.size + 1, 1, none⟩ = some (.int .i64 d) := u1
          have c14 := x14.cell
          have f14 := x14.frozen
          have l14 := x14.lt
          have c15 := x15.cell
          have f15 := x15.frozen
          have l15 := x15.lt
          have DB : Hid (Below S w5 (W2.drewN nq)) := Lib.hid (below_drewN HB.out nq)
          have KD : Hid (Below W2.heap.size W2 (W2.drewN nq)) := Lib.hid (below_drewN (Below.refl _ _) nq)
          generalize W2.drewN nq = W3 at *
          gi_wp2
          have F := pt_end (d := d) KD.out x14 x15 DB.out (by omega)
          exact ⟨⟨F.1.1, F.1.2, trivial⟩, by rw [PL1.out, ZN.out]; exact F.2.1, by rw [PL1.out]; exact F.2.2.1, F.2.2.2⟩
        · have q1 : decide (0 < k) = true := decide_eq_true v2
          have q2 : decide ((0 : Int) < (k : Int)) = true := decide_eq_true (by omega)
          have q3 : decide ((k : Int) < (i : Int) - 1) = false := decide_eq_false (by omega)
          clear v2 v3
          gi_wp2
          refine region_rdraw mixed (by kernel_rfl) (by kernel_rfl) ?_
          repeat (go_big_quiet_step (fail))
          refine wpQuiet_nil ?_
          rintro _ ⟨nq, rfl⟩
          have x14 : Go.Boxed (W2.drewN nq) S 3 (.int .i64 b0) := H14.out
          have x15 : Go.Boxed (W2.drewN nq) (S + 1) 3 (.int .i64 (k : Int)) := H15.out
          have u1' : (W2.drewN nq).cell? ⟨X.heap.size + 1, 1, none⟩ = some (.int .i64 d) := u1
          have c14 := x14.cell
          have f14 := x14.frozen
          have l14 := x14.lt
          have c15 := x15.cell
          have f15 := x15.frozen
          have l15 := x15.lt
          have DB : Hid (Below S w5 (W2.drewN nq)) := Lib.hid (below_drewN HB.out nq)
          have KD : Hid (Below W2.heap.size W2 (W2.drewN nq)) := Lib.hid (below_drewN (Below.refl _ _) nq)
          generalize W2.drewN nq = W3 at *
          gi_wp2
          have F := pt_end (d := d) KD.out x14 x15 DB.out (by omega)
          exact ⟨⟨F.1.1, F.1.2, trivial⟩, by rw [PL1.out, ZN.out]; exact F.2.1, by rw [PL1.out]; exact F.2.2.1, F.2.2.2⟩
      case done =>
        clear SEQ b14 b15 K6 ES SN FT CH hnil
        rintro D xs X hD hxs ⟨h14, h15, hB⟩ hdf
        have hxs' : xs = spL x.es ns (-2199023255553) := hxs
        have hxl : xs.length = i := by rw [hxs', spL_len, HN.out]
        rw [hxl, pt_last ns i _ hn0 HEL.out] at h14
        rw [hxl] at h15
        have PX := Lib.hid (P5.out.under hB hs4)
        have VX := Lib.hid (V5.out.next (by rw [hS]; exact hB))
        obtain ⟨⟨c0, c1, c2⟩, c3⟩ := PX.out.cels
        have c14 := h14.cell
        have c15 := h15.cell
        obtain ⟨v0, v1, v2⟩ := cel3 VX.out.blk
        have HDF := Lib.hid hdf
        have HD4 : Hid (w.heap.size + 4 ≤ D) := Lib.hid (by omega)
        have FW := Lib.hid (Y.out.few)
        clear hxs hxs' hxl h14 h15 hB hdf hD P5 V5 K5 S5
        by_cases hb : b = true
        · subst hb
          have CK := Lib.hid (Y.out.chk rfl)
          have TS := Lib.hid (Y.out.ats rfl)
          clear Y
          by_cases hv : v = 0
          · subst hv
            have TS := Lib.hid (TS.out rfl)
            repeat (first
              | (go_at_call 9; (with_reducible refine (CK.out _ V7.out.bel).mono ?_); (rintro r w8 ⟨rfl, k8⟩); have P8 := Lib.hid (P7.out.next k8); have V8 := Lib.hid (V7.out.next k8); have D8 := Lib.hid ((k8.block D (Array.getElem?_eq_some_iff.1 D7.out).1).trans D7.out); clear k8 v0 v1 v2 c0 c1 c2 c3 c14 c15; simp only [])
              | (go_at_call 6; (with_reducible refine (FW.out _ VX.out.bel).mono ?_); (rintro r w7 ⟨rfl, k7⟩); have P7 := Lib.hid (PX.out.next k7); have V7 := Lib.hid (VX.out.next k7); have D7 := Lib.hid ((k7.block D (Array.getElem?_eq_some_iff.1 HDF.out).1).trans HDF.out); obtain ⟨v0, v1, v2⟩ := cel3 V7.out.blk; clear k7; simp only [])
              | go_values | go_skip | go_guarded | go_step | go_upon | go_back)
            clear CK FW PX VX P7 V7 D7 HDF
            go_loopw [18] (fun v18 wr2 => ∃ j : Nat, v18 = .int .i64 (j : Int) ∧ j ≤ m ∧ Below w8.heap.size w8 wr2) (fun v18 _ => m - (intOf v18).toNat)
            case atStart => exact ⟨0, rfl, Nat.zero_le _, Below.refl _ _⟩
            case round =>
              obtain ⟨j, rfl, hj, hk8⟩ := hrel
              have PR := Lib.hid (P8.out.next hk8)
              have VR := Lib.hid (V8.out.next hk8)
              have K8 := Lib.hid hk8
              have DR := Lib.hid ((hk8.block D (Array.getElem?_eq_some_iff.1 D8.out).1).trans D8.out)
              clear hk8
              by_cases hjm : j < m
              · have hjm' : (j : Int) < (m : Int) := by omega
                obtain ⟨tt, ht⟩ : ∃ tt, l[j]? = some tt := ⟨_, List.getElem?_eq_getElem (by rw [HM.out]; exact hjm)⟩
                obtain ⟨L2, off2, rfl, hL2, hc⟩ := (I.out.next PR.out.bel) j tt ht
                clear ht
                -- ROUND
                by_cases hnr : NrT tt
                · obtain ⟨p1, p2, p3, ATx, ATy⟩ := TS.out tt hnr
                  unfold locV at ATx ATy
                  have ATx := Lib.hid ATx
                  have ATy := Lib.hid ATy
                  have NR := Lib.hid (fun W => near_is tt true W (Lib.hid (.inl ⟨rfl, hnr⟩)))
                  clear TS hnr
                  repeat (first
                    | (go_at_call 14; (with_reducible refine (NR.out _).mono ?_); (rintro r wq ⟨rfl, kq⟩)
                       have PQ := Lib.hid (PR.out.next kq)
                       have VQ := Lib.hid (VR.out.next kq)
                       have KQ := Lib.hid (bthen K8.out kq)
                       have hcq := (kq.cell (p := ⟨L2, off2 + j, none⟩) hL2).trans hc
                       have hLq := Nat.lt_of_lt_of_le hL2 kq.size
                       clear kq hc hL2
                       simp only [])
                    | go_values | go_skip | go_guarded | go_step | go_upon | go_back)
                  obtain ⟨⟨c0, c1, c2⟩, c3⟩ := PQ.out.cels
                  obtain ⟨v0, v1, v2⟩ := cel3 VQ.out.blk
                  have lt0 := PQ.out.lts.1
                  go_cut [19, 20] from 154 to 197 (fun va vb wx => ∃ G, va = .pointer (some ⟨G, 0, none⟩) ∧ vb = .int .i64 0 ∧ wx.heap[G]? = some (.cells #[.int .i64 p1, .bool p2, .string ⟨p3.toArray⟩] 41 (0, 0)) ∧ Below wq.heap.size wq wx)
                  case first =>
                    have d0 := bel_cell c0
                    have d1 := bel_cell c1
                    have d2 := bel_cell c2
                    have d3 := bel_cell hcq
                    have SK := Lib.hid (fun (w' : World) (k : Below wq.heap.size wq w') => (⟨(k.cell (p := ⟨w.heap.size, 0, none⟩) lt0).trans c0, (k.cell (p := ⟨w.heap.size, 1, none⟩) lt0).trans c1, (k.cell (p := ⟨w.heap.size, 2, none⟩) lt0).trans c2, (k.cell (p := ⟨L2, off2 + j, none⟩) hLq).trans hcq⟩ : w'.cell? ⟨w.heap.size, 0, none⟩ = some (.string ⟨x.nm.toArray⟩) ∧ w'.cell? ⟨w.heap.size, 1, none⟩ = some (.slice x.az i x.cz) ∧ w'.cell? ⟨w.heap.size, 2, none⟩ = some (.slice x.sa x.ss.length x.cs) ∧ w'.cell? ⟨L2, off2 + j, none⟩ = some (.int .i64 tt)))
                    have K0 := Lib.hid (Below.refl wq.heap.size wq)
                    clear c0 c1 c2 c3 v0 v1 v2 hcq d0 d1 d2 d3
                    have KB := Lib.hid (K0.out.alloc (Nat.le_refl _) (.cells #[.int .i64 0, .bool false, .string ⟨#[]⟩] 41)).drew
                    have XB := Lib.hid (bthen VQ.out.bel KB.out)
                    have XD := Lib.hid (bthen VQ.out.bel K0.out.drew)
                    have LB := Lib.hid ((BlkN.make (Below.refl wq.heap.size wq) #[.int .i64 0, .bool false, .string ⟨#[]⟩] 41).next (Below.refl _ (wq.alloc (.cells #[.int .i64 0, .bool false, .string ⟨#[]⟩] 41))).drew)
                    go_region_held3 (fun w' => w'.cell? ⟨w.heap.size, 0, none⟩ = some (.string ⟨x.nm.toArray⟩) ∧ w'.cell? ⟨w.heap.size, 1, none⟩ = some (.slice x.az i x.cz) ∧ w'.cell? ⟨w.heap.size, 2, none⟩ = some (.slice x.sa x.ss.length x.cs) ∧ w'.cell? ⟨L2, off2 + j, none⟩ = some (.int .i64 tt)) (first | exact SK.out _ (Below.refl _ wq) | exact SK.out _ (Below.refl _ wq).drew | exact SK.out _ ((Below.refl _ wq).alloc (Nat.le_refl _) _) | exact SK.out _ ((Below.refl _ wq).alloc (Nat.le_refl _) _).drew | exact SK.out _ K6.out | exact SK.out _ (K6.out.alloc K6.out.size _) | exact SK.out _ (K6.out.setCell (Nat.le_refl _) _) | exact SK.out _ (((K6.out.setCell (Nat.le_refl _) _).setCell (Nat.le_refl _) _).setCell (Nat.le_refl _) _)) (first
                      | (go_at_call 13; (with_reducible refine (ATx.out _ XB.out).mono ?_); rintro r w6 ⟨rfl, k6⟩
                         have K6 := Lib.hid (KB.out.trans (k6.mono KB.out.size))
                         have L6 := Lib.hid (LB.out.next k6)
                         obtain ⟨q0, q1, q2⟩ := cel3 L6.out.blk
                         have f0 := frz (j := 0) L6.out.blk
                         have f1 := frz (j := 1) L6.out.blk
                         have f2 := frz (j := 2) L6.out.blk)
                      | (go_at_call 13; (with_reducible refine (ATx.out _ XD.out).mono ?_); rintro r w6 ⟨rfl, k6⟩
                         have K6 := Lib.hid (K0.out.drew.trans k6)
                         have L6 := Lib.hid (BlkN.make K6.out #[.int .i64 0, .bool false, .string ⟨#[]⟩] 41)
                         obtain ⟨q0, q1, q2⟩ := cel3 L6.out.blk
                         have f0 := frz (j := 0) L6.out.blk
                         have f1 := frz (j := 1) L6.out.blk
                         have f2 := frz (j := 2) L6.out.blk))
                    all_goals
                      repeat (first | go_values | go_skip | go_guarded | go_step | go_upon | go_back)
                      go_meet
                      case rel => first | exact ⟨_, rfl, rfl, L6.out.set3.blk, L6.out.set3.bel⟩ | exact ⟨_, rfl, rfl, (BlkN.make K6.out #[.int .i64 p1, .bool p2, .string ⟨p3.toArray⟩] 41).blk, (BlkN.make K6.out #[.int .i64 p1, .bool p2, .string ⟨p3.toArray⟩] 41).bel⟩
                  case rest =>
                    obtain ⟨G, rfl, rfl, hG, kG⟩ := hcut
                    generalize wc = W3 at *
                    have PG := Lib.hid (PQ.out.next kG)
                    have VG := Lib.hid (VQ.out.next kG)
                    have KG := Lib.hid (bthen KQ.out kG)
                    replace hcq := (kG.cell (p := ⟨L2, off2 + j, none⟩) hLq).trans hcq
                    replace hLq := Nat.lt_of_lt_of_le hLq kG.size
                    have HG := Lib.hid hG
                    clear c0 c1 c2 c3 v0 v1 v2 kG lt0 hG PQ VQ KQ
                    obtain ⟨⟨c0, c1, c2⟩, c3⟩ := PG.out.cels
                    obtain ⟨v0, v1, v2⟩ := cel3 VG.out.blk
                    have lt1 := VG.out.lt
                    repeat (first | go_values | go_skip | go_guarded | go_step | go_upon | go_back)
                    go_cut [21, 22] from 154 to 197 (fun va vb wx => ∃ G, va = .pointer (some ⟨G, 0, none⟩) ∧ vb = .int .i64 0 ∧ wx.heap[G]? = some (.cells #[.int .i64 p1, .bool p2, .string ⟨p3.toArray⟩] 41 (0, 0)) ∧ Below W3.heap.size W3 wx)
                    case first =>
                      have d0 := bel_cell v0
                      have d1 := bel_cell v1
                      have d2 := bel_cell v2
                      have d3 := bel_cell hcq
                      have SK := Lib.hid (fun (w' : World) (k : Below W3.heap.size W3 w') => (⟨(k.cell (p := ⟨Wv.heap.size, 0, none⟩) lt1).trans v0, (k.cell (p := ⟨Wv.heap.size, 1, none⟩) lt1).trans v1, (k.cell (p := ⟨Wv.heap.size, 2, none⟩) lt1).trans v2, (k.cell (p := ⟨L2, off2 + j, none⟩) hLq).trans hcq⟩ : w'.cell? ⟨Wv.heap.size, 0, none⟩ = some (.string ⟨x.nm.toArray⟩) ∧ w'.cell? ⟨Wv.heap.size, 1, none⟩ = some (.slice A' M c') ∧ w'.cell? ⟨Wv.heap.size, 2, none⟩ = some (.slice x.sa x.ss.length x.cs) ∧ w'.cell? ⟨L2, off2 + j, none⟩ = some (.int .i64 tt)))
                      have K0 := Lib.hid (Below.refl W3.heap.size W3)
                      clear c0 c1 c2 c3 v0 v1 v2 hcq d0 d1 d2 d3
                      have KB := Lib.hid (K0.out.alloc (Nat.le_refl _) (.cells #[.int .i64 0, .bool false, .string ⟨#[]⟩] 41)).drew
                      have XB := Lib.hid (bthen VG.out.bel KB.out)
                      have XD := Lib.hid (bthen VG.out.bel K0.out.drew)
                      have LB := Lib.hid ((BlkN.make (Below.refl W3.heap.size W3) #[.int .i64 0, .bool false, .string ⟨#[]⟩] 41).next (Below.refl _ (W3.alloc (.cells #[.int .i64 0, .bool false, .string ⟨#[]⟩] 41))).drew)
                      go_region_held3 (fun w' => w'.cell? ⟨Wv.heap.size, 0, none⟩ = some (.string ⟨x.nm.toArray⟩) ∧ w'.cell? ⟨Wv.heap.size, 1, none⟩ = some (.slice A' M c') ∧ w'.cell? ⟨Wv.heap.size, 2, none⟩ = some (.slice x.sa x.ss.length x.cs) ∧ w'.cell? ⟨L2, off2 + j, none⟩ = some (.int .i64 tt)) (first | exact SK.out _ (Below.refl _ W3) | exact SK.out _ (Below.refl _ W3).drew | exact SK.out _ ((Below.refl _ W3).alloc (Nat.le_refl _) _) | exact SK.out _ ((Below.refl _ W3).alloc (Nat.le_refl _) _).drew | exact SK.out _ K6.out | exact SK.out _ (K6.out.alloc K6.out.size _) | exact SK.out _ (K6.out.setCell (Nat.le_refl _) _) | exact SK.out _ (((K6.out.setCell (Nat.le_refl _) _).setCell (Nat.le_refl _) _).setCell (Nat.le_refl _) _)) (first
                        | (go_at_call 13; (with_reducible refine (ATy.out _ XB.out).mono ?_); rintro r w6 ⟨rfl, k6⟩
                           have K6 := Lib.hid (KB.out.trans (k6.mono KB.out.size))
                           have L6 := Lib.hid (LB.out.next k6)
                           obtain ⟨q0, q1, q2⟩ := cel3 L6.out.blk
                           have f0 := frz (j := 0) L6.out.blk
                           have f1 := frz (j := 1) L6.out.blk
                           have f2 := frz (j := 2) L6.out.blk)
                        | (go_at_call 13; (with_reducible refine (ATy.out _ XD.out).mono ?_); rintro r w6 ⟨rfl, k6⟩
                           have K6 := Lib.hid (K0.out.drew.trans k6)
                           have L6 := Lib.hid (BlkN.make K6.out #[.int .i64 0, .bool false, .string ⟨#[]⟩] 41)
                           obtain ⟨q0, q1, q2⟩ := cel3 L6.out.blk
                           have f0 := frz (j := 0) L6.out.blk
                           have f1 := frz (j := 1) L6.out.blk
                           have f2 := frz (j := 2) L6.out.blk))
                      all_goals
                        repeat (first | go_values | go_skip | go_guarded | go_step | go_upon | go_back)
                        go_meet
                        case rel => first | exact ⟨_, rfl, rfl, L6.out.set3.blk, L6.out.set3.bel⟩ | exact ⟨_, rfl, rfl, (BlkN.make K6.out #[.int .i64 p1, .bool p2, .string ⟨p3.toArray⟩] 41).blk, (BlkN.make K6.out #[.int .i64 p1, .bool p2, .string ⟨p3.toArray⟩] 41).bel⟩
                    case rest =>
                      obtain ⟨G', rfl, rfl, hG', kG⟩ := hcut
                      generalize wc = W4 at *
                      have KE := Lib.hid (bthen KG.out kG)
                      obtain ⟨a0, a1, a2⟩ := cel3 ((kG.block G (Array.getElem?_eq_some_iff.1 HG.out).1).trans HG.out)
                      obtain ⟨b0, b1, b2⟩ := cel3 hG'
                      clear c0 c1 c2 c3 v0 v1 v2 kG hG' lt1 hcq hLq
                      repeat (first | go_values | go_skip | go_guarded | go_step | go_upon | go_back)
                      exact ⟨⟨j + 1, by simp, by omega, KE.out⟩, by simp [intOf]; omega⟩
                · have NR := Lib.hid (fun W => near_is tt false W (Lib.hid (.inr ⟨rfl, hnr⟩)))
                  clear TS hnr
                  repeat (first
                    | (go_at_call 14; (with_reducible refine (NR.out _).mono ?_); (rintro r wq ⟨rfl, kq⟩); have KQ := Lib.hid (bthen K8.out kq); clear kq; simp only [])
                    | go_values | go_skip | go_guarded | go_step | go_upon | go_back)
                  exact ⟨⟨j + 1, by simp, by omega, KQ.out⟩, by simp [intOf]; omega⟩
                -- END
              · obtain rfl : j = m := by omega
                have hjm' : ¬ ((j : Nat) : Int) < (j : Int) := by omega
                repeat (first
                  | (go_at_call 7; (with_reducible refine (AW.out _ PR.out.bel).mono ?_); (rintro e w9 ⟨rfl, k9⟩); have P9 := Lib.hid (PR.out.next k9); have D9 := Lib.hid ((k9.block D (Array.getElem?_eq_some_iff.1 DR.out).1).trans DR.out); have q6 := cel1 P9.out.b6; have q7 := frz (j := 0) P9.out.b6; clear k9; simp only [])
                  | go_values | go_skip | go_guarded | go_step | go_upon | go_back)
                obtain ⟨r1, r2, r3⟩ := P9.out.fin2 D9.out HD4.out
                refine ⟨by simp, .inl ⟨_, _, rfl, run_takeDeferred r1, ?_⟩⟩
                exact ⟨.bool true, by simp [results, Tryz.results4, go_sem, r2], rfl, r3⟩
          · have hvb : (v != 0) = true := by simpa using hv
            clear hv TS
            repeat (first
              | (go_at_call 7; (with_reducible refine (AW.out _ P8.out.bel).mono ?_); (rintro e w9 ⟨rfl, k9⟩); have P9 := Lib.hid (P8.out.next k9); have D9 := Lib.hid ((k9.block D (Array.getElem?_eq_some_iff.1 D8.out).1).trans D8.out); have q6 := cel1 P9.out.b6; have q7 := frz (j := 0) P9.out.b6; clear k9; simp only [])
              | (go_at_call 9; (with_reducible refine (CK.out _ V7.out.bel).mono ?_); (rintro r w8 ⟨rfl, k8⟩); have P8 := Lib.hid (P7.out.next k8); have V8 := Lib.hid (V7.out.next k8); have D8 := Lib.hid ((k8.block D (Array.getElem?_eq_some_iff.1 D7.out).1).trans D7.out); clear k8 v0 v1 v2 c0 c1 c2 c3 c14 c15; simp only [])
              | (go_at_call 6; (with_reducible refine (FW.out _ VX.out.bel).mono ?_); (rintro r w7 ⟨rfl, k7⟩); have P7 := Lib.hid (PX.out.next k7); have V7 := Lib.hid (VX.out.next k7); have D7 := Lib.hid ((k7.block D (Array.getElem?_eq_some_iff.1 HDF.out).1).trans HDF.out); obtain ⟨v0, v1, v2⟩ := cel3 V7.out.blk; clear k7; simp only [])
              | go_values | go_skip | go_guarded | go_step | go_upon | go_back)
            obtain ⟨r1, r2, r3⟩ := P9.out.fin2 D9.out HD4.out
            refine ⟨by simp, .inl ⟨_, _, rfl, run_takeDeferred r1, ?_⟩⟩
            exact ⟨.bool true, by simp [results, Tryz.results4, go_sem, r2], rfl, r3⟩
        · obtain rfl : b = false := by simpa using hb
          clear hb Y
          repeat (first
            | (go_at_call 6; (with_reducible refine (FW.out _ VX.out.bel).mono ?_); (rintro r w7 ⟨rfl, k7⟩); have P7 := Lib.hid (PX.out.next k7); have D7 := Lib.hid ((k7.block D (Array.getElem?_eq_some_iff.1 HDF.out).1).trans HDF.out); clear k7; simp only [])
            | (go_at_call 7; (with_reducible refine (AW.out _ P7.out.bel).mono ?_); (rintro e w9 ⟨rfl, k9⟩); have P9 := Lib.hid (P7.out.next k9); have D9 := Lib.hid ((k9.block D (Array.getElem?_eq_some_iff.1 D7.out).1).trans D7.out); have q6 := cel1 P9.out.b6; have q7 := frz (j := 0) P9.out.b6; clear k9; simp only [])
            | go_values | go_skip | go_guarded | go_step | go_upon | go_back)
          obtain ⟨r1, r2, r3⟩ := P9.out.fin2 D9.out HD4.out
          refine ⟨by simp, .inl ⟨_, _, rfl, run_takeDeferred r1, ?_⟩⟩
          exact ⟨.bool true, by simp [results, Tryz.results4, go_sem, r2], rfl, r3⟩
end Go.Proofs.YtdmfgechoanmlaaGreatDoor

namespace Go.Proofs.YtdmfgechoanmlaaGreatDoor
open Go Go.RowKit Go.ChangeShapes Go.WideShapes Go.ChangeAt

set_option maxRecDepth 100000 in
theorem open_nums {H : Type} {enc : TypeId × Value → H} {W : World} {held : Bool} {r : Reach} {b0 : Nat} {v : Value} {d : DataW H} {p : List MemPlace} (hv : Value.okWide Tryz.prog W r b0 28 v) (h : DataW.Trod enc Tryz.prog W 0 (fun _ => true) held 28 v d p) :
    ∃ (l : List Int) (a : Option Addr) (cap : Nat), v = .slice a l.length cap ∧ NumsAt a l W := by
  obtain ⟨l, a, cap, e, -, -, hR, -⟩ := open_structs 1 (by omega) (fun n : Int => #[.int .i64 n]) (fun _ => True) Tryz.underlying28 cInt (fun _ => rfl) (fun n cs y hl hx => by
    obtain ⟨c0, rfl⟩ : ∃ c0, cs = [c0] := by
      match cs, hl with
      | [c0], _ => exact ⟨c0, rfl⟩
    obtain ⟨i, rfl, -⟩ := Rd.int (v := c0) ⟨n, y, hx⟩
    exact ⟨i, rfl, trivial⟩) hv h
  refine ⟨l, a, cap, e, fun i n hn => ?_⟩
  obtain ⟨L, off, e1, hL, hc⟩ := hR i n hn
  have h0 := hc 0 (.int .i64 n) (by omega) rfl
  rw [Nat.mul_one, Nat.add_zero] at h0
  exact ⟨L, off, e1, hL, h0⟩
set_option maxRecDepth 100000 in
theorem open_until {H : Type} {enc : TypeId × Value → H} {W : World} {sp : Nat → Bool} {held : Bool} {r : Reach} {b0 : Nat} {v : Value} {d : DataW H} {p : List MemPlace} (hv : Value.okWide Tryz.prog W r b0 52 v) (h : DataW.Trod enc Tryz.prog W 0 sp held 52 v d p) : ∃ u : EV, v = uvV u := by
  obtain ⟨cs, rfl, hsz⟩ := okWide_struct Tryz.underlying52 hv
  obtain ⟨fuel, hf⟩ := h
  have Q : Rd enc W sp held 52 cs.toList := ⟨fuel, _, by simpa [Value.cells] using hf⟩
  have hl : cs.toList.length = 7 := by rw [Array.length_toList, hsz]; kernel_rfl
  obtain ⟨l⟩ := cs
  obtain ⟨c5, c6, c7, c8, c9, c10, c11, rfl⟩ : ∃ c5 c6 c7 c8 c9 c10 c11, l = [c5, c6, c7, c8, c9, c10, c11] := by
    match l, hl with
    | [c5, c6, c7, c8, c9, c10, c11], _ => exact ⟨c5, c6, c7, c8, c9, c10, c11, rfl⟩
  obtain ⟨uy, rfl, -⟩ := Rd.int (v := c5) (Q.sub Tryz.underlying52 0 _ rfl 3 rfl 0 1 rfl cInt)
  obtain ⟨um, rfl, -⟩ := Rd.int (v := c6) (Q.sub Tryz.underlying52 1 _ rfl 3 rfl 1 1 rfl cInt)
  obtain ⟨dk, dw, dn, rfl, rfl, rfl⟩ := Rd.day (v0 := c7) (v1 := c8) (v2 := c9) (Q.sub Tryz.underlying52 2 _ rfl 48 rfl 2 3 rfl cDay)
  obtain ⟨sc, ck, rfl, rfl⟩ := Rd.clk (v0 := c10) (v1 := c11) (Q.sub Tryz.underlying52 3 _ rfl 50 rfl 5 2 rfl cClk)
  exact ⟨⟨0, [], 0, [], false, uy, um, dk, dw, dn, sc, ck⟩, rfl⟩
theorem zoneParts_walk (x : WV) (A : Option Addr) (c : Nat) (l : List Int) (u : EV) (w : World) (hA : LaidZ w) (hX : WvAt x w) (hO : WvOk x) (hL : ∀ s ∈ x.ss, ∀ r ∈ s.rs, r.lt.length ≤ 1000000000000000) (hI : NumsAt A l w) :
    Calls Tryz.prog 4 #[wvV x, .slice A l.length c, uvV u] w fun e w' => e = .returned (.bool true) ∧ Below w.heap.size w w' := by
  by_cases h : PtIn x l
  · exact zpt_in x A c l u w hA hX hO hL hI h
  · exact zpt_out x A c l u w hA hX hO hL h
end Go.Proofs.YtdmfgechoanmlaaGreatDoor
