/- The contract of lexer.Lines' closure and of Lines. -/
import Derived.Test.YtomiopdmgdidnaaDoorLxQ
namespace Go.Proofs.YtomiopdmgdidnaaDoor
open Go.RowKit Go.Shelf
attribute [local go_sem] Oper.semAt_some

set_option maxHeartbeats 4000000 in
theorem lines_in (n : Nat) (hn : n = 4) (l Bs n0 : Nat) (s : List UInt8) (hs : s.length ≤ 1000) (J : List Tx → World → Prop) (hn0 : 0 < n0) (W : World) (hnW : n0 ≤ W.heap.size) (hJ : OwnFrom W.heap.size J)
    (hY : ∀ pre x W1, J pre W1 → TxOk s.length pre x W1 → W.heap.size < W1.heap.size → YieldAt Fence.wide (n - 1) Tryd.prog l (txV x) W1 fun e W' => e = .returned (.bool true) ∧ J (pre ++ [x]) W' ∧ Below n0 W1 W' ∧ KeepsFrom W.heap.size W1 W' ∧ W'.heap[W.heap.size]? = W1.heap[W.heap.size]?)
    (hB : W.cell? ⟨Bs, 0, none⟩ = some (.string ⟨s.toArray⟩)) (hM : MaxIs W) (h0 : J [] W) :
    CallsIn Fence.wide n Tryd.prog 28 #[.func (.yield l) #[] #[], .pointer (some ⟨Bs, 0, none⟩)] W fun e W' => (∃ v, e = .returned v) ∧ ∃ xs : List Tx, ToldBy (ixF 1 (splitF s)) xs ∧ J xs W' := by
  have h1 : 1 ≤ n := by omega
  refine callsIn_of_wp_marks Tryd.func28 rfl trivial ?_ rfl
  simp only [Tryd.ntmps28, List.size_toArray, List.length_cons, List.length_nil, Nat.reduceAdd, Nat.reduceSub, Array.replicate_succ, Array.replicate_zero, List.push_toArray, List.append_toArray, List.nil_append, List.cons_append]
  have HJ := Lib.hid hJ
  have HY := Lib.hid hY
  have H0 := Lib.hid h0
  have hBl := lxcell_lt hB
  have hB1 : (W.alloc (.cells #[.func (.yield l) #[] #[]] 63)).cell? ⟨Bs, 0, none⟩ = some (.string ⟨s.toArray⟩) := by rw [((Below.refl W.heap.size W).alloc (Nat.le_refl _) _).cell (p := ⟨Bs, 0, none⟩) hBl]; exact hB
  clear hJ hY h0
  gi_wp2_with (first
    | (refine ⟨trivial, ?_⟩; gi_at_call 29; refine (callsIn_wide.2 (numbered_any s _)).mono ?_; rintro e w' ⟨rfl, rfl⟩; simp only []))
  obtain ⟨W0, hW0⟩ : ∃ W0, (W.alloc (.cells #[.func (.yield l) #[] #[]] 63)).alloc (.cells #[.string ⟨s.toArray⟩] 9) = W0 := ⟨_, rfl⟩
  have hsz : W0.heap.size = W.heap.size + 2 := by rw [← hW0]; simp
  have k0 : Below W.heap.size W W0 := by rw [← hW0]; exact ((Below.refl _ W).alloc (Nat.le_refl _) _).alloc (by simp) _
  have bx0 : Boxed W0 W.heap.size 63 (.func (.yield l) #[] #[]) := by rw [← hW0]; exact (Boxed.new W _ _).alloc _
  have cs0 : W0.cell? ⟨W.heap.size + 1, 0, none⟩ = some (.string ⟨s.toArray⟩) := by
    rw [← hW0]
    have := (Boxed.new (W.alloc (.cells #[.func (.yield l) #[] #[]] 63)) 9 (.string ⟨s.toArray⟩)).cell
    rwa [World.size_alloc] at this
  have m0 : MaxIs W0 := hM.next k0
  have j0 : J [] W0 := HJ.out _ _ _ none H0.out (lxgrown k0 none) (fun r e => by cases e)
  have hml := hM.lt
  simp only [World.size_alloc]
  rw [hW0]
  clear hW0 hB1 hB H0 hM
  have HK0 := Lib.hid k0
  have HJw := Lib.hid (OwnFrom.mono HJ.out (show W.heap.size ≤ W0.heap.size by omega))
  clear k0
  refine range_ok h1 (gf := 38) (lb := #[.pointer (some ⟨W.heap.size + 1, 0, none⟩)]) rfl (enters_of Tryd.func38 (by kernel_rfl) rfl)
    (numb_ok (n - 1) (by omega) (W.heap.size + 1) n0 s hs W0 (by omega) cs0 m0 hn0) (by omega) (fun _ => rfl)
    (fun pre W' => LnI W.heap.size (.func (.yield l) #[] #[]) J (pre.map Subtype.val) W') (fun c pre W' => LnX J c (pre.map Subtype.val) W')
    (lnI_own (fun pre : List Nl => pre.map Subtype.val) HJw.out (by omega)) (lnX_own (fun pre : List Nl => pre.map Subtype.val) HJw.out) ⟨[], ToldBy.nil, rfl, j0, bx0, m0⟩
    (fun x => { tmps := #[.func (.yield l) #[] #[], .pointer (some ⟨Bs, 0, none⟩), .pointer (some ⟨W.heap.size, 0, none⟩), .int .i64 (x.1.1 : Int), .string ⟨x.1.2.toArray⟩, undef, undef, .string ⟨s.toArray⟩, .func (.func 38) #[] #[.pointer (some ⟨W.heap.size + 1, 0, none⟩)], .int .i64 (x.1.1 : Int), .string ⟨x.1.2.toArray⟩, undef, undef, undef, undef, undef, undef, undef, undef, undef, undef, undef, undef, undef, undef, undef, undef, undef, undef, undef, undef, undef, undef, undef], defers := [] }) ?assign ?body ?done ?stop
  case assign =>
    intro l2 x W1 K hK
    simp only [nlV]
    gi_wp2
    exact hK
  case body =>
    rintro l2 pre ⟨⟨no, line⟩, hno, hln⟩ W1 ⟨ts, hT, hE0, hJ1, hBx, hM1⟩ hok
    have e : ((pre ++ [(⟨(no, line), hno, hln⟩ : Nl)]).map Subtype.val) = pre.map Subtype.val ++ [(no, line)] := by simp
    rw [e] at hok
    obtain ⟨er, her⟩ : ∃ er, lexE line = er := ⟨_, rfl⟩
    obtain ⟨ws, hws⟩ : ∃ ws, wordsL line = ws := ⟨_, rfl⟩
    have WC := Lib.hid (fun W => words_is line ws er W (by have : line.length ≤ 1000 := hln; omega) (Lib.hid ⟨her, hws⟩))
    have BD := Lib.hid (tx_bd (n := no) hno hws)
    have HT := Lib.hid (And.intro hT hE0)
    have HOK := Lib.hid hok
    have E := Lib.hid e
    have HV := Lib.hid (And.intro her hws)
    have HJ1 := Lib.hid hJ1
    have HBx := Lib.hid hBx
    have HM1 := Lib.hid hM1
    have hWl := hBx.lt
    clear hT hE0 hok e her hws hJ1 hBx hM1
    have hn1 : n0 ≤ W1.heap.size := by omega
    by_cases he0 : er = 0
    · subst he0
      by_cases hw0 : ws = []
      · subst hw0
        have SK := Lib.hid (HT.out.1.skip HT.out.2 (no, line) HV.out.1 HV.out.2)
        gi_wp2_with (first
          | (refine ⟨trivial, ?_⟩; gi_at_call 10; refine (CallsIn.inRound l2 (callsIn_wide.2 (WC.out _))).mono ?_; rintro e w2 ⟨A2, c2, rfl, o2, k2⟩
             have O2 := Lib.hid o2
             have K2 := Lib.hid k2
             have J2 := Lib.hid (HJw.out _ _ _ none HJ1.out (lxgrown k2 none) (fun r e => by cases e))
             have B2 := Lib.hid (HBx.out.kept (lxgrown k2 none) (by simp))
             have M2 := Lib.hid (HM1.out.next k2)
             have hs2 : W.heap.size < w2.heap.size := B2.out.lt
             have hbc := B2.out.cell
             have hbf := B2.out.frozen
             clear o2 k2
             simp only []))
        refine ⟨fun _ h => (by cases h), ?_⟩
        gi_wp2
        refine ⟨(lxkeeps K2.out).from _, K2.out.mono hn1, ?_⟩
        show LnI _ _ _ (List.map Subtype.val (pre ++ [(⟨(no, line), hno, hln⟩ : Nl)])) _
        rw [E.out]
        exact ⟨ts, SK.out.1, SK.out.2, J2.out, B2.out, M2.out⟩
      · have PT := Lib.hid (HT.out.1.put HT.out.2 (no, line) ⟨no, ws, 0, none, 0, BD.out⟩ rfl HV.out.2.symm HV.out.1.symm (.inr (by rw [HV.out.2]; exact hw0)))
        have FW : Hid (ts.length < s.length) := Lib.hid (by have := PT.out.1.few HOK.out; simp at this; omega)
        have hwl : (0 : Int) < (ws.length : Int) := by have := List.length_pos_iff.2 hw0; omega
        clear hw0
        gi_wp2_with (first
          | (refine ⟨trivial, ?_⟩; gi_at_call 10; refine (CallsIn.inRound l2 (callsIn_wide.2 (WC.out _))).mono ?_; rintro e w2 ⟨A2, c2, rfl, o2, k2⟩
             have O2 := Lib.hid o2
             have K2 := Lib.hid k2
             have J2 := Lib.hid (HJw.out _ _ _ none HJ1.out (lxgrown k2 none) (fun r e => by cases e))
             have B2 := Lib.hid (HBx.out.kept (lxgrown k2 none) (by simp))
             have M2 := Lib.hid (HM1.out.next k2)
             have hs2 : W.heap.size < w2.heap.size := B2.out.lt
             have hbc := B2.out.cell
             have hbf := B2.out.frozen
             obtain ⟨fn, tmps, assign, body, hy, hR⟩ := yield_inner (m' := 1) (l' := l2) (HY.out ts ⟨no, ws, 0, A2, c2, BD.out⟩ w2 J2.out ⟨good_all HT.out.1 HT.out.2, FW.out, Rw.of_own o2⟩ hs2)
             simp only [txV] at hy
             clear o2 k2
             simp only []))
        refine hR.mono ?_
        rintro e W3 ⟨rfl, hJ3, k3, kf3, ka3⟩
        have HJ3 := Lib.hid hJ3
        have HK3 := Lib.hid k3
        have HF3 := Lib.hid kf3
        have HA3 := Lib.hid ka3
        clear hJ3 k3 kf3 ka3 hy hR
        gi_wp2
        refine ⟨((lxkeeps K2.out).from _).trans (keepsFrom_mono HF3.out (by omega)), (K2.out.mono hn1).trans HK3.out, ?_⟩
        show LnI _ _ _ (List.map Subtype.val (pre ++ [(⟨(no, line), hno, hln⟩ : Nl)])) _
        rw [E.out]
        exact ⟨_, ⟨by rw [← PT.out.1.told]; simp [tell], by rw [← PT.out.1.err, lastE_snoc, lastE_snoc], fun y hy => PT.out.1.good y (by simpa using hy)⟩, PT.out.2, HJ3.out, by unfold Boxed; rw [HA3.out]; exact B2.out, M2.out.below HK3.out hn0⟩
    · have hws : ws = [] := by rw [← HV.out.2]; exact words_none (by rw [HV.out.1]; exact he0)
      subst hws
      have PT := Lib.hid (HT.out.1.put HT.out.2 (no, line) ⟨no, [], er, none, 0, BD.out⟩ rfl HV.out.2.symm HV.out.1.symm (.inl (by rw [HV.out.1]; exact he0)))
      have FW : Hid (ts.length < s.length) := Lib.hid (by have := PT.out.1.few HOK.out; simp at this; omega)
      have her : (er != 0) = true := by simpa using he0
      gi_wp2_with (first
        | (refine ⟨trivial, ?_⟩; gi_at_call 10; refine (CallsIn.inRound l2 (callsIn_wide.2 (WC.out _))).mono ?_; rintro e w2 ⟨A2, c2, rfl, o2, k2⟩
           have O2 := Lib.hid o2
           have K2 := Lib.hid k2
           have J2 := Lib.hid (HJw.out _ _ _ none HJ1.out (lxgrown k2 none) (fun r e => by cases e))
           have B2 := Lib.hid (HBx.out.kept (lxgrown k2 none) (by simp))
           have M2 := Lib.hid (HM1.out.next k2)
           have hs2 : W.heap.size < w2.heap.size := B2.out.lt
           have hbc := B2.out.cell
           have hbf := B2.out.frozen
           obtain ⟨fn, tmps, assign, body, hy, hR⟩ := yield_inner (m' := 1) (l' := l2) (HY.out ts ⟨no, [], er, none, 0, BD.out⟩ w2 J2.out ⟨good_all HT.out.1 HT.out.2, FW.out, Rw.nil _ _⟩ hs2)
           simp only [txV, List.length_nil] at hy
           clear o2 k2
           simp only []))
      refine hR.mono ?_
      rintro e W3 ⟨rfl, hJ3, k3, kf3, ka3⟩
      have HJ3 := Lib.hid hJ3
      have HK3 := Lib.hid k3
      have HF3 := Lib.hid kf3
      clear hJ3 k3 kf3 ka3 hy hR
      gi_wp2
      refine ⟨((lxkeeps K2.out).from _).trans (keepsFrom_mono HF3.out (by omega)), rfl, _, ?_, ?_, HJ3.out⟩
      · rw [E.out]; exact PT.out.1
      · rw [E.out, PT.out.2]; exact he0
  case done =>
    rintro D xs W1 hD hS ⟨ts, hT, hE0, hJ1, hBx, hM1⟩ hK
    have HT : ToldBy (ixF 1 (splitF s)) ts := by rw [← hS]; exact hT
    have HJ1 := Lib.hid hJ1
    clear hS hT hE0 hJ1 hBx hM1
    gi_wp2
    refine ⟨by simp, .inl ⟨_, _, rfl, run_takeDeferred hK, ?_⟩⟩
    refine ⟨_, results_none rfl _ _ _, ⟨_, rfl⟩, ts, HT, ?_⟩
    exact HJw.out.putObj _ HJ1.out hD hK rfl
  case stop =>
    rintro D c pre W1 hD hSp ⟨rfl, ts, hT, hE0, hJ1⟩ hK
    have HT : ToldBy (ixF 1 (splitF s)) ts := hT.whole hSp hE0
    have HJ1 := Lib.hid hJ1
    clear hSp hT hE0 hJ1
    gi_wp2
    refine ⟨by simp, .inl ⟨_, _, rfl, run_takeDeferred hK, ?_⟩⟩
    refine ⟨_, results_none rfl _ _ _, ⟨_, rfl⟩, ts, HT, ?_⟩
    exact HJw.out.putObj _ HJ1.out hD hK rfl
end Go.Proofs.YtomiopdmgdidnaaDoor
