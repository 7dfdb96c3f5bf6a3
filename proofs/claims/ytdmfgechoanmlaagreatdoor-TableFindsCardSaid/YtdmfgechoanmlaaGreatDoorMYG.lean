/- What the iterators of slices.Values and of table's shown hand on, over stretches without rules.
table.shown over stretches without rules: an iterator of changes. -/
import Derived.Test.YtdmfgechoanmlaaGreatDoorZqD
import Derived.LoopNIn
import Derived.LoopIn
import Derived.WalkMore
import Derived.Test.YtdmfgechoanmlaaGreatDoorMYK
namespace Go.Proofs.YtdmfgechoanmlaaGreatDoor
open Go Go.RowKit Go.Sort Go.Shelf
attribute [local go_sem] Oper.semAt_some

def encX (x : SX) : Array Value := #[svX x]
/-- What the iterator over stretches reads. -/
structure VaR (Bv : Nat) (A : Option Addr) (m c : Nat) (ss : List SX) (W : World) : Prop where
  bv : W.heap[Bv]? = some (.cells #[.slice A m c] 135 (0, 0))
  ss : RowsAt 15 cSx A ss W
theorem VaR.next {Bv : Nat} {A : Option Addr} {m c : Nat} {ss : List SX} {W W' : World} (h : VaR Bv A m c ss W) (k : Below W.heap.size W W') : VaR Bv A m c ss W' := ⟨(k.block _ (Array.getElem?_eq_some_iff.1 h.bv).1).trans h.bv, h.ss.next k⟩
theorem svals_is (A : Option Addr) (m c : Nat) (w : World) : Calls Tryz.prog 85 #[.slice A m c] w fun e w' => e = .returned (.func (.func 104) #[] #[.pointer (some ⟨w.heap.size, 0, none⟩)]) ∧ w' = w.alloc (.cells #[.slice A m c] 135) := by
  have hmf : ∀ (fn : Fn) (first cap : Array Value) (w : World), (Instr.makeFunc fn first cap).run Tryz.prog w = .ok (.func fn first cap) w := fun _ _ _ _ => rfl
  go_enter Tryz.func85, Tryz.ntmps85
  go_wp2
  go_ret
  exact ⟨rfl, rfl⟩
theorem sx_cells {A : Option Addr} {ss : List SX} {w : World} {i : Nat} {x : SX} (h : RowsAt 15 cSx A ss w) (hx : ss[i]? = some x) : ∃ L off, A = some ⟨L, off, none⟩ ∧ L < w.heap.size ∧
    (w.cell? ⟨L, off + i * 15, none⟩ = some (.int .i64 x.1.of) ∧ w.cell? ⟨L, off + i * 15 + 1, none⟩ = some (.string ⟨x.1.rl.toArray⟩) ∧ w.cell? ⟨L, off + i * 15 + 2, none⟩ = some (.int .i64 x.1.sv) ∧ w.cell? ⟨L, off + i * 15 + 3, none⟩ = some (.string ⟨x.1.fm.toArray⟩) ∧ w.cell? ⟨L, off + i * 15 + 4, none⟩ = some (.bool x.1.en) ∧ w.cell? ⟨L, off + i * 15 + 5, none⟩ = some (.int .i64 x.1.uy) ∧ w.cell? ⟨L, off + i * 15 + 6, none⟩ = some (.int .i64 x.1.um) ∧ w.cell? ⟨L, off + i * 15 + 7, none⟩ = some (.int .i64 x.1.dk)) ∧
    (w.cell? ⟨L, off + i * 15 + 8, none⟩ = some (.int .i64 x.1.dw) ∧ w.cell? ⟨L, off + i * 15 + 9, none⟩ = some (.int .i64 x.1.dn) ∧ w.cell? ⟨L, off + i * 15 + 10, none⟩ = some (.int .i64 x.1.sc) ∧ w.cell? ⟨L, off + i * 15 + 11, none⟩ = some (.int .i64 x.1.ck) ∧ w.cell? ⟨L, off + i * 15 + 12, none⟩ = some (.slice none 0 0) ∧ w.cell? ⟨L, off + i * 15 + 13, none⟩ = some (.int .i64 x.2.1) ∧ w.cell? ⟨L, off + i * 15 + 14, none⟩ = some (.int .i64 x.2.2)) := by
  obtain ⟨L, off, e, hl, hc⟩ := h i x hx
  exact ⟨L, off, e, hl, ⟨hc 0 _ (by omega) rfl, hc 1 _ (by omega) rfl, hc 2 _ (by omega) rfl, hc 3 _ (by omega) rfl, hc 4 _ (by omega) rfl, hc 5 _ (by omega) rfl, hc 6 _ (by omega) rfl, hc 7 _ (by omega) rfl⟩, hc 8 _ (by omega) rfl, hc 9 _ (by omega) rfl, hc 10 _ (by omega) rfl, hc 11 _ (by omega) rfl, hc 12 _ (by omega) rfl, hc 13 _ (by omega) rfl, hc 14 _ (by omega) rfl⟩
set_option maxRecDepth 20000 in
set_option maxHeartbeats 2000000 in
theorem svals_seq (n : Nat) (hn : 1 ≤ n) (T : TypeId → Bool) (n0 : Nat) (Kp : World → World → Prop) (Bv : Nat) (A : Option Addr) (m c : Nat) (ss : List SX) (w : World) (hm : ss.length = m) (hm1 : m ≤ 1000) (hR : VaR Bv A m c ss w)
    (hK : ∀ X Y, VaR Bv A m c ss X → Below n0 X Y → Kp X Y → VaR Bv A m c ss Y) :
    SeqKs T n Tryz.prog 104 #[.pointer (some ⟨Bv, 0, none⟩)] encX (fun pre x => pre ++ [x] <+: ss) n0 Kp (fun xs => xs = ss) (fun pre => pre <+: ss) w := by
  intro l J Jx W hW hJ hJx hY h0
  have HM := Lib.hid hm
  have HJ := Lib.hid hJ
  have HY := Lib.hid hY
  have H0 := Lib.hid h0
  have HK := Lib.hid hK
  have AA := Lib.hid (hR.next hW)
  have bl := cel1 AA.out.bv
  clear hm hJ hJx hY h0 hR hW hK
  refine callsIn_of_wp Tryz.func104 rfl trivial ?_ rfl
  simp only [Tryz.ntmps104, List.size_toArray, List.length_cons, List.length_nil, Nat.reduceAdd, Nat.reduceSub, Array.replicate_succ, Array.replicate_zero, List.push_toArray, List.append_toArray, List.nil_append, List.cons_append]
  gi_wp2
  gi_loopw [7] (fun v wr => ∃ i : Nat, v = .int .i64 (i : Int) ∧ i ≤ m ∧ VaR Bv A m c ss wr ∧ W.heap.size ≤ wr.heap.size ∧ J (ss.take i) wr) (fun v _ => m - (intOf v).toNat)
  case atStart => exact ⟨0, rfl, Nat.zero_le _, AA.out, Nat.le_refl _, H0.out⟩
  case round =>
    obtain ⟨i, rfl, hi, hA, hs, hJ⟩ := hrel
    have AR := Lib.hid hA
    have HJP := Lib.hid hJ
    have HS := Lib.hid hs
    clear hA hJ hs AA H0 bl
    by_cases hlt : i < m
    · have hlt' : (i : Int) < (m : Int) := by omega
      obtain ⟨e, he⟩ : ∃ e, ss[i]? = some e := ⟨_, List.getElem?_eq_getElem (by rw [HM.out]; exact hlt)⟩
      obtain ⟨L, off, rfl, hL, ⟨x0, x1, x2, x3, x4, x5, x6, x7⟩, x8, x9, x10, x11, x12, x13, x14⟩ := sx_cells AR.out.ss he
      have TK : Hid (ss.take (i + 1) = ss.take i ++ [e]) := Lib.hid ((by obtain ⟨h1, h2⟩ := List.getElem?_eq_some_iff.1 he; rw [List.take_succ_eq_append_getElem h1, h2]))
      have OK : Hid (ss.take i ++ [e] <+: ss) := Lib.hid (by rw [← TK.out]; exact List.take_prefix _ _)
      obtain ⟨⟨of, rl, sv, fm, en, uy, um, dk, dw, dn, sc, ck⟩, pb, pe⟩ := e
      have kal : Below wr.heap.size wr (wr.alloc (.cells #[.int .i64 of, .string ⟨rl.toArray⟩, .int .i64 sv, .string ⟨fm.toArray⟩, .bool en, .int .i64 uy, .int .i64 um, .int .i64 dk, .int .i64 dw, .int .i64 dn, .int .i64 sc, .int .i64 ck, .slice none 0 0, .int .i64 pb, .int .i64 pe] 160)) := (Below.refl _ _).alloc (Nat.le_refl _) _
      have AL := Lib.hid (AR.out.next kal)
      obtain ⟨fn, tmps, assign, body, hy, hR⟩ := HY.out _ (⟨of, rl, sv, fm, en, uy, um, dk, dw, dn, sc, ck⟩, pb, pe) (wr.alloc (.cells #[.int .i64 of, .string ⟨rl.toArray⟩, .int .i64 sv, .string ⟨fm.toArray⟩, .bool en, .int .i64 uy, .int .i64 um, .int .i64 dk, .int .i64 dw, .int .i64 dn, .int .i64 sc, .int .i64 ck, .slice none 0 0, .int .i64 pb, .int .i64 pe] 160)) (HJ.out.bel HJP.out kal) OK.out (by have := HS.out; simp; omega)
      simp only [encX, svX, cSx] at hy
      have hsz : W.heap.size ≤ wr.heap.size := HS.out
      clear he kal
      gi_wp2
      refine hR.mono ?_
      rintro e1 W3 (⟨rfl, hJ3, hk3, hkp3, -⟩ | ⟨rfl, hJx3, -⟩)
      · have HJ3 := Lib.hid hJ3
        have HK3 := Lib.hid (HK.out _ _ AL.out hk3 hkp3)
        have HS3 := Lib.hid hk3.size
        clear hJ3 hk3 hkp3 hy hR
        gi_wp2
        go_roundw
        case rel => exact ⟨i + 1, rfl, by omega, HK3.out, by have := HS3.out; simp at this; omega, by rw [TK.out]; exact HJ3.out⟩
        case measure => simp [intOf]; omega
      · clear hy hR
        gi_wp2
        exact bodyPost_ret (results_none rfl _ _ _) rfl ⟨⟨_, rfl⟩, .inr ⟨_, OK.out, hJx3⟩⟩
    · obtain rfl : i = m := by omega
      have hlt' : ¬ ((i : Nat) : Int) < (i : Int) := by omega
      have FIN : Hid (J ss wr) := Lib.hid (by have := HJP.out; rwa [List.take_of_length_le (by rw [HM.out]; omega)] at this)
      gi_wp2
      go_end0
      exact ⟨⟨_, rfl⟩, .inl FIN.out⟩
end Go.Proofs.YtdmfgechoanmlaaGreatDoor

namespace Go.Proofs.YtdmfgechoanmlaaGreatDoor
open Go Go.RowKit Go.Sort Go.Shelf
attribute [local go_sem] Oper.semAt_some

theorem LaidZ.below {w w' : World} {n0 : Nat} (h : LaidZ w) (k : Below n0 w w') (h1 : 2 < n0) (h2 : 0 < n0) (h3 : 1 < n0) : LaidZ w' := by
  refine ⟨⟨h.f.ah.below k h1⟩, ⟨h.b.mks.below k h2, ?_⟩⟩
  obtain ⟨m, hm⟩ := h.b.mx
  exact ⟨m, (k.cell (p := ⟨_, _, none⟩) h3).trans hm⟩
theorem tshown_is (A : Option Addr) (m c : Nat) (a b : Int) (w : World) : Calls Tryz.prog 64 #[.slice A m c, .int .i64 a, .int .i64 b] w fun e w' => e = .returned (.func (.func 84) #[] #[.pointer (some ⟨w.heap.size, 0, none⟩), .pointer (some ⟨w.heap.size + 1, 0, none⟩), .pointer (some ⟨w.heap.size + 1 + 1, 0, none⟩)]) ∧ w' = (((w.alloc (.cells #[.slice A m c] 135)).alloc (.cells #[.int .i64 a] 3)).alloc (.cells #[.int .i64 b] 3)) := by
  have hmf : ∀ (fn : Fn) (first cap : Array Value) (w : World), (Instr.makeFunc fn first cap).run Tryz.prog w = .ok (.func fn first cap) w := fun _ _ _ _ => rfl
  go_enter Tryz.func64, Tryz.ntmps64
  go_wp2
  go_ret
  exact ⟨rfl, rfl⟩
/-- What shown's iterator reads, all of it below n0. -/
structure ToB (n0 B : Nat) (A : Option Addr) (m c : Nat) (a b : Int) (ss : List SX) (w : World) : Prop where
  b0 : w.heap[B]? = some (.cells #[.slice A m c] 135 (0, 0))
  b1 : w.heap[B + 1]? = some (.cells #[.int .i64 a] 3 (0, 0))
  b2 : w.heap[B + 2]? = some (.cells #[.int .i64 b] 3 (0, 0))
  ss : RowsAt 15 cSx A ss w
  sl : ∀ x, A = some x → x.block < n0
  lz : LaidZ w
  hB : B + 2 < n0
  g1 : 2 < n0
  g2 : 0 < n0
  g3 : 1 < n0
theorem rows_below {n0 : Nat} {A : Option Addr} {ss : List SX} {w w' : World} (h : RowsAt 15 cSx A ss w) (sl : ∀ x, A = some x → x.block < n0) (k : Below n0 w w') : RowsAt 15 cSx A ss w' := fun i x hx => by
  obtain ⟨L, off, e, hl, hc⟩ := h i x hx
  exact ⟨L, off, e, Nat.lt_of_lt_of_le hl k.size, fun j v hj hv => (k.cell (p := ⟨L, off + i * 15 + j, none⟩) (sl ⟨L, off, none⟩ e)).trans (hc j v hj hv)⟩
theorem ToB.below {n0 B : Nat} {A : Option Addr} {m c : Nat} {a b : Int} {ss : List SX} {w w' : World} (h : ToB n0 B A m c a b ss w) (k : Below n0 w w') : ToB n0 B A m c a b ss w' :=
  ⟨(k.block _ (by have := h.hB; omega)).trans h.b0, (k.block _ (by have := h.hB; omega)).trans h.b1, (k.block _ h.hB).trans h.b2, rows_below h.ss h.sl k, h.sl, h.lz.below k h.g1 h.g2 h.g3, h.hB, h.g1, h.g2, h.g3⟩
structure SxOk (x : SX) : Prop where
  e : PlE x.1
  b1 : -2199023255553 ≤ x.2.1
  b2 : x.2.1 ≤ 2199023255552
  d1 : -2199023255552 ≤ x.2.2
  d2 : x.2.2 ≤ 2199023255553
theorem flat_pre {ss pre : List SX} {x : SX} (a b : Int) (h : pre ++ [x] <+: ss) : pre.flatMap (seL a b) ++ seL a b x <+: ss.flatMap (seL a b) := by
  obtain ⟨T, hT⟩ := h
  rw [← hT, List.flatMap_append, List.flatMap_append]
  simp only [List.flatMap_cons, List.flatMap_nil, List.append_nil]
  exact List.prefix_append _ _
set_option maxRecDepth 20000 in
set_option maxHeartbeats 2000000 in
theorem tshown_seq (N : Nat) (hN : 12 ≤ N) (n0 B : Nat) (A : Option Addr) (m c : Nat) (a b : Int) (ss : List SX) (w : World) (hT : ToB n0 B A m c a b ss w) (hn0 : n0 ≤ w.heap.size) (hm : ss.length = m) (hm1 : m ≤ 1000) (hs : ∀ x ∈ ss, SxOk x) (a1 : -2199023255552 ≤ a) (a2 : a ≤ 2199023255552) (b1 : -2199023255552 ≤ b) (b2 : b ≤ 2199023255552) :
    ItC N 84 #[.pointer (some ⟨B, 0, none⟩), .pointer (some ⟨B + 1, 0, none⟩), .pointer (some ⟨B + 1 + 1, 0, none⟩)] (ss.flatMap (seL a b)) n0 w := by
  refine ⟨hn0, enters_of Tryz.func84 (by kernel_rfl) rfl, fun mm w' kw hmm => ?_⟩
  intro l J Jx W hW hJ hJx hYd hj0
  have h1 : 1 ≤ N := by omega
  have kW : Below n0 w W := kw.trans (hW.mono (by have := kw.size; omega))
  have hnW : n0 ≤ W.heap.size := Nat.le_trans hn0 kW.size
  have hmW : mm ≤ W.heap.size := Nat.le_trans hmm hW.size
  have TW := Lib.hid (hT.below kW)
  have kY : Below W.heap.size W (W.alloc (.cells #[.func (.yield l) #[] #[]] 108)) := (Below.refl _ W).alloc (Nat.le_refl _) _
  have T1 := Lib.hid (TW.out.below (kY.mono hnW))
  have SV := Lib.hid (fun X => svals_is A m c X)
  have HJ := Lib.hid hJ
  have HX := Lib.hid hJx
  have HYd := Lib.hid hYd
  have HS := Lib.hid hs
  have HM := Lib.hid hm
  have c0' := cel1 T1.out.b0
  obtain ⟨W2, hW2⟩ : ∃ W2, (W.alloc (.cells #[.func (.yield l) #[] #[]] 108)).alloc (.cells #[.slice A m c] 135) = W2 := ⟨_, rfl⟩
  obtain ⟨Bq, hBq⟩ : ∃ k, W.heap.size = k := ⟨_, rfl⟩
  have k2 : Below W.heap.size W W2 := by rw [← hW2]; exact bmk kY _
  have s2 : W2.heap.size = Bq + 2 := by rw [← hW2, ← hBq]; simp
  have q2 : W2.heap[Bq]? = some (.cells #[.func (.yield l) #[] #[]] 108 (0, 0)) := by rw [← hW2, Below.heap_alloc _ _ _ (by simp; omega), ← hBq]; exact World.alloc_heap_new W _
  have v2 : W2.heap[Bq + 1]? = some (.cells #[.slice A m c] 135 (0, 0)) := by
    rw [← hW2, ← hBq]
    have := World.alloc_heap_new (W.alloc (.cells #[.func (.yield l) #[] #[]] 108)) (.cells #[.slice A m c] 135)
    rwa [World.size_alloc] at this
  have J2 := Lib.hid (HJ.out.bel hj0 k2)
  have K2 := Lib.hid (k2.mono hnW)
  clear hT hm hs hW hJ hJx hYd hj0 kw kY k2
  refine callsIn_of_wp_marks Tryz.func84 rfl trivial ?_ rfl
  simp only [Tryz.ntmps84, List.size_toArray, List.length_cons, List.length_nil, Nat.reduceAdd, Nat.reduceSub, Array.replicate_succ, Array.replicate_zero, List.push_toArray, List.append_toArray, List.nil_append, List.cons_append]
  gi_wp2_with (refine ⟨trivial, ?_⟩; gi_at_call 85; refine (callsIn_wide.2 (SV.out _)).mono ?_; rintro e w3 ⟨rfl, rfl⟩; simp only [])
  try simp only [World.size_alloc, hBq, hW2]
  have VR : VaR (Bq + 1) A m c ss W2 := ⟨v2, (TW.out.below K2.out).ss⟩
  have SEQ := svals_seq (N - 1) (by omega) tC n0 (KpC Bq) (Bq + 1) A m c ss W2 HM.out hm1 VR (fun X Y hX hB hK => ⟨(hK _ _ _ _ (by omega) hX.bv (by rfl)).trans hX.bv, rows_below hX.ss TW.out.sl hB⟩)
  clear VR c0' T1 SV
  refine range_kh h1 (gf := 104) (lb := #[.pointer (some ⟨Bq + 1, 0, none⟩)]) rfl (enters_of Tryz.func104 (by kernel_rfl) rfl) SEQ (by omega) (fun _ => rfl) KpC.trans KpC.put
    (fun pre X => (X.heap[Bq]? = some (.cells #[.func (.yield l) #[] #[]] 108 (0, 0)) ∧ Bq + 2 ≤ X.heap.size ∧ J (pre.flatMap (seL a b)) X) ∧ Below n0 W X)
    (fun c _ X => c = .ret ∧ ∃ p, p <+: ss.flatMap (seL a b) ∧ Jx p X) ?hI ?hIx ⟨⟨q2, by omega, J2.out⟩, K2.out⟩ ?round ?done ?stop
  case hI =>
    rintro pre X Y row ⟨⟨hq, hsz, hj⟩, hb⟩ hg hr
    have hk : Below n0 X Y := (Below.refl n0 X).grown hg (by have := hb.size; omega) (fun j hj => by have := (hr j hj).1; omega)
    exact ⟨⟨(hg.block _ (Array.getElem?_eq_some_iff.1 hq).1 (fun e => by have := (hr _ e.symm).1; omega)).trans hq, by have := hg.size; omega, HJ.out _ X Y row hj hg (fun r e => ⟨by have := (hr r e).1; omega, (hr r e).2⟩)⟩, hb.trans hk⟩
  case hIx => exact fun c s X Y row ⟨h2, p, h3, h4⟩ hg hr => ⟨h2, p, h3, HX.out _ X Y row h4 hg (fun r e => ⟨by have := (hr r e).1; omega, (hr r e).2⟩)⟩
  case round =>
    rintro l2 pre ⟨⟨of, rl, sv, fm, en, uy, um, dk, dw, dn, sc, ck⟩, pb, pe⟩ X ⟨⟨hq, hsz, hj⟩, hb⟩ hOk hsX
    simp only [encX, svX, cSx]
    have hx := HS.out (⟨of, rl, sv, fm, en, uy, um, dk, dw, dn, sc, ck⟩, pb, pe) (hOk.subset (by simp))
    have FP := Lib.hid (flat_pre a b hOk)
    have bX : RowKit.Below X.heap.size X (X.alloc (.cells #[.int .i64 of, .string ⟨rl.toArray⟩, .int .i64 sv, .string ⟨fm.toArray⟩, .bool en, .int .i64 uy, .int .i64 um, .int .i64 dk, .int .i64 dw, .int .i64 dn, .int .i64 sc, .int .i64 ck, .slice none 0 0, .int .i64 pb, .int .i64 pe] 160)) := (Below.refl _ X).alloc (Nat.le_refl _) _
    have hbs := hb.size
    gi_wp2
    refine ⟨⟨KeepsOthers.alloc X _, bX.mono (by omega), KpC.below bX⟩, fun _ Y => (((Y.heap[Bq]? = some (.cells #[.func (.yield l) #[] #[]] 108 (0, 0)) ∧ Bq + 2 ≤ Y.heap.size ∧ J (pre.flatMap (seL a b)) Y) ∧ Below n0 W Y) ∧ Y.heap[X.heap.size]? = some (.cells #[.int .i64 of, .string ⟨rl.toArray⟩, .int .i64 sv, .string ⟨fm.toArray⟩, .bool en, .int .i64 uy, .int .i64 um, .int .i64 dk, .int .i64 dw, .int .i64 dn, .int .i64 sc, .int .i64 ck, .slice none 0 0, .int .i64 pb, .int .i64 pe] 160 (0, 0))),
      OwnFrom.and (fun u X Y row ⟨⟨hq, hsz, hj⟩, hb⟩ hg hr => by
        have hk : Below n0 X Y := (Below.refl n0 X).grown hg (by have := hb.size; omega) (fun j hj => by have := (hr j hj).1; omega)
        exact ⟨⟨(hg.block _ (Array.getElem?_eq_some_iff.1 hq).1 (fun e => by have := (hr _ e.symm).1; omega)).trans hq, by have := hg.size; omega, HJ.out _ X Y row hj hg (fun r e => ⟨by have := (hr r e).1; omega, by obtain ⟨o, h1, h2⟩ := (hr r e).2; exact ⟨o, h1, .inl h2⟩⟩)⟩, hb.trans hk⟩)
        (fun s A B row h hg hr => (hg.block _ (Array.getElem?_eq_some_iff.1 h).1 (fun e => by obtain ⟨-, o, ho, hc⟩ := hr _ e.symm; rw [h] at ho; cases ho; cases hc)).trans h),
      ⟨⟨⟨(bX.block _ (by omega)).trans hq, Nat.le_trans hsz bX.size, HJ.out.bel hj bX⟩, hb.trans (bX.mono (by omega))⟩, heap_alloc_new X _⟩, ?_⟩
    rintro W5 ⟨⟨⟨hq5, hsz5, hj5⟩, hb5⟩, hF5⟩ hs5 ⟨r0, hr0⟩
    have T5 := Lib.hid (TW.out.below hb5)
    obtain ⟨⟨x0, x1, x2, x3, x4, x5, x6, x7, x8, x9⟩, x10, x11, x12, x13, x14⟩ := cells15 hF5
    have c1 := cel1 T5.out.b1
    have c2 : W5.cell? ⟨B + 1 + 1, 0, none⟩ = some (.int .i64 b) := cel1 T5.out.b2
    have SS := Lib.hid (sshown_is (⟨of, rl, sv, fm, en, uy, um, dk, dw, dn, sc, ck⟩, pb, pe) a b W5 (by have := hx.d1; simp only at this ⊢; omega) (by have := hx.d2; simp only at this ⊢; omega))
    simp only [svX, cSx] at SS
    have Q5 := Lib.hid hq5
    have J5 := Lib.hid hj5
    have B5 := Lib.hid hb5
    have R5 := Lib.hid hr0
    have XO := Lib.hid hx
    have hn5 : n0 ≤ W5.heap.size := by have := hb5.size; omega
    clear bX hq hj hb hOk hq5 hj5 hb5 hF5 hx hr0
    gi_wp2
    refine ⟨trivial, fun _ => by omega, CallsIn.inRound l2 (callsIn_wide.2 (SS.out.mono ?_))⟩
    rintro e w7 ⟨Bb, Bl, Bs, rfl, hSh, m1, m2, m3, k7⟩
    have K7 := Lib.hid k7
    have SEQ7 := strt_seq (N - 1 - 1 - 1) (by omega) n0 W5.heap.size Bb Bl Bs (max pb a) (min (pe - 1) b) (⟨of, rl, sv, fm, en, uy, um, dk, dw, dn, sc, ck⟩, pb, pe) w7 XO.out.e (by omega) (by have := XO.out.b2; simp only at this; omega) (by have := XO.out.d1; simp only at this; omega) (by omega) hSh m1 m2 m3 (by have := k7.size; omega) TW.out.g1 (T5.out.lz.next k7)
    have hrec : w7.heap[l2]? = some (.loop r0) := (k7.block _ (Array.getElem?_eq_some_iff.1 R5.out).1).trans R5.out
    have s7 := k7.size
    have I7 := Lib.hid (show ((w7.heap[Bq]? = some (.cells #[.func (.yield l) #[] #[]] 108 (0, 0)) ∧ Bq + 2 ≤ w7.heap.size ∧ J (pre.flatMap (seL a b) ++ []) w7) ∧ Below n0 W w7) ∧ KeptP n0 (KpC Bq) W5 w7 from
      ⟨⟨⟨(k7.block _ (by omega)).trans Q5.out, by omega, by rw [List.append_nil]; exact HJ.out.bel J5.out k7⟩, B5.out.trans (k7.mono hn5)⟩, ⟨KeepsOthers.of_grownBy (grown_bel k7 none) (fun j o e => by cases e), k7.mono hn5, KpC.below k7⟩⟩)
    clear k7 hSh x0 x1 x2 x3 x4 x5 x6 x7 x8 x9 x10 x11 x12 x13 x14 c1 c2 SS
    simp only []
    gi_wp2
    have OWN2 : ∀ pre2 X Y row, ((X.heap[Bq]? = some (.cells #[.func (.yield l) #[] #[]] 108 (0, 0)) ∧ Bq + 2 ≤ X.heap.size ∧ J (pre.flatMap (seL a b) ++ pre2) X) ∧ Below n0 W X) ∧ KeptP n0 (KpC Bq) W5 X → X.grownBy Y row → (∀ r, row = some r → w7.heap.size ≤ r ∧ ∃ o : Obj, X.heap[r]? = some o ∧ (o.isCells = false ∨ ∃ cs t fz, o = .cells cs t fz ∧ tC t = true)) → ((Y.heap[Bq]? = some (.cells #[.func (.yield l) #[] #[]] 108 (0, 0)) ∧ Bq + 2 ≤ Y.heap.size ∧ J (pre.flatMap (seL a b) ++ pre2) Y) ∧ Below n0 W Y) ∧ KeptP n0 (KpC Bq) W5 Y := by
      rintro pre2 X Y row ⟨⟨⟨hq, hsz, hj⟩, hb⟩, ⟨ho, hb2, hk2⟩⟩ hg hr
      have hk : Below n0 X Y := (Below.refl n0 X).grown hg (by have := hb.size; omega) (fun j hj => by have := (hr j hj).1; omega)
      refine ⟨⟨⟨(hg.block _ (Array.getElem?_eq_some_iff.1 hq).1 (fun e => by have := (hr _ e.symm).1; omega)).trans hq, by have := hg.size; omega, HJ.out _ X Y row hj hg (fun r e => ⟨by have := (hr r e).1; omega, (hr r e).2⟩)⟩, hb.trans hk⟩, ⟨⟨Nat.le_trans ho.size hg.size, fun k o h1 h2 => ?_⟩, hb2.trans hk, fun k cs t fz h1 h2 h3 => ?_⟩⟩
      · have h4 := ho.same k o h1 h2
        exact (hg.block k (Array.getElem?_eq_some_iff.1 h4).1 (fun e => by have := (hr k e.symm).1; have := (Array.getElem?_eq_some_iff.1 h1).1; omega)).trans h4
      · have h4 := hk2 k cs t fz h1 h2 h3
        have h5 := (Array.getElem?_eq_some_iff.1 h2).1
        have h6 := ho.size
        exact (hg.block k (by omega) (fun e => by have := (hr k e.symm).1; omega)).trans h4
    have HOW := Lib.hid OWN2
    have FPO := Lib.hid (fun (y : List CV) (h : y <+: shL (max pb a) (min (pe - 1) b) ⟨of, rl, sv, fm, en, uy, um, dk, dw, dn, sc, ck⟩) => (show pre.flatMap (seL a b) ++ y <+: ss.flatMap (seL a b) from ((List.prefix_append_right_inj _).2 h).trans FP.out))
    clear OWN2
    refine range_kj (by omega) (gf := 105) (lb := #[.pointer (some ⟨Bb, 0, none⟩), .pointer (some ⟨Bl, 0, none⟩), .pointer (some ⟨Bs, 0, none⟩)]) rfl (enters_of Tryz.func105 (by kernel_rfl) rfl) hrec SEQ7 (by omega) (fun _ => rfl) KpC.trans KpC.put
      (fun pre2 X => ((X.heap[Bq]? = some (.cells #[.func (.yield l) #[] #[]] 108 (0, 0)) ∧ Bq + 2 ≤ X.heap.size ∧ J (pre.flatMap (seL a b) ++ pre2) X) ∧ Below n0 W X) ∧ KeptP n0 (KpC Bq) W5 X)
      (fun c _ X => c = .ret ∧ (∃ p, p <+: ss.flatMap (seL a b) ∧ Jx p X) ∧ KeepsFrom (Bq + 2) W5 X) HOW.out ?hIx2 I7.out ?round2 ?done2 ?stop2
    case hIx2 =>
      rintro c s X Y row ⟨h2, ⟨p, h3, h4⟩, h5⟩ hg hr
      refine ⟨h2, ⟨p, h3, HX.out _ X Y row h4 hg (fun r e => ⟨by have := (hr r e).1; omega, (hr r e).2⟩)⟩, ⟨Nat.le_trans h5.size hg.size, fun k o h1 h2 h3 => ?_⟩⟩
      have h6 := h5.same k o h1 h2 h3
      exact (hg.block k (Array.getElem?_eq_some_iff.1 h6).1 (fun e => by have := (hr k e.symm).1; have := (Array.getElem?_eq_some_iff.1 h2).1; omega)).trans h6
    case round2 =>
      rintro l3 pre2 y X3 hI hOk hs3
      simp only [encC, cvV]
      have HI := Lib.hid hI
      have OK := Lib.hid (FPO.out _ hOk)
      have hb3 := hI.1.2.size
      have b3 : RowKit.Below X3.heap.size X3 (X3.alloc (.cells #[.int .i64 y.t, .int .i64 y.of, .bool y.ds, .string ⟨y.ab.toArray⟩] 71)) := (Below.refl _ X3).alloc (Nat.le_refl _) _
      clear hI hOk
      gi_wp2
      refine ⟨⟨KeepsOthers.alloc X3 _, b3.mono (by omega), KpC.below b3⟩, fun _ Y => (((Y.heap[Bq]? = some (.cells #[.func (.yield l) #[] #[]] 108 (0, 0)) ∧ Bq + 2 ≤ Y.heap.size ∧ J (pre.flatMap (seL a b) ++ pre2) Y) ∧ Below n0 W Y) ∧ KeptP n0 (KpC Bq) W5 Y) ∧ Y.heap[X3.heap.size]? = some (.cells #[.int .i64 y.t, .int .i64 y.of, .bool y.ds, .string ⟨y.ab.toArray⟩] 71 (0, 0)),
        OwnFrom.and (fun u X Y row h hg hr => HOW.out pre2 X Y row h hg (fun r e => ⟨(hr r e).1, by obtain ⟨o, h1, h2⟩ := (hr r e).2; exact ⟨o, h1, .inl h2⟩⟩)) (fun s A B row h hg hr => (hg.block _ (Array.getElem?_eq_some_iff.1 h).1 (fun e => by obtain ⟨-, o, ho, hc⟩ := hr _ e.symm; rw [h] at ho; cases ho; cases hc)).trans h),
        ⟨HOW.out pre2 X3 _ none HI.out (grown_bel b3 none) (fun r e => by cases e), heap_alloc_new X3 _⟩, ?_⟩
      rintro W8 ⟨h8, hF8⟩ hs8
      obtain ⟨z0, z1, z2, z3⟩ := cel4 hF8
      have zq := cel1 h8.1.1.1
      have H8 := Lib.hid h8
      have s8 := h8.1.1.2.1
      obtain ⟨fn, tmps, assign, body, hy, hR⟩ := yield_inner (l' := l3) (m' := N - 1 - 1 - 1 - 1 - 1) (HYd.out (pre.flatMap (seL a b) ++ pre2) y W8 h8.1.1.2.2 (by have := OK.out; rwa [← List.append_assoc] at this) (by omega))
      simp only [encC, cvV] at hy
      clear b3 h8 hF8 HI
      gi_wp2
      refine ⟨fun _ => by omega, hR.mono ?_⟩
      rintro e W9 (⟨rfl, hJ9, hk9, hkp9, hko9⟩ | ⟨rfl, hJx9, hkf9⟩)
      · have hq9 := (hkp9 Bq _ _ _ (by omega) H8.out.1.1.1 (by rfl)).trans H8.out.1.1.1
        have F9 := Lib.hid (show KeptP n0 (KpC W5.heap.size) W8 W9 ∧ ((W9.heap[Bq]? = some (.cells #[.func (.yield l) #[] #[]] 108 (0, 0)) ∧ Bq + 2 ≤ W9.heap.size ∧ J (pre.flatMap (seL a b) ++ (pre2 ++ [y])) W9) ∧ Below n0 W W9) ∧ KeptP n0 (KpC Bq) W5 W9 from
          ⟨⟨hko9, hk9, hkp9.mono (by omega)⟩, ⟨⟨hq9, by have := hk9.size; omega, by rw [← List.append_assoc]; exact hJ9⟩, H8.out.1.2.trans hk9⟩, ⟨H8.out.2.oth.trans hko9, H8.out.2.bel.trans hk9, H8.out.2.kp.trans (hkp9.mono (by omega))⟩⟩)
        clear hJ9 hk9 hkp9 hko9 hq9 hy hR
        gi_wp2
        exact F9.out
      · have F9 := Lib.hid (show KeepsFrom w7.heap.size W8 W9 ∧ (∃ p, p <+: ss.flatMap (seL a b) ∧ Jx p W9) ∧ KeepsFrom (Bq + 2) W5 W9 from
          ⟨kfrom_mono hkf9 (by omega), ⟨_, by have := OK.out; rwa [← List.append_assoc] at this, hJx9⟩, kfrom_trans (H8.out.2.oth.from _) (kfrom_mono hkf9 (by omega))⟩)
        clear hy hR hkf9 hJx9
        gi_wp2
        exact ⟨F9.out.1, rfl, F9.out.2⟩
    case done2 =>
      rintro xs X4 hxs ⟨⟨⟨hq, hsz, hj⟩, hb⟩, hkp⟩
      have F4 := Lib.hid (show KeptP n0 (KpC Bq) W5 X4 ∧ (X4.heap[Bq]? = some (.cells #[.func (.yield l) #[] #[]] 108 (0, 0)) ∧ Bq + 2 ≤ X4.heap.size ∧ J ((pre ++ [((⟨of, rl, sv, fm, en, uy, um, dk, dw, dn, sc, ck⟩, pb, pe) : SX)]).flatMap (seL a b)) X4) ∧ Below n0 W X4 from
        ⟨hkp, ⟨hq, hsz, by rw [List.flatMap_append, List.flatMap_cons, List.flatMap_nil, List.append_nil]; have hx : xs = _ := hxs; rw [hx] at hj; exact hj⟩, hb⟩)
      clear hq hj hb hkp hxs
      gi_wp2
      exact F4.out
    case stop2 =>
      rintro c3 pre2 X4 - ⟨rfl, hx, hkf⟩
      have F4 := Lib.hid (And.intro hx hkf)
      clear hx hkf
      gi_wp2
      exact ⟨by rw [s2]; exact F4.out.2, rfl, F4.out.1⟩
  case done =>
    rintro D xs X hD hS ⟨⟨hq, hsz, hj⟩, hb⟩ hdf
    have JF := Lib.hid (HJ.out _ _ _ _ hj (grownBy_putObj' X D (.deferred none)) (fun r e => by injection e with e; subst e; exact ⟨by omega, _, hdf, .inl rfl⟩))
    have HSS := Lib.hid hS
    clear hj hS hq hb
    gi_wp2
    refine ⟨by simp, .inl ⟨D, _, rfl, run_takeDeferred hdf, ?_⟩⟩
    exact ⟨_, results_none rfl _ _ _, ⟨_, rfl⟩, .inl ⟨_, rfl, by have := JF.out; rwa [HSS.out] at this⟩⟩
  case stop =>
    rintro D c pre X hD hSp ⟨rfl, p, hp, hx⟩ hdf
    have JF := Lib.hid (HX.out _ _ _ _ hx (grownBy_putObj' X D (.deferred none)) (fun r e => by injection e with e; subst e; exact ⟨by omega, _, hdf, .inl rfl⟩))
    have HP := Lib.hid hp
    clear hx hp hSp
    gi_wp2
    refine ⟨by simp, .inl ⟨D, _, rfl, run_takeDeferred hdf, ?_⟩⟩
    exact ⟨_, results_none rfl _ _ _, ⟨_, rfl⟩, .inr ⟨_, HP.out, JF.out⟩⟩
end Go.Proofs.YtdmfgechoanmlaaGreatDoor
