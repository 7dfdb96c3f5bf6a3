/- The contract of zone.Spans, and what its iterator hands to whatever loop it is ranged over by: eras, each with where it begins and where it ends.
The contract of zone.Spans at a zone that may be.
The stretches of a zone whose eras have no rules. -/
import Derived.Test.YtdmfgechoanmlaaGreatDoorZpA
import Derived.Test.YtdmfgechoanmlaaGreatDoorZnH
import Derived.Test.YtdmfgechoanmlaaGreatDoorMYK
import Derived.LoopNIn
import Derived.LoopIn
import Derived.WalkMore
import Derived.Test.YtdmfgechoanmlaaGreatDoorZqD
import Derived.Test.YtdmfgechoanmlaaGreatDoorTbB
import Derived.RangeFuncBox
import Derived.OwnWalkIn
import Derived.Test.YtdmfgechoanmlaaGreatDoorMZS
namespace Go.Proofs.YtdmfgechoanmlaaGreatDoor
open Go Go.RowKit
attribute [local go_sem] Oper.semAt_some

/-- An era, where it begins, and where it ends. -/
abbrev SpV := EV × Int × Int
def encSp (x : SpV) : Array Value := #[evV x.1, .agg #[.int .i64 x.2.1, .int .i64 x.2.2]]
/-- Where eras end, behind an instant at which the first one begins. -/
def spL : List EV → List Int → Int → List SpV
  | [], _, _ => []
  | e :: es, [], b => (e, b, 2199023255553) :: spL es [] 2199023255553
  | e :: es, n :: ns, b => (e, b, n) :: spL es ns n
theorem spL_len : ∀ (es : List EV) (ns : List Int) (b : Int), (spL es ns b).length = es.length
  | [], _, _ => rfl
  | e :: es, [], b => by rw [spL, List.length_cons, spL_len es, List.length_cons]
  | e :: es, n :: ns, b => by rw [spL, List.length_cons, spL_len es, List.length_cons]
/-- Where the era at a place begins, and ends. -/
def zspB (ns : List Int) (b : Int) (i : Nat) : Int := if i = 0 then b else ns.getD (i - 1) 2199023255553
def zspE (ns : List Int) (i : Nat) : Int := ns.getD i 2199023255553
theorem spL_at : ∀ (es : List EV) (ns : List Int) (b : Int) (i : Nat) (e : EV), es[i]? = some e → (spL es ns b)[i]? = some (e, zspB ns b i, zspE ns i)
  | e :: es, [], b, 0, x, h => by simp at h; subst h; simp [spL, zspB, zspE]
  | e :: es, n :: ns, b, 0, x, h => by simp at h; subst h; simp [spL, zspB, zspE]
  | e :: es, [], b, i + 1, x, h => by
    rw [spL, List.getElem?_cons_succ, spL_at es [] _ i x (by simpa using h)]
    simp [zspB, zspE]
  | e :: es, n :: ns, b, i + 1, x, h => by
    rw [spL, List.getElem?_cons_succ, spL_at es ns _ i x (by simpa using h)]
    cases i with
    | zero => simp [zspB, zspE]
    | succ i => simp [zspB, zspE]
theorem take_snoc' {α : Type} {l : List α} {i : Nat} {a : α} (h : l[i]? = some a) : l.take (i + 1) = l.take i ++ [a] := by
  obtain ⟨hi, hh⟩ := List.getElem?_eq_some_iff.1 h
  rw [List.take_succ_eq_append_getElem hi, hh]
/-- Numbers in a list of a call's own. -/
def IntsL (A : Option Addr) (l : List Int) (W : World) : Prop := ∀ i x, l[i]? = some x → ∃ g, A = some ⟨g, 0, none⟩ ∧ g < W.heap.size ∧ W.cell? ⟨g, i, none⟩ = some (.int .i64 x)
theorem IntsL.next {A : Option Addr} {l : List Int} {W W' : World} (h : IntsL A l W) (k : Below W.heap.size W W') : IntsL A l W' := fun i x hx => by
  obtain ⟨g, e, hg, hc⟩ := h i x hx
  exact ⟨g, e, Nat.lt_of_lt_of_le hg k.size, (k.cell (p := ⟨g, i, none⟩) hg).trans hc⟩
/-- What the iterator reads. -/
structure SpR (Be Bw : Nat) (A : Option Addr) (m c : Nat) (Vr : Value) (Ae : Option Addr) (ce : Nat) (es : List EV) (ns : List Int) (W : World) : Prop where
  be : W.heap[Be]? = some (.cells #[.slice A m c] 22 (0, 0))
  bw : W.heap[Bw]? = some (.cells #[Vr, .slice Ae ns.length ce] 91 (0, 0))
  es : RowsAt 12 cE A es W
  ns : IntsL Ae ns W
theorem SpR.next {Be Bw : Nat} {A : Option Addr} {m c : Nat} {Vr : Value} {Ae : Option Addr} {ce : Nat} {es : List EV} {ns : List Int} {W W' : World} (h : SpR Be Bw A m c Vr Ae ce es ns W) (k : Below W.heap.size W W') : SpR Be Bw A m c Vr Ae ce es ns W' :=
  ⟨(k.block _ (Array.getElem?_eq_some_iff.1 h.be).1).trans h.be, (k.block _ (Array.getElem?_eq_some_iff.1 h.bw).1).trans h.bw, h.es.next k, h.ns.next k⟩
theorem era_cells' {A : Option Addr} {es : List EV} {w : World} {i : Nat} {e : EV} (h : RowsAt 12 cE A es w) (he : es[i]? = some e) : ∃ L off, A = some ⟨L, off, none⟩ ∧ L < w.heap.size ∧
    (w.cell? ⟨L, off + i * 12, none⟩ = some (.int .i64 e.of) ∧ w.cell? ⟨L, off + i * 12 + 1, none⟩ = some (.string ⟨e.rl.toArray⟩) ∧ w.cell? ⟨L, off + i * 12 + 2, none⟩ = some (.int .i64 e.sv) ∧ w.cell? ⟨L, off + i * 12 + 3, none⟩ = some (.string ⟨e.fm.toArray⟩) ∧ w.cell? ⟨L, off + i * 12 + 4, none⟩ = some (.bool e.en) ∧ w.cell? ⟨L, off + i * 12 + 5, none⟩ = some (.int .i64 e.uy) ∧ w.cell? ⟨L, off + i * 12 + 6, none⟩ = some (.int .i64 e.um) ∧ w.cell? ⟨L, off + i * 12 + 7, none⟩ = some (.int .i64 e.dk) ∧ w.cell? ⟨L, off + i * 12 + 8, none⟩ = some (.int .i64 e.dw) ∧ w.cell? ⟨L, off + i * 12 + 9, none⟩ = some (.int .i64 e.dn) ∧ w.cell? ⟨L, off + i * 12 + 10, none⟩ = some (.int .i64 e.sc) ∧ w.cell? ⟨L, off + i * 12 + 11, none⟩ = some (.int .i64 e.ck)) :=
  (EsAt.of h).cells he
set_option maxRecDepth 20000 in
set_option maxHeartbeats 2000000 in
theorem spans_seq (n : Nat) (hn : 1 ≤ n) (T : TypeId → Bool) (n0 : Nat) (Kp : World → World → Prop) (Be Bw : Nat) (A : Option Addr) (m c : Nat) (Vr : Value) (Ae : Option Addr) (ce : Nat) (es : List EV) (ns : List Int) (w : World) (hm : es.length = m) (hm1 : m ≤ 1000) (hR : SpR Be Bw A m c Vr Ae ce es ns w)
    (hK : ∀ X Y, SpR Be Bw A m c Vr Ae ce es ns X → Below n0 X Y → Kp X Y → SpR Be Bw A m c Vr Ae ce es ns Y) :
    SeqKs T n Tryz.prog 39 #[.pointer (some ⟨Be, 0, none⟩), .pointer (some ⟨Bw, 0, none⟩)] encSp (fun pre x => pre ++ [x] <+: spL es ns (-2199023255553)) n0 Kp (fun xs => xs = spL es ns (-2199023255553)) (fun pre => pre <+: spL es ns (-2199023255553)) w := by
  intro l J Jx W hW hJ hJx hY h0
  have HM := Lib.hid hm
  have HJ := Lib.hid hJ
  have HY := Lib.hid hY
  have H0 := Lib.hid h0
  have HK := Lib.hid hK
  have AA := Lib.hid (hR.next hW)
  obtain ⟨nn, hnn⟩ : ∃ k, ns.length = k := ⟨_, rfl⟩
  have HNN := Lib.hid hnn
  have bl := cel1 AA.out.be
  clear hm hJ hJx hY h0 hR hW hK hnn
  refine callsIn_of_wp Tryz.func39 rfl trivial ?_ rfl
  simp only [Tryz.ntmps39, List.size_toArray, List.length_cons, List.length_nil, Nat.reduceAdd, Nat.reduceSub, Array.replicate_succ, Array.replicate_zero, List.push_toArray, List.append_toArray, List.nil_append, List.cons_append]
  gi_wp2
  gi_loopw [4, 10] (fun v4 v wr => ∃ i : Nat, v4 = .int .i64 (zspB ns (-2199023255553) i) ∧ v = .int .i64 (i : Int) ∧ i ≤ m ∧ SpR Be Bw A m c Vr Ae ce es ns wr ∧ W.heap.size ≤ wr.heap.size ∧ J ((spL es ns (-2199023255553)).take i) wr) (fun _ v _ => m - (intOf v).toNat)
  case atStart => exact ⟨0, rfl, rfl, Nat.zero_le _, AA.out, Nat.le_refl _, H0.out⟩
  case round =>
    obtain ⟨i, rfl, rfl, hi, hA, hs, hJ⟩ := hrel
    have AR := Lib.hid hA
    have HJP := Lib.hid hJ
    have HS := Lib.hid hs
    clear hA hJ hs AA H0 bl
    by_cases hlt : i < m
    · have hlt' : (i : Int) < (m : Int) := by omega
      obtain ⟨e, he⟩ : ∃ e, es[i]? = some e := ⟨_, List.getElem?_eq_getElem (by rw [HM.out]; exact hlt)⟩
      obtain ⟨L, off, rfl, hL, x0, x1, x2, x3, x4, x5, x6, x7, x8, x9, x10, x11⟩ := era_cells' AR.out.es he
      have hat := spL_at es ns (-2199023255553) i e he
      obtain ⟨b, hb⟩ : ∃ b, zspB ns (-2199023255553) i = b := ⟨_, rfl⟩
      obtain ⟨d, hd⟩ : ∃ d, zspE ns i = d := ⟨_, rfl⟩
      rw [hb, hd] at hat
      have hbn : zspB ns (-2199023255553) (i + 1) = d := by rw [← hd]; unfold zspB zspE; rw [if_neg (by omega)]; rfl
      have TK : Hid ((spL es ns (-2199023255553)).take (i + 1) = (spL es ns (-2199023255553)).take i ++ [(e, b, d)]) := Lib.hid (take_snoc' hat)
      have OK : Hid ((spL es ns (-2199023255553)).take i ++ [(e, b, d)] <+: spL es ns (-2199023255553)) := Lib.hid (by rw [← TK.out]; exact List.take_prefix _ _)
      have kal : Below wr.heap.size wr (wr.alloc (.cells #[.int .i64 e.of, .string ⟨e.rl.toArray⟩, .int .i64 e.sv, .string ⟨e.fm.toArray⟩, .bool e.en, .int .i64 e.uy, .int .i64 e.um, .int .i64 e.dk, .int .i64 e.dw, .int .i64 e.dn, .int .i64 e.sc, .int .i64 e.ck] 54)) := (Below.refl _ _).alloc (Nat.le_refl _) _
      have AL := Lib.hid (AR.out.next kal)
      obtain ⟨fn, tmps, assign, body, hy, hR⟩ := HY.out _ (e, b, d) (wr.alloc (.cells #[.int .i64 e.of, .string ⟨e.rl.toArray⟩, .int .i64 e.sv, .string ⟨e.fm.toArray⟩, .bool e.en, .int .i64 e.uy, .int .i64 e.um, .int .i64 e.dk, .int .i64 e.dw, .int .i64 e.dn, .int .i64 e.sc, .int .i64 e.ck] 54)) (HJ.out.bel HJP.out kal) OK.out (by have := HS.out; simp; omega)
      simp only [encSp, evV, cE] at hy
      have hsz : W.heap.size ≤ wr.heap.size := HS.out
      obtain ⟨p0, p1⟩ := cel2 AL.out.bw
      have HD := Lib.hid hd
      have HBN := Lib.hid hbn
      simp only [hb]
      have zz := HNN.out
      rw [zz] at p1
      have V : (i < nn ∧ (i : Int) < (nn : Int)) ∨ (¬ (i : Int) < (nn : Int) ∧ d = 2199023255553) := by
        by_cases h : i < nn
        · exact .inl ⟨h, by omega⟩
        · refine .inr ⟨by omega, ?_⟩
          rw [← hd]; unfold zspE
          rw [List.getD_eq_getElem?_getD, List.getElem?_eq_none (by omega)]; rfl
      clear he kal hat hb hd hbn zz
      rcases V with ⟨h1, h2⟩ | ⟨h2, rfl⟩
      · obtain ⟨q, hq⟩ : ∃ q, ns[i]? = some q := ⟨_, List.getElem?_eq_getElem (by rw [HNN.out]; exact h1)⟩
        obtain ⟨g, rfl, hg, hc⟩ := AL.out.ns i q hq
        obtain rfl : q = d := by rw [← HD.out]; unfold zspE; rw [List.getD_eq_getElem?_getD, hq]; rfl
        clear hq hg
        gi_wp2
        refine hR.mono ?_
        rintro e1 W3 (⟨rfl, hJ3, hk3, hkp3, -⟩ | ⟨rfl, hJx3, -⟩)
        · have HJ3 := Lib.hid hJ3
          have HK3 := Lib.hid (HK.out _ _ AL.out hk3 hkp3)
          have HS3 := Lib.hid hk3.size
          clear hJ3 hk3 hkp3 hy hR
          gi_wp2
          go_roundw
          case rel => exact ⟨i + 1, by rw [HBN.out], rfl, by omega, HK3.out, by have := HS3.out; simp at this; omega, by rw [TK.out]; exact HJ3.out⟩
          case measure => simp [intOf]; omega
        · clear hy hR
          gi_wp2
          exact bodyPost_ret (results_none rfl _ _ _) rfl ⟨⟨_, rfl⟩, .inr ⟨_, OK.out, hJx3⟩⟩
      · gi_wp2
        refine hR.mono ?_
        rintro e1 W3 (⟨rfl, hJ3, hk3, hkp3, -⟩ | ⟨rfl, hJx3, -⟩)
        · have HJ3 := Lib.hid hJ3
          have HK3 := Lib.hid (HK.out _ _ AL.out hk3 hkp3)
          have HS3 := Lib.hid hk3.size
          clear hJ3 hk3 hkp3 hy hR
          gi_wp2
          go_roundw
          case rel => exact ⟨i + 1, by rw [HBN.out], rfl, by omega, HK3.out, by have := HS3.out; simp at this; omega, by rw [TK.out]; exact HJ3.out⟩
          case measure => simp [intOf]; omega
        · clear hy hR
          gi_wp2
          exact bodyPost_ret (results_none rfl _ _ _) rfl ⟨⟨_, rfl⟩, .inr ⟨_, OK.out, hJx3⟩⟩
    · obtain rfl : i = m := by omega
      have hlt' : ¬ ((i : Nat) : Int) < (i : Int) := by omega
      have FIN : Hid (J (spL es ns (-2199023255553)) wr) := Lib.hid (by have := HJP.out; rwa [List.take_of_length_le (by rw [spL_len, HM.out]; omega)] at this)
      gi_wp2
      go_end0
      exact ⟨⟨_, rfl⟩, .inl FIN.out⟩
end Go.Proofs.YtdmfgechoanmlaaGreatDoor

namespace Go.Proofs.YtdmfgechoanmlaaGreatDoor
open Go Go.RowKit Go.Sort Go.Shelf
attribute [local go_sem] Oper.semAt_some

/-- What open answers of a zone that may be. -/
def OpnL (nr : Nat) (ns : List Int) (x : Ending) (W : World) : Prop := ∃ A1 c1 A2 c2, x = .returned (.tuple #[.agg #[.slice A1 nr c1, .slice A2 ns.length c2], .int .i64 0]) ∧ IntsL A2 ns W
set_option maxRecDepth 20000 in
set_option maxHeartbeats 1000000 in
theorem spans_core (nm : List UInt8) (L off n cz : Nat) (V : Value) (es : List EV) (nr : Nat) (ns : List Int) (w : World) (hn : es.length = n) (hn1 : n ≤ 1000) (h0 : 0 < n) (hE : RowsAt 12 cE (some ⟨L, off, none⟩) es w)
    (OP : Hid (∀ W, Below w.heap.size w W → Calls Tryz.prog 31 #[.agg #[.string ⟨nm.toArray⟩, .slice (some ⟨L, off, none⟩) n cz], .func (.func 10) #[V] #[]] W fun r w' => OpnL nr ns r w' ∧ Below W.heap.size W w')) :
    Calls Tryz.prog 17 #[.agg #[.string ⟨nm.toArray⟩, .slice (some ⟨L, off, none⟩) n cz], .func (.func 10) #[V] #[]] w fun r w' =>
      ∃ Be Bw g c Vr Ae ce, r = .returned (.func (.func 39) #[] #[.pointer (some ⟨Be, 0, none⟩), .pointer (some ⟨Bw, 0, none⟩)]) ∧ SpR Be Bw (some ⟨g, 0, none⟩) n c Vr Ae ce es ns w' ∧ (w.heap.size ≤ Be ∧ w.heap.size ≤ Bw ∧ w.heap.size ≤ g) ∧ (∃ cur, w'.heap[g]? = some (.cells cur 54 (0, 0))) ∧ Below w.heap.size w w' := by
  have hmf : ∀ (fn : Fn) (first cap : Array Value) (w : World), (Instr.makeFunc fn first cap).run Tryz.prog w = .ok (.func fn first cap) w := fun _ _ _ _ => rfl
  have X := Lib.hid (BlkN.make (Below.refl w.heap.size w) #[.string ⟨nm.toArray⟩, .slice (some ⟨L, off, none⟩) n cz] 24)
  obtain ⟨z0, z1⟩ := cel2 X.out.blk
  have CL := Lib.hid (fun W (h : RowsAt 12 cE (some ⟨L, off, none⟩) es W) => zclone_is L off n cz es W hn hn1 h0 h)
  have HE := Lib.hid hE
  clear hE hn
  go_enter Tryz.func17, Tryz.ntmps17
  repeat (first
    | (go_at_call 38; refine (CL.out _ (HE.out.next X2.out.bel)).mono ?_; rintro r w2 ⟨g, c', rfl, hR, hg, hcur, k2⟩
       have X3 := Lib.hid (X2.out.next k2)
       have S3 := Lib.hid (S2.out.next k2)
       have W3 := Lib.hid (W2.out.next k2)
       have I3 := Lib.hid (I2.out.next k2)
       have R3 := Lib.hid hR
       have G3 := Lib.hid (And.intro hg hcur)
       have SZ := Lib.hid X2.out.bel.size
       clear k2 hR hg hcur y0 z0 z1 e0
       have y0 := cel1 S3.out.blk
       have e0 := frz (j := 0) S3.out.blk
       simp only [])
    | (go_at_call 31; refine (OP.out _ X.out.bel).mono ?_; rintro r w1 ⟨⟨A1, c1, A2, c2, rfl, gi⟩, k1⟩
       have X1 := Lib.hid ((X.out.next k1).more (.cells #[.slice A1 nr c1, .slice A2 ns.length c2] 91))
       have X2 := Lib.hid (X1.out.more (.cells #[.slice none 0 0] 22))
       have W2 := Lib.hid ((BlkN.make (X.out.next k1).bel #[.slice A1 nr c1, .slice A2 ns.length c2] 91).more (.cells #[.slice none 0 0] 22))
       have S2 : Hid (BlkN w (w1.heap.size + 1) #[.slice none 0 0] 22 ((w1.alloc (.cells #[.slice A1 nr c1, .slice A2 ns.length c2] 91)).alloc (.cells #[.slice none 0 0] 22))) := Lib.hid (by have := BlkN.make X1.out.bel #[.slice none 0 0] 22; rwa [World.size_alloc] at this)
       have I2 := Lib.hid (gi.next (((Below.refl w1.heap.size w1).alloc (Nat.le_refl _) (.cells #[.slice A1 nr c1, .slice A2 ns.length c2] 91)).alloc (by simp) (.cells #[.slice none 0 0] 22)))
       clear k1 gi z0 z1
       obtain ⟨z0, z1⟩ := cel2 X2.out.blk
       have y0 := cel1 S2.out.blk
       have e0 := frz (j := 0) S2.out.blk
       simp only [])
    | go_values | go_skip | go_guarded | go_step | go_upon | go_back)
  go_ret
  have hset := grownBy_setCell' w2 (w1.heap.size + 1) (.slice (some ⟨g, 0, none⟩) n c')
  obtain ⟨W4, hW4⟩ : ∃ W, w2.setCell ⟨w1.heap.size + 1, 0, none⟩ (.slice (some ⟨g, 0, none⟩) n c') = W := ⟨_, rfl⟩
  have hbk := blk_set (i := 0) S3.out.blk (.slice (some ⟨g, 0, none⟩) n c')
  rw [hW4] at hset hbk
  simp only [hW4]
  obtain ⟨hg, cur, hcur⟩ := G3.out
  have hS := S3.out.ge
  have hgl : w1.heap.size + 1 < g := by
    have : ((w1.alloc (.cells #[.slice A1 nr c1, .slice A2 ns.length c2] 91)).alloc (.cells #[.slice none 0 0] 22)).heap.size = w1.heap.size + 2 := by simp
    omega
  have hW := W3.out.ge
  have hcW := (hset.block g (Array.getElem?_eq_some_iff.1 hcur).1 (fun e => by injection e with e; omega)).trans hcur
  refine ⟨w1.heap.size + 1, w1.heap.size, g, c', .slice A1 nr c1, A2, c2, rfl, ⟨by simpa using hbk, (hset.block _ W3.out.lt (fun e => by injection e with e; omega)).trans W3.out.blk, ?_, ?_⟩, ⟨by omega, hW, by omega⟩, ⟨cur, hcW⟩, X3.out.bel.grown hset X3.out.bel.size (fun j hj => by injection hj with hj; omega)⟩
  · intro i e he
    obtain ⟨L', o', e1, hl, hc⟩ := R3.out i e he
    cases e1
    exact ⟨g, 0, rfl, by have := hset.size; omega, fun j v hj hv => (World.cell?_of_block (hset.block g (Array.getElem?_eq_some_iff.1 hcur).1 (fun e => by injection e with e; omega))).trans (hc j v hj hv)⟩
  · intro i k hk
    obtain ⟨g', e1, hl, hc⟩ := I3.out i k hk
    by_cases h : g' = w1.heap.size + 1
    · exfalso
      subst h
      have := S3.out.cell i
      rw [hc] at this
      cases i with
      | zero => simp at this
      | succ i => simp at this
    · exact ⟨g', e1, by have := hset.size; omega, (World.cell?_of_block (hset.block g' hl (fun e => by injection e with e; omega))).trans hc⟩
end Go.Proofs.YtdmfgechoanmlaaGreatDoor

namespace Go.Proofs.YtdmfgechoanmlaaGreatDoor
open Go Go.RowKit Go.Sort Go.Shelf
attribute [local go_sem] Oper.semAt_some

theorem st_info : (Tryz.prog.info? 160).map (fun i => (i.zero, i.size, i.bytes)) = some (some (svX (e0V, 0, 0)), 15, 152) := by kernel_rfl
theorem mk_map (W : World) : (Instr.makeMap 162 none).run Tryz.prog W = .ok (.map (some W.heap.size)) (W.alloc (.map #[] 0)) := by simp [Instr.makeMap, go_sem]
theorem look_map (W : World) (b : Nat) (h : W.heap[b]? = some (.map #[] 0)) : (Instr.lookup 162 (.map (some b)) (.string ⟨#[]⟩) true).run Tryz.prog W = .ok (.tuple #[.slice none 0 0, .bool false]) W := by
  have hz : ∀ w, (zeroValue 80).run Tryz.prog w = .ok (.slice none 0 0) w := fun w => by kernel_rfl
  have hg : (getObj b).run Tryz.prog W = .ok (.map #[] 0) W := by simp [getObj, Sem.run, h]
  have hc : ∀ w, (Instr.checkKey true 10000 9 (.string ⟨#[]⟩)).run Tryz.prog w = .ok () w := fun w => by kernel_rfl
  have hf : ∀ w, (Instr.findKey 9 (.string ⟨#[]⟩) []).run Tryz.prog w = .ok none w := fun w => by kernel_rfl
  simp [Instr.lookup, go_sem, hg, hc, hf, hz]
theorem zown_base {W : World} {base base' n k : Nat} {e : TypeId} {v : Value} {xs : List Value} (h : W.ownsRow base e k v n xs) (hb : base' ≤ base) : W.ownsRow base' e k v n xs := by
  refine ⟨h.1, ?_⟩
  rcases h.2 with h1 | ⟨g, cap, cur, h1, h2, h3⟩
  · exact .inl h1
  · exact .inr ⟨g, cap, cur, h1, by omega, h3⟩
theorem cSx_len (x : SX) : (cSx x).toList.length = 15 := rfl
theorem cSx_one (x : SX) : ∀ u ∈ (cSx x).toList, u.oneCell' = true := by
  intro u hu
  simp [cSx] at hu
  rcases hu with rfl | rfl | rfl | rfl | rfl | rfl | rfl | rfl | rfl | rfl | rfl | rfl | rfl | rfl | rfl <;> rfl
theorem st_new (W : World) (x : SX) (t : TypeId) : ∀ j u, (cSx x).toList[j]? = some u → (W.alloc (.cells (cSx x) t)).cell? ((⟨W.heap.size, 0, none⟩ : Addr).add j) = some u := by
  intro j u hu
  have h := heap_alloc_new W (.cells (cSx x) t)
  have := cell_of_row _ W.heap.size j _ _ _ h
  rw [add_off, Nat.zero_add, this]
  simpa using hu
theorem cell_put {W : World} {l : Nat} {r : Loop} {o : Obj} {p : Addr} {v : Value} (hl : W.heap[l]? = some (.loop r)) (h : W.cell? p = some v) : (W.putObj l o).cell? p = some v := by
  by_cases e : p.block = l
  · exfalso
    unfold World.cell? at h
    rw [e, hl] at h
    cases h
  · unfold World.cell? at h ⊢
    rw [World.putObj_heap_other e]
    exact h
section
variable {Be Bw : Nat} {A : Option Addr} {m c : Nat} {Vr : Value} {Ae : Option Addr} {ce : Nat} {es : List EV} {ns : List Int}
theorem SpR.put {W : World} {l : Nat} {r : Loop} (o : Obj) (h : SpR Be Bw A m c Vr Ae ce es ns W) (hl : W.heap[l]? = some (.loop r)) : SpR Be Bw A m c Vr Ae ce es ns (W.putObj l o) :=
  ⟨(World.putObj_heap_other (fun e => by subst e; have := h.be; rw [hl] at this; cases this)).trans h.be, (World.putObj_heap_other (fun e => by subst e; have := h.bw; rw [hl] at this; cases this)).trans h.bw,
   fun i x hx => by obtain ⟨L, off, e, h1, h2⟩ := h.es i x hx; exact ⟨L, off, e, by simpa [World.putObj] using h1, fun j v hj hv => cell_put hl (h2 j v hj hv)⟩,
   fun i x hx => by obtain ⟨g, e, h1, h2⟩ := h.ns i x hx; exact ⟨g, e, by simpa [World.putObj] using h1, cell_put hl h2⟩⟩
theorem SpR.under {w X Y : World} (h : SpR Be Bw A m c Vr Ae ce es ns X) (h4 : SpR Be Bw A m c Vr Ae ce es ns w) (k : Below w.heap.size X Y) : SpR Be Bw A m c Vr Ae ce es ns Y :=
  ⟨(k.block _ (Array.getElem?_eq_some_iff.1 h4.be).1).trans h.be, (k.block _ (Array.getElem?_eq_some_iff.1 h4.bw).1).trans h.bw,
   fun i x hx => by
    obtain ⟨L, off, e, h1, h2⟩ := h.es i x hx
    obtain ⟨L', off', e', h1', -⟩ := h4.es i x hx
    rw [e] at e'; cases e'
    exact ⟨L, off, e, Nat.lt_of_lt_of_le h1 k.size, fun j v hj hv => (k.cell (p := ⟨L, _, none⟩) h1').trans (h2 j v hj hv)⟩,
   fun i x hx => by
    obtain ⟨g, e, h1, h2⟩ := h.ns i x hx
    obtain ⟨g', e', h1', -⟩ := h4.ns i x hx
    rw [e] at e'; cases e'
    exact ⟨g, e, Nat.lt_of_lt_of_le h1 k.size, (k.cell (p := ⟨g, i, none⟩) h1').trans h2⟩⟩
/-- A variable that holds a slice is none of what the iterator reads. -/
theorem SpR.box {X Y : World} {B : Nat} {t : TypeId} {v : Value} (h : SpR Be Bw A m c Vr Ae ce es ns X) (hg : X.grownBy Y (some B)) (hB : Go.Boxed X B t v) (ht : t ≠ 22) (hn : ∀ n, v ≠ .int .i64 n) (hv : ∃ a n c, v = .slice a n c) : SpR Be Bw A m c Vr Ae ce es ns Y :=
  ⟨(hg.block _ (Array.getElem?_eq_some_iff.1 h.be).1 (fun e => by injection e with e; have := h.be; rw [e, hB] at this; cases this; exact ht rfl)).trans h.be, (hg.block _ (Array.getElem?_eq_some_iff.1 h.bw).1 (fun e => by injection e with e; have := h.bw; rw [e, hB] at this; cases this; )).trans h.bw,
   fun i x hx => by
    obtain ⟨L, off, e, h1, h2⟩ := h.es i x hx
    refine ⟨L, off, e, Nat.lt_of_lt_of_le h1 hg.size, fun j v' hj hv' => ?_⟩
    have hne : some L ≠ some B := by
      intro e'; injection e' with e'
      obtain ⟨a, n, c, rfl⟩ := hv
      have h0 := h2 0 _ (by omega) (show (cE x)[0]? = some (.int .i64 x.of) from rfl)
      have h3 := h2 1 _ (by omega) (show (cE x)[1]? = some (.string ⟨x.rl.toArray⟩) from rfl)
      rw [e'] at h0 h3
      have hb : ∀ q, X.cell? ⟨B, q, none⟩ = (#[Value.slice a n c] : Array Value)[q]? := fun q => cell_of_row X B q _ _ _ hB
      rw [hb] at h3
      have : off + i * 12 + 1 < 1 := by have := (Array.getElem?_eq_some_iff.1 h3).1; simp at this
      omega
    exact (World.cell?_of_block (hg.block L h1 hne)).trans (h2 j v' hj hv'),
   fun i x hx => by
    obtain ⟨g, e, h1, h2⟩ := h.ns i x hx
    refine ⟨g, e, Nat.lt_of_lt_of_le h1 hg.size, ?_⟩
    have hne : some g ≠ some B := by
      intro e'; injection e' with e'
      rw [e'] at h2
      have hb := cell_of_row X B i _ _ _ hB
      rw [hb] at h2
      cases i with
      | zero => simp at h2; exact hn _ h2
      | succ i => simp at h2
    exact (World.cell?_of_block (hg.block g h1 hne)).trans h2⟩
end
theorem spL_mem : ∀ (es : List EV) (ns : List Int) (b : Int) (x : SpV), x ∈ spL es ns b → x.1 ∈ es
  | [], _, _, x, h => by simp [spL] at h
  | e :: es, [], b, x, h => by
    rw [spL] at h
    rcases List.mem_cons.1 h with rfl | h
    · simp
    · exact List.mem_cons_of_mem _ (spL_mem es [] _ x h)
  | e :: es, n :: ns, b, x, h => by
    rw [spL] at h
    rcases List.mem_cons.1 h with rfl | h
    · simp
    · exact List.mem_cons_of_mem _ (spL_mem es ns _ x h)
set_option maxRecDepth 20000 in
set_option maxHeartbeats 2000000 in
theorem stret_core (N : Nat) (hN : 3 ≤ N) (nm : List UInt8) (az : Option Addr) (n cz : Nat) (Vw : Value) (es : List EV) (ns : List Int) (w : World) (hn : es.length = n) (n4 : n ≤ 1000) (hR : ∀ e ∈ es, e.rl = [])
    (SP0 : ∀ W, Below w.heap.size w W → Calls Tryz.prog 17 #[.agg #[.string ⟨nm.toArray⟩, .slice az n cz], .func (.func 10) #[Vw] #[]] W fun r w' =>
      ∃ Be Bw g c Vr Ae ce, r = .returned (.func (.func 39) #[] #[.pointer (some ⟨Be, 0, none⟩), .pointer (some ⟨Bw, 0, none⟩)]) ∧ SpR Be Bw (some ⟨g, 0, none⟩) n c Vr Ae ce es ns w' ∧ Below W.heap.size W w') :
    CallsIn Fence.wide N Tryz.prog 65 #[.agg #[.string ⟨nm.toArray⟩, .slice az n cz], .func (.func 10) #[Vw] #[]] w fun r w' => ∃ A c, r = .returned (.slice A n c) ∧ w'.ownsRow w.heap.size 160 15 (.slice A n c) n (fcl (fun y => (cSx y).toList) (spL es ns (-2199023255553))) ∧ Below w.heap.size w w' := by
  have h1 : 1 ≤ N := by omega
  have SP := Lib.hid SP0
  obtain ⟨i0, hi0, hz0, hz1, hz2⟩ := info_parts st_info
  obtain ⟨L, hL⟩ : ∃ L, spL es ns (-2199023255553) = L := ⟨_, rfl⟩
  have LM := Lib.hid (fun y (hy : y ∈ L) => hR _ (spL_mem _ _ _ y (by rw [hL]; exact hy)))
  have LL : L.length = n := by rw [← hL, spL_len, hn]
  have HL := Lib.hid hL
  rw [hL]
  clear hL hR
  refine callsIn_of_wp_marks Tryz.func65 rfl trivial ?_ rfl
  simp only [Tryz.ntmps65, List.size_toArray, List.length_cons, List.length_nil, Nat.reduceAdd, Nat.reduceSub, Array.replicate_succ, Array.replicate_zero, List.push_toArray, List.append_toArray, List.nil_append, List.cons_append]
  have X3 := Lib.hid (bmk (bmk (bmk (Below.refl w.heap.size w) (.cells #[.string ⟨nm.toArray⟩, .slice az n cz] 24)) (.cells #[.func (.func 10) #[Vw] #[]] 88)) (.cells #[.slice none 0 0] 135))
  have mk := mk_map (((w.alloc (.cells #[.string ⟨nm.toArray⟩, .slice az n cz] 24)).alloc (.cells #[.func (.func 10) #[Vw] #[]] 88)).alloc (.cells #[.slice none 0 0] 135))
  clear SP0
  gi_wp2
  obtain ⟨p, hp⟩ : ∃ p, w.heap.size = p := ⟨_, rfl⟩
  obtain ⟨V3, hV3⟩ : ∃ V, (((w.alloc (.cells #[.string ⟨nm.toArray⟩, .slice az n cz] 24)).alloc (.cells #[.func (.func 10) #[Vw] #[]] 88)).alloc (.cells #[.slice none 0 0] 135)) = V := ⟨_, rfl⟩
  have s3 : V3.heap.size = p + 3 := by rw [← hV3, ← hp]; simp
  have v2 : V3.heap[p + 2]? = some (.cells #[.slice none 0 0] 135 (0, 0)) := by
    rw [← hV3, ← hp]
    have := World.alloc_heap_new ((w.alloc (.cells #[.string ⟨nm.toArray⟩, .slice az n cz] 24)).alloc (.cells #[.func (.func 10) #[Vw] #[]] 88)) (.cells #[.slice none 0 0] 135)
    rwa [World.size_alloc, World.size_alloc] at this
  obtain ⟨V5, hV5⟩ : ∃ V, ((V3.alloc (.map #[] 0)).alloc (.cells #[.map (some (p + 1 + 1 + 1))] 162)) = V := ⟨_, rfl⟩
  have k35 : Below V3.heap.size V3 V5 := by rw [← hV5]; exact ((Below.refl _ _).alloc (Nat.le_refl _) _).alloc (by simp) _
  have s5 : V5.heap.size = p + 5 := by rw [← hV5]; simp [s3]
  have m5 : V5.heap[p + 3]? = some (.map #[] 0) := by rw [← hV5, Below.heap_alloc _ _ _ (by simp [s3]), ← s3]; exact World.alloc_heap_new V3 _
  have b5 : V5.heap[p + 4]? = some (.cells #[.map (some (p + 3))] 162 (0, 0)) := by
    rw [← hV5]
    have := World.alloc_heap_new (V3.alloc (.map #[] 0)) (.cells #[.map (some (p + 1 + 1 + 1))] 162)
    rwa [World.size_alloc, s3] at this
  have l5 : Go.Boxed V5 (p + 2) 135 (.slice none 0 0) := (k35.block _ (by omega)).trans v2
  have k5 : Below w.heap.size w V5 := by rw [← hV3] at k35; exact bthen X3.out k35
  simp only [hp, hV3, hV5]
  have K5 := Lib.hid k5
  clear mk hV3 hV5 k35 v2 k5 s3 X3
  refine ⟨trivial, (callsIn_wide.2 (SP.out V5 K5.out)).mono ?_⟩
  rintro r w4 ⟨Be, Bw, g, c, Vr, Ae, ce, rfl, hSp, k4⟩
  obtain ⟨S, hS⟩ : ∃ S, w4.heap.size = S := ⟨_, rfl⟩
  have hS5 : p + 5 ≤ S := by have := k4.size; omega
  have l4 : Go.Boxed w4 (p + 2) 135 (.slice none 0 0) := (k4.block _ (by omega)).trans l5
  have m4 := (k4.block _ (by omega)).trans m5
  have b4 := (k4.block _ (by omega)).trans b5
  have K4 := Lib.hid (bthen K5.out k4)
  have SP4 := Lib.hid hSp
  have SEQ := spans_seq (N - 1) (by omega) (fun _ => false) 0 (fun X Y => SpR Be Bw (some ⟨g, 0, none⟩) n c Vr Ae ce es ns X → SpR Be Bw (some ⟨g, 0, none⟩) n c Vr Ae ce es ns Y) Be Bw (some ⟨g, 0, none⟩) n c Vr Ae ce es ns w4 hn n4 hSp (fun X Y hX _ hK => hK hX)
  rw [HL.out] at SEQ
  clear hSp k4 l5 m5 b5 SP K5
  simp only []
  gi_wp2
  refine range_ks h1 (gf := 39) (lb := #[.pointer (some ⟨Be, 0, none⟩), .pointer (some ⟨Bw, 0, none⟩)]) rfl (enters_of Tryz.func39 (by kernel_rfl) rfl) SEQ (Nat.zero_le _) (fun _ => rfl) (fun h k hx => k (h hx)) (fun W l r r' hl hx => SpR.put _ hx hl)
    (fun pre X => ((∃ v, Go.Boxed X (p + 2) 135 v ∧ X.ownsRow S 160 15 v pre.length (fcl (fun y => (cSx y).toList) pre) ∧ (∃ a n c, v = .slice a n c)) ∧ X.heap[p + 3]? = some (.map #[] 0) ∧ X.heap[p + 4]? = some (.cells #[.map (some (p + 3))] 162 (0, 0)) ∧ S ≤ X.heap.size ∧ SpR Be Bw (some ⟨g, 0, none⟩) n c Vr Ae ce es ns X) ∧ Below w.heap.size w X)
    (fun _ _ _ => False) ?own (fun _ _ _ _ _ h => h.elim) ⟨⟨⟨_, l4, World.ownsRow_nil _ _ _ _, _, _, _, rfl⟩, m4, b4, by omega, SP4.out⟩, K4.out⟩ ?round ?done (fun _ _ _ _ _ _ h => h.elim)
  case own =>
    rintro pre W W' row ⟨⟨hv, hm, hmb, hS', hsp⟩, hB⟩ hg hr
    have hkS : Below S W W' := (Below.refl S W).grown hg hS' (fun j hj => by have := (hr j hj).1; omega)
    exact ⟨⟨holdS (fun _ => false) S (p + 2) w4.heap.size 135 160 15 (fun pre : List SpV => pre.length) (fun pre => fcl (fun y => (cSx y).toList) pre) (fun _ v => ∃ a n c, v = .slice a n c) rfl rfl pre W W' row hv hg hr, (hkS.block _ (by omega)).trans hm, (hkS.block _ (by omega)).trans hmb, Nat.le_trans hS' hg.size, hsp.under SP4.out (by rw [hS]; exact hkS)⟩, hB.trans (hkS.mono (by omega))⟩
  case round =>
    rintro l2 pre ⟨⟨of, rl, sv, fm, en, uy, um, dk, dw, dn, sc, ck⟩, b, d⟩ X ⟨⟨⟨v, hv, hro, hsl⟩, hm, hmb, hSX, hSp⟩, hB⟩ hOk hsX
    have hrl : rl = [] := LM.out (⟨of, rl, sv, fm, en, uy, um, dk, dw, dn, sc, ck⟩, b, d) (hOk.subset (by simp))
    subst hrl
    simp only [encSp, evV, cE]
    have hpl : pre.length + 1 ≤ 1000 := by have := hOk.length_le; simp at this; omega
    obtain ⟨X1, hX1⟩ : ∃ X1, ((X.alloc (.cells #[.int .i64 of, .string ⟨#[]⟩, .int .i64 sv, .string ⟨fm.toArray⟩, .bool en, .int .i64 uy, .int .i64 um, .int .i64 dk, .int .i64 dw, .int .i64 dn, .int .i64 sc, .int .i64 ck] 54)).alloc (.cells #[.int .i64 b, .int .i64 d] 63)) = X1 := ⟨_, rfl⟩
    have bX : RowKit.Below X.heap.size X X1 := by rw [← hX1]; exact ((Below.refl _ X).alloc (Nat.le_refl _) _).alloc (by simp) _
    have e1 : X1.heap[X.heap.size]? = some (.cells #[.int .i64 of, .string ⟨#[]⟩, .int .i64 sv, .string ⟨fm.toArray⟩, .bool en, .int .i64 uy, .int .i64 um, .int .i64 dk, .int .i64 dw, .int .i64 dn, .int .i64 sc, .int .i64 ck] 54 (0, 0)) := by rw [← hX1, Below.heap_alloc _ _ _ (by simp)]; exact World.alloc_heap_new X _
    have e2 : X1.heap[X.heap.size + 1]? = some (.cells #[.int .i64 b, .int .i64 d] 63 (0, 0)) := by
      rw [← hX1]
      have := World.alloc_heap_new (X.alloc (.cells #[.int .i64 of, .string ⟨#[]⟩, .int .i64 sv, .string ⟨fm.toArray⟩, .bool en, .int .i64 uy, .int .i64 um, .int .i64 dk, .int .i64 dw, .int .i64 dn, .int .i64 sc, .int .i64 ck] 54)) (.cells #[.int .i64 b, .int .i64 d] 63)
      rwa [World.size_alloc] at this
    have ko : KeepsOthers X X1 := KeepsOthers.of_grownBy (grown_bel bX none) (fun j o e => by cases e)
    gi_wp2
    try simp only [hX1]
    refine ⟨⟨ko, bX.mono (Nat.zero_le _), fun h => h.next bX⟩, fun _ Y => ((((∃ v, Go.Boxed Y (p + 2) 135 v ∧ Y.ownsRow S 160 15 v pre.length (fcl (fun y => (cSx y).toList) pre) ∧ (∃ a n c, v = .slice a n c)) ∧ Y.heap[p + 3]? = some (.map #[] 0) ∧ Y.heap[p + 4]? = some (.cells #[.map (some (p + 3))] 162 (0, 0)) ∧ S ≤ Y.heap.size ∧ SpR Be Bw (some ⟨g, 0, none⟩) n c Vr Ae ce es ns Y) ∧ Below w.heap.size w Y) ∧ Y.heap[X.heap.size]? = some (.cells #[.int .i64 of, .string ⟨#[]⟩, .int .i64 sv, .string ⟨fm.toArray⟩, .bool en, .int .i64 uy, .int .i64 um, .int .i64 dk, .int .i64 dw, .int .i64 dn, .int .i64 sc, .int .i64 ck] 54 (0, 0))) ∧ Y.heap[X.heap.size + 1]? = some (.cells #[.int .i64 b, .int .i64 d] 63 (0, 0)),
      OwnFrom.and (OwnFrom.and (fun u W W' row ⟨⟨hv, hm, hmb, hS', hsp⟩, hB⟩ hg hr => by
        have hkS : Below S W W' := (Below.refl S W).grown hg hS' (fun j hj => by have := (hr j hj).1; omega)
        exact ⟨⟨holdS (fun _ => false) S (p + 2) w4.heap.size 135 160 15 (fun pre : List SpV => pre.length) (fun pre => fcl (fun y => (cSx y).toList) pre) (fun _ v => ∃ a n c, v = .slice a n c) rfl rfl pre W W' row hv hg (fun r e => ⟨(hr r e).1, by obtain ⟨o, h1, h2⟩ := (hr r e).2; exact ⟨o, h1, .inl h2⟩⟩), (hkS.block _ (by omega)).trans hm, (hkS.block _ (by omega)).trans hmb, Nat.le_trans hS' hg.size, hsp.under SP4.out (by rw [hS]; exact hkS)⟩, hB.trans (hkS.mono (by omega))⟩)
        (fun s A B row h hg hr => (hg.block _ (Array.getElem?_eq_some_iff.1 h).1 (fun e => by obtain ⟨-, o, ho, hc⟩ := hr _ e.symm; rw [h] at ho; cases ho; cases hc)).trans h)) (fun s A B row h hg hr => (hg.block _ (Array.getElem?_eq_some_iff.1 h).1 (fun e => by obtain ⟨-, o, ho, hc⟩ := hr _ e.symm; rw [h] at ho; cases ho; cases hc)).trans h),
      ⟨⟨⟨⟨⟨v, hv.kept (grown_bel bX none) (by simp), hro.kept (grown_bel bX none) (by cases h : v.ownBlock with | none => exact .inl rfl | some r => exact .inr (by simp)), hsl⟩, (bX.block _ (by omega)).trans hm, (bX.block _ (by omega)).trans hmb, Nat.le_trans hSX bX.size, hSp.next bX⟩, bthen hB bX⟩, e1⟩, e2⟩, ?_⟩
    rintro W2 ⟨⟨⟨⟨⟨v, hv, hro, a0, n0, c0, rfl⟩, hm, hmb, hS2, hSp2⟩, hB2⟩, g1⟩, g2⟩ hs2
    have hc : W2.cell? ⟨p + 1 + 1, 0, none⟩ = some (.slice a0 n0 c0) := hv.cell
    have hcm : W2.cell? ⟨p + 1 + 1 + 1 + 1, 0, none⟩ = some (.map (some (p + 3))) := cel1 hmb
    have hlk := look_map W2 (p + 3) hm
    obtain ⟨y0, y1, y2, y3, y4, y5, y6, y7, y8, y9, y10, y11⟩ := cells12 g1
    obtain ⟨u0, u1⟩ := cel2 g2
    have hsn : fcl (fun y => (cSx y).toList) (pre ++ [((⟨of, [], sv, fm, en, uy, um, dk, dw, dn, sc, ck⟩, b, d) : SpV)]) = fcl (fun y => (cSx y).toList) pre ++ (cSx (⟨of, [], sv, fm, en, uy, um, dk, dw, dn, sc, ck⟩, b, d)).toList := by rw [fcl_app]; simp [fcl]
    have hXl := (Array.getElem?_eq_some_iff.1 g1).1
    have hXl2 := (Array.getElem?_eq_some_iff.1 g2).1
    have HM := Lib.hid (And.intro hm hmb)
    have HS2 := Lib.hid hSp2
    have HB2 := Lib.hid hB2
    clear hX1 bX e1 e2 ko hm hmb g1 g2 hSp2 hB2 hOk hsX hB hSX hSp
    gi_wp2_with (gi_at_builtin; refine wpListIn_append_own _ rfl _ _ 135 rfl S 160 i0 (svX (e0V, 0, 0)) 15 152 Tryz.underlying135 hi0 hz0 hz1 hz2 rfl (by decide) _ _ _ rfl (hro.alloc _) ⟨W2.heap.size, 0, none⟩ 1 1 (cSx (⟨of, [], sv, fm, en, uy, um, dk, dw, dn, sc, ck⟩, b, d)).toList rfl rfl (st_new W2 _ _) (cSx_one _) (by simp only [maxLen]; omega) (by omega) (by simp; omega) ?_; intro v' w3 hown' hgrow _; obtain ⟨g', cap', rfl⟩ := ownsRow_succ hown'; obtain ⟨hv1, hv2, hr2, hk2, hb2⟩ := Go.Boxed.appended (n₀ := p) hv (by decide) (zown_base hro (by omega)) (by omega) (by omega) (zown_base hown' (by omega)) hgrow; have hc1 := hv1.cell; have hf1 := hv1.frozen)
    have kS : Below S W2 w3 := ((Below.refl S W2).alloc hS2 _).trans ((Below.refl S _).grown hgrow (by simp; omega) (fun j hj => (hro.lt j hj).1))
    have hset := grownBy_setCell' w3 (p + 2) (.slice (some ⟨g', 0, none⟩) (pre.length + 1) cap')
    have hgS := (hown'.lt g' (by simp [Value.ownBlock])).1
    obtain ⟨hm, hmb⟩ := HM.out
    refine ⟨⟨hk2, hb2.mono (Nat.zero_le _), fun h => (h.under SP4.out (by rw [hS]; exact kS)).box hset hv1 (by decide) (fun n h => by cases h) ⟨_, _, _, rfl⟩⟩, ⟨⟨_, hv2, ?_, _, _, _, rfl⟩, (hset.block _ (by have := kS.size; omega) (fun e => by injection e with e; omega)).trans ((kS.block _ (by omega)).trans hm), (hset.block _ (by have := kS.size; omega) (fun e => by injection e with e; omega)).trans ((kS.block _ (by omega)).trans hmb), Nat.le_trans (Nat.le_trans hS2 kS.size) hset.size, (HS2.out.under SP4.out (by rw [hS]; exact kS)).box hset hv1 (by decide) (fun n h => by cases h) ⟨_, _, _, rfl⟩⟩, HB2.out.trans (by rw [hp]; exact hb2)⟩
    have := hown'.kept hset (.inr (by simp [Value.ownBlock]; omega))
    rw [List.length_append, List.length_singleton, hsn]
    exact this
  case done =>
    rintro D xs X hD hxs ⟨⟨⟨v, hv, hro, hsl⟩, -, -, -, -⟩, hB⟩ hdf
    have hc := hv.cell
    have hxs' : xs = L := hxs
    subst hxs'
    have HR := Lib.hid hro
    have HB := Lib.hid hB
    clear hxs hB hv
    gi_wp2
    refine ⟨by simp, .inl ⟨_, _, rfl, run_takeDeferred hdf, ?_⟩⟩
    have hr := ownsRow_putObj HR.out (.deferred none) hdf rfl
    obtain ⟨A, c, rfl⟩ : ∃ A c, v = .slice A xs.length c := by
      rcases HR.out.2 with ⟨e, hn⟩ | ⟨g', cap, cur, e, -⟩
      · exact ⟨none, 0, by rw [e, hn]⟩
      · exact ⟨_, _, e⟩
    rw [LL] at hr
    exact ⟨_, results_tmp rfl _ _ _, A, c, by rw [LL]; rfl, zown_base hr (by omega), HB.out.trans ((Below.refl w.heap.size X).grown (grownBy_putObj' X D (.deferred none)) HB.out.size (fun r e => by injection e with e; subst e; omega))⟩
end Go.Proofs.YtdmfgechoanmlaaGreatDoor
