/- Rows of things behind lists of the call's own; the contract of slices.Clone over eras.
The contract of zone.Spans, and what its iterator hands to whatever loop it is ranged over by: eras, each with where it begins and where it ends.
The contract of zone.Spans at a zone that may be. -/
import Derived.Test.YtdmfgechoanmlaaGreatDoorMZQ
import Derived.Test.YtdmfgechoanmlaaGreatDoorMZY
import Derived.Maps.AppendAt
import Derived.ArgAppend
import Derived.Test.YtdmfgechoanmlaaGreatDoorZnH
import Derived.Test.YtdmfgechoanmlaaGreatDoorMYK
import Derived.LoopNIn
import Derived.LoopIn
import Derived.WalkMore
namespace Go.Proofs.YtdmfgechoanmlaaGreatDoor
open Go Go.RowKit

section
variable {α : Type} {k : Nat} {f : α → Array Value}
theorem gnews (k0 : 0 < k) (hk : ∀ x, (f x).toList.length = k) {L off : Nat} {xs : List α} {w : World} (h : RowsAt k f (some ⟨L, off, none⟩) xs w) : ∀ (j : Nat) (u : Value), (fcl (fun x => (f x).toList) xs)[j]? = some u → w.cell? ((⟨L, off, none⟩ : Addr).add j) = some u := by
  intro j u hu
  have hj := (List.getElem?_eq_some_iff.1 hu).1
  rw [fcl_len hk] at hj
  have hi : j / k < xs.length := Nat.div_lt_of_lt_mul (by rwa [Nat.mul_comm])
  have e : j / k * k + j % k = j := by rw [Nat.mul_comm]; exact Nat.div_add_mod j k
  have hm := Nat.mod_lt j k0
  rw [← e, fcl_at hk (List.getElem?_eq_getElem hi) hm] at hu
  obtain ⟨L', off', e', -, hc⟩ := h (j / k) _ (List.getElem?_eq_getElem hi)
  cases e'
  have := hc (j % k) u hm (by simpa using hu)
  rw [Nat.add_assoc, e] at this
  rw [add_off]
  exact this
theorem gown (hk : ∀ x, (f x).toList.length = k) {W : World} {base g n c : Nat} {e : TypeId} {l : List α} (h : W.ownsRow base e k (.slice (some ⟨g, 0, none⟩) n c) n (fcl (fun x => (f x).toList) l)) : RowsAt k f (some ⟨g, 0, none⟩) l W ∧ n ≤ c ∧ base ≤ g ∧ ∃ cur, W.heap[g]? = some (.cells cur e (0, 0)) ∧ cur.size = c * k := by
  rcases h.2 with ⟨h0, -⟩ | ⟨g', cap, cur, e1, hg, hb, hn, -, hs, hc⟩
  · cases h0
  · cases e1
    refine ⟨fun i x hx => ⟨g, 0, rfl, (Array.getElem?_eq_some_iff.1 hb).1, fun j v hj hv => ?_⟩, hn, hg, cur, hb, hs⟩
    have := fcl_at hk hx hj
    rw [← hc, List.getElem?_take] at this
    have hv' : (f x).toList[j]? = some v := by simpa using hv
    rw [hv'] at this
    split at this
    · have hcl := cell_of_row W g (i * k + j) _ _ _ hb
      rw [Nat.zero_add, hcl, ← this]; simp
    · cases this
end
theorem cE_len (e : EV) : (cE e).toList.length = 12 := rfl
theorem cE_one (e : EV) : ∀ u ∈ (cE e).toList, u.oneCell' = true := by
  intro u hu
  simp [cE] at hu
  rcases hu with rfl | rfl | rfl | rfl | rfl | rfl | rfl | rfl | rfl | rfl | rfl | rfl <;> rfl
theorem ze_info : (Tryz.prog.info? 54).map (fun i => (i.zero, i.size, i.bytes)) = some (some (evV e0V), 12, 112) := by kernel_rfl
set_option maxRecDepth 20000 in
set_option maxHeartbeats 1000000 in
theorem zclone_is (L off n c : Nat) (es : List EV) (w : World) (hn : es.length = n) (hn1 : n ≤ 1000) (h0 : 0 < n) (hE : RowsAt 12 cE (some ⟨L, off, none⟩) es w) :
    Calls Tryz.prog 38 #[.slice (some ⟨L, off, none⟩) n c] w fun e w' => ∃ g c', e = .returned (.slice (some ⟨g, 0, none⟩) n c') ∧ RowsAt 12 cE (some ⟨g, 0, none⟩) es w' ∧ w.heap.size ≤ g ∧ (∃ cur, w'.heap[g]? = some (.cells cur 54 (0, 0))) ∧ Below w.heap.size w w' := by
  obtain ⟨i0, hi, hz0, hz1, hz2⟩ := info_parts ze_info
  have q22 : ∀ (w : World) (a : Option Addr) (n c n' c' : Nat), (binOp .eql 22 (.slice a n c) (.slice none n' c')).run Tryz.prog w = .ok (.bool a.isNone) w := fun w a n c n' c' => Lib.run_eql_slice_nil w _ _ a n c n' c' Tryz.underlying22
  have A := Lib.hid (gnews (by omega) cE_len hE)
  have FL := Lib.hid (fcl_len cE_len es)
  have HN := Lib.hid hn
  clear hE hn
  go_enter Tryz.func38, Tryz.ntmps38
  go_wp2_with (at_builtin; refine wpList_append_own _ rfl _ _ 22 rfl w.heap.size 54 i0 (evV e0V) 12 112 Tryz.underlying22 hi hz0 hz1 hz2 rfl (by decide) _ _ _ rfl (World.ownsRow_made w #[] 0 (Nat.le_refl _) (Nat.zero_le _) rfl) ⟨L, off, none⟩ n c (fcl (fun x => (cE x).toList) es) rfl ?qc1 ?qc2 (fcl_one cE_one _) ?qc4 ?qc5 ?qc6 ?_)
  case qc1 => rw [FL.out, HN.out]
  case qc2 =>
    intro j u hj
    have := A.out j u hj
    rw [add_off] at this ⊢
    exact Lib.cell?_alloc_some _ this
  case qc4 => unfold maxLen; omega
  case qc5 => omega
  case qc6 => simp
  intro v' w1 hown hgrow hnil
  have hb : Below w.heap.size w w1 := ((Below.refl _ w).alloc (Nat.le_refl _) _).grown hgrow (by simp) (by intro k hk; simp [Value.ownBlock] at hk; omega)
  obtain ⟨g, cp, rfl⟩ : ∃ g cp, v' = .slice (some ⟨g, 0, none⟩) n cp := by
    rcases hown.2 with ⟨-, h2⟩ | ⟨g, cap, cur, e, -⟩
    · omega
    · exact ⟨g, cap, e⟩
  have G := Lib.hid (gown cE_len hown)
  have HB := Lib.hid hb
  clear hown hgrow hnil hb
  go_wp2
  go_ret
  obtain ⟨g1, -, g2, cur, g3, -⟩ := G.out
  exact ⟨g, cp, rfl, g1, g2, ⟨cur, g3⟩, HB.out⟩
end Go.Proofs.YtdmfgechoanmlaaGreatDoor

namespace Go.Proofs.YtdmfgechoanmlaaGreatDoor
open Go Go.RowKit
attribute [local go_sem] Oper.semAt_some

/-- An era, where it begins, and where it ends. -/
abbrev SpV := EV × Int × Int
def encSp (x : SpV) : Array Value := #[evV x.1, .agg #[.int .i64 x.2.1, .int .i64 x.2.2]]
/-- Where eras end, behind an instant at which the first one begins. -/
def spL : List EV → List Int → Int → List SpV
  | [], _, _ => []
  | e :: es, [], b => (e, b, 2199023255553) :: spL es [] 2199023255553
  | e :: es, n :: ns, b => (e, b, n) :: spL es ns n
theorem spL_len : ∀ (es : List EV) (ns : List Int) (b : Int), (spL es ns b).length = es.length
  | [], _, _ => rfl
  | e :: es, [], b => by rw [spL, List.length_cons, spL_len es, List.length_cons]
  | e :: es, n :: ns, b => by rw [spL, List.length_cons, spL_len es, List.length_cons]
/-- Where the era at a place begins, and ends. -/
def zspB (ns : List Int) (b : Int) (i : Nat) : Int := if i = 0 then b else ns.getD (i - 1) 2199023255553
def zspE (ns : List Int) (i : Nat) : Int := ns.getD i 2199023255553
theorem spL_at : ∀ (es : List EV) (ns : List Int) (b : Int) (i : Nat) (e : EV), es[i]? = some e → (spL es ns b)[i]? = some (e, zspB ns b i, zspE ns i)
  | e :: es, [], b, 0, x, h => by simp at h; subst h; simp [spL, zspB, zspE]
  | e :: es, n :: ns, b, 0, x, h => by simp at h; subst h; simp [spL, zspB, zspE]
  | e :: es, [], b, i + 1, x, h => by
    rw [spL, List.getElem?_cons_succ, spL_at es [] _ i x (by simpa using h)]
    simp [zspB, zspE]
  | e :: es, n :: ns, b, i + 1, x, h => by
    rw [spL, List.getElem?_cons_succ, spL_at es ns _ i x (by simpa using h)]
    cases i with
    | zero => simp [zspB, zspE]
    | succ i => simp [zspB, zspE]
theorem take_snoc' {α : Type} {l : List α} {i : Nat} {a : α} (h : l[i]? = some a) : l.take (i + 1) = l.take i ++ [a] := by
  obtain ⟨hi, hh⟩ := List.getElem?_eq_some_iff.1 h
  rw [List.take_succ_eq_append_getElem hi, hh]
/-- Numbers in a list of a call's own. -/
def IntsL (A : Option Addr) (l : List Int) (W : World) : Prop := ∀ i x, l[i]? = some x → ∃ g, A = some ⟨g, 0, none⟩ ∧ g < W.heap.size ∧ W.cell? ⟨g, i, none⟩ = some (.int .i64 x)
theorem IntsL.next {A : Option Addr} {l : List Int} {W W' : World} (h : IntsL A l W) (k : Below W.heap.size W W') : IntsL A l W' := fun i x hx => by
  obtain ⟨g, e, hg, hc⟩ := h i x hx
  exact ⟨g, e, Nat.lt_of_lt_of_le hg k.size, (k.cell (p := ⟨g, i, none⟩) hg).trans hc⟩
/-- What the iterator reads. -/
structure SpR (Be Bw : Nat) (A : Option Addr) (m c : Nat) (Vr : Value) (Ae : Option Addr) (ce : Nat) (es : List EV) (ns : List Int) (W : World) : Prop where
  be : W.heap[Be]? = some (.cells #[.slice A m c] 22 (0, 0))
  bw : W.heap[Bw]? = some (.cells #[Vr, .slice Ae ns.length ce] 91 (0, 0))
  es : RowsAt 12 cE A es W
  ns : IntsL Ae ns W
theorem SpR.next {Be Bw : Nat} {A : Option Addr} {m c : Nat} {Vr : Value} {Ae : Option Addr} {ce : Nat} {es : List EV} {ns : List Int} {W W' : World} (h : SpR Be Bw A m c Vr Ae ce es ns W) (k : Below W.heap.size W W') : SpR Be Bw A m c Vr Ae ce es ns W' :=
  ⟨(k.block _ (Array.getElem?_eq_some_iff.1 h.be).1).trans h.be, (k.block _ (Array.getElem?_eq_some_iff.1 h.bw).1).trans h.bw, h.es.next k, h.ns.next k⟩
theorem era_cells' {A : Option Addr} {es : List EV} {w : World} {i : Nat} {e : EV} (h : RowsAt 12 cE A es w) (he : es[i]? = some e) : ∃ L off, A = some ⟨L, off, none⟩ ∧ L < w.heap.size ∧
    (w.cell? ⟨L, off + i * 12, none⟩ = some (.int .i64 e.of) ∧ w.cell? ⟨L, off + i * 12 + 1, none⟩ = some (.string ⟨e.rl.toArray⟩) ∧ w.cell? ⟨L, off + i * 12 + 2, none⟩ = some (.int .i64 e.sv) ∧ w.cell? ⟨L, off + i * 12 + 3, none⟩ = some (.string ⟨e.fm.toArray⟩) ∧ w.cell? ⟨L, off + i * 12 + 4, none⟩ = some (.bool e.en) ∧ w.cell? ⟨L, off + i * 12 + 5, none⟩ = some (.int .i64 e.uy) ∧ w.cell? ⟨L, off + i * 12 + 6, none⟩ = some (.int .i64 e.um) ∧ w.cell? ⟨L, off + i * 12 + 7, none⟩ = some (.int .i64 e.dk) ∧ w.cell? ⟨L, off + i * 12 + 8, none⟩ = some (.int .i64 e.dw) ∧ w.cell? ⟨L, off + i * 12 + 9, none⟩ = some (.int .i64 e.dn) ∧ w.cell? ⟨L, off + i * 12 + 10, none⟩ = some (.int .i64 e.sc) ∧ w.cell? ⟨L, off + i * 12 + 11, none⟩ = some (.int .i64 e.ck)) :=
  (EsAt.of h).cells he
set_option maxRecDepth 20000 in
set_option maxHeartbeats 2000000 in
theorem spans_seq (n : Nat) (hn : 1 ≤ n) (T : TypeId → Bool) (n0 : Nat) (Kp : World → World → Prop) (Be Bw : Nat) (A : Option Addr) (m c : Nat) (Vr : Value) (Ae : Option Addr) (ce : Nat) (es : List EV) (ns : List Int) (w : World) (hm : es.length = m) (hm1 : m ≤ 1000) (hR : SpR Be Bw A m c Vr Ae ce es ns w)
    (hK : ∀ X Y, SpR Be Bw A m c Vr Ae ce es ns X → Below n0 X Y → Kp X Y → SpR Be Bw A m c Vr Ae ce es ns Y) :
    SeqKs T n Tryz.prog 39 #[.pointer (some ⟨Be, 0, none⟩), .pointer (some ⟨Bw, 0, none⟩)] encSp (fun pre x => pre ++ [x] <+: spL es ns (-2199023255553)) n0 Kp (fun xs => xs = spL es ns (-2199023255553)) (fun pre => pre <+: spL es ns (-2199023255553)) w := by
  intro l J Jx W hW hJ hJx hY h0
  have HM := Lib.hid hm
  have HJ := Lib.hid hJ
  have HY := Lib.hid hY
  have H0 := Lib.hid h0
  have HK := Lib.hid hK
  have AA := Lib.hid (hR.next hW)
  obtain ⟨nn, hnn⟩ : ∃ k, ns.length = k := ⟨_, rfl⟩
  have HNN := Lib.hid hnn
  have bl := cel1 AA.out.be
  clear hm hJ hJx hY h0 hR hW hK hnn
  refine callsIn_of_wp Tryz.func39 rfl trivial ?_ rfl
  simp only [Tryz.ntmps39, List.size_toArray, List.length_cons, List.length_nil, Nat.reduceAdd, Nat.reduceSub, Array.replicate_succ, Array.replicate_zero, List.push_toArray, List.append_toArray, List.nil_append, List.cons_append]
  gi_wp2
  gi_loopw [4, 10] (fun v4 v wr => ∃ i : Nat, v4 = .int .i64 (zspB ns (-2199023255553) i) ∧ v = .int .i64 (i : Int) ∧ i ≤ m ∧ SpR Be Bw A m c Vr Ae ce es ns wr ∧ W.heap.size ≤ wr.heap.size ∧ J ((spL es ns (-2199023255553)).take i) wr) (fun _ v _ => m - (intOf v).toNat)
  case atStart => exact ⟨0, rfl, rfl, Nat.zero_le _, AA.out, Nat.le_refl _, H0.out⟩
  case round =>
    obtain ⟨i, rfl, rfl, hi, hA, hs, hJ⟩ := hrel
    have AR := Lib.hid hA
    have HJP := Lib.hid hJ
    have HS := Lib.hid hs
    clear hA hJ hs AA H0 bl
    by_cases hlt : i < m
    · have hlt' : (i : Int) < (m : Int) := by omega
      obtain ⟨e, he⟩ : ∃ e, es[i]? = some e := ⟨_, List.getElem?_eq_getElem (by rw [HM.out]; exact hlt)⟩
      obtain ⟨L, off, rfl, hL, x0, x1, x2, x3, x4, x5, x6, x7, x8, x9, x10, x11⟩ := era_cells' AR.out.es he
      have hat := spL_at es ns (-2199023255553) i e he
      obtain ⟨b, hb⟩ : ∃ b, zspB ns (-2199023255553) i = b := ⟨_, rfl⟩
      obtain ⟨d, hd⟩ : ∃ d, zspE ns i = d := ⟨_, rfl⟩
      rw [hb, hd] at hat
      have hbn : zspB ns (-2199023255553) (i + 1) = d := by rw [← hd]; unfold zspB zspE; rw [if_neg (by omega)]; rfl
      have TK : Hid ((spL es ns (-2199023255553)).take (i + 1) = (spL es ns (-2199023255553)).take i ++ [(e, b, d)]) := Lib.hid (take_snoc' hat)
      have OK : Hid ((spL es ns (-2199023255553)).take i ++ [(e, b, d)] <+: spL es ns (-2199023255553)) := Lib.hid (by rw [← TK.out]; exact List.take_prefix _ _)
      have kal : Below wr.heap.size wr (wr.alloc (.cells #[.int .i64 e.of, .string ⟨e.rl.toArray⟩, .int .i64 e.sv, .string ⟨e.fm.toArray⟩, .bool e.en, .int .i64 e.uy, .int .i64 e.um, .int .i64 e.dk, .int .i64 e.dw, .int .i64 e.dn, .int .i64 e.sc, .int .i64 e.ck] 54)) := (Below.refl _ _).alloc (Nat.le_refl _) _
      have AL := Lib.hid (AR.out.next kal)
      obtain ⟨fn, tmps, assign, body, hy, hR⟩ := HY.out _ (e, b, d) (wr.alloc (.cells #[.int .i64 e.of, .string ⟨e.rl.toArray⟩, .int .i64 e.sv, .string ⟨e.fm.toArray⟩, .bool e.en, .int .i64 e.uy, .int .i64 e.um, .int .i64 e.dk, .int .i64 e.dw, .int .i64 e.dn, .int .i64 e.sc, .int .i64 e.ck] 54)) (HJ.out.bel HJP.out kal) OK.out (by have := HS.out; simp; omega)
      simp only [encSp, evV, cE] at hy
      have hsz : W.heap.size ≤ wr.heap.size := HS.out
      obtain ⟨p0, p1⟩ := cel2 AL.out.bw
      have HD := Lib.hid hd
      have HBN := Lib.hid hbn
      simp only [hb]
      have zz := HNN.out
      rw [zz] at p1
      have V : (i < nn ∧ (i : Int) < (nn : Int)) ∨ (¬ (i : Int) < (nn : Int) ∧ d = 2199023255553) := by
        by_cases h : i < nn
        · exact .inl ⟨h, by omega⟩
        · refine .inr ⟨by omega, ?_⟩
          rw [← hd]; unfold zspE
          rw [List.getD_eq_getElem?_getD, List.getElem?_eq_none (by omega)]; rfl
      clear he kal hat hb hd hbn zz
      rcases V with ⟨h1, h2⟩ | ⟨h2, rfl⟩
      · obtain ⟨q, hq⟩ : ∃ q, ns[i]? = some q := ⟨_, List.getElem?_eq_getElem (by rw [HNN.out]; exact h1)⟩
        obtain ⟨g, rfl, hg, hc⟩ := AL.out.ns i q hq
        obtain rfl : q = d := by rw [← HD.out]; unfold zspE; rw [List.getD_eq_getElem?_getD, hq]; rfl
        clear hq hg
        gi_wp2
        refine hR.mono ?_
        rintro e1 W3 (⟨rfl, hJ3, hk3, hkp3, -⟩ | ⟨rfl, hJx3, -⟩)
        · have HJ3 := Lib.hid hJ3
          have HK3 := Lib.hid (HK.out _ _ AL.out hk3 hkp3)
          have HS3 := Lib.hid hk3.size
          clear hJ3 hk3 hkp3 hy hR
          gi_wp2
          go_roundw
          case rel => exact ⟨i + 1, by rw [HBN.out], rfl, by omega, HK3.out, by have := HS3.out; simp at this; omega, by rw [TK.out]; exact HJ3.out⟩
          case measure => simp [intOf]; omega
        · clear hy hR
          gi_wp2
          exact bodyPost_ret (results_none rfl _ _ _) rfl ⟨⟨_, rfl⟩, .inr ⟨_, OK.out, hJx3⟩⟩
      · gi_wp2
        refine hR.mono ?_
        rintro e1 W3 (⟨rfl, hJ3, hk3, hkp3, -⟩ | ⟨rfl, hJx3, -⟩)
        · have HJ3 := Lib.hid hJ3
          have HK3 := Lib.hid (HK.out _ _ AL.out hk3 hkp3)
          have HS3 := Lib.hid hk3.size
          clear hJ3 hk3 hkp3 hy hR
          gi_wp2
          go_roundw
          case rel => exact ⟨i + 1, by rw [HBN.out], rfl, by omega, HK3.out, by have := HS3.out; simp at this; omega, by rw [TK.out]; exact HJ3.out⟩
          case measure => simp [intOf]; omega
        · clear hy hR
          gi_wp2
          exact bodyPost_ret (results_none rfl _ _ _) rfl ⟨⟨_, rfl⟩, .inr ⟨_, OK.out, hJx3⟩⟩
    · obtain rfl : i = m := by omega
      have hlt' : ¬ ((i : Nat) : Int) < (i : Int) := by omega
      have FIN : Hid (J (spL es ns (-2199023255553)) wr) := Lib.hid (by have := HJP.out; rwa [List.take_of_length_le (by rw [spL_len, HM.out]; omega)] at this)
      gi_wp2
      go_end0
      exact ⟨⟨_, rfl⟩, .inl FIN.out⟩
end Go.Proofs.YtdmfgechoanmlaaGreatDoor

namespace Go.Proofs.YtdmfgechoanmlaaGreatDoor
open Go Go.RowKit Go.Sort Go.Shelf
attribute [local go_sem] Oper.semAt_some

/-- What open answers of a zone that may be. -/
def OpnL (nr : Nat) (ns : List Int) (x : Ending) (W : World) : Prop := ∃ A1 c1 A2 c2, x = .returned (.tuple #[.agg #[.slice A1 nr c1, .slice A2 ns.length c2], .int .i64 0]) ∧ IntsL A2 ns W
set_option maxRecDepth 20000 in
set_option maxHeartbeats 1000000 in
theorem spans_core (nm : List UInt8) (L off n cz : Nat) (V : Value) (es : List EV) (nr : Nat) (ns : List Int) (w : World) (hn : es.length = n) (hn1 : n ≤ 1000) (h0 : 0 < n) (hE : RowsAt 12 cE (some ⟨L, off, none⟩) es w)
    (OP : Hid (∀ W, Below w.heap.size w W → Calls Tryz.prog 31 #[.agg #[.string ⟨nm.toArray⟩, .slice (some ⟨L, off, none⟩) n cz], .func (.func 10) #[V] #[]] W fun r w' => OpnL nr ns r w' ∧ Below W.heap.size W w')) :
    Calls Tryz.prog 17 #[.agg #[.string ⟨nm.toArray⟩, .slice (some ⟨L, off, none⟩) n cz], .func (.func 10) #[V] #[]] w fun r w' =>
      ∃ Be Bw g c Vr Ae ce, r = .returned (.func (.func 39) #[] #[.pointer (some ⟨Be, 0, none⟩), .pointer (some ⟨Bw, 0, none⟩)]) ∧ SpR Be Bw (some ⟨g, 0, none⟩) n c Vr Ae ce es ns w' ∧ (w.heap.size ≤ Be ∧ w.heap.size ≤ Bw ∧ w.heap.size ≤ g) ∧ (∃ cur, w'.heap[g]? = some (.cells cur 54 (0, 0))) ∧ Below w.heap.size w w' := by
  have hmf : ∀ (fn : Fn) (first cap : Array Value) (w : World), (Instr.makeFunc fn first cap).run Tryz.prog w = .ok (.func fn first cap) w := fun _ _ _ _ => rfl
  have X := Lib.hid (BlkN.make (Below.refl w.heap.size w) #[.string ⟨nm.toArray⟩, .slice (some ⟨L, off, none⟩) n cz] 24)
  obtain ⟨z0, z1⟩ := cel2 X.out.blk
  have CL := Lib.hid (fun W (h : RowsAt 12 cE (some ⟨L, off, none⟩) es W) => zclone_is L off n cz es W hn hn1 h0 h)
  have HE := Lib.hid hE
  clear hE hn
  go_enter Tryz.func17, Tryz.ntmps17
  repeat (first
    | (go_at_call 38; refine (CL.out _ (HE.out.next X2.out.bel)).mono ?_; rintro r w2 ⟨g, c', rfl, hR, hg, hcur, k2⟩
       have X3 := Lib.hid (X2.out.next k2)
       have S3 := Lib.hid (S2.out.next k2)
       have W3 := Lib.hid (W2.out.next k2)
       have I3 := Lib.hid (I2.out.next k2)
       have R3 := Lib.hid hR
       have G3 := Lib.hid (And.intro hg hcur)
       have SZ := Lib.hid X2.out.bel.size
       clear k2 hR hg hcur y0 z0 z1 e0
       have y0 := cel1 S3.out.blk
       have e0 := frz (j := 0) S3.out.blk
       simp only [])
    | (go_at_call 31; refine (OP.out _ X.out.bel).mono ?_; rintro r w1 ⟨⟨A1, c1, A2, c2, rfl, gi⟩, k1⟩
       have X1 := Lib.hid ((X.out.next k1).more (.cells #[.slice A1 nr c1, .slice A2 ns.length c2] 91))
       have X2 := Lib.hid (X1.out.more (.cells #[.slice none 0 0] 22))
       have W2 := Lib.hid ((BlkN.make (X.out.next k1).bel #[.slice A1 nr c1, .slice A2 ns.length c2] 91).more (.cells #[.slice none 0 0] 22))
       have S2 : Hid (BlkN w (w1.heap.size + 1) #[.slice none 0 0] 22 ((w1.alloc (.cells #[.slice A1 nr c1, .slice A2 ns.length c2] 91)).alloc (.cells #[.slice none 0 0] 22))) := Lib.hid (by have := BlkN.make X1.out.bel #[.slice none 0 0] 22; rwa [World.size_alloc] at this)
       have I2 := Lib.hid (gi.next (((Below.refl w1.heap.size w1).alloc (Nat.le_refl _) (.cells #[.slice A1 nr c1, .slice A2 ns.length c2] 91)).alloc (by simp) (.cells #[.slice none 0 0] 22)))
       clear k1 gi z0 z1
       obtain ⟨z0, z1⟩ := cel2 X2.out.blk
       have y0 := cel1 S2.out.blk
       have e0 := frz (j := 0) S2.out.blk
       simp only [])
    | go_values | go_skip | go_guarded | go_step | go_upon | go_back)
  go_ret
  have hset := grownBy_setCell' w2 (w1.heap.size + 1) (.slice (some ⟨g, 0, none⟩) n c')
  obtain ⟨W4, hW4⟩ : ∃ W, w2.setCell ⟨w1.heap.size + 1, 0, none⟩ (.slice (some ⟨g, 0, none⟩) n c') = W := ⟨_, rfl⟩
  have hbk := blk_set (i := 0) S3.out.blk (.slice (some ⟨g, 0, none⟩) n c')
  rw [hW4] at hset hbk
  simp only [hW4]
  obtain ⟨hg, cur, hcur⟩ := G3.out
  have hS := S3.out.ge
  have hgl : w1.heap.size + 1 < g := by
    have : ((w1.alloc (.cells #[.slice A1 nr c1, .slice A2 ns.length c2] 91)).alloc (.cells #[.slice none 0 0] 22)).heap.size = w1.heap.size + 2 := by simp
    omega
  have hW := W3.out.ge
  have hcW := (hset.block g (Array.getElem?_eq_some_iff.1 hcur).1 (fun e => by injection e with e; omega)).trans hcur
  refine ⟨w1.heap.size + 1, w1.heap.size, g, c', .slice A1 nr c1, A2, c2, rfl, ⟨by simpa using hbk, (hset.block _ W3.out.lt (fun e => by injection e with e; omega)).trans W3.out.blk, ?_, ?_⟩, ⟨by omega, hW, by omega⟩, ⟨cur, hcW⟩, X3.out.bel.grown hset X3.out.bel.size (fun j hj => by injection hj with hj; omega)⟩
  · intro i e he
    obtain ⟨L', o', e1, hl, hc⟩ := R3.out i e he
    cases e1
    exact ⟨g, 0, rfl, by have := hset.size; omega, fun j v hj hv => (World.cell?_of_block (hset.block g (Array.getElem?_eq_some_iff.1 hcur).1 (fun e => by injection e with e; omega))).trans (hc j v hj hv)⟩
  · intro i k hk
    obtain ⟨g', e1, hl, hc⟩ := I3.out i k hk
    by_cases h : g' = w1.heap.size + 1
    · exfalso
      subst h
      have := S3.out.cell i
      rw [hc] at this
      cases i with
      | zero => simp at this
      | succ i => simp at this
    · exact ⟨g', e1, by have := hset.size; omega, (World.cell?_of_block (hset.block g' hl (fun e => by injection e with e; omega))).trans hc⟩
end Go.Proofs.YtdmfgechoanmlaaGreatDoor
