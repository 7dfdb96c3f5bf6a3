/- table.Make at a zone whose eras have no rules; the chapter's example.
The chapter's example. -/
import Derived.Test.YtdmfgechoanmlaaGreatDoorMYG
import Derived.Test.YtdmfgechoanmlaaGreatDoorMYH
import Derived.Test.YtdmfgechoanmlaaGreatDoorZnI
import Derived.Test.YtdmfgechoanmlaaGreatDoorMYF
namespace Go.Proofs.YtdmfgechoanmlaaGreatDoor
open Go Go.RowKit Go.Sort Go.Shelf
attribute [local go_sem] Oper.semAt_some

theorem made_seq (ss : List SX) (A : Option Addr) (m c : Nat) (a b : Int) (w2 w3 w4 : World) (Z : LaidZ w2) (hR : RowsAt 15 cSx A ss w2) (hA : ∀ x, A = some x → x.block < w2.heap.size) (hm : ss.length = m) (hm1 : m ≤ 1000) (hs : ∀ x ∈ ss, SxOk x) (a1 : -2199023255552 ≤ a) (a2 : a ≤ 2199023255552) (b1 : -2199023255552 ≤ b) (b2 : b ≤ 2199023255552)
    (h3 : w3 = (((w2.alloc (.cells #[.slice A m c] 135)).alloc (.cells #[.int .i64 a] 3)).alloc (.cells #[.int .i64 b] 3)))
    (h4 : w4 = w3.alloc (.cells #[.func (.func 84) #[] #[.pointer (some ⟨w2.heap.size, 0, none⟩), .pointer (some ⟨w2.heap.size + 1, 0, none⟩), .pointer (some ⟨w2.heap.size + 1 + 1, 0, none⟩)]] 132)) :
    ItC 13 83 #[.pointer (some ⟨w3.heap.size, 0, none⟩)] (mrgC none (ss.flatMap (seL a b))) w4.heap.size w4 := by
  obtain ⟨k3, s3, e0, e1, e2⟩ := four_blocks h3.symm
  have k34 : Below w3.heap.size w3 w4 := by rw [h4]; exact (Below.refl _ _).alloc (Nat.le_refl _) _
  have k4 : Below w2.heap.size w2 w4 := bthen k3 k34
  have s4 : w4.heap.size = w2.heap.size + 4 := by rw [h4]; simp [s3]
  have e3 : w4.heap[w3.heap.size]? = some (.cells #[.func (.func 84) #[] #[.pointer (some ⟨w2.heap.size, 0, none⟩), .pointer (some ⟨w2.heap.size + 1, 0, none⟩), .pointer (some ⟨w2.heap.size + 1 + 1, 0, none⟩)]] 132 (0, 0)) := by rw [h4]; exact World.alloc_heap_new w3 _
  obtain ⟨mm, hmm⟩ := Z.b.mx
  have l1 := Z.f.ah.lt
  have l2 := Z.b.mks.lt
  have l3 : 1 < w2.heap.size := cell_lt hmm
  have T : ToB w4.heap.size w2.heap.size A m c a b ss w4 := ⟨(k34.block _ (by omega)).trans e0, (k34.block _ (by omega)).trans e1, (k34.block _ (by omega)).trans e2, hR.next k4, fun x hx => by have := hA x hx; omega, Z.next k4, by omega, by omega, by omega, by omega⟩
  exact distinct_seq 13 (by omega) 84 _ _ w4.heap.size w3.heap.size w4 (tshown_seq 12 (by omega) w4.heap.size w2.heap.size A m c a b ss w4 T (Nat.le_refl _) hm hm1 hs a1 a2 b1 b2) e3 (by omega)
theorem own_rows {ss : List SX} {w2 : World} {b c n : Nat} {A : Option Addr} (h : w2.ownsRow b 160 15 (.slice A n c) n (fcl (fun y => (cSx y).toList) ss)) (hn : ss.length = n) : RowsAt 15 cSx A ss w2 ∧ ∀ q, A = some q → q.block < w2.heap.size := by
  rcases h.2 with ⟨h0, h1⟩ | ⟨g, cap, cur, h0, hg, hb, -⟩
  · cases h0
    have : ss = [] := List.length_eq_zero_iff.1 (by omega)
    subst this
    exact ⟨rows_none _ _, fun q hq => by cases hq⟩
  · cases h0
    exact ⟨(gown cSx_len h).1, fun q hq => by cases hq; exact (Array.getElem?_eq_some_iff.1 hb).1⟩
theorem below4 {w2 w3 w4 : World} {o0 o1 o2 o3 : Obj} (h3 : w3 = ((w2.alloc o0).alloc o1).alloc o2) (h4 : w4 = w3.alloc o3) : Below w2.heap.size w2 w4 := by
  rw [h4, h3]
  exact (((((Below.refl _ w2).alloc (Nat.le_refl _) _).alloc (by simp) _).alloc (by simp; omega) _).alloc (by simp; omega) _)
set_option maxRecDepth 20000 in
set_option maxHeartbeats 1000000 in
theorem tmake_core (nm : List UInt8) (az : Option Addr) (n cz : Nat) (V : Value) (ss : List SX) (w : World) (hsl : ss.length = n) (n4 : n ≤ 1000) (hZ : LaidZ w)
    (CK0 : ∀ W, Below w.heap.size w W → Calls Tryz.prog 9 #[.agg #[.string ⟨nm.toArray⟩, .slice az n cz], .func (.func 10) #[V] #[]] W fun r w' => r = .returned (.int .i64 0) ∧ Below W.heap.size W w')
    (ST0 : ∀ W, Below w.heap.size w W → Calls Tryz.prog 65 #[.agg #[.string ⟨nm.toArray⟩, .slice az n cz], .func (.func 10) #[V] #[]] W fun r w' => ∃ A c, r = .returned (.slice A n c) ∧ w'.ownsRow W.heap.size 160 15 (.slice A n c) n (fcl (fun y => (cSx y).toList) ss) ∧ Below W.heap.size W w')
    (to : Int) (t1 : -2199023255552 ≤ to) (t2 : to ≤ 2199023255552) (hs : ∀ y ∈ ss, SxOk y) (L : List CV) (hL : mrgC none (ss.flatMap (seL (-2199023255552) to)) = L) (hL1 : L.length ≤ 1000000) :
    Calls Tryz.prog 40 #[.agg #[.string ⟨nm.toArray⟩, .slice az n cz], .func (.func 10) #[V] #[], .int .i64 to] w fun e w' => ∃ A c, e = .returned (.tuple #[.slice A L.length c, .int .i64 0]) ∧ w'.ownsRow w.heap.size 71 4 (.slice A L.length c) L.length (fcl (fun x => (cC x).toList) L) ∧ Below w.heap.size w w' := by
  have X0 := Lib.hid (BlkN.make (Below.refl w.heap.size w) #[.string ⟨nm.toArray⟩, .slice az n cz] 24)
  have CK := Lib.hid CK0
  have ST := Lib.hid ST0
  have ZZ := Lib.hid hZ
  have SS := Lib.hid hs
  have HL := Lib.hid hL
  have g1 : ¬ to < -2199023255552 := by omega
  have g2 : ¬ to > 2199023255552 := by omega
  obtain ⟨y0, y1⟩ := cel2 X0.out.blk
  clear CK0 ST0 hZ hs hL
  go_enter Tryz.func40, Tryz.ntmps40
  go_wp2_with (first
    | (go_at_call 9; refine (CK.out _ X0.out.bel).mono ?_; rintro r w1 ⟨rfl, k1⟩; have X1 := Lib.hid (X0.out.next k1); clear k1 y0 y1; obtain ⟨y0, y1⟩ := cel2 X1.out.blk; simp only [])
    | (go_at_call 65; refine (ST.out _ X1.out.bel).mono ?_; rintro r w2 ⟨A2, c2, rfl, ho, k2⟩; have O2 := Lib.hid ho; have K2 := Lib.hid (bthen X1.out.bel k2); clear k2 ho y0 y1; simp only [])
    | (go_at_call 64; refine (tshown_is _ _ _ _ _ _).mono ?_; rintro r w3 ⟨rfl, hw3⟩; have H3 := Lib.hid hw3; clear hw3; simp only [])
    | (go_at_call 63; refine (distinct_is _ _ _ _).mono ?_; rintro r w4 ⟨rfl, hw4⟩; have RA := own_rows O2.out hsl; have IT := Lib.hid (made_seq ss A2 n c2 (-2199023255552) to w2 w3 w4 (ZZ.out.next K2.out) RA.1 RA.2 hsl n4 SS.out (by omega) (by omega) t1 t2 H3.out hw4); rw [HL.out] at IT; have K4 := Lib.hid (bthen K2.out (below4 H3.out hw4)); clear RA hw4; simp only [])
    | (go_at_call 62; refine (collc_is _ _ L hL1 _ 13 (by omega) _ IT.out).mono ?_; rintro r w5 ⟨A5, c5, rfl, h5, k5⟩; have O5 := Lib.hid h5; have K5 := Lib.hid k5; clear h5 k5; simp only []))
  exact bodyPost_ret (by simp [results, Tryz.results40, go_sem]) rfl ⟨A5, c5, rfl, own_base O5.out K4.out.size, bthen K4.out K5.out⟩
end Go.Proofs.YtdmfgechoanmlaaGreatDoor

namespace Go.Proofs.YtdmfgechoanmlaaGreatDoor
open Go Go.RowKit Go.Sort Go.Shelf
attribute [local go_sem] Oper.semAt_some

theorem wk_es (g : Nat) (t : TypeId) (W : World) (h : W.heap[g]? = some (.cells (cE wkE) t (0, 0))) : RowsAt 12 cE (some ⟨g, 0, none⟩) [wkE] W := fun i e he => by
  have hi := (List.getElem?_eq_some_iff.1 he).1
  simp at hi
  subst hi
  simp at he
  subst he
  refine ⟨g, 0, rfl, (Array.getElem?_eq_some_iff.1 h).1, fun j v _ hv => ?_⟩
  rw [show 0 + 0 * 12 + j = j by omega, cell_of_row W g j _ _ _ h]; exact hv
def wkC : CV := ⟨-2199023255552, 3600, false, [67, 69, 84]⟩
theorem wk_open (g : Nat) (t : TypeId) (V : Value) (W : World) (h : W.heap[g]? = some (.cells (cE wkE) t (0, 0))) (hZ : LaidZ W) :
    Calls Tryz.prog 31 #[.agg #[.string ⟨([88] : List UInt8).toArray⟩, .slice (some ⟨g, 0, none⟩) 1 1], .func (.func 10) #[V] #[]] W fun r w' => OpnL 1 [] r w' ∧ Below W.heap.size W w' := by
  refine (open1_is [88] (some ⟨g, 0, none⟩) 1 wkE _ _ _ 0 W (esAt_one h) rfl rfl (Lib.hid hZ.b) (Lib.hid (by decide)) (Lib.hid (by decide +kernel))).mono ?_
  rintro r w' ⟨⟨-, g', c, Ae, ce, rfl, -⟩ | ⟨h0, -⟩, k⟩
  · exact ⟨⟨_, _, _, _, rfl, fun i x hx => by simp at hx⟩, k⟩
  · exact absurd rfl h0
theorem wk_check (g : Nat) (t : TypeId) (V : Value) (W : World) (h : W.heap[g]? = some (.cells (cE wkE) t (0, 0))) (hZ : LaidZ W) :
    Calls Tryz.prog 9 #[.agg #[.string ⟨([88] : List UInt8).toArray⟩, .slice (some ⟨g, 0, none⟩) 1 1], .func (.func 10) #[V] #[]] W fun r w' => r = .returned (.int .i64 0) ∧ Below W.heap.size W w' := by
  have X := Lib.hid (BlkN.make (Below.refl W.heap.size W) #[.string ⟨([88] : List UInt8).toArray⟩, .slice (some ⟨g, 0, none⟩) 1 1] 24)
  have OP := Lib.hid (wk_open g t V _ ((X.out.bel.block _ (Array.getElem?_eq_some_iff.1 h).1).trans h) (hZ.next X.out.bel))
  obtain ⟨z0, z1⟩ := cel2 X.out.blk
  clear h hZ
  go_enter Tryz.func9, Tryz.ntmps9
  repeat (first
    | (go_at_call 31; refine OP.out.mono ?_; rintro r w1 ⟨⟨A1, c1, A2, c2, rfl, -⟩, k1⟩; have X1 := Lib.hid (X.out.next k1); have B1 := Lib.hid (bmk X1.out.bel (.cells #[.slice A1 1 c1, .slice A2 ([] : List Int).length c2] 91)); clear k1 z0 z1; simp only [])
    | go_values | go_skip | go_guarded | go_step | go_upon | go_back)
  go_ret
  exact ⟨rfl, B1.out⟩
theorem wk_make (g : Nat) (t : TypeId) (V : Value) (W : World) (h : W.heap[g]? = some (.cells (cE wkE) t (0, 0))) (hZ : LaidZ W) :
    Calls Tryz.prog 40 #[.agg #[.string ⟨#[88]⟩, .slice (some ⟨g, 0, none⟩) 1 1], .func (.func 10) #[V] #[], .int .i64 2199023255552] W fun e w' => ∃ A c, e = .returned (.tuple #[.slice A 1 c, .int .i64 0]) ∧ RowsAt 4 cC A [wkC] w' ∧ Below W.heap.size W w' := by
  have z1 : ∀ e ∈ [wkE], e.rl = [] := fun e he => (List.mem_singleton.1 he) ▸ rfl
  have z2 : ∀ y ∈ spL [wkE] [] (-2199023255553), SxOk y := fun y hy => by
    have : y = (wkE, -2199023255553, 2199023255553) := List.mem_singleton.1 hy
    rw [this]
    exact ⟨⟨rfl, by decide, by decide, by decide, by decide, by decide, by decide +kernel⟩, by decide, by decide, by decide, by decide⟩
  have z3 : mrgC none ((spL [wkE] [] (-2199023255553)).flatMap (seL (-2199023255552) 2199023255552)) = [wkC] := by decide +kernel
  have hl := (Array.getElem?_eq_some_iff.1 h).1
  have at' : ∀ X, Below W.heap.size W X → X.heap[g]? = some (.cells (cE wkE) t (0, 0)) := fun X k => (k.block _ hl).trans h
  refine (tmake_core [88] (some ⟨g, 0, none⟩) 1 1 V _ W (spL_len [wkE] [] (-2199023255553)) (by decide) hZ (fun X k => wk_check g t V X (at' X k) (hZ.next k)) (fun X k => callsIn_wide.1 (stret_core 20 (by omega) [88] (some ⟨g, 0, none⟩) 1 1 V [wkE] [] X rfl (by decide) z1 (fun Y k2 => ?_))) 2199023255552 (by decide) (by decide) z2 [wkC] z3 (by decide)).mono ?_
  · have k3 := bthen k k2
    refine (spans_core [88] g 0 1 1 V [wkE] 1 [] Y rfl (by decide) (by decide) (wk_es g t Y (at' Y k3)) (Lib.hid fun Z k4 => wk_open g t V Z (at' Z (bthen k3 k4)) (hZ.next (bthen k3 k4)))).mono ?_
    rintro r w' ⟨Be, Bw, g', c, Vr, Ae, ce, h1, h2, -, -, h3⟩
    exact ⟨Be, Bw, g', c, Vr, Ae, ce, h1, h2, h3⟩
  · rintro e w' ⟨A, c, rfl, h1, h2⟩
    exact ⟨A, c, rfl, own_c h1 rfl, h2⟩
set_option maxRecDepth 20000 in
theorem tawake_is (w : World) (hZ : LaidZ w) : Calls Tryz.prog 19 #[] w fun x w' => x = .returned (.bool true) ∧ Below w.heap.size w w' := by
  have hmf : ∀ (fn : Fn) (first cap : Array Value) (w : World), (Instr.makeFunc fn first cap).run Tryz.prog w = .ok (.func fn first cap) w := fun _ _ _ _ => rfl
  have X0 := Lib.hid ((BlkN.make (Below.refl w.heap.size w) (cE wkE) 54).more (.cells #[.string ⟨#[88]⟩, .slice (some ⟨w.heap.size, 0, none⟩) 1 1, .slice none 0 0] 27))
  have Y0 := Lib.hid (BlkN.two w (.cells (cE wkE) 54) #[.string ⟨#[88]⟩, .slice (some ⟨w.heap.size, 0, none⟩) 1 1, .slice none 0 0] 27)
  have MK := Lib.hid (fun W (h : BlkN w w.heap.size (cE wkE) 54 W) => wk_make w.heap.size _ (.agg #[.string ⟨#[88]⟩, .slice (some ⟨w.heap.size, 0, none⟩) 1 1, .slice none 0 0]) W h.blk (hZ.next h.bel))
  have SM : Hid (∀ (W : World) A c, RowsAt 4 cC A [wkC] W → Calls Tryz.prog 24 #[.slice A 1 c, .slice (some ⟨W.heap.size, 0, none⟩) 1 1] (W.alloc (.cells #[.int .i64 (-2199023255552), .int .i64 3600, .bool false, .string ⟨#[67, 69, 84]⟩] 71)) fun x w' => x = .returned (.bool true) ∧ Below W.heap.size W w') := Lib.hid fun W A c hR => by
    have k : RowKit.Below W.heap.size W (W.alloc (.cells (cC wkC) 71)) := (Below.refl _ W).alloc (Nat.le_refl _) _
    refine (tsame_is A (some ⟨W.heap.size, 0, none⟩) 1 1 c 1 [wkC] [wkC] true (W.alloc (.cells (cC wkC) 71)) (hR.next k) (one_c (World.alloc_heap_new W _)) rfl rfl (by decide) (by decide) (by simp)).mono ?_
    rintro x w' ⟨rfl, h⟩
    exact ⟨rfl, bthen k h⟩
  obtain ⟨y0, y1, y2⟩ := cel3 Y0.out.blk
  clear hZ
  unfold cE wkE at *
  go_enter Tryz.func19, Tryz.ntmps19
  go_wp2_with (first
    | (go_at_call 40; refine (MK.out _ X0.out).mono ?_; rintro x w1 ⟨A1, c1, rfl, r1, k1⟩; have R1 := Lib.hid r1; have K1 := Lib.hid (bthen X0.out.bel k1); clear k1 r1 y0 y1 y2; simp only [])
    | (go_at_call 24; refine (SM.out _ _ _ R1.out).mono ?_; rintro x w2 ⟨rfl, k2⟩; have K2 := Lib.hid (bthen K1.out k2); clear k2; simp only []))
  go_ret
  exact ⟨rfl, K2.out⟩
end Go.Proofs.YtdmfgechoanmlaaGreatDoor
