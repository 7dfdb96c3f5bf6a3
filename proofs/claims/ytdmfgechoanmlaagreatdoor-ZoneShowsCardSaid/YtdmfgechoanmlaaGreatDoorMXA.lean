/- The contracts of zone.ask, and of the closures of zone.open, for whatever era: its rules, and whether its end rises.
The contract of what zone.open asks last of an era: whether its end rises.
What zone.open asks of the eras of a world, one behind the other: rules, what is wrong with each, and that ends rise.
The contract of zone.open at whatever zone: its eras' rules, and ends, or what is wrong.
The contracts of zone.Check, zone.Ends, zone.Era and zone.At at whatever zone.
The contract of zone.At at whatever zone.
What a world of the laws that is not too much gives to whoever opens its zone. -/
import Derived.Test.YtdmfgechoanmlaaGreatDoorZnF
import Derived.Test.YtdmfgechoanmlaaGreatDoorZmF
import Derived.Defers
import Derived.Recover
import Derived.Test.YtdmfgechoanmlaaGreatDoorZnG
import Derived.Test.YtdmfgechoanmlaaGreatDoorZnH
import Derived.Test.YtdmfgechoanmlaaGreatDoorMYE
namespace Go.Proofs.YtdmfgechoanmlaaGreatDoor
open Go Go.RowKit
attribute [local go_sem] Oper.semAt_some

theorem catch_still (w : World) : CallsD Tryz.prog 70 #[] .returning w fun e u' w' => e = .returned (.tuple #[]) ∧ u' = .returning ∧ w' = w := by
  refine callsD_of_wpS Tryz.func70 rfl fun c₀ cs hu => ?_
  apply wpS_region
  simp [wpOpsS, go_sem, recoverD, hu, Tryz.ntmps70, bodyPostS, results, Tryz.results70]
  cases c₀
  simp_all
/-- A method of a world as a value. -/
def setsV (x : WV) : Value := .func (.func 10) #[wvV x] #[]
set_option maxRecDepth 20000 in
theorem ask_is (x : WV) (nm : List UInt8) (A : Option Addr) (n c : Nat) (w : World) (HO : Hid (∀ W, Below w.heap.size w W → Calls Tryz.prog 10 #[wvV x, .string ⟨nm.toArray⟩] W fun r w' => r = .returned (.slice A n c) ∧ Below W.heap.size W w')) :
    Calls Tryz.prog 52 #[setsV x, .string ⟨nm.toArray⟩] w fun r w' => r = .returned (.slice A n c) ∧ Below w.heap.size w w' := by
  have hmf : ∀ (fn : Fn) (first cap : Array Value) (w : World), (Instr.makeFunc fn first cap).run Tryz.prog w = .ok (.func fn first cap) w := fun _ _ _ _ => rfl
  unfold setsV wvV at *
  go_enter_defers Tryz.func52, Tryz.ntmps52
  repeat (first
    | (go_at_call 10; refine (HO.out _ (Below.refl _ _)).mono ?_; rintro r w1 ⟨rfl, k1⟩; have K1 := Lib.hid k1; clear k1; simp only [])
    | go_values | go_skip | go_guarded | go_step | go_upon | go_back)
  refine leaves_cons (f := 70) (args := #[]) (by simp) (by simp [go_sem]) ?_
  refine (catch_still _).mono ?_
  rintro e u' w'' ⟨rfl, rfl, rfl⟩
  exact ⟨_, results_tmp rfl _ _ _, rfl, K1.out⟩
set_option maxRecDepth 20000 in
set_option maxHeartbeats 2000000 in
theorem ruled_some (gw Bs : Nat) (i : Int) (e : EV) (x : WV) (rows : List Value) (ends : List Int) (A : Option Addr) (n c : Nat) (W : World) (hw : Wh gw rows ends W) (hr : rows.length ≤ 100000) (he : e.rl.isEmpty = false) (hs : W.cell? ⟨Bs, 0, none⟩ = some (setsV x)) (hn : 0 < n)
    (HO : Hid (∀ W', Below W.heap.size W W' → Calls Tryz.prog 10 #[wvV x, .string ⟨e.rl.toArray⟩] W' fun r w' => r = .returned (.slice A n c) ∧ Below W'.heap.size W' w')) :
    Calls Tryz.prog 51 #[.int .i64 i, evV e, .pointer (some ⟨Bs, 0, none⟩), .pointer (some ⟨gw, 0, none⟩)] W fun x W' => x = .returned (.int .i64 0) ∧ Wh gw (rows ++ [.slice A n c]) ends W' ∧ KeepsOthers W W' ∧ Below gw W W' ∧ KpE W W' := by
  obtain ⟨Ar, cr, Ae, ce, hw⟩ := hw
  have hgl := (Array.getElem?_eq_some_iff.1 hw.blk).1
  have X := Lib.hid (BlkN.make (Below.refl W.heap.size W) (cE e) 54)
  have AK := Lib.hid (ask_is x e.rl A n c _ (Lib.hid fun W' k => HO.out W' (bthen X.out.bel k)))
  have HW := Lib.hid hw
  obtain ⟨x0, x1, x2, x3, x4, x5, x6, x7, x8, x9, x10, x11⟩ := cells12 X.out.blk
  have s0 : (W.alloc (.cells (cE e) 54)).cell? ⟨Bs, 0, none⟩ = some (setsV x) := (X.out.bel.cell (p := ⟨Bs, 0, none⟩) (cell_lt hs)).trans hs
  have hnb : ((n : Int) == 0) = false := by simp; omega
  obtain ⟨of, rl, sv, fm, en, uy, um, dk, dw, dn, sc, ck⟩ := e
  unfold evV
  unfold cE at *
  unfold setsV wvV at *
  simp only at *
  clear hw hs HO
  go_enter Tryz.func51, Tryz.ntmps51
  repeat (first
    | (go_at_call 52; refine AK.out.mono ?_; rintro r w1 ⟨rfl, k1⟩
       have X1 := Lib.hid (X.out.next k1)
       have B1 := Lib.hid (bmk X1.out.bel (.cells #[.slice A n c] 80))
       have p1 : (w1.alloc (.cells #[.slice A n c] 80)).cell? ⟨w1.heap.size, 0, none⟩ = some (.slice A n c) := by simp
       have H1 := Lib.hid (HW.out.next B1.out)
       have OW := Lib.hid (HW.out.next B1.out).rw'
       obtain ⟨y0, y1⟩ := cel2 (HW.out.next X1.out.bel).blk
       clear k1 x0 x1 x2 x3 x4 x5 x6 x7 x8 x9 x10 x11 s0
       simp only [])
    | (at_builtin; refine wpList_rpush (by rfl) (.tmp 19) (.tmp 21) (by rfl) rfl OW.out (by rfl) ⟨w1.heap.size, 0, none⟩ _ (by rfl) (by rfl) p1 hr (by have := B1.out.size; have := HW.out.blk; omega) ?_; intro A' c' w' hown hg
       have hb1 := (hg.block gw (Array.getElem?_eq_some_iff.1 H1.out.blk).1 (fun e => by have := (OW.out.lt gw e.symm).1; omega)).trans H1.out.blk
       have OW' := Lib.hid hown
       have HG := Lib.hid hg
       have HB := Lib.hid hb1
       obtain ⟨y0', y1'⟩ := cel2 hb1
       have f0 := frz (j := 0) hb1
       clear hown hg hb1 y0 y1)
    | go_values | go_skip | go_guarded | go_step | go_upon | go_back)
  go_ret
  exact ⟨rfl, wh_rpush B1.out H1.out hgl OW'.out HG.out⟩
set_option maxRecDepth 20000 in
set_option maxHeartbeats 2000000 in
theorem ruled_none (gw Bs : Nat) (i : Int) (e : EV) (x : WV) (A : Option Addr) (c : Nat) (W : World) (he : e.rl.isEmpty = false) (hs : W.cell? ⟨Bs, 0, none⟩ = some (setsV x))
    (HO : Hid (∀ W', Below W.heap.size W W' → Calls Tryz.prog 10 #[wvV x, .string ⟨e.rl.toArray⟩] W' fun r w' => r = .returned (.slice A 0 c) ∧ Below W'.heap.size W' w')) :
    Calls Tryz.prog 51 #[.int .i64 i, evV e, .pointer (some ⟨Bs, 0, none⟩), .pointer (some ⟨gw, 0, none⟩)] W fun x W' => x = .returned (.int .i64 16) ∧ Below W.heap.size W W' := by
  have X := Lib.hid (BlkN.make (Below.refl W.heap.size W) (cE e) 54)
  have AK := Lib.hid (ask_is x e.rl A 0 c _ (Lib.hid fun W' k => HO.out W' (bthen X.out.bel k)))
  obtain ⟨x0, x1, x2, x3, x4, x5, x6, x7, x8, x9, x10, x11⟩ := cells12 X.out.blk
  have s0 : (W.alloc (.cells (cE e) 54)).cell? ⟨Bs, 0, none⟩ = some (setsV x) := (X.out.bel.cell (p := ⟨Bs, 0, none⟩) (cell_lt hs)).trans hs
  obtain ⟨of, rl, sv, fm, en, uy, um, dk, dw, dn, sc, ck⟩ := e
  unfold evV
  unfold cE at *
  unfold setsV wvV at *
  simp only at *
  clear hs HO
  go_enter Tryz.func51, Tryz.ntmps51
  repeat (first
    | (go_at_call 52; refine AK.out.mono ?_; rintro r w1 ⟨rfl, k1⟩
       have X1 := Lib.hid (X.out.next k1)
       clear k1 x0 x1 x2 x3 x4 x5 x6 x7 x8 x9 x10 x11 s0
       simp only [])
    | go_values | go_skip | go_guarded | go_step | go_upon | go_back)
  go_ret
  exact ⟨rfl, X1.out.bel⟩
end Go.Proofs.YtdmfgechoanmlaaGreatDoor

namespace Go.Proofs.YtdmfgechoanmlaaGreatDoor
open Go Go.RowKit
attribute [local go_sem] Oper.semAt_some

theorem zint_info : (Tryz.prog.info? 3).map (fun i => (i.zero, i.size, i.bytes)) = some (some (.int .i64 0), 1, 8) := by kernel_rfl
/-- A number behind a list of numbers that the call made itself. -/
theorem wpList_zpush {w : World} {ops : Array Oper} {rest : List Oper} {o : Oper} {a : Act} {Q : Exit → Act → World → Prop} (hgd : o.guard = none) (s x : Operand)
    (ho : o.op = .call { callee := .builtin .append, args := #[s, x], argTypes := #[28, 28] }) {base n m c : Nat} {A : Option Addr} {l : List Value} (hm : n + 1 = m) (X : w.ownsRow base 3 1 (.slice A n c) n l)
    (hs : a.eval s = .slice A n c) (ad : Addr) (p : Value) (hp : p.oneCell' = true) (hx : a.eval x = .slice (some ad) 1 1) (hb : w.cell? ad = some p) (hl : n ≤ 100000) (hbase : base ≤ w.heap.size)
    (h : ∀ A' c' w', w'.ownsRow base 3 1 (.slice A' m c') m (l ++ [p]) → w.grownBy w' (Value.slice A n c).ownBlock → wpList Tryz.prog ops Q rest (a.put o.dst (.slice A' m c')) w') : wpList Tryz.prog ops Q (o :: rest) a w := by
  obtain ⟨i0, hi0, hz0, hz1, hz2⟩ := info_parts zint_info
  subst hm
  refine wpList_append_own_at _ hgd s x _ ho base 3 i0 _ 1 8 Tryz.underlying28 hi0 hz0 hz1 hz2 rfl (by omega) (.slice A n c) n l hs X ad 1 1 [p] hx rfl (by intro j u hu; rcases j with _ | j <;> simp at hu; subst hu; simpa [Addr.add] using hb) (by simpa using hp) (by simp only [maxLen]; omega) (by omega) hbase ?_
  intro v' w' hown hg _ _
  obtain ⟨A', c', rfl⟩ := wown_form hown
  exact h A' c' w' hown hg
theorem setCell_grown' (W : World) (k i : Nat) (v : Value) : W.grownBy (W.setCell ⟨k, i, none⟩ v) (some k) := by
  have b := (Below.refl 0 W).setCell (p := ⟨k, i, none⟩) (Nat.zero_le k) v
  refine ⟨b.os, b.tape, b.output, b.size, fun j _ hne => ?_⟩
  show (W.heap.modify k _)[j]? = _
  rw [Array.getElem?_modify]
  rw [if_neg (fun e => hne (by rw [e]))]
theorem wh_zpush {gw : Nat} {rows : List Value} {ends : List Int} {Ar : Option Addr} {cr : Nat} {Ae : Option Addr} {ce : Nat} {W W1 w' : World} {p : Int} {A' : Option Addr} {c' : Nat} (k : Below W.heap.size W W1) (h : WhX gw rows ends Ar cr Ae ce W1) (hgl : gw < W.heap.size)
    (hown : w'.ownsRow (gw + 1) 3 1 (.slice A' (ends.length + 1) c') (ends.length + 1) ((ends.map fun n => Value.int .i64 n) ++ [.int .i64 p])) (hg : W1.grownBy w' (Value.slice Ae ends.length ce).ownBlock) :
    Wh gw rows (ends ++ [p]) (w'.setCell ⟨gw, 1, none⟩ (.slice A' (ends.length + 1) c')) ∧ KeepsOthers W (w'.setCell ⟨gw, 1, none⟩ (.slice A' (ends.length + 1) c')) ∧ Below gw W (w'.setCell ⟨gw, 1, none⟩ (.slice A' (ends.length + 1) c')) ∧ KpE W (w'.setCell ⟨gw, 1, none⟩ (.slice A' (ends.length + 1) c')) := by
  have hgr : ∀ r, (Value.slice Ae ends.length ce).ownBlock = some r → gw + 1 ≤ r ∧ ∃ cs, W1.heap[r]? = some (.cells cs 3 (0, 0)) := fun r e => by
    refine ⟨(h.en.lt r e).1, ?_⟩
    rcases h.en.2 with ⟨e1, _⟩ | ⟨g, cap, cur, e1, hb, hgg, _⟩
    · rw [e1] at e; simp [Value.ownBlock] at e
    · rw [e1] at e; simp [Value.ownBlock] at e; subst e; exact ⟨cur, hgg⟩
  have hb := (hg.block gw (Array.getElem?_eq_some_iff.1 h.blk).1 (fun e => by have := (hgr gw e.symm).1; omega)).trans h.blk
  have he := h.rw'.kept hg (own_apart h.rw' h.en (by decide))
  have hset := setCell_grown' w' gw 1 (.slice A' (ends.length + 1) c')
  have ne : ∀ {v : Value} {n : Nat} {xs : List Value} {e : TypeId}, w'.ownsRow (gw + 1) e 1 v n xs → v.ownBlock = none ∨ v.ownBlock ≠ some gw := fun {v n xs e} hv => by
    cases hvb : v.ownBlock with
    | none => exact .inl rfl
    | some r => exact .inr (fun e => by injection e with e; subst e; have := (hv.lt _ hvb).1; omega)
  refine ⟨⟨Ar, cr, A', c', ?_, he.kept hset (ne he), ?_⟩, ?_, ?_, ?_⟩
  · have := blk_set (i := 1) hb (.slice A' (ends.length + 1) c')
    rw [List.length_append]
    simpa using this
  · have := hown.kept hset (ne hown)
    rw [List.length_append, List.map_append]; exact this
  · refine KeepsOthers.trans (KeepsOthers.of_grownBy (zgrown k) (fun j o hj ho => by cases hj)) (KeepsOthers.trans (KeepsOthers.of_grownBy hg (fun j o hj ho => ?_)) (KeepsOthers.setCell w' _ _))
    obtain ⟨-, cs, h3⟩ := hgr j hj
    rw [h3] at ho; cases ho; rfl
  · have k1 : Below gw W1 w' := (Below.refl gw W1).grown hg (by have := k.size; omega) (fun j hj => by have := (hgr j hj).1; omega)
    exact (k.mono (by omega)).trans (k1.trans ((Below.refl gw w').grown hset (by have := k.size; have := hg.size; omega) (fun j hj => by injection hj with hj; omega)))
  · refine KpT.trans (KpT.below k) (KpT.trans (KpT.grown hg fun j hj => ?_) (KpT.of_ne hset hb (by decide)))
    obtain ⟨-, cs, h3⟩ := hgr j hj
    exact ⟨cs, _, _, h3, by decide⟩
/-- Ahead of the ends: what zone.End answers. -/
structure RisE (gw i : Nat) (e : EV) (rows : List Value) (ends : List Int) (A : Option Addr) (n c : Nat) (a v : Int) (W : World) : Prop where
  hw : Wh gw rows ends W
  hr : rows[i]? = some (.slice A n c)
  en : ∀ Y, Below W.heap.size W Y → Calls Tryz.prog 56 #[evV e, .slice A n c] Y fun x W' => x = .returned (.tuple #[.int .i64 a, .int .i64 v]) ∧ Below Y.heap.size Y W'
set_option maxRecDepth 20000 in
set_option maxHeartbeats 2000000 in
/-- An era without an end, or one whose end does not rise: nothing is found. -/
theorem rising_still (gw i : Nat) (e : EV) (rows : List Value) (ends : List Int) (A : Option Addr) (n c : Nat) (a v r : Int) (W : World) (H : RisE gw i e rows ends A n c a v W) (hv : Hid ((v ≠ 0 ∧ r = 0) ∨ (v = 0 ∧ r = 17 ∧ ∃ b, 0 < i ∧ ends[i - 1]? = some b ∧ a ≤ b))) (hi9 : i ≤ 1000000) :
    Calls Tryz.prog 55 #[.int .i64 (i : Int), evV e, .pointer (some ⟨gw, 0, none⟩)] W fun x W' => x = .returned (.int .i64 r) ∧ Below W.heap.size W W' := by
  have mixed : Tryz.prog.follows .mixedOrders = true := by kernel_rfl
  obtain ⟨hw, hr, en⟩ := H
  have EN := Lib.hid en
  obtain ⟨Ar, cr, Ae, ce, hw⟩ := hw
  have hi : i < rows.length := (List.getElem?_eq_some_iff.1 hr).1
  obtain ⟨g, cap, rfl, rfl, hc⟩ := wown_cells hw.rw' (by omega)
  have hcr := hc i _ hr
  have hgl := (Array.getElem?_eq_some_iff.1 hw.blk).1
  have k0 : Below W.heap.size W (W.alloc (.cells (cE e) 54)) := (Below.refl _ W).alloc (Nat.le_refl _) _
  obtain ⟨x0, x1, x2, x3, x4, x5, x6, x7, x8, x9, x10, x11⟩ := cells12 (heap_alloc_new W (.cells (cE e) 54))
  have y0 : (W.alloc (.cells (cE e) 54)).cell? ⟨gw, 0, none⟩ = some (.slice (some ⟨g, 0, none⟩) rows.length cr) := (k0.cell (p := ⟨gw, 0, none⟩) hgl).trans (cel2 hw.blk).1
  have y2 : (W.alloc (.cells (cE e) 54)).cell? ⟨g, i, none⟩ = some (.slice A n c) := (k0.cell (p := ⟨g, i, none⟩) (cell_lt hcr)).trans hcr
  have hiz : (i : Int) < (rows.length : Int) := by omega
  have K0 := Lib.hid k0
  have HW := Lib.hid hw
  clear k0 hw hc hcr hr en
  obtain ⟨of, rl, sv, fm, en, uy, um, dk, dw, dn, sc, ck⟩ := e
  unfold evV at *
  unfold cE at *
  simp only at *
  go_enter Tryz.func55, Tryz.ntmps55
  have d0 := bel_cell x0
  have d1 := bel_cell x1
  have d2 := bel_cell x2
  have d3 := bel_cell x3
  have d4 := bel_cell x4
  have d5 := bel_cell x5
  have d6 := bel_cell x6
  have d7 := bel_cell x7
  have d8 := bel_cell x8
  have d9 := bel_cell x9
  have d10 := bel_cell x10
  have d11 := bel_cell x11
  have d12 := bel_cell y0
  have d13 := bel_cell y2
  clear x0 x1 x2 x3 x4 x5 x6 x7 x8 x9 x10 x11 y0 y2
  go_wp2_with fail
  refine region_bel mixed (by kernel_rfl) ?_
  repeat (quiet_step ((go_at_call 56; rename_i y; refine (EN.out _ (bthen K0.out y.k)).mono ?_; rintro e w6 ⟨rfl, k6⟩; exact ⟨rfl, ⟨w6, y.k.trans (k6.mono y.k.size)⟩, rfl⟩)))
  refine wpQuiet_nil ?_
  rintro w6 ⟨x6, hx6⟩
  have k6 := Lib.hid (bthen K0.out (hx6 ▸ x6.k))
  clear hx6 x6 d0 d1 d2 d3 d4 d5 d6 d7 d8 d9 d10 d11 d12 d13
  rcases hv.out with ⟨h1, rfl⟩ | ⟨rfl, rfl, b, h2, h3, h4⟩
  · have hvb : (v != 0) = true := by simpa using h1
    clear hv h1
    repeat (first | go_values | go_skip | go_guarded | go_step | go_upon | go_back)
    go_ret
    exact ⟨rfl, k6.out⟩
  · obtain ⟨j, rfl⟩ : ∃ j, i = j + 1 := ⟨i - 1, by omega⟩
    rw [Nat.add_sub_cancel] at h3
    have he : j < ends.length := (List.getElem?_eq_some_iff.1 h3).1
    obtain ⟨ge, cape, rfl, rfl, hce⟩ := wown_cells HW.out.en (by omega)
    have q1 := hce j (.int .i64 b) (by rw [List.getElem?_map, h3]; rfl)
    have q2 := (k6.out.cell (p := ⟨ge, j, none⟩) (cell_lt q1)).trans q1
    have q3 := (k6.out.cell (p := ⟨gw, 1, none⟩) hgl).trans (cel2 HW.out.blk).2
    have hjz : (j : Int) < (ends.length : Int) := by omega
    have wi : IntKind.i64.wrap (((j + 1 : Nat) : Int) - 1) = (j : Int) := by rw [show ((j + 1 : Nat) : Int) - 1 = (j : Int) by omega]; exact IntWalk.i64_in _ (by omega)
    have dp : decide ((0 : Int) < ((j + 1 : Nat) : Int)) = true := decide_eq_true (by omega)
    have dl : decide (a ≤ b) = true := decide_eq_true h4
    clear hv h2 h3 h4 q1 hce hiz
    repeat (first | go_values | go_skip | go_guarded | go_step | go_upon | go_back)
    go_ret
    exact ⟨rfl, k6.out⟩
set_option maxRecDepth 20000 in
set_option maxHeartbeats 2000000 in
/-- An era whose end rises. -/
theorem rising_up (gw i : Nat) (e : EV) (rows : List Value) (ends : List Int) (A : Option Addr) (n c : Nat) (a : Int) (W : World) (H : RisE gw i e rows ends A n c a 0 W) (hv : Hid (i = 0 ∨ ∃ b, 0 < i ∧ ends[i - 1]? = some b ∧ ¬ a ≤ b)) (hi9 : i ≤ 1000000) (hl : ends.length ≤ 100000) :
    Calls Tryz.prog 55 #[.int .i64 (i : Int), evV e, .pointer (some ⟨gw, 0, none⟩)] W fun x W' => x = .returned (.int .i64 0) ∧ Wh gw rows (ends ++ [a]) W' ∧ KeepsOthers W W' ∧ Below gw W W' ∧ KpE W W' := by
  have mixed : Tryz.prog.follows .mixedOrders = true := by kernel_rfl
  obtain ⟨hw, hr, en⟩ := H
  have EN := Lib.hid en
  obtain ⟨Ar, cr, Ae, ce, hw⟩ := hw
  have hi : i < rows.length := (List.getElem?_eq_some_iff.1 hr).1
  obtain ⟨g, cap, rfl, rfl, hc⟩ := wown_cells hw.rw' (by omega)
  have hcr := hc i _ hr
  have hgl := (Array.getElem?_eq_some_iff.1 hw.blk).1
  have k0 : Below W.heap.size W (W.alloc (.cells (cE e) 54)) := (Below.refl _ W).alloc (Nat.le_refl _) _
  obtain ⟨x0, x1, x2, x3, x4, x5, x6, x7, x8, x9, x10, x11⟩ := cells12 (heap_alloc_new W (.cells (cE e) 54))
  have y0 : (W.alloc (.cells (cE e) 54)).cell? ⟨gw, 0, none⟩ = some (.slice (some ⟨g, 0, none⟩) rows.length cr) := (k0.cell (p := ⟨gw, 0, none⟩) hgl).trans (cel2 hw.blk).1
  have y2 : (W.alloc (.cells (cE e) 54)).cell? ⟨g, i, none⟩ = some (.slice A n c) := (k0.cell (p := ⟨g, i, none⟩) (cell_lt hcr)).trans hcr
  have hiz : (i : Int) < (rows.length : Int) := by omega
  have K0 := Lib.hid k0
  have HW := Lib.hid hw
  clear k0 hw hc hcr hr en
  obtain ⟨of, rl, sv, fm, en, uy, um, dk, dw, dn, sc, ck⟩ := e
  unfold evV at *
  unfold cE at *
  simp only at *
  go_enter Tryz.func55, Tryz.ntmps55
  have d0 := bel_cell x0
  have d1 := bel_cell x1
  have d2 := bel_cell x2
  have d3 := bel_cell x3
  have d4 := bel_cell x4
  have d5 := bel_cell x5
  have d6 := bel_cell x6
  have d7 := bel_cell x7
  have d8 := bel_cell x8
  have d9 := bel_cell x9
  have d10 := bel_cell x10
  have d11 := bel_cell x11
  have d12 := bel_cell y0
  have d13 := bel_cell y2
  clear x0 x1 x2 x3 x4 x5 x6 x7 x8 x9 x10 x11 y0 y2
  go_wp2_with fail
  refine region_bel mixed (by kernel_rfl) ?_
  repeat (quiet_step ((go_at_call 56; rename_i y; refine (EN.out _ (bthen K0.out y.k)).mono ?_; rintro e w6 ⟨rfl, k6⟩; exact ⟨rfl, ⟨w6, y.k.trans (k6.mono y.k.size)⟩, rfl⟩)))
  refine wpQuiet_nil ?_
  rintro w6 ⟨x6, hx6⟩
  have k6 := Lib.hid (bthen K0.out (hx6 ▸ x6.k))
  clear hx6 x6 d0 d1 d2 d3 d4 d5 d6 d7 d8 d9 d10 d11 d12 d13
  have B1 := Lib.hid (bmk k6.out (.cells #[.int .i64 a] 3))
  have p1 : (w6.alloc (.cells #[.int .i64 a] 3)).cell? ⟨w6.heap.size, 0, none⟩ = some (.int .i64 a) := by simp
  have H1 := Lib.hid (HW.out.next B1.out)
  have OW := Lib.hid (HW.out.next B1.out).en
  have q3 := (k6.out.cell (p := ⟨gw, 1, none⟩) hgl).trans (cel2 HW.out.blk).2
  have hml : (ends.map fun n => Value.int .i64 n).length = ends.length := List.length_map ..
  rcases hv.out with rfl | ⟨b, h2, h3, h4⟩
  · have dp : decide ((0 : Int) < 0) = false := by decide
    clear hv
    repeat (first
      | (at_builtin; refine wpList_zpush (by rfl) (.tmp 35) (.tmp 37) (by rfl) rfl OW.out (by rfl) ⟨w6.heap.size, 0, none⟩ _ (by rfl) (by rfl) p1 hl (by have := B1.out.size; omega) ?_; intro A' c' w' hown hg
         have hb1 := (hg.block gw (Array.getElem?_eq_some_iff.1 H1.out.blk).1 (fun e => by have := (OW.out.lt gw e.symm).1; omega)).trans H1.out.blk
         have OW' := Lib.hid hown
         have HG := Lib.hid hg
         obtain ⟨y0', y1'⟩ := cel2 hb1
         have f0 := frz (j := 1) hb1
         clear hown hg hb1)
      | go_values | go_skip | go_guarded | go_step | go_upon | go_back)
    go_ret
    exact ⟨rfl, wh_zpush B1.out H1.out hgl OW'.out HG.out⟩
  · obtain ⟨j, rfl⟩ : ∃ j, i = j + 1 := ⟨i - 1, by omega⟩
    rw [Nat.add_sub_cancel] at h3
    have he : j < ends.length := (List.getElem?_eq_some_iff.1 h3).1
    obtain ⟨ge, cape, rfl, rfl, hce⟩ := wown_cells HW.out.en (by omega)
    have q1 := hce j (.int .i64 b) (by rw [List.getElem?_map, h3]; rfl)
    have q2 := (k6.out.cell (p := ⟨ge, j, none⟩) (cell_lt q1)).trans q1
    have hjz : (j : Int) < (ends.length : Int) := by omega
    have wi : IntKind.i64.wrap (((j + 1 : Nat) : Int) - 1) = (j : Int) := by rw [show ((j + 1 : Nat) : Int) - 1 = (j : Int) by omega]; exact IntWalk.i64_in _ (by omega)
    have dp : decide ((0 : Int) < ((j + 1 : Nat) : Int)) = true := decide_eq_true (by omega)
    have dl : decide (a ≤ b) = false := decide_eq_false (by omega)
    clear hv h2 h3 h4 q1 hce hiz
    repeat (first
      | (at_builtin; refine wpList_zpush (by rfl) (.tmp 35) (.tmp 37) (by rfl) rfl OW.out (by rfl) ⟨w6.heap.size, 0, none⟩ _ (by rfl) (by rfl) p1 hl (by have := B1.out.size; omega) ?_; intro A' c' w' hown hg
         have hb1 := (hg.block gw (Array.getElem?_eq_some_iff.1 H1.out.blk).1 (fun e => by have := (OW.out.lt gw e.symm).1; omega)).trans H1.out.blk
         have OW' := Lib.hid hown
         have HG := Lib.hid hg
         obtain ⟨y0', y1'⟩ := cel2 hb1
         have f0 := frz (j := 1) hb1
         clear hown hg hb1)
      | go_values | go_skip | go_guarded | go_step | go_upon | go_back)
    go_ret
    exact ⟨rfl, wh_zpush B1.out H1.out hgl OW'.out HG.out⟩
end Go.Proofs.YtdmfgechoanmlaaGreatDoor

namespace Go.Proofs.YtdmfgechoanmlaaGreatDoor
open Go Go.RowKit Go.Shelf

/-- The first of some numbers that is not 0. -/
def fwF (f : Nat → Int) : Nat → Int
  | 0 => 0
  | m + 1 => if fwF f m = 0 then f m else fwF f m
theorem fwF_zero {f : Nat → Int} : ∀ {m : Nat}, (∀ j, j < m → f j = 0) → fwF f m = 0
  | 0, _ => rfl
  | m + 1, h => by rw [fwF, fwF_zero fun j hj => h j (by omega), if_pos rfl, h m (by omega)]
theorem fwF_first {f : Nat → Int} {i : Nat} (hi : f i ≠ 0) (h : ∀ j, j < i → f j = 0) : ∀ {m : Nat}, i < m → fwF f m = f i
  | m + 1, hm => by
    rw [fwF]
    by_cases e : i = m
    · subst e
      rw [fwF_zero h, if_pos rfl]
    · have := fwF_first hi h (m := m) (by omega)
      rw [this, if_neg hi]
theorem fwF_all {f : Nat → Int} : ∀ {m : Nat}, fwF f m = 0 → ∀ j, j < m → f j = 0
  | m + 1, h, j, hj => by
    rw [fwF] at h
    by_cases e : fwF f m = 0
    · rw [if_pos e] at h
      by_cases hjm : j = m
      · rw [hjm]; exact h
      · exact fwF_all e j (by omega)
    · rw [if_neg e] at h; exact absurd h e
/-- The value of an era's rules. -/
def rlV (R : EV → Option Addr × Nat × Nat) (e : EV) : Value := if e.rl.isEmpty then nilS else .slice (R e).1 (R e).2.1 (R e).2.2
def eD (es : List EV) (i : Nat) : EV := es.getD i e0V
theorem eD_at {es : List EV} {i : Nat} {e : EV} (h : es[i]? = some e) : eD es i = e := by unfold eD; rw [List.getD_eq_getElem?_getD, h]; rfl
def f1V (R : EV → Option Addr × Nat × Nat) (es : List EV) (i : Nat) : Int := if (eD es i).rl.isEmpty = false ∧ (R (eD es i)).2.1 = 0 then 16 else 0
def f2V (ne : EV → Int) (es : List EV) (i : Nat) : Int := erE (eD es i) (decide (i + 1 = es.length)) (ne (eD es i))
def f3V (aE : EV → Int) (es : List EV) (i : Nat) : Int := if i + 1 < es.length ∧ 0 < i ∧ aE (eD es i) ≤ aE (eD es (i - 1)) then 17 else 0
def opE (R : EV → Option Addr × Nat × Nat) (ne aE : EV → Int) (es : List EV) : Int :=
  if es.length = 0 then 16 else if fwF (f1V R es) es.length ≠ 0 then fwF (f1V R es) es.length else if fwF (f2V ne es) es.length ≠ 0 then fwF (f2V ne es) es.length else fwF (f3V aE es) es.length
def rowsV (R : EV → Option Addr × Nat × Nat) (es : List EV) (i : Nat) : List Value := (es.take i).map (rlV R)
def endsV (aE : EV → Int) (es : List EV) (i : Nat) : List Int := (es.take (min i (es.length - 1))).map aE
/-- An era that is right by itself. -/
def RightE (ne : EV → Int) (e : EV) : Prop := tmB e.of = false ∧ tmB e.sv = false ∧ (e.en = true → ne e = 0)
/-- What is known of a world whose zone is opened. -/
structure OpW (x : WV) (w : World) (R : EV → Option Addr × Nat × Nat) (ne aE vE : EV → Int) : Prop where
  n4 : x.es.length ≤ 1000
  fm : ∀ e ∈ x.es, e.fm.length ≤ 1000
  of : ∀ e ∈ x.es, e.rl.isEmpty = false → ∀ W, Below w.heap.size w W → Calls Tryz.prog 10 #[wvV x, .string ⟨e.rl.toArray⟩] W fun r w' => r = .returned (.slice (R e).1 (R e).2.1 (R e).2.2) ∧ Below W.heap.size W w'
  nm : ∀ e ∈ x.es, e.en = true → ∀ W, Below w.heap.size w W → Calls Tryz.prog 73 #[unV e] W fun r w' => ∃ nv, r = .returned (.tuple #[.int .i64 nv, .int .i64 (ne e)]) ∧ Below W.heap.size W w'
  en : ∀ e ∈ x.es, RightE ne e → ∀ W, Below w.heap.size w W → Calls Tryz.prog 56 #[evV e, rlV R e] W fun r w' => r = .returned (.tuple #[.int .i64 (aE e), .int .i64 (vE e)]) ∧ Below W.heap.size W w'
  ez : ∀ e ∈ x.es, RightE ne e → (e.en = true → vE e = 0) ∧ (e.en = false → vE e ≠ 0)
theorem f2_right {ne : EV → Int} {es : List EV} {i : Nat} {e : EV} (he : es[i]? = some e) (h : f2V ne es i = 0) : RightE ne e ∧ (e.en = true ↔ i + 1 < es.length) := by
  have hi := (List.getElem?_eq_some_iff.1 he).1
  unfold f2V at h
  rw [eD_at he] at h
  rcases erE_ways e _ (ne e) 0 h with ⟨-, h0⟩ | ⟨k, -, ⟨-, h0⟩ | ⟨-, -, h0⟩ | ⟨h1, h2, ⟨-, -, h0⟩ | ⟨-, ⟨-, h0⟩ | ⟨h3, h4, h5⟩ | ⟨h3, h4, -⟩⟩⟩⟩
  · cases h0
  · cases h0
  · cases h0
  · cases h0
  · cases h0
  · refine ⟨⟨h1, h2, fun _ => h5.symm⟩, fun _ => ?_, fun _ => h3⟩
    have := of_decide_eq_false h4
    omega
  · refine ⟨⟨h1, h2, fun h => (by rw [h3] at h; cases h)⟩, fun h => (by rw [h3] at h; cases h), fun h => ?_⟩
    have := of_decide_eq_true h4
    omega
theorem take_snoc {α : Type} {l : List α} {i : Nat} {a : α} (h : l[i]? = some a) : l.take (i + 1) = l.take i ++ [a] := by
  obtain ⟨hi, hh⟩ := List.getElem?_eq_some_iff.1 h
  rw [List.take_succ_eq_append_getElem hi, hh]
section
variable {x : WV} {w : World} {R : EV → Option Addr × Nat × Nat} {ne aE vE : EV → Int}
theorem gasks_ruled (H : OpW x w R ne aE vE) (gw Bs : Nat) (W0 : World) (k0 : Below w.heap.size w W0) (hg : gw ≤ W0.heap.size) (hgw : w.heap.size ≤ gw) (hB : Bs < gw) (hs : W0.cell? ⟨Bs, 0, none⟩ = some (setsV x)) :
    Asks 51 #[.pointer (some ⟨Bs, 0, none⟩), .pointer (some ⟨gw, 0, none⟩)] gw x.es (fun i W => (Wh gw (rowsV R x.es i) [] W ∧ Below gw W0 W) ∧ ∀ j, j < i → f1V R x.es j = 0) (fun i v W => Below gw W0 W ∧ v = f1V R x.es i ∧ ∀ j, j < i → f1V R x.es j = 0) := by
  rintro i e W he ⟨⟨hw, hb⟩, hz⟩
  have hi := (List.getElem?_eq_some_iff.1 he).1
  have hm := List.mem_of_getElem? he
  have kW : Below w.heap.size w W := k0.trans (hb.mono (by omega))
  have hsz := hb.size
  have hsW : W.cell? ⟨Bs, 0, none⟩ = some (setsV x) := (hb.cell (p := ⟨Bs, 0, none⟩) hB).trans hs
  have hlen : (rowsV R x.es i).length ≤ 100000 := by unfold rowsV; rw [List.length_map, List.length_take]; have := H.n4; omega
  have hrow : rowsV R x.es (i + 1) = rowsV R x.es i ++ [rlV R e] := by unfold rowsV; rw [take_snoc he, List.map_append]; rfl
  have next : f1V R x.es i = 0 → ∀ j, j < i + 1 → f1V R x.es j = 0 := fun h j hj => by
    by_cases hji : j = i
    · rw [hji]; exact h
    · exact hz j (by omega)
  by_cases hr : e.rl.isEmpty = true
  · have hf : f1V R x.es i = 0 := by unfold f1V; rw [eD_at he, if_neg (by rw [hr]; simp)]
    refine (ruled_no gw Bs _ e _ _ W hw hlen hr).mono ?_
    rintro r W' ⟨rfl, h1, h2, h3, h4⟩
    refine ⟨0, rfl, .inl ⟨rfl, ⟨?_, hb.trans h3⟩, next hf⟩, h2, h3, h4⟩
    rw [hrow]; unfold rlV; rw [if_pos hr]; exact h1
  · have hr' : e.rl.isEmpty = false := by simpa using hr
    have HO := Lib.hid fun W' (k : Below W.heap.size W W') => H.of e hm hr' W' (bthen kW k)
    by_cases hn : (R e).2.1 = 0
    · have hf : f1V R x.es i = 16 := by unfold f1V; rw [eD_at he, if_pos ⟨hr', hn⟩]
      rw [hn] at HO
      refine (ruled_none gw Bs _ e x _ _ W hr' hsW HO).mono ?_
      rintro r W' ⟨rfl, h1⟩
      exact ⟨16, rfl, .inr ⟨by decide, hb.trans (h1.mono (by omega)), hf.symm, hz⟩, KeepsOthers.of_grownBy (zgrown h1) (fun j o hj ho => by cases hj), h1.mono (by omega), KpT.below h1⟩
    · have hf : f1V R x.es i = 0 := by unfold f1V; rw [eD_at he, if_neg (fun h => hn h.2)]
      refine (ruled_some gw Bs _ e x _ _ _ _ _ W hw hlen hr' hsW (by omega) HO).mono ?_
      rintro r W' ⟨rfl, h1, h2, h3, h4⟩
      refine ⟨0, rfl, .inl ⟨rfl, ⟨?_, hb.trans h3⟩, next hf⟩, h2, h3, h4⟩
      rw [hrow]; unfold rlV; rw [if_neg hr]; exact h1
theorem gasks_right (H : OpW x w R ne aE vE) (gw Bz : Nat) (Az : Option Addr) (cz : Nat) (rows : List Value) (W0 : World) (k0 : Below w.heap.size w W0) (hg : gw ≤ W0.heap.size) (hgw : w.heap.size ≤ gw) (hB : Bz < gw) (hz : W0.cell? ⟨Bz, 1, none⟩ = some (.slice Az x.es.length cz)) (HA : LaidB w) :
    Asks 53 #[.pointer (some ⟨Bz, 0, none⟩)] gw x.es (fun i W => (Wh gw rows [] W ∧ Below gw W0 W) ∧ ∀ j, j < i → f2V ne x.es j = 0) (fun i v W => Below gw W0 W ∧ v = f2V ne x.es i ∧ ∀ j, j < i → f2V ne x.es j = 0) := by
  rintro i e W he ⟨⟨hw, hb⟩, hzz⟩
  have hi := (List.getElem?_eq_some_iff.1 he).1
  have hm := List.mem_of_getElem? he
  have kW : Below w.heap.size w W := k0.trans (hb.mono (by omega))
  have hsz := hb.size
  have hf : erE e (decide (i + 1 = x.es.length)) (ne e) = f2V ne x.es i := by unfold f2V; rw [eD_at he]
  refine (right_is Bz Az x.es.length cz i e (decide (i + 1 = x.es.length)) (ne e) _ W ((hb.cell (p := ⟨Bz, 1, none⟩) hB).trans hz) (by have := H.n4; omega) (Lib.hid (by
    rw [Bool.eq_iff_iff]; simp; omega)) (Lib.hid (HA.next kW)) (Lib.hid (H.fm e hm)) (Lib.hid fun h W1 k1 => H.nm e hm h W1 (bthen kW k1)) hf).mono ?_
  rintro r W' ⟨rfl, h1⟩
  refine ⟨_, rfl, ?_, KeepsOthers.of_grownBy (zgrown h1) (fun j o hj ho => by cases hj), h1.mono (by omega), KpT.below h1⟩
  by_cases h0 : f2V ne x.es i = 0
  · refine .inl ⟨h0, ⟨hw.next h1, hb.trans (h1.mono (by omega))⟩, fun j hj => ?_⟩
    by_cases hji : j = i
    · rw [hji]; exact h0
    · exact hzz j (by omega)
  · exact .inr ⟨h0, hb.trans (h1.mono (by omega)), rfl, hzz⟩
theorem gasks_rising (H : OpW x w R ne aE vE) (gw : Nat) (W0 : World) (k0 : Below w.heap.size w W0) (hg : gw ≤ W0.heap.size) (hgw : w.heap.size ≤ gw) (h2 : ∀ j, j < x.es.length → f2V ne x.es j = 0) :
    Asks 55 #[.pointer (some ⟨gw, 0, none⟩)] gw x.es (fun i W => (Wh gw (rowsV R x.es x.es.length) (endsV aE x.es i) W ∧ Below gw W0 W) ∧ ∀ j, j < i → f3V aE x.es j = 0) (fun i v W => Below gw W0 W ∧ v = f3V aE x.es i ∧ ∀ j, j < i → f3V aE x.es j = 0) := by
  rintro i e W he ⟨⟨hw, hb⟩, hzz⟩
  have hi := (List.getElem?_eq_some_iff.1 he).1
  have hm := List.mem_of_getElem? he
  have kW : Below w.heap.size w W := k0.trans (hb.mono (by omega))
  have hsz := hb.size
  obtain ⟨hR, hen⟩ := f2_right he (h2 i hi)
  obtain ⟨ez1, ez2⟩ := H.ez e hm hR
  have n4 := H.n4
  have hlen : (endsV aE x.es i).length ≤ 100000 := by unfold endsV; rw [List.length_map, List.length_take]; omega
  obtain ⟨A, n, c, hrl⟩ : ∃ A n c, rlV R e = .slice A n c := by
    unfold rlV
    by_cases hr : e.rl.isEmpty = true
    · rw [if_pos hr]; exact ⟨none, 0, 0, rfl⟩
    · rw [if_neg hr]; exact ⟨_, _, _, rfl⟩
  have hrow : (rowsV R x.es x.es.length)[i]? = some (.slice A n c) := by
    unfold rowsV
    rw [List.take_of_length_le (Nat.le_refl _), List.getElem?_map, he, ← hrl]; rfl
  have RE : RisE gw i e (rowsV R x.es x.es.length) (endsV aE x.es i) A n c (aE e) (vE e) W := ⟨hw, hrow, fun Y hY => by rw [← hrl]; exact H.en e hm hR Y (bthen kW hY)⟩
  have next : f3V aE x.es i = 0 → ∀ j, j < i + 1 → f3V aE x.es j = 0 := fun h j hj => by
    by_cases hji : j = i
    · rw [hji]; exact h
    · exact hzz j (by omega)
  by_cases hl : i + 1 < x.es.length
  · have he1 : e.en = true := hen.2 hl
    have hv0 := ez1 he1
    have hend : ∀ b, endsV aE x.es i = b → 0 < i → (endsV aE x.es i)[i - 1]? = some (aE (eD x.es (i - 1))) := fun _ _ hp => by
      unfold endsV
      have h3 : x.es[i - 1]? = some (x.es[i - 1]'(by omega)) := List.getElem?_eq_getElem (by omega)
      rw [List.getElem?_map, List.getElem?_take_of_lt (by omega), h3, eD_at h3]; rfl
    by_cases hb3 : 0 < i ∧ aE e ≤ aE (eD x.es (i - 1))
    · have hf : f3V aE x.es i = 17 := by unfold f3V; rw [eD_at he, if_pos ⟨hl, hb3.1, hb3.2⟩]
      refine (rising_still gw i e _ _ A n c (aE e) (vE e) 17 W RE (Lib.hid (.inr ⟨hv0, rfl, _, hb3.1, hend _ rfl hb3.1, hb3.2⟩)) (by omega)).mono ?_
      rintro r W' ⟨rfl, h1⟩
      exact ⟨17, rfl, .inr ⟨by decide, hb.trans (h1.mono (by omega)), hf.symm, hzz⟩, KeepsOthers.of_grownBy (zgrown h1) (fun j o hj ho => by cases hj), h1.mono (by omega), KpT.below h1⟩
    · have hf : f3V aE x.es i = 0 := by unfold f3V; rw [eD_at he, if_neg (fun h => hb3 ⟨h.2.1, h.2.2⟩)]
      rw [hv0] at RE
      refine (rising_up gw i e _ _ A n c (aE e) W RE (Lib.hid (by
        by_cases h0 : i = 0
        · exact .inl h0
        · exact .inr ⟨_, by omega, hend _ rfl (by omega), fun h => hb3 ⟨by omega, h⟩⟩)) (by omega) hlen).mono ?_
      rintro r W' ⟨rfl, h1, h2, h3, h4⟩
      refine ⟨0, rfl, .inl ⟨rfl, ⟨?_, hb.trans h3⟩, next hf⟩, h2, h3, h4⟩
      have e1 : endsV aE x.es (i + 1) = endsV aE x.es i ++ [aE e] := by
        unfold endsV
        rw [show min (i + 1) (x.es.length - 1) = i + 1 by omega, show min i (x.es.length - 1) = i by omega, take_snoc he, List.map_append]; rfl
      rw [e1]; exact h1
  · have he1 : e.en = false := by
      cases h : e.en
      · rfl
      · exact absurd (hen.1 h) hl
    have hv0 := ez2 he1
    have hf : f3V aE x.es i = 0 := by unfold f3V; rw [if_neg (fun h => hl h.1)]
    refine (rising_still gw i e _ _ A n c (aE e) (vE e) 0 W RE (Lib.hid (.inl ⟨hv0, rfl⟩)) (by omega)).mono ?_
    rintro r W' ⟨rfl, h1⟩
    refine ⟨0, rfl, .inl ⟨rfl, ⟨?_, hb.trans (h1.mono (by omega))⟩, next hf⟩, KeepsOthers.of_grownBy (zgrown h1) (fun j o hj ho => by cases hj), h1.mono (by omega), KpT.below h1⟩
    have e1 : endsV aE x.es (i + 1) = endsV aE x.es i := by
      unfold endsV
      rw [show min (i + 1) (x.es.length - 1) = min i (x.es.length - 1) by omega]
    rw [e1]; exact hw.next h1
end
end Go.Proofs.YtdmfgechoanmlaaGreatDoor

namespace Go.Proofs.YtdmfgechoanmlaaGreatDoor
open Go Go.RowKit Go.Shelf
attribute [local go_sem] Oper.semAt_some

theorem zthree (w : World) (o o' : Obj) (C : Array Value) (t : TypeId) : BlkN w (w.heap.size + 1 + 1) C t (((w.alloc o).alloc o').alloc (.cells C t)) := by
  have h := BlkN.make (w := w) (bmk (bmk (Below.refl w.heap.size w) o) o') C t
  rwa [World.size_alloc, World.size_alloc] at h
/-- What lies in a list of the call's own. -/
def OwnAt {α : Type} (f : α → Value) (A : Option Addr) (l : List α) (W : World) : Prop := ∀ i x, l[i]? = some x → ∃ g, A = some ⟨g, 0, none⟩ ∧ g < W.heap.size ∧ W.cell? ⟨g, i, none⟩ = some (f x)
theorem OwnAt.next {α : Type} {f : α → Value} {A : Option Addr} {l : List α} {W W' : World} (h : OwnAt f A l W) (k : Below W.heap.size W W') : OwnAt f A l W' := fun i x hx => by
  obtain ⟨g, e, hg, hc⟩ := h i x hx
  exact ⟨g, e, Nat.lt_of_lt_of_le hg k.size, (k.cell (p := ⟨g, i, none⟩) hg).trans hc⟩
def IntsAt (A : Option Addr) (l : List Int) (W : World) : Prop := OwnAt (fun n => Value.int .i64 n) A l W
def SlsAt (A : Option Addr) (l : List Value) (W : World) : Prop := OwnAt (fun v => v) A l W
/-- What open answers. -/
def OpenIs (v : Int) (rows : List Value) (ends : List Int) (x : Ending) (W : World) : Prop :=
  (v = 0 ∧ ∃ Ar cr Ae ce, x = .returned (.tuple #[.agg #[.slice Ar rows.length cr, .slice Ae ends.length ce], .int .i64 0]) ∧ SlsAt Ar rows W ∧ IntsAt Ae ends W) ∨ (v ≠ 0 ∧ x = .returned (.tuple #[.agg #[.slice none 0 0, .slice none 0 0], .int .i64 v]))
theorem wown_rows {α : Type} {W W' : World} {gw n c : Nat} {A : Option Addr} {e : TypeId} {l : List α} (f : α → Value) (hn : l.length = n) (h : W.ownsRow gw e 1 (.slice A n c) n (l.map f)) (hk : ∀ k, gw ≤ k → k < W.heap.size → W'.heap[k]? = W.heap[k]?) (hs : W.heap.size ≤ W'.heap.size) : OwnAt f A l W' := by
  intro i x hx
  have hi := (List.getElem?_eq_some_iff.1 hx).1
  have h0 : 0 < n := by omega
  obtain ⟨g, cap, rfl, rfl, hc⟩ := wown_cells h h0
  have hg := h.lt g rfl
  have hcell := hc i (f x) (by rw [List.getElem?_map, hx]; rfl)
  exact ⟨g, rfl, by omega, (World.cell?_of_block (hk g hg.1 hg.2)).trans hcell⟩

theorem wown_ints {W W' : World} {gw n c : Nat} {A : Option Addr} {l : List Int} (hn : l.length = n) (h : W.ownsRow gw 3 1 (.slice A n c) n (l.map fun n => Value.int .i64 n)) (hk : ∀ k, gw ≤ k → k < W.heap.size → W'.heap[k]? = W.heap[k]?) (hs : W.heap.size ≤ W'.heap.size) : IntsAt A l W' := wown_rows (fun n => Value.int .i64 n) hn h hk hs
theorem wown_sls {W W' : World} {gw n c : Nat} {A : Option Addr} {l : List Value} (hn : l.length = n) (h : W.ownsRow gw 80 1 (.slice A n c) n l) (hk : ∀ k, gw ≤ k → k < W.heap.size → W'.heap[k]? = W.heap[k]?) (hs : W.heap.size ≤ W'.heap.size) : SlsAt A l W' := wown_rows (fun v => v) hn (by simpa using h) hk hs
set_option maxRecDepth 20000 in
theorem open_none (x : WV) (w : World) (h0 : x.es.length = 0) :
    Calls Tryz.prog 31 #[.agg #[.string ⟨x.nm.toArray⟩, .slice x.az x.es.length x.cz], setsV x] w fun r w' => r = .returned (.tuple #[.agg #[.slice none 0 0, .slice none 0 0], .int .i64 16]) ∧ Below w.heap.size w w' := by
  have hfe : ∀ W, (binOp BinOp.eql 88 (setsV x) Value.nilFunc).run Tryz.prog W = .ok (.bool false) W := fun W => by rfl
  rw [h0]
  clear h0
  unfold setsV at *
  generalize wvV x = V at *
  have Z := Lib.hid ((BlkN.fst (w := w) #[.string ⟨x.nm.toArray⟩, .slice x.az 0 x.cz] 24 (.cells #[.func (.func 10) #[V] #[]] 88)).more (.cells #[.slice none 0 0, .slice none 0 0] 91))
  have Y := Lib.hid ((BlkN.two w (.cells #[.string ⟨x.nm.toArray⟩, .slice x.az 0 x.cz] 24) #[.func (.func 10) #[V] #[]] 88).more (.cells #[.slice none 0 0, .slice none 0 0] 91))
  have N := Lib.hid (zthree w (.cells #[.string ⟨x.nm.toArray⟩, .slice x.az 0 x.cz] 24) (.cells #[.func (.func 10) #[V] #[]] 88) #[.slice none 0 0, .slice none 0 0] 91)
  obtain ⟨z0, z1⟩ := cel2 Z.out.blk
  have y0 := cel1 Y.out.blk
  obtain ⟨n0, n1⟩ := cel2 N.out.blk
  have f0 := frz (j := 0) N.out.blk
  have f1 := frz (j := 1) N.out.blk
  go_enter Tryz.func31, Tryz.ntmps31
  repeat (first | go_values | go_skip | go_guarded | go_step | go_upon | go_back)
  exact bodyPost_ret (by simp [results, Tryz.results31, go_sem, n0, n1]) rfl ⟨rfl, N.out.bel⟩
set_option maxRecDepth 20000 in
set_option maxHeartbeats 4000000 in
theorem open_some {R : EV → Option Addr × Nat × Nat} {ne aE vE : EV → Int} (x : WV) (w : World) (H : OpW x w R ne aE vE) (hA : LaidB w) (hE : EsAt w.heap.size x.az x.es w) (v : Int) (h0 : x.es.length ≠ 0) (hv : opE R ne aE x.es = v) :
    Calls Tryz.prog 31 #[.agg #[.string ⟨x.nm.toArray⟩, .slice x.az x.es.length x.cz], setsV x] w fun r w' => OpenIs v (rowsV R x.es x.es.length) (endsV aE x.es x.es.length) r w' ∧ Below w.heap.size w w' := by
  have hmf : ∀ (fn : Fn) (first cap : Array Value) (w : World), (Instr.makeFunc fn first cap).run Tryz.prog w = .ok (.func fn first cap) w := fun _ _ _ _ => rfl
  have hfe : ∀ W, (binOp BinOp.eql 88 (setsV x) Value.nilFunc).run Tryz.prog W = .ok (.bool false) W := fun W => by rfl
  have HO := Lib.hid H
  have lenR : (rowsV R x.es x.es.length).length = x.es.length := by unfold rowsV; rw [List.take_of_length_le (Nat.le_refl _), List.length_map]
  obtain ⟨n, hn⟩ : ∃ n, x.es.length = n := ⟨_, rfl⟩
  obtain ⟨V1, hV1⟩ : ∃ V, fwF (f1V R x.es) n = V := ⟨_, rfl⟩
  obtain ⟨V2, hV2⟩ : ∃ V, fwF (f2V ne x.es) n = V := ⟨_, rfl⟩
  obtain ⟨V3, hV3⟩ : ∃ V, fwF (f3V aE x.es) n = V := ⟨_, rfl⟩
  have hn4 : n ≤ 1000 := by have := H.n4; omega
  unfold opE at hv
  rw [hn, hV1, hV2, hV3] at hv
  rw [hn] at h0 lenR
  rw [if_neg h0] at hv
  simp only [hn]
  have hnb : ((n : Int) == 0) = false := by simpa using h0
  obtain ⟨W0, hW0⟩ : ∃ W0, ((((w.alloc (.cells #[.string ⟨x.nm.toArray⟩, .slice x.az n x.cz] 24)).alloc (.cells #[setsV x] 88)).alloc (.cells #[.slice none 0 0, .slice none 0 0] 91)).alloc (.cells #[.slice none 0 0, .slice none 0 0] 91)) = W0 := ⟨_, rfl⟩
  obtain ⟨B, hB⟩ : ∃ B, w.heap.size = B := ⟨_, rfl⟩
  have k0 : Below w.heap.size w W0 := by rw [← hW0]; exact ((((Below.refl _ w).alloc (Nat.le_refl _) _).alloc (by simp) _).alloc (by simp; omega) _).alloc (by simp; omega) _
  have s0 : W0.heap.size = B + 4 := by rw [← hW0, ← hB]; simp
  have b0 : W0.heap[B]? = some (.cells #[.string ⟨x.nm.toArray⟩, .slice x.az n x.cz] 24 (0, 0)) := by rw [← hW0, ← hB]; exact (Below.heap_alloc _ _ _ (by simp; omega)).trans ((Below.heap_alloc _ _ _ (by simp; omega)).trans ((Below.heap_alloc _ _ _ (by simp)).trans (World.alloc_heap_new w _)))
  have b1 : W0.heap[B + 1]? = some (.cells #[setsV x] 88 (0, 0)) := by
    rw [← hW0, ← hB]
    refine (Below.heap_alloc _ _ _ (by simp)).trans ((Below.heap_alloc _ _ _ (by simp)).trans ?_)
    have := World.alloc_heap_new (w.alloc (.cells #[.string ⟨x.nm.toArray⟩, .slice x.az n x.cz] 24)) (.cells #[setsV x] 88)
    rwa [World.size_alloc] at this
  have b2 : W0.heap[B + 2]? = some (.cells #[.slice none 0 0, .slice none 0 0] 91 (0, 0)) := by
    rw [← hW0, ← hB]
    refine (Below.heap_alloc _ _ _ (by simp)).trans ?_
    have := World.alloc_heap_new ((w.alloc (.cells #[.string ⟨x.nm.toArray⟩, .slice x.az n x.cz] 24)).alloc (.cells #[setsV x] 88)) (.cells #[.slice none 0 0, .slice none 0 0] 91)
    rwa [World.size_alloc, World.size_alloc] at this
  have b3 : W0.heap[B + 3]? = some (.cells #[.slice none 0 0, .slice none 0 0] 91 (0, 0)) := by
    rw [← hW0, ← hB]
    have := World.alloc_heap_new (((w.alloc (.cells #[.string ⟨x.nm.toArray⟩, .slice x.az n x.cz] 24)).alloc (.cells #[setsV x] 88)).alloc (.cells #[.slice none 0 0, .slice none 0 0] 91)) (.cells #[.slice none 0 0, .slice none 0 0] 91)
    rwa [World.size_alloc, World.size_alloc, World.size_alloc] at this
  have wh0 : Wh (B + 3) [] [] W0 := ⟨none, 0, none, 0, b3, World.ownsRow_nil _ _ _ _, World.ownsRow_nil _ _ _ _⟩
  have E0 : ∀ X, Below (B + 3) W0 X → EsAt (B + 3) x.az x.es X := fun X hX => ((hE.below k0).mono (by omega)).below hX
  have HE := Lib.hid E0
  have HW := Lib.hid wh0
  have HK := Lib.hid k0
  have H2 := Lib.hid b2
  have HZ := Lib.hid b0
  have HS := Lib.hid b1
  have HA := Lib.hid hA
  have HN := Lib.hid hn
  have HV1 := Lib.hid hV1
  have HV2 := Lib.hid hV2
  have HV3 := Lib.hid hV3
  have HV := Lib.hid hv
  have LR := Lib.hid lenR
  have HB := Lib.hid hB
  clear hE hA k0 b3 wh0 E0 b2 b0 b1 H hn hV1 hV2 hV3 hv lenR
  unfold setsV wvV at *
  go_enter Tryz.func31, Tryz.ntmps31
  go_wp2_with fail
  try simp only [hW0, hB]
  clear hW0 hfe
  have i0 : ∀ W, (Instr.index 122 (.agg #[.func (.func 51) #[] #[.pointer (some ⟨B + 1, 0, none⟩), .pointer (some ⟨B + 1 + 1 + 1, 0, none⟩)], .func (.func 53) #[] #[.pointer (some ⟨B, 0, none⟩)], .func (.func 55) #[] #[.pointer (some ⟨B + 1 + 1 + 1, 0, none⟩)]]) (.int .i64 0)).run Tryz.prog W = .ok (.func (.func 51) #[] #[.pointer (some ⟨B + 1, 0, none⟩), .pointer (some ⟨B + 1 + 1 + 1, 0, none⟩)]) W := fun W => by kernel_rfl
  have i1 : ∀ W, (Instr.index 122 (.agg #[.func (.func 51) #[] #[.pointer (some ⟨B + 1, 0, none⟩), .pointer (some ⟨B + 1 + 1 + 1, 0, none⟩)], .func (.func 53) #[] #[.pointer (some ⟨B, 0, none⟩)], .func (.func 55) #[] #[.pointer (some ⟨B + 1 + 1 + 1, 0, none⟩)]]) (.int .i64 1)).run Tryz.prog W = .ok (.func (.func 53) #[] #[.pointer (some ⟨B, 0, none⟩)]) W := fun W => by kernel_rfl
  have i2 : ∀ W, (Instr.index 122 (.agg #[.func (.func 51) #[] #[.pointer (some ⟨B + 1, 0, none⟩), .pointer (some ⟨B + 1 + 1 + 1, 0, none⟩)], .func (.func 53) #[] #[.pointer (some ⟨B, 0, none⟩)], .func (.func 55) #[] #[.pointer (some ⟨B + 1 + 1 + 1, 0, none⟩)]]) (.int .i64 2)).run Tryz.prog W = .ok (.func (.func 55) #[] #[.pointer (some ⟨B + 1 + 1 + 1, 0, none⟩)]) W := fun W => by kernel_rfl
  go_loopw [28] (fun vi wr => ∃ k : Nat, vi = .int .i64 k ∧ k ≤ 3 ∧ Below (B + 3) W0 wr ∧ (k = 0 → Wh (B + 3) [] [] wr) ∧ (k = 1 → Wh (B + 3) (rowsV R x.es n) [] wr) ∧ (k = 2 → Wh (B + 3) (rowsV R x.es n) [] wr) ∧ (k = 3 → Wh (B + 3) (rowsV R x.es n) (endsV aE x.es n) wr) ∧ (1 ≤ k → V1 = 0) ∧ (2 ≤ k → V2 = 0) ∧ (3 ≤ k → V3 = 0)) (fun vi _ => 3 - (intOf vi).toNat)
  case atStart => exact ⟨0, rfl, by omega, Below.refl _ _, fun _ => HW.out, fun h => by omega, fun h => by omega, fun h => by omega, fun h => by omega, fun h => by omega, fun h => by omega⟩
  case round =>
    obtain ⟨k, rfl, hk, hb, h0', h1, h2, h3, e1, e2, e3⟩ := hrel
    have HBW := Lib.hid hb
    have c2 := Lib.hid ((hb.block (B + 2) (by omega)).trans H2.out)
    have hz := cel2 ((hb.block B (by omega)).trans HZ.out)
    have hs := hb.size
    have E1 := Lib.hid e1
    have E2 := Lib.hid e2
    have E3 := Lib.hid e3
    have F0 : Hid (k = 0 → Calls Tryz.prog 57 #[.slice x.az n x.cz, .func (.func 51) #[] #[.pointer (some ⟨B + 1, 0, none⟩), .pointer (some ⟨B + 1 + 1 + 1, 0, none⟩)]] wr fun r w1 => r = .returned (.int .i64 V1) ∧ (V1 = 0 → Wh (B + 3) (rowsV R x.es n) [] w1) ∧ Below (B + 3) W0 w1) := Lib.hid fun hk0 => by
      refine (callsIn_wide.1 (fwrong_in 6 (Nat.le_refl _) 51 #[.pointer (some ⟨B + 1, 0, none⟩), .pointer (some ⟨B + 3, 0, none⟩)] (fun _ _ => by kernel_rfl) (B + 3) x.az n x.cz x.es (fun i W => (Wh (B + 3) (rowsV R x.es i) ([]) W ∧ Below (B + 3) W0 W) ∧ ∀ j, j < i → f1V R x.es j = 0) (fun i v W => Below (B + 3) W0 W ∧ v = f1V R x.es i ∧ ∀ j, j < i → f1V R x.es j = 0) wr HN.out (by omega) (HE.out wr hb) (by omega)
        (OwnE.and (OwnE.and (Wh.own _ _ (rowsV R x.es) (fun _ => [])) (ownE_below (W0 := W0) (by omega) (by omega))) (fun s _ _ _ h _ _ => h)) (fun i => OwnE.and (ownE_below (W0 := W0) (by omega) (by omega)) (fun s _ _ _ h _ _ => h))
        (gasks_ruled HO.out (B + 3) (B + 1) W0 HK.out (by omega) (by have := HB.out; omega) (by omega) (cel1 HS.out)) ⟨⟨by simpa [rowsV] using h0' hk0, hb⟩, fun j hj => absurd hj (by omega)⟩)).mono ?_
      rintro r w1 ⟨u, rfl, (⟨rfl, ⟨g3, g4⟩, g5⟩ | ⟨g3, i, him, g4, rfl, g5⟩), g6⟩
      · have := fwF_zero g5
        rw [HV1.out] at this
        exact ⟨by rw [this], fun _ => g3, g4⟩
      · have := fwF_first g3 g5 him
        rw [HV1.out] at this
        exact ⟨by rw [this], fun h => absurd (this.symm.trans h) g3, g4⟩
    have F1 : Hid (k = 1 → Calls Tryz.prog 57 #[.slice x.az n x.cz, .func (.func 53) #[] #[.pointer (some ⟨B, 0, none⟩)]] wr fun r w1 => r = .returned (.int .i64 V2) ∧ (V2 = 0 → Wh (B + 3) (rowsV R x.es n) [] w1) ∧ Below (B + 3) W0 w1) := Lib.hid fun hk0 => by
      refine (callsIn_wide.1 (fwrong_in 6 (Nat.le_refl _) 53 #[.pointer (some ⟨B, 0, none⟩)] (fun _ _ => by kernel_rfl) (B + 3) x.az n x.cz x.es (fun i W => (Wh (B + 3) (rowsV R x.es n) ([]) W ∧ Below (B + 3) W0 W) ∧ ∀ j, j < i → f2V ne x.es j = 0) (fun i v W => Below (B + 3) W0 W ∧ v = f2V ne x.es i ∧ ∀ j, j < i → f2V ne x.es j = 0) wr HN.out (by omega) (HE.out wr hb) (by omega)
        (OwnE.and (OwnE.and (Wh.own _ _ (fun _ => rowsV R x.es n) (fun _ => [])) (ownE_below (W0 := W0) (by omega) (by omega))) (fun s _ _ _ h _ _ => h)) (fun i => OwnE.and (ownE_below (W0 := W0) (by omega) (by omega)) (fun s _ _ _ h _ _ => h))
        (gasks_right HO.out (B + 3) B x.az x.cz (rowsV R x.es n) W0 HK.out (by omega) (by have := HB.out; omega) (by omega) (by rw [HN.out]; exact (cel2 HZ.out).2) HA.out) ⟨⟨h1 hk0, hb⟩, fun j hj => absurd hj (by omega)⟩)).mono ?_
      rintro r w1 ⟨u, rfl, (⟨rfl, ⟨g3, g4⟩, g5⟩ | ⟨g3, i, him, g4, rfl, g5⟩), g6⟩
      · have := fwF_zero g5
        rw [HV2.out] at this
        exact ⟨by rw [this], fun _ => g3, g4⟩
      · have := fwF_first g3 g5 him
        rw [HV2.out] at this
        exact ⟨by rw [this], fun h => absurd (this.symm.trans h) g3, g4⟩
    have F2 : Hid (k = 2 → Calls Tryz.prog 57 #[.slice x.az n x.cz, .func (.func 55) #[] #[.pointer (some ⟨B + 1 + 1 + 1, 0, none⟩)]] wr fun r w1 => r = .returned (.int .i64 V3) ∧ (V3 = 0 → Wh (B + 3) (rowsV R x.es n) (endsV aE x.es n) w1) ∧ Below (B + 3) W0 w1) := Lib.hid fun hk0 => by
      refine (callsIn_wide.1 (fwrong_in 6 (Nat.le_refl _) 55 #[.pointer (some ⟨B + 3, 0, none⟩)] (fun _ _ => by kernel_rfl) (B + 3) x.az n x.cz x.es (fun i W => (Wh (B + 3) (rowsV R x.es n) (endsV aE x.es i) W ∧ Below (B + 3) W0 W) ∧ ∀ j, j < i → f3V aE x.es j = 0) (fun i v W => Below (B + 3) W0 W ∧ v = f3V aE x.es i ∧ ∀ j, j < i → f3V aE x.es j = 0) wr HN.out (by omega) (HE.out wr hb) (by omega)
        (OwnE.and (OwnE.and (Wh.own _ _ (fun _ => rowsV R x.es n) (fun i => endsV aE x.es i)) (ownE_below (W0 := W0) (by omega) (by omega))) (fun s _ _ _ h _ _ => h)) (fun i => OwnE.and (ownE_below (W0 := W0) (by omega) (by omega)) (fun s _ _ _ h _ _ => h))
        (by have := gasks_rising HO.out (B + 3) W0 HK.out (by omega) (by have := HB.out; omega) (fwF_all (by rw [HN.out, HV2.out]; exact E2.out (by omega))); rw [HN.out] at this; exact this) ⟨⟨by simpa [endsV] using h2 hk0, hb⟩, fun j hj => absurd hj (by omega)⟩)).mono ?_
      rintro r w1 ⟨u, rfl, (⟨rfl, ⟨g3, g4⟩, g5⟩ | ⟨g3, i, him, g4, rfl, g5⟩), g6⟩
      · have := fwF_zero g5
        rw [HV3.out] at this
        exact ⟨by rw [this], fun _ => g3, g4⟩
      · have := fwF_first g3 g5 him
        rw [HV3.out] at this
        exact ⟨by rw [this], fun h => absurd (this.symm.trans h) g3, g4⟩
    have H3 := Lib.hid h3
    obtain ⟨z0, z1⟩ := hz
    clear hb h0' h1 h2 h3 e1 e2 e3
    rcases (show k = 0 ∨ k = 1 ∨ k = 2 ∨ k = 3 by omega) with rfl | rfl | rfl | rfl
    · by_cases hv0 : V1 = 0
      · have HV0 := Lib.hid hv0
        rw [hv0] at F0
        clear hv0
        go_wp2_with (first | (go_at_call 57; refine (F0.out rfl).mono ?_; rintro r w1 ⟨rfl, g3, g4⟩; have G3 := Lib.hid (g3 rfl); have G4 := Lib.hid g4; clear g3 g4; simp only []))
        go_roundw
        case rel => exact ⟨1, rfl, by omega, G4.out, fun h => by omega, fun _ => G3.out, fun h => by omega, fun h => by omega, fun _ => HV0.out, fun h => by omega, fun h => by omega⟩
        case measure => simp [intOf]
      · have HV0 := Lib.hid hv0
        have EV := Lib.hid (show V1 = v from by have := HV.out; rw [if_pos HV0.out] at this; exact this)
        have hvb : (V1 != 0) = true := by simpa using hv0
        clear hv0
        go_wp2_with (first
          | (go_at_call 57; refine (F0.out rfl).mono ?_; rintro r w1 ⟨rfl, g3, g4⟩
             have G4 := Lib.hid g4
             have c2' := (g4.block (B + 2) (by omega)).trans H2.out
             obtain ⟨q0, q1⟩ := cel2 c2'
             have f0 := frz (j := 0) c2'
             have f1 := frz (j := 1) c2'
             have C2 := Lib.hid c2'
             clear g3 g4 c2'
             simp only []))
        have N : BlkN w (B + 2) #[.slice none 0 0, .slice none 0 0] 91 w1 := ⟨HK.out.trans (G4.out.mono (by omega)), by omega, C2.out⟩
        refine N.set2z.ret fun W' Bk => ?_
        obtain ⟨c0, c1⟩ := cel2 Bk.blk
        exact bodyPost_ret (v := .tuple #[.agg #[.slice none 0 0, .slice none 0 0], .int .i64 V1]) (by simp [results, Tryz.results31, go_sem, c0, c1]) rfl ⟨.inr ⟨EV.out ▸ HV0.out, by rw [← EV.out]⟩, HB.out ▸ Bk.bel⟩
    · by_cases hv0 : V2 = 0
      · have HV0 := Lib.hid hv0
        rw [hv0] at F1
        clear hv0
        go_wp2_with (first | (go_at_call 57; refine (F1.out rfl).mono ?_; rintro r w1 ⟨rfl, g3, g4⟩; have G3 := Lib.hid (g3 rfl); have G4 := Lib.hid g4; clear g3 g4; simp only []))
        go_roundw
        case rel => exact ⟨2, rfl, by omega, G4.out, fun h => by omega, fun h => by omega, fun _ => G3.out, fun h => by omega, fun _ => E1.out (by omega), fun _ => HV0.out, fun h => by omega⟩
        case measure => simp [intOf]
      · have HV0 := Lib.hid hv0
        have EV := Lib.hid (show V2 = v from by have := HV.out; rw [if_neg (fun h => h (E1.out (by omega)))] at this; rw [if_pos HV0.out] at this; exact this)
        have hvb : (V2 != 0) = true := by simpa using hv0
        clear hv0
        go_wp2_with (first
          | (go_at_call 57; refine (F1.out rfl).mono ?_; rintro r w1 ⟨rfl, g3, g4⟩
             have G4 := Lib.hid g4
             have c2' := (g4.block (B + 2) (by omega)).trans H2.out
             obtain ⟨q0, q1⟩ := cel2 c2'
             have f0 := frz (j := 0) c2'
             have f1 := frz (j := 1) c2'
             have C2 := Lib.hid c2'
             clear g3 g4 c2'
             simp only []))
        have N : BlkN w (B + 2) #[.slice none 0 0, .slice none 0 0] 91 w1 := ⟨HK.out.trans (G4.out.mono (by omega)), by omega, C2.out⟩
        refine N.set2z.ret fun W' Bk => ?_
        obtain ⟨c0, c1⟩ := cel2 Bk.blk
        exact bodyPost_ret (v := .tuple #[.agg #[.slice none 0 0, .slice none 0 0], .int .i64 V2]) (by simp [results, Tryz.results31, go_sem, c0, c1]) rfl ⟨.inr ⟨EV.out ▸ HV0.out, by rw [← EV.out]⟩, HB.out ▸ Bk.bel⟩
    · by_cases hv0 : V3 = 0
      · have HV0 := Lib.hid hv0
        rw [hv0] at F2
        clear hv0
        go_wp2_with (first | (go_at_call 57; refine (F2.out rfl).mono ?_; rintro r w1 ⟨rfl, g3, g4⟩; have G3 := Lib.hid (g3 rfl); have G4 := Lib.hid g4; clear g3 g4; simp only []))
        go_roundw
        case rel => exact ⟨3, rfl, by omega, G4.out, fun h => by omega, fun h => by omega, fun h => by omega, fun _ => G3.out, fun _ => E1.out (by omega), fun _ => E2.out (by omega), fun _ => HV0.out⟩
        case measure => simp [intOf]
      · have HV0 := Lib.hid hv0
        have EV := Lib.hid (show V3 = v from by have := HV.out; rw [if_neg (fun h => h (E1.out (by omega)))] at this; rw [if_neg (fun h => h (E2.out (by omega)))] at this; exact this)
        have hvb : (V3 != 0) = true := by simpa using hv0
        clear hv0
        go_wp2_with (first
          | (go_at_call 57; refine (F2.out rfl).mono ?_; rintro r w1 ⟨rfl, g3, g4⟩
             have G4 := Lib.hid g4
             have c2' := (g4.block (B + 2) (by omega)).trans H2.out
             obtain ⟨q0, q1⟩ := cel2 c2'
             have f0 := frz (j := 0) c2'
             have f1 := frz (j := 1) c2'
             have C2 := Lib.hid c2'
             clear g3 g4 c2'
             simp only []))
        have N : BlkN w (B + 2) #[.slice none 0 0, .slice none 0 0] 91 w1 := ⟨HK.out.trans (G4.out.mono (by omega)), by omega, C2.out⟩
        refine N.set2z.ret fun W' Bk => ?_
        obtain ⟨c0, c1⟩ := cel2 Bk.blk
        exact bodyPost_ret (v := .tuple #[.agg #[.slice none 0 0, .slice none 0 0], .int .i64 V3]) (by simp [results, Tryz.results31, go_sem, c0, c1]) rfl ⟨.inr ⟨EV.out ▸ HV0.out, by rw [← EV.out]⟩, HB.out ▸ Bk.bel⟩
    · obtain ⟨Ar, cr, Ae, ce, hw⟩ := H3.out rfl
      obtain ⟨y0, y1⟩ := cel2 hw.blk
      obtain ⟨q0, q1⟩ := cel2 c2.out
      have f0 := frz (j := 0) c2.out
      have f1 := frz (j := 1) c2.out
      have HW' := Lib.hid hw
      have EV := Lib.hid (show v = 0 from by have := HV.out; rw [if_neg (fun h => h (E1.out (by omega))), if_neg (fun h => h (E2.out (by omega)))] at this; rw [← this]; exact E3.out (by omega))
      clear hw
      go_wp2
      have N : BlkN w (B + 2) #[.slice none 0 0, .slice none 0 0] 91 wr := ⟨HK.out.trans (HBW.out.mono (by omega)), by omega, c2.out⟩
      have N2 := N.set2z (x := .slice Ar (rowsV R x.es n).length cr) (y := .slice Ae (endsV aE x.es n).length ce)
      obtain ⟨c0, c1⟩ := cel2 N2.blk
      have hkeep : ∀ k, B + 3 + 1 ≤ k → k < wr.heap.size → ((wr.setCell ⟨B + 2, 0, none⟩ (.slice Ar (rowsV R x.es n).length cr)).setCell ⟨B + 2, 1, none⟩ (.slice Ae (endsV aE x.es n).length ce)).heap[k]? = wr.heap[k]? := fun k hk1 hk2 => by
        rw [Below.heap_setCell _ _ _ _ (by simp; omega), Below.heap_setCell _ _ _ _ (by simp; omega)]
      have hsz : wr.heap.size ≤ ((wr.setCell ⟨B + 2, 0, none⟩ (.slice Ar (rowsV R x.es n).length cr)).setCell ⟨B + 2, 1, none⟩ (.slice Ae (endsV aE x.es n).length ce)).heap.size := by simp
      exact bodyPost_ret (by simp [results, Tryz.results31, go_sem, c0, c1]) rfl ⟨.inl ⟨EV.out, Ar, cr, Ae, ce, rfl, wown_sls rfl HW'.out.rw' hkeep hsz, wown_ints rfl HW'.out.en hkeep hsz⟩, HB.out ▸ N2.bel⟩
end Go.Proofs.YtdmfgechoanmlaaGreatDoor

namespace Go.Proofs.YtdmfgechoanmlaaGreatDoor
open Go Go.RowKit Go.Shelf
attribute [local go_sem] Oper.semAt_some

/-- What open answers, in one form. -/
def OpenR (v : Int) (rows : List Value) (ends : List Int) (x : Ending) (W : World) : Prop :=
  ∃ A1 n1 c1 A2 n2 c2, x = .returned (.tuple #[.agg #[.slice A1 n1 c1, .slice A2 n2 c2], .int .i64 v]) ∧ (v = 0 → n1 = rows.length ∧ n2 = ends.length ∧ SlsAt A1 rows W ∧ IntsAt A2 ends W) ∧ (v ≠ 0 → n2 = 0)
section
variable {R : EV → Option Addr × Nat × Nat} {ne aE vE : EV → Int}
theorem open_is (x : WV) (w : World) (H : OpW x w R ne aE vE) (hA : LaidB w) (hE : EsAt w.heap.size x.az x.es w) (v : Int) (hv : opE R ne aE x.es = v) :
    Calls Tryz.prog 31 #[.agg #[.string ⟨x.nm.toArray⟩, .slice x.az x.es.length x.cz], setsV x] w fun r w' => OpenR v (rowsV R x.es x.es.length) (endsV aE x.es x.es.length) r w' ∧ Below w.heap.size w w' := by
  by_cases h0 : x.es.length = 0
  · have : v = 16 := by rw [← hv]; unfold opE; rw [if_pos h0]
    subst this
    refine (open_none x w h0).mono ?_
    rintro r w' ⟨rfl, k⟩
    exact ⟨⟨none, 0, 0, none, 0, 0, rfl, fun h => absurd h (by decide), fun _ => rfl⟩, k⟩
  · refine (open_some x w H hA hE v h0 hv).mono ?_
    rintro r w' ⟨⟨rfl, Ar, cr, Ae, ce, rfl, h1, h2⟩ | ⟨h1, rfl⟩, k⟩
    · exact ⟨⟨Ar, _, cr, Ae, _, ce, rfl, fun _ => ⟨rfl, rfl, h1, h2⟩, fun h => absurd rfl h⟩, k⟩
    · exact ⟨⟨none, 0, 0, none, 0, 0, rfl, fun h => absurd h h1, fun _ => rfl⟩, k⟩
theorem OpW.next {x : WV} {w w' : World} (H : OpW x w R ne aE vE) (k : Below w.heap.size w w') : OpW x w' R ne aE vE :=
  ⟨H.n4, H.fm, fun e he hr W kW => H.of e he hr W (bthen k kW), fun e he h W kW => H.nm e he h W (bthen k kW), fun e he h W kW => H.en e he h W (bthen k kW), H.ez⟩
/-- A world's zone as a value. -/
def zoV (x : WV) : Value := .agg #[.string ⟨x.nm.toArray⟩, .slice x.az x.es.length x.cz]
/-- What is known of a world whose zone is asked. -/
structure ZoneW (x : WV) (w : World) (R : EV → Option Addr × Nat × Nat) (ne aE vE : EV → Int) : Prop where
  op : OpW x w R ne aE vE
  b : LaidB w
  es : EsAt w.heap.size x.az x.es w
theorem ZoneW.next {x : WV} {w w' : World} (H : ZoneW x w R ne aE vE) (k : Below w.heap.size w w') : ZoneW x w' R ne aE vE := ⟨H.op.next k, H.b.next k, (H.es.below k).mono k.size⟩
set_option maxRecDepth 20000 in
set_option maxHeartbeats 400000 in
theorem zcheck_is (x : WV) (w : World) (H : ZoneW x w R ne aE vE) (v : Int) (hv : opE R ne aE x.es = v) :
    Calls Tryz.prog 9 #[zoV x, setsV x] w fun r w' => r = .returned (.int .i64 v) ∧ Below w.heap.size w w' := by
  have X := Lib.hid (BlkN.make (Below.refl w.heap.size w) #[.string ⟨x.nm.toArray⟩, .slice x.az x.es.length x.cz] 24)
  have OP := Lib.hid (open_is x _ (H.next X.out.bel).op (H.next X.out.bel).b (H.next X.out.bel).es v hv)
  obtain ⟨z0, z1⟩ := cel2 X.out.blk
  clear H hv
  unfold zoV setsV wvV at *
  generalize rowsV R x.es x.es.length = rs at *
  generalize endsV aE x.es x.es.length = es at *
  generalize x.es.length = n at *
  go_enter Tryz.func9, Tryz.ntmps9
  repeat (first
    | (go_at_call 31; refine OP.out.mono ?_; rintro r w1 ⟨⟨A1, n1, c1, A2, n2, c2, rfl, -, -⟩, k1⟩; have X1 := Lib.hid (X.out.next k1); have B1 := Lib.hid (bmk X1.out.bel (.cells #[.slice A1 n1 c1, .slice A2 n2 c2] 91)); clear k1 z0 z1; simp only [])
    | go_values | go_skip | go_guarded | go_step | go_upon | go_back)
  go_ret
  exact ⟨rfl, B1.out⟩
set_option maxRecDepth 20000 in
set_option maxHeartbeats 400000 in
theorem zends_is (x : WV) (w : World) (H : ZoneW x w R ne aE vE) (v : Int) (hv : opE R ne aE x.es = v) :
    Calls Tryz.prog 11 #[zoV x, setsV x] w fun r w' => ∃ A n c, r = .returned (.tuple #[.slice A n c, .int .i64 v]) ∧ (v = 0 → n = (endsV aE x.es x.es.length).length ∧ IntsAt A (endsV aE x.es x.es.length) w') ∧ (v ≠ 0 → n = 0) ∧ Below w.heap.size w w' := by
  have X := Lib.hid (BlkN.make (Below.refl w.heap.size w) #[.string ⟨x.nm.toArray⟩, .slice x.az x.es.length x.cz] 24)
  have OP := Lib.hid (open_is x _ (H.next X.out.bel).op (H.next X.out.bel).b (H.next X.out.bel).es v hv)
  obtain ⟨z0, z1⟩ := cel2 X.out.blk
  clear H hv
  unfold zoV setsV wvV at *
  generalize endsV aE x.es x.es.length = es at *
  generalize rowsV R x.es x.es.length = rs at *
  generalize x.es.length = n at *
  go_enter Tryz.func11, Tryz.ntmps11
  repeat (first
    | (go_at_call 31; refine OP.out.mono ?_; rintro r w1 ⟨⟨A1, n1, c1, A2, n2, c2, rfl, g1, g2⟩, k1⟩; have X1 := Lib.hid (X.out.next k1); have B1 := Lib.hid (BlkN.make X1.out.bel #[.slice A1 n1 c1, .slice A2 n2 c2] 91)
       have G1 := Lib.hid g1; have G2 := Lib.hid g2
       obtain ⟨y0, y1⟩ := cel2 B1.out.blk
       clear k1 z0 z1 g1 g2; simp only [])
    | go_values | go_skip | go_guarded | go_step | go_upon | go_back)
  go_ret2
  exact ⟨A2, n2, c2, rfl, fun h => ⟨(G1.out h).2.1, (G1.out h).2.2.2.next ((Below.refl _ w1).alloc (Nat.le_refl _) _)⟩, G2.out, B1.out.bel⟩
end
/-- How many ends are no later than an instant: of those that rise, the first one that is later. -/
def kF (l : List Int) (t : Int) : Nat := (l.takeWhile fun n => decide (n ≤ t)).length
theorem kF_le (l : List Int) (t : Int) : kF l t ≤ l.length := (List.takeWhile_prefix _).length_le
theorem kF_at {l : List Int} {t : Int} {i : Nat} (h : ∀ j n, j < i → l[j]? = some n → n ≤ t) (hi : i = l.length ∨ ∃ n, l[i]? = some n ∧ t < n) : kF l t = i := by
  induction l generalizing i with
  | nil =>
    rcases hi with hi | ⟨n, hi, -⟩
    · rw [hi]; rfl
    · simp at hi
  | cons a l ih =>
    cases i with
    | zero =>
      rcases hi with hi | ⟨n, hi, hn⟩
      · cases hi
      · simp at hi
        subst hi
        unfold kF
        rw [List.takeWhile_cons_of_neg (by simpa using hn)]; rfl
    | succ i =>
      have ha := h 0 a (by omega) rfl
      have := ih (i := i) (fun j n hj hn => h (j + 1) n (by omega) (by simpa using hn)) (by
        rcases hi with hi | ⟨n, hi, hn⟩
        · exact .inl (by simpa using hi)
        · exact .inr ⟨n, by simpa using hi, hn⟩)
      unfold kF at this ⊢
      rw [List.takeWhile_cons_of_pos (by simpa using ha), List.length_cons, this]
set_option maxRecDepth 20000 in
set_option maxHeartbeats 1000000 in
theorem zera_is (A : Option Addr) (c : Nat) (l : List Int) (t : Int) (w : World) (hl : l.length ≤ 100000) (hI : IntsAt A l w) :
    Calls Tryz.prog 16 #[.slice A l.length c, .int .i64 t] w fun r w' => r = .returned (.int .i64 (kF l t : Int)) ∧ Below w.heap.size w w' := by
  have hmf : ∀ (fn : Fn) (first cap : Array Value) (w : World), (Instr.makeFunc fn first cap).run Tryz.prog w = .ok (.func fn first cap) w := fun _ _ _ _ => rfl
  have X := Lib.hid (BlkN.make (Below.refl w.heap.size w) #[.int .i64 t] 3)
  have TX := Lib.hid (cel1 X.out.blk)
  have CL : Hid (∀ (n : Int) W, W.cell? ⟨w.heap.size, 0, none⟩ = some (.int .i64 t) → Calls Tryz.prog 37 #[.int .i64 n, .pointer (some ⟨w.heap.size, 0, none⟩)] W fun r w' => r = .returned (.bool (decide (t < n))) ∧ Below W.heap.size W w') := Lib.hid fun n W hW => by
    by_cases h : n > t
    · have hd : decide (t < n) = true := decide_eq_true h
      go_enter Tryz.func37, Tryz.ntmps37
      repeat (first | go_values | go_skip | go_guarded | go_step | go_upon | go_back)
      go_ret
      exact ⟨by rw [hd]; simp, Below.refl _ _⟩
    · have hd : decide (t < n) = false := decide_eq_false h
      go_enter Tryz.func37, Tryz.ntmps37
      repeat (first | go_values | go_skip | go_guarded | go_step | go_upon | go_back)
      go_ret
      exact ⟨by rw [hd]; simp, Below.refl _ _⟩
  obtain ⟨n, hn⟩ : ∃ n, l.length = n := ⟨_, rfl⟩
  have HN := Lib.hid hn
  have HI := Lib.hid (hI.next X.out.bel)
  have IX : Hid (∀ W, Below (w.heap.size + 1) (w.alloc (.cells #[.int .i64 t] 3)) W → Calls Tryz.prog 36 #[.slice A n c, .func (.func 37) #[] #[.pointer (some ⟨w.heap.size, 0, none⟩)]] W fun r w' => r = .returned (.int .i64 (if kF l t = n then -1 else (kF l t : Int))) ∧ Below W.heap.size W w') := Lib.hid fun W hW => by
    have hs : (w.alloc (.cells #[.int .i64 t] 3)).heap.size = w.heap.size + 1 := by simp
    have TW := Lib.hid ((hW.cell (p := ⟨w.heap.size, 0, none⟩) (Nat.lt_succ_self _)).trans TX.out)
    have IW := Lib.hid (HI.out.next (by rw [hs]; exact hW))
    clear hs hW hI TX HI
    rw [hn] at hl
    clear hn
    go_enter Tryz.func36, Tryz.ntmps36
    repeat (first | go_values | go_skip | go_guarded | go_step | go_upon | go_back)
    go_loopw [8] (fun v wr => ∃ i : Nat, v = .int .i64 i ∧ i ≤ n ∧ (∀ j m, j < i → l[j]? = some m → m ≤ t) ∧ Below W.heap.size W wr) (fun v _ => n - (intOf v).toNat)
    case atStart => exact ⟨0, rfl, Nat.zero_le _, fun j m h => absurd h (by omega), Below.refl _ _⟩
    case round =>
      obtain ⟨i, rfl, i1, ha, hb⟩ := hrel
      have NA := Lib.hid ha
      have HB := Lib.hid hb
      clear ha hb
      have wi : IntKind.i64.wrap ((i : Int) + 1) = (i : Int) + 1 := IntWalk.i64_in _ (by omega)
      by_cases hlt : i < n
      · have hii : (i : Int) < (n : Int) := by omega
        obtain ⟨m, hm⟩ : ∃ m, l[i]? = some m := ⟨_, List.getElem?_eq_getElem (by rw [HN.out]; exact hlt)⟩
        obtain ⟨g, rfl, hg, hc⟩ := (IW.out.next HB.out) i m hm
        have CW := Lib.hid (CL.out m wr ((HB.out.cell (p := ⟨w.heap.size, 0, none⟩) (cell_lt TW.out)).trans TW.out))
        have HM := Lib.hid hm
        clear hm hg
        by_cases hq : t < m
        · have hd : decide (t < m) = true := decide_eq_true hq
          have KK : Hid (kF l t = i) := Lib.hid (kF_at NA.out (.inr ⟨m, HM.out, hq⟩))
          rw [hd] at CW
          clear hq hd
          repeat (first
            | (go_at_call 37; refine CW.out.mono ?_; rintro r w1 ⟨rfl, k1⟩; have B1 := Lib.hid (bthen HB.out k1); clear k1; simp only [])
            | go_values | go_skip | go_guarded | go_step | go_upon | go_back)
          go_ret
          exact ⟨by rw [KK.out, if_neg (by omega)]; rfl, B1.out⟩
        · have hd : decide (t < m) = false := decide_eq_false hq
          have KK : Hid (m ≤ t) := Lib.hid (by omega)
          rw [hd] at CW
          clear hq hd
          repeat (first
            | (go_at_call 37; refine CW.out.mono ?_; rintro r w1 ⟨rfl, k1⟩; have B1 := Lib.hid (bthen HB.out k1); clear k1; simp only [])
            | go_values | go_skip | go_guarded | go_step | go_upon | go_back)
          go_round
          case rel => exact ⟨i + 1, rfl, by omega, fun j m' hj hm' => by
            rcases Nat.lt_or_ge j i with h | h
            · exact NA.out j m' h hm'
            · obtain rfl : j = i := by omega
              rw [HM.out] at hm'; cases hm'; exact KK.out, B1.out⟩
          case measure => simp [intOf]; omega
      · obtain rfl : i = n := by omega
        have hii : ¬ ((i : Nat) : Int) < (i : Int) := by omega
        have KK : Hid (kF l t = i) := Lib.hid (kF_at NA.out (.inl HN.out.symm))
        repeat (first | go_values | go_skip | go_guarded | go_step | go_upon | go_back)
        go_ret
        exact ⟨by rw [KK.out, if_pos rfl]; rfl, HB.out⟩
  have kl := kF_le l t
  rw [hn] at kl
  simp only [hn]
  clear hn hI HI
  obtain ⟨k, hk⟩ : ∃ k, kF l t = k := ⟨_, rfl⟩
  rw [hk] at IX kl
  rw [hk]
  clear hk
  by_cases hkn : k = n
  · subst hkn
    rw [if_pos rfl] at IX
    go_enter Tryz.func16, Tryz.ntmps16
    repeat (first
      | (go_at_call 36; refine (IX.out _ (Below.refl _ _)).mono ?_; rintro r w1 ⟨rfl, k1⟩; have X1 := Lib.hid (X.out.next k1); clear k1; simp only [])
      | go_values | go_skip | go_guarded | go_step | go_upon | go_back)
    go_ret
    exact ⟨rfl, X1.out.bel⟩
  · rw [if_neg hkn] at IX
    have hk0 : ¬ ((k : Nat) : Int) < 0 := by omega
    go_enter Tryz.func16, Tryz.ntmps16
    repeat (first
      | (go_at_call 36; refine (IX.out _ (Below.refl _ _)).mono ?_; rintro r w1 ⟨rfl, k1⟩; have X1 := Lib.hid (X.out.next k1); clear k1; simp only [])
      | go_values | go_skip | go_guarded | go_step | go_upon | go_back)
    go_ret
    exact ⟨rfl, X1.out.bel⟩
end Go.Proofs.YtdmfgechoanmlaaGreatDoor

namespace Go.Proofs.YtdmfgechoanmlaaGreatDoor
open Go Go.RowKit Go.Shelf
attribute [local go_sem] Oper.semAt_some

section
variable {R : EV → Option Addr × Nat × Nat} {ne aE vE : EV → Int}
set_option maxRecDepth 20000 in
set_option maxHeartbeats 1000000 in
theorem zat_no (x : WV) (w : World) (H : ZoneW x w R ne aE vE) (v t e0 : Int) (hv : opE R ne aE x.es = v) (h : Hid ((v ≠ 0 ∧ e0 = v) ∨ (v = 0 ∧ (t < -2199023255552 ∨ 2199023255552 < t) ∧ e0 = 10))) :
    Calls Tryz.prog 13 #[zoV x, setsV x, .int .i64 t] w fun r w' => r = .returned (.tuple #[locV 0 false [], .int .i64 e0]) ∧ Below w.heap.size w w' := by
  have X : Hid (TwoB w w.heap.size #[.string ⟨x.nm.toArray⟩, .slice x.az x.es.length x.cz] 24 (w.heap.size + 1) #[.int .i64 0, .bool false, .string ⟨#[]⟩] 41 ((w.alloc (.cells #[.string ⟨x.nm.toArray⟩, .slice x.az x.es.length x.cz] 24)).alloc (.cells #[.int .i64 0, .bool false, .string ⟨#[]⟩] 41))) :=
    ⟨BlkN.fst (w := w) _ 24 _, BlkN.two w _ _ _⟩
  have OP := Lib.hid (open_is x _ (H.next X.out.a.bel).op (H.next X.out.a.bel).b (H.next X.out.a.bel).es v hv)
  obtain ⟨z0, z1⟩ := cel2 X.out.a.blk
  clear H hv
  unfold zoV setsV wvV at *
  generalize rowsV R x.es x.es.length = rs at *
  generalize endsV aE x.es x.es.length = es at *
  generalize x.es.length = n at *
  have V : (((v != 0) = true) ∧ e0 = v) ∨ (v = 0 ∧ t < -2199023255552 ∧ e0 = 10) ∨ (v = 0 ∧ ¬ t < -2199023255552 ∧ t > 2199023255552 ∧ e0 = 10) := by
    rcases h.out with ⟨h1, h2⟩ | ⟨h1, h2, h3⟩
    · exact .inl ⟨by simpa using h1, h2⟩
    · by_cases h4 : t < -2199023255552
      · exact .inr (.inl ⟨h1, h4, h3⟩)
      · exact .inr (.inr ⟨h1, h4, by omega, h3⟩)
  clear h
  rcases V with ⟨hvb, rfl⟩ | ⟨rfl, h5, rfl⟩ | ⟨rfl, h5, h6, rfl⟩
  all_goals
    go_enter Tryz.func13, Tryz.ntmps13
    repeat (first
      | (go_at_call 31; refine OP.out.mono ?_; rintro r w1 ⟨⟨A1, n1, c1, A2, n2, c2, rfl, -, -⟩, k1⟩
         have X1 := Lib.hid ((X.out.next k1).more (.cells #[.slice A1 n1 c1, .slice A2 n2 c2] 91))
         clear k1 z0 z1
         obtain ⟨q0, q1, q2⟩ := cel3 X1.out.b.blk
         have f0 := frz (j := 0) X1.out.b.blk
         have f1 := frz (j := 1) X1.out.b.blk
         have f2 := frz (j := 2) X1.out.b.blk
         simp only [])
      | go_values | go_skip | go_guarded | go_step | go_upon | go_back)
    refine (X1.out.b.set3).ret fun W' B => ?_
    obtain ⟨q0, q1, q2⟩ := cel3 B.blk
    exact bodyPost_ret (by simp [results, Tryz.results13, go_sem, q0, q1, q2]; rfl) rfl ⟨rfl, B.bel⟩
theorem opE_zero {es : List EV} (h : opE R ne aE es = 0) : es.length ≠ 0 ∧ (∀ j, j < es.length → f1V R es j = 0) ∧ (∀ j, j < es.length → f2V ne es j = 0) ∧ ∀ j, j < es.length → f3V aE es j = 0 := by
  unfold opE at h
  by_cases h0 : es.length = 0
  · rw [if_pos h0] at h; cases h
  · rw [if_neg h0] at h
    by_cases h1 : fwF (f1V R es) es.length = 0
    · rw [if_neg (fun k => k h1)] at h
      by_cases h2 : fwF (f2V ne es) es.length = 0
      · rw [if_neg (fun k => k h2)] at h
        exact ⟨h0, fwF_all h1, fwF_all h2, fwF_all h⟩
      · rw [if_pos h2] at h; exact absurd h h2
    · rw [if_pos h1] at h; exact absurd h h1
theorem endsV_len (aE : EV → Int) (es : List EV) : (endsV aE es es.length).length = es.length - 1 := by
  unfold endsV
  rw [List.length_map, List.length_take]; omega
set_option maxRecDepth 20000 in
set_option maxHeartbeats 800000 in
theorem zat_core (nm : List UInt8) (L off n cz : Nat) (V : Value) (rs : List Value) (es : List Int) (w : World) (t e0 p1 : Int) (p2 : Bool) (p3 : List UInt8) (e : EV) (k : Nat) (A : Option Addr) (n0 c0 : Nat)
    (OP : Hid (∀ W, Below w.heap.size w W → Calls Tryz.prog 31 #[.agg #[.string ⟨nm.toArray⟩, .slice (some ⟨L, off, none⟩) n cz], .func (.func 10) #[V] #[]] W fun r w' => OpenR 0 rs es r w' ∧ Below W.heap.size W w'))
    (ER : Hid (∀ A c W, IntsAt A es W → Calls Tryz.prog 16 #[.slice A es.length c, .int .i64 t] W fun r w' => r = .returned (.int .i64 (k : Int)) ∧ Below W.heap.size W w'))
    (h5 : ¬ t < -2199023255552) (h6 : ¬ t > 2199023255552) (hkz : (k : Int) < (n : Int)) (hkr : (k : Int) < (rs.length : Int)) (HR : Hid (rs[k]? = some (.slice A n0 c0))) (hL : L < w.heap.size)
    (HC : Hid (w.cell? ⟨L, off + k * 12, none⟩ = some (.int .i64 e.of) ∧ w.cell? ⟨L, off + k * 12 + 1, none⟩ = some (.string ⟨e.rl.toArray⟩) ∧ w.cell? ⟨L, off + k * 12 + 2, none⟩ = some (.int .i64 e.sv) ∧ w.cell? ⟨L, off + k * 12 + 3, none⟩ = some (.string ⟨e.fm.toArray⟩) ∧ w.cell? ⟨L, off + k * 12 + 4, none⟩ = some (.bool e.en) ∧ w.cell? ⟨L, off + k * 12 + 5, none⟩ = some (.int .i64 e.uy) ∧ w.cell? ⟨L, off + k * 12 + 6, none⟩ = some (.int .i64 e.um) ∧ w.cell? ⟨L, off + k * 12 + 7, none⟩ = some (.int .i64 e.dk) ∧ w.cell? ⟨L, off + k * 12 + 8, none⟩ = some (.int .i64 e.dw) ∧ w.cell? ⟨L, off + k * 12 + 9, none⟩ = some (.int .i64 e.dn) ∧ w.cell? ⟨L, off + k * 12 + 10, none⟩ = some (.int .i64 e.sc) ∧ w.cell? ⟨L, off + k * 12 + 11, none⟩ = some (.int .i64 e.ck)))
    (WI : Hid (∀ W, Below w.heap.size w W → Calls Tryz.prog 33 #[evV e, .slice A n0 c0, .int .i64 t] W fun r w' => r = .returned (.tuple #[locV p1 p2 p3, .int .i64 e0]) ∧ Below W.heap.size W w')) :
    Calls Tryz.prog 13 #[.agg #[.string ⟨nm.toArray⟩, .slice (some ⟨L, off, none⟩) n cz], .func (.func 10) #[V] #[], .int .i64 t] w fun r w' => r = .returned (.tuple #[locV p1 p2 p3, .int .i64 e0]) ∧ Below w.heap.size w w' := by
  have mixed : Tryz.prog.follows .mixedOrders = true := by kernel_rfl
  have X : Hid (TwoB w w.heap.size #[.string ⟨nm.toArray⟩, .slice (some ⟨L, off, none⟩) n cz] 24 (w.heap.size + 1) #[.int .i64 0, .bool false, .string ⟨#[]⟩] 41 ((w.alloc (.cells #[.string ⟨nm.toArray⟩, .slice (some ⟨L, off, none⟩) n cz] 24)).alloc (.cells #[.int .i64 0, .bool false, .string ⟨#[]⟩] 41))) :=
    ⟨BlkN.fst (w := w) _ 24 _, BlkN.two w _ _ _⟩
  obtain ⟨z0, z1⟩ := cel2 X.out.a.blk
  go_enter Tryz.func13, Tryz.ntmps13
  repeat (first
    | (go_at_call 16; refine (ER.out _ _ _ I1.out).mono ?_; rintro r w2 ⟨rfl, k2⟩
       have X2 := Lib.hid (X1.out.next k2)
       have W2 := Lib.hid (W1.out.next k2)
       have S2 := Lib.hid (S1.out.next k2)
       clear k2 z0 z1 y0 y1
       simp only [])
    | (go_at_call 31; refine (OP.out _ X.out.a.bel).mono ?_; rintro r w1 ⟨⟨A1, n1, c1, A2, n2, c2, rfl, g1, -⟩, k1⟩
       obtain ⟨rfl, rfl, gs, gi⟩ := g1 rfl
       have X1 := Lib.hid ((X.out.next k1).more (.cells #[.slice A1 rs.length c1, .slice A2 es.length c2] 91))
       have W1 := Lib.hid (BlkN.make (X.out.next k1).a.bel #[.slice A1 rs.length c1, .slice A2 es.length c2] 91)
       have S1 := Lib.hid (gs.next ((Below.refl w1.heap.size w1).alloc (Nat.le_refl _) (.cells #[.slice A1 rs.length c1, .slice A2 es.length c2] 91)))
       have I1 := Lib.hid (gi.next ((Below.refl w1.heap.size w1).alloc (Nat.le_refl _) (.cells #[.slice A1 rs.length c1, .slice A2 es.length c2] 91)))
       clear k1 z0 z1 g1 gs gi
       obtain ⟨z0, z1⟩ := cel2 X1.out.a.blk
       obtain ⟨y0, y1⟩ := cel2 W1.out.blk
       simp only [])
    | go_values | go_skip | go_guarded | go_step | go_upon | go_back)
  obtain ⟨z0, z1⟩ := cel2 X2.out.a.blk
  obtain ⟨y0, y1⟩ := cel2 W2.out.blk
  obtain ⟨g, rfl, hg, hgc⟩ := S2.out k _ HR.out
  obtain ⟨x0, x1, x2, x3, x4, x5, x6, x7, x8, x9, x10, x11⟩ : (w2.cell? ⟨L, off + k * 12, none⟩ = some (.int .i64 e.of) ∧ w2.cell? ⟨L, off + k * 12 + 1, none⟩ = some (.string ⟨e.rl.toArray⟩) ∧ w2.cell? ⟨L, off + k * 12 + 2, none⟩ = some (.int .i64 e.sv) ∧ w2.cell? ⟨L, off + k * 12 + 3, none⟩ = some (.string ⟨e.fm.toArray⟩) ∧ w2.cell? ⟨L, off + k * 12 + 4, none⟩ = some (.bool e.en) ∧ w2.cell? ⟨L, off + k * 12 + 5, none⟩ = some (.int .i64 e.uy) ∧ w2.cell? ⟨L, off + k * 12 + 6, none⟩ = some (.int .i64 e.um) ∧ w2.cell? ⟨L, off + k * 12 + 7, none⟩ = some (.int .i64 e.dk) ∧ w2.cell? ⟨L, off + k * 12 + 8, none⟩ = some (.int .i64 e.dw) ∧ w2.cell? ⟨L, off + k * 12 + 9, none⟩ = some (.int .i64 e.dn) ∧ w2.cell? ⟨L, off + k * 12 + 10, none⟩ = some (.int .i64 e.sc) ∧ w2.cell? ⟨L, off + k * 12 + 11, none⟩ = some (.int .i64 e.ck)) := by
    have hh : ∀ {o : Nat} {v : Value}, w.cell? ⟨L, o, none⟩ = some v → w2.cell? ⟨L, o, none⟩ = some v := fun h => (X2.out.a.bel.cell (p := ⟨L, _, none⟩) hL).trans h
    obtain ⟨a0, a1, a2, a3, a4, a5, a6, a7, a8, a9, a10, a11⟩ := HC.out
    exact ⟨hh a0, hh a1, hh a2, hh a3, hh a4, hh a5, hh a6, hh a7, hh a8, hh a9, hh a10, hh a11⟩
  have d0 := bel_cell x0
  have d1 := bel_cell x1
  have d2 := bel_cell x2
  have d3 := bel_cell x3
  have d4 := bel_cell x4
  have d5 := bel_cell x5
  have d6 := bel_cell x6
  have d7 := bel_cell x7
  have d8 := bel_cell x8
  have d9 := bel_cell x9
  have d10 := bel_cell x10
  have d11 := bel_cell x11
  have d12 := bel_cell z1
  have d13 := bel_cell y0
  have d14 := bel_cell hgc
  clear x0 x1 x2 x3 x4 x5 x6 x7 x8 x9 x10 x11 y0 y1 z0 z1 hg hgc
  unfold evV cE locV at WI
  refine region_tail 14 mixed (by kernel_rfl) ?_
  simp only [List.take_succ_cons, List.take_zero, List.drop_succ_cons, List.drop_zero]
  repeat (quiet_step ((go_at_call 33; rename_i y; refine (WI.out _ (X2.out.a.bel.trans (y.k.mono X2.out.a.bel.size))).mono ?_; rintro r w6 ⟨rfl, k6⟩; exact ⟨rfl, ⟨w6, y.k.trans (k6.mono y.k.size)⟩, rfl⟩)))
  refine wpQuiet_nil ?_
  rintro w6 ⟨x6, hx6⟩
  have X3 := Lib.hid (X2.out.b.next (hx6 ▸ x6.k))
  clear hx6 x6 d0 d1 d2 d3 d4 d5 d6 d7 d8 d9 d10 d11 d12 d13 d14
  obtain ⟨q0, q1, q2⟩ := cel3 X3.out.blk
  have f0 := frz (j := 0) X3.out.blk
  have f1 := frz (j := 1) X3.out.blk
  have f2 := frz (j := 2) X3.out.blk
  repeat (first | go_values | go_skip | go_guarded | go_step | go_upon | go_back)
  refine (X3.out.set3).ret fun W' B => ?_
  obtain ⟨q0, q1, q2⟩ := cel3 B.blk
  exact bodyPost_ret (by simp [results, Tryz.results13, go_sem, q0, q1, q2]; rfl) rfl ⟨rfl, B.bel⟩
theorem zat_in (x : WV) (w : World) (H : ZoneW x w R ne aE vE) (t e0 p1 : Int) (p2 : Bool) (p3 : List UInt8) (e : EV) (hv : opE R ne aE x.es = 0) (t1 : -2199023255552 ≤ t) (t2 : t ≤ 2199023255552) (k : Nat) (hk : kF (endsV aE x.es x.es.length) t = k) (he : x.es[k]? = some e)
    (WI : Hid (∀ W, Below w.heap.size w W → Calls Tryz.prog 33 #[evV e, rlV R e, .int .i64 t] W fun r w' => r = .returned (.tuple #[locV p1 p2 p3, .int .i64 e0]) ∧ Below W.heap.size W w')) :
    Calls Tryz.prog 13 #[zoV x, setsV x, .int .i64 t] w fun r w' => r = .returned (.tuple #[locV p1 p2 p3, .int .i64 e0]) ∧ Below w.heap.size w w' := by
  have n4 := H.op.n4
  have hel := endsV_len aE x.es
  obtain ⟨A, n0, c0, hrl⟩ : ∃ A n c, rlV R e = .slice A n c := by
    unfold rlV
    by_cases hr : e.rl.isEmpty = true
    · rw [if_pos hr]; exact ⟨none, 0, 0, rfl⟩
    · rw [if_neg hr]; exact ⟨_, _, _, rfl⟩
  have rlen : (rowsV R x.es x.es.length).length = x.es.length := by unfold rowsV; rw [List.take_of_length_le (Nat.le_refl _), List.length_map]
  have hrow : (rowsV R x.es x.es.length)[k]? = some (.slice A n0 c0) := by
    unfold rowsV
    rw [List.take_of_length_le (Nat.le_refl _), List.getElem?_map, he, ← hrl]; rfl
  have hkn : k < x.es.length := (List.getElem?_eq_some_iff.1 he).1
  rw [hrl] at WI
  obtain ⟨L, off, haz, hL, hEc⟩ := H.es.cells he
  have OP := fun W (kW : Below w.heap.size w W) => open_is x W (H.next kW).op (H.next kW).b (H.next kW).es 0 hv
  have ER := fun A c W (h : IntsAt A (endsV aE x.es x.es.length) W) => zera_is A c (endsV aE x.es x.es.length) t W (by omega) h
  rw [hk] at ER
  unfold zoV
  rw [haz] at OP ⊢
  exact zat_core x.nm L off x.es.length x.cz (wvV x) _ _ w t e0 p1 p2 p3 e k A n0 c0 (Lib.hid OP) (Lib.hid ER) (by omega) (by omega) (by omega) (by omega) (Lib.hid hrow) hL (Lib.hid hEc) WI
end
end Go.Proofs.YtdmfgechoanmlaaGreatDoor

namespace Go.Proofs.YtdmfgechoanmlaaGreatDoor
open Go Go.RowKit Go.Sort

instance (e : EV) : Decidable (NomOk e) := by unfold NomOk inW dfD mnD inR; infer_instance
def wR (x : WV) (e : EV) : Option Addr × Nat × Nat := ((ofW x e.rl).a, (ofW x e.rl).rs.length, (ofW x e.rl).c)
def wN (e : EV) : Int := if NomOk e then 0 else 10
def aW (x : WV) (e : EV) : Int := if e.en = true then enN e (svN e (ofW x e.rl).rs) else 0
def vW (e : EV) : Int := if e.en = true then 0 else 16
theorem rlsOk_nil (w : World) : RlsOk ⟨[], none, 0, []⟩ w := by
  refine ⟨Nat.zero_le _, fun r hr => (by cases hr), fun r hr => (by cases hr), ?_, fun k y hk => (by simp at hk), fun r hr => (by cases hr)⟩
  have e : rowF [] = [] := by unfold rowF allF; rfl
  show Apt (rowF [])
  rw [e]
  exact ⟨fun f hf => (by cases hf), List.Pairwise.nil⟩
/-- The rules by which an era goes. -/
def zW (x : WV) (e : EV) : SV := if e.rl.isEmpty then ⟨[], none, 0, []⟩ else ofW x e.rl
theorem zW_val (x : WV) (e : EV) : rlV (wR x) e = .slice (zW x e).a (zW x e).rs.length (zW x e).c := by
  unfold rlV zW wR
  split <;> rfl
theorem zW_svN (x : WV) (e : EV) : svN e (ofW x e.rl).rs = svN e (zW x e).rs := by
  unfold zW svN
  by_cases h : e.rl.isEmpty = true
  · rw [if_pos h, if_pos h]
  · rw [if_neg h, if_neg h, if_neg h]
theorem zW_ok {x : WV} {w : World} (hX : WvAt x w) (hF : FewW x) (hL : ∀ s ∈ x.ss, ∀ r ∈ s.rs, r.lt.length ≤ 1000000000000000) (e : EV) : RlsOk (zW x e) w := by
  unfold zW
  split
  · exact rlsOk_nil w
  · exact RlsOk.of hX hF hL e.rl
theorem tmB_no {n : Int} (h : tmB n = false) : -90000 < n ∧ n < 90000 := by
  unfold tmB at h
  simp at h
  omega
/-- An era that is right by itself may be asked. -/
theorem era_right {e : EV} (hf : FewE e) (h : RightE wN e) (he : e.en = true) : EraOk e ∧ NomOk e := by
  obtain ⟨h1, h2, h3⟩ := h
  have hn : NomOk e := by
    have := h3 he
    unfold wN at this
    by_cases hk : NomOk e
    · exact hk
    · rw [if_neg hk] at this; cases this
  exact ⟨⟨hf, (tmB_no h1).1, (tmB_no h1).2, (tmB_no h2).1, (tmB_no h2).2, hn.1, hn.2.1⟩, hn⟩
theorem zend_yes (e : EV) (z : SV) (w : World) (hA : LaidF w) (hE : EraOk e) (hz : RlsOk z w) (he : e.en = true) (hok : NomOk e) :
    Calls Tryz.prog 56 #[evV e, .slice z.a z.rs.length z.c] w fun x w' => x = .returned (.tuple #[.int .i64 (enN e (svN e z.rs)), .int .i64 0]) ∧ Below w.heap.size w w' := by
  have hs := hz.svN e hE.v1 hE.v2
  obtain ⟨y1, y2, m1, m2, s1, s2, hd⟩ := hE.few.2 he
  have hn := (hE.nom he).1 hok
  obtain ⟨⟨n1, n2⟩, t1, t2⟩ := hE.bd he hn
  have hP : EndP z.rs.length z.rs e := ⟨rfl, by have := hz.n6; omega, hz.ok, hz.ap, hE.o1, hE.o2, y1, y2, n1, n2⟩
  have hfar := hP.far
  refine zend_is e _ (svN e z.rs) _ 0 w hA (Lib.hid fun _ _ _ W' k' => ?_) hE.o1 hE.o2 hs.1 hs.2 (fun _ => by omega) (Lib.hid (.inr (.inr ⟨he, hok, rfl, rfl⟩)))
  by_cases hr : e.rl.isEmpty = true
  · have := sahead_no e (.slice z.a z.rs.length z.c) (nmU e) W' hr
    unfold Go.Proofs.YtdmfgechoanmlaaGreatDoor.svN
    rw [if_pos hr]; exact this
  · exact sahead_ruled e z.a z.rs.length z.c z.rs _ W' (by simpa using hr) (hA.next k') (hz.rl.next k') hP (by unfold Go.Proofs.YtdmfgechoanmlaaGreatDoor.svN; rw [if_neg hr])
theorem zend_none (e : EV) (lv : Value) (w : World) (hA : LaidF w) (h1 : -90000 < e.of) (h2 : e.of < 90000) (he : e.en = false) :
    Calls Tryz.prog 56 #[evV e, lv] w fun x w' => x = .returned (.tuple #[.int .i64 0, .int .i64 16]) ∧ Below w.heap.size w w' :=
  zend_is e lv 0 0 16 w hA (Lib.hid fun _ h => by rw [he] at h; cases h) h1 h2 (by omega) (by omega) (fun h => by have h1 := h.2.2.1.2.2; have h2 := h.2.2.2; unfold inR at h1; unfold nmU; omega) (Lib.hid (.inl ⟨he, rfl, rfl⟩))
theorem opW_of {x : WV} {w : World} (hA : LaidZ w) (hX : WvAt x w) (hO : WvOk x) (hF : FewW x) (hL : ∀ s ∈ x.ss, ∀ r ∈ s.rs, r.lt.length ≤ 1000000000000000) : ZoneW x w (wR x) wN (aW x) vW where
  b := hA.b
  es := EsAt.of hX.es
  op := {
    n4 := by have := hF.ne; omega
    fm := fun e he => by have := (hF.es e he).1; omega
    of := fun e he hr W k => wof_is x e.rl W (hX.next k) hO
    nm := fun e he h W k => by
      refine (znom_is e (if NomOk e then nmU e else 0) (wN e) W (hA.next k).f (Lib.hid ?_)).mono fun r w' hr => ⟨_, hr⟩
      unfold wN
      by_cases hk : NomOk e
      · rw [if_pos hk, if_pos hk]; exact .inl ⟨rfl, hk, rfl⟩
      · rw [if_neg hk, if_neg hk]; exact .inr ⟨rfl, hk, rfl⟩
    en := fun e he h W k => by
      rw [zW_val]
      unfold aW vW
      by_cases hen : e.en = true
      · rw [if_pos hen, if_pos hen, zW_svN]
        have hr := era_right (hF.es e he) h hen
        exact zend_yes e (zW x e) W (hA.next k).f hr.1 (zW_ok (hX.next k) hF hL e) hen hr.2
      · rw [if_neg hen, if_neg hen]
        exact zend_none e _ W (hA.next k).f (tmB_no h.1).1 (tmB_no h.1).2 (by simpa using hen)
    ez := fun e he h => by
      unfold vW
      exact ⟨fun hen => by rw [if_pos hen], fun hen => by rw [if_neg (by rw [hen]; simp)]; decide⟩ }
end Go.Proofs.YtdmfgechoanmlaaGreatDoor
