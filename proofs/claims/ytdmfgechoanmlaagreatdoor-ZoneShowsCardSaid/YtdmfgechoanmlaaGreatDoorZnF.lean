/- The contracts of the closures of zone.open: an era's rules; what is wrong with it; that its end rises. -/
import Derived.Test.YtdmfgechoanmlaaGreatDoorMZT
import Derived.Test.YtdmfgechoanmlaaGreatDoorMZN
namespace Go.Proofs.YtdmfgechoanmlaaGreatDoor
open Go Go.RowKit
attribute [local go_sem] Oper.semAt_some

def KpE (W W' : World) : Prop := KpT (fun t => t == 31 || t == 118) W W'
theorem kpe_row {W W' : World} {row : Option Nat} (hg : W.grownBy W' row) (hr : ∀ r, row = some r → ∃ cs t fz, W.heap[r]? = some (Obj.cells cs t fz) ∧ (t == 31 || t == 118) = false) : KpE W W' := KpT.grown hg hr
theorem KpT.of_ne {ok : TypeId → Bool} {X Y : World} {r : Nat} {cs : Array Value} {t : TypeId} {fz : Nat × Nat} (hg : X.grownBy Y (some r)) (hr : X.heap[r]? = some (.cells cs t fz)) (ht : ok t = false) : KpT ok X Y := KpT.grown hg fun j e => by injection e with e; subst e; exact ⟨cs, t, fz, hr, ht⟩
theorem wh_rpush {gw : Nat} {rows : List Value} {ends : List Int} {Ar : Option Addr} {cr : Nat} {Ae : Option Addr} {ce : Nat} {W W1 w' : World} {p : Value} {A' : Option Addr} {c' : Nat} (k : Below W.heap.size W W1) (h : WhX gw rows ends Ar cr Ae ce W1) (hgl : gw < W.heap.size)
    (hown : w'.ownsRow (gw + 1) 80 1 (.slice A' (rows.length + 1) c') (rows.length + 1) (rows ++ [p])) (hg : W1.grownBy w' (Value.slice Ar rows.length cr).ownBlock) :
    Wh gw (rows ++ [p]) ends (w'.setCell ⟨gw, 0, none⟩ (.slice A' (rows.length + 1) c')) ∧ KeepsOthers W (w'.setCell ⟨gw, 0, none⟩ (.slice A' (rows.length + 1) c')) ∧ Below gw W (w'.setCell ⟨gw, 0, none⟩ (.slice A' (rows.length + 1) c')) ∧ KpE W (w'.setCell ⟨gw, 0, none⟩ (.slice A' (rows.length + 1) c')) := by
  have hgr : ∀ r, (Value.slice Ar rows.length cr).ownBlock = some r → gw + 1 ≤ r ∧ ∃ cs, W1.heap[r]? = some (.cells cs 80 (0, 0)) := fun r e => by
    refine ⟨(h.rw'.lt r e).1, ?_⟩
    rcases h.rw'.2 with ⟨e1, _⟩ | ⟨g, cap, cur, e1, hb, hgg, _⟩
    · rw [e1] at e; simp [Value.ownBlock] at e
    · rw [e1] at e; simp [Value.ownBlock] at e; subst e; exact ⟨cur, hgg⟩
  have hb := (hg.block gw (Array.getElem?_eq_some_iff.1 h.blk).1 (fun e => by have := (hgr gw e.symm).1; omega)).trans h.blk
  have he := h.en.kept hg (own_apart h.en h.rw' (by decide))
  have hset := grownBy_setCell' w' gw (.slice A' (rows.length + 1) c')
  have ne : ∀ {v : Value} {n : Nat} {xs : List Value} {e : TypeId}, w'.ownsRow (gw + 1) e 1 v n xs → v.ownBlock = none ∨ v.ownBlock ≠ some gw := fun {v n xs e} hv => by
    cases hvb : v.ownBlock with
    | none => exact .inl rfl
    | some r => exact .inr (fun e => by injection e with e; subst e; have := (hv.lt _ hvb).1; omega)
  refine ⟨⟨A', c', Ae, ce, ?_, ?_, he.kept hset (ne he)⟩, ?_, ?_, ?_⟩
  · have := blk_set (i := 0) hb (.slice A' (rows.length + 1) c')
    rw [List.length_append]
    simpa using this
  · rw [List.length_append]; exact hown.kept hset (ne hown)
  · refine KeepsOthers.trans (KeepsOthers.of_grownBy (zgrown k) (fun j o hj ho => by cases hj)) (KeepsOthers.trans (KeepsOthers.of_grownBy hg (fun j o hj ho => ?_)) (KeepsOthers.setCell w' _ _))
    obtain ⟨-, cs, h3⟩ := hgr j hj
    rw [h3] at ho; cases ho; rfl
  · have k1 : Below gw W1 w' := (Below.refl gw W1).grown hg (by have := k.size; omega) (fun j hj => by have := (hgr j hj).1; omega)
    exact (k.mono (by omega)).trans (k1.trans ((Below.refl gw w').grown hset (by have := k.size; have := hg.size; omega) (fun j hj => by injection hj with hj; omega)))
  · refine KpT.trans (KpT.below k) (KpT.trans (KpT.grown hg fun j hj => ?_) (KpT.of_ne hset hb (by decide)))
    obtain ⟨-, cs, h3⟩ := hgr j hj
    exact ⟨cs, _, _, h3, by decide⟩
set_option maxRecDepth 20000 in
set_option maxHeartbeats 2000000 in
theorem ruled_no (gw Bs : Nat) (i : Int) (e : EV) (rows : List Value) (ends : List Int) (W : World) (hw : Wh gw rows ends W) (hr : rows.length ≤ 100000) (he : e.rl.isEmpty = true) :
    Calls Tryz.prog 51 #[.int .i64 i, evV e, .pointer (some ⟨Bs, 0, none⟩), .pointer (some ⟨gw, 0, none⟩)] W fun x W' => x = .returned (.int .i64 0) ∧ Wh gw (rows ++ [.slice none 0 0]) ends W' ∧ KeepsOthers W W' ∧ Below gw W W' ∧ KpE W W' := by
  obtain ⟨Ar, cr, Ae, ce, hw⟩ := hw
  have hgl := (Array.getElem?_eq_some_iff.1 hw.blk).1
  obtain ⟨X0, hX0⟩ : ∃ X0, W.alloc (.cells (cE e) 54) = X0 := ⟨_, rfl⟩
  have k0 : Below W.heap.size W X0 := by rw [← hX0]; exact (Below.refl _ W).alloc (Nat.le_refl _) _
  have s0 : X0.heap.size = W.heap.size + 1 := by rw [← hX0]; simp
  have b0 : X0.heap[W.heap.size]? = some (.cells (cE e) 54 (0, 0)) := by rw [← hX0]; exact heap_alloc_new W _
  obtain ⟨X1, hX1⟩ : ∃ X1, X0.alloc (.cells #[.slice none 0 0] 80) = X1 := ⟨_, rfl⟩
  have k1 : Below X0.heap.size X0 X1 := by rw [← hX1]; exact (Below.refl _ X0).alloc (Nat.le_refl _) _
  have s1 : X1.heap.size = W.heap.size + 2 := by rw [← hX1]; simp [s0]
  have p1 : X1.cell? ⟨W.heap.size + 1, 0, none⟩ = some (.slice none 0 0) := by rw [← hX1, ← s0]; simp
  have k01 : Below W.heap.size W X1 := bthen k0 k1
  have H1 := Lib.hid (hw.next k01)
  obtain ⟨x0, x1, x2, x3, x4, x5, x6, x7, x8, x9, x10, x11⟩ := cells12 b0
  obtain ⟨y0, y1⟩ := cel2 (hw.next k0).blk
  have OW := Lib.hid (hw.next k01).rw'
  obtain ⟨of, rl, sv, fm, en, uy, um, dk, dw, dn, sc, ck⟩ := e
  unfold evV
  unfold cE at *
  simp only at *
  have K01 := Lib.hid k01
  clear k01 k0 k1
  subst hX1
  subst hX0
  go_enter Tryz.func51, Tryz.ntmps51
  go_wp2_with (first
    | (refine wpList_rpush (by rfl) (.tmp 19) (.tmp 21) (by rfl) rfl OW.out (by rfl) ⟨W.heap.size + 1, 0, none⟩ _ (by rfl) (by rfl) p1 hr (by simp; omega) ?_; intro A' c' w' hown hg
       have hb1 := (hg.block gw (Array.getElem?_eq_some_iff.1 H1.out.blk).1 (fun e => by have := (OW.out.lt gw e.symm).1; omega)).trans H1.out.blk
       have OW' := Lib.hid hown
       have HG := Lib.hid hg
       have HB := Lib.hid hb1
       obtain ⟨y0', y1'⟩ := cel2 hb1
       have f0 := frz (j := 0) hb1
       clear hown hg hb1 y0 y1))
  go_ret
  exact ⟨rfl, wh_rpush K01.out H1.out hgl OW'.out HG.out⟩
set_option maxRecDepth 20000 in
theorem right_is (Bz : Nat) (Az : Option Addr) (m cz i : Nat) (e : EV) (last : Bool) (ne v : Int) (W : World) (hz : W.cell? ⟨Bz, 1, none⟩ = some (.slice Az m cz)) (hm : m ≤ 4611686018427387904) (hl : Hid (((i : Int) == (m : Int) - 1) = last)) (HA : Hid (LaidB W)) (HF : Hid (e.fm.length ≤ 1000))
    (hN : Hid (e.en = true → ∀ W1, Below W.heap.size W W1 → Calls Tryz.prog 73 #[unV e] W1 fun x W' => ∃ nv, x = .returned (.tuple #[.int .i64 nv, .int .i64 ne]) ∧ Below W1.heap.size W1 W')) (hv : erE e last ne = v) :
    Calls Tryz.prog 53 #[.int .i64 (i : Int), evV e, .pointer (some ⟨Bz, 0, none⟩)] W fun x W' => x = .returned (.int .i64 v) ∧ Below W.heap.size W W' := by
  have k0 : Below W.heap.size W (W.alloc (.cells (cE e) 54)) := (Below.refl _ W).alloc (Nat.le_refl _) _
  have WE := Lib.hid (wera_is e last ne v (W.alloc (.cells (cE e) 54)) (Lib.hid (HA.out.next k0)) HF (Lib.hid fun h W1 k1 => hN.out h W1 (bthen k0 k1)) hv)
  obtain ⟨x0, x1, x2, x3, x4, x5, x6, x7, x8, x9, x10, x11⟩ := cells12 (heap_alloc_new W (.cells (cE e) 54))
  have hz' : (W.alloc (.cells (cE e) 54)).cell? ⟨Bz, 1, none⟩ = some (.slice Az m cz) := (k0.cell (p := ⟨Bz, 1, none⟩) (cell_lt hz)).trans hz
  have K0 := Lib.hid k0
  have b1 : ((i : Int) == (m : Int) - 1) = last := hl.out
  have LB := Lib.hid b1
  clear hv hN hz HF k0 hl b1
  obtain ⟨of, rl, sv, fm, en, uy, um, dk, dw, dn, sc, ck⟩ := e
  unfold evV at *
  unfold cE at *
  simp only at *
  go_enter Tryz.func53, Tryz.ntmps53
  go_wp2_with (first | (go_at_call 54; rw [LB.out]; refine WE.out.mono ?_; rintro x w1 ⟨rfl, k1⟩; simp only []))
  go_ret
  exact ⟨rfl, bthen K0.out k1⟩
set_option maxRecDepth 20000 in
set_option maxHeartbeats 2000000 in
theorem rising_no (gw i : Nat) (e : EV) (rows : List Value) (ends : List Int) (A : Option Addr) (n c : Nat) (W : World) (hw : Wh gw rows ends W) (he : e.en = false) (hr : rows[i]? = some (.slice A n c)) :
    Calls Tryz.prog 55 #[.int .i64 (i : Int), evV e, .pointer (some ⟨gw, 0, none⟩)] W fun x W' => x = .returned (.int .i64 0) ∧ Below W.heap.size W W' := by
  have mixed : Tryz.prog.follows .mixedOrders = true := by kernel_rfl
  have EN : Hid (∀ Y, Calls Tryz.prog 56 #[evV e, .slice A n c] Y fun x W' => x = .returned (.tuple #[.int .i64 0, .int .i64 16]) ∧ Below Y.heap.size Y W') := Lib.hid fun Y => by
    obtain ⟨x0, x1, x2, x3, x4, x5, x6, x7, x8, x9, x10, x11⟩ := cells12 (heap_alloc_new Y (.cells (cE e) 54))
    have k0 : Below Y.heap.size Y (Y.alloc (.cells (cE e) 54)) := (Below.refl _ Y).alloc (Nat.le_refl _) _
    have K0 := Lib.hid k0
    clear k0
    obtain ⟨of, rl, sv, fm, en, uy, um, dk, dw, dn, sc, ck⟩ := e
    unfold evV at *
    unfold cE at *
    simp only at *
    subst he
    go_enter Tryz.func56, Tryz.ntmps56
    go_wp2
    go_ret2
    exact ⟨rfl, K0.out⟩
  obtain ⟨Ar, cr, Ae, ce, hw⟩ := hw
  have hi : i < rows.length := (List.getElem?_eq_some_iff.1 hr).1
  obtain ⟨g, cap, rfl, rfl, hc⟩ := wown_cells hw.rw' (by omega)
  have hcr := hc i _ hr
  have hgl := (Array.getElem?_eq_some_iff.1 hw.blk).1
  have k0 : Below W.heap.size W (W.alloc (.cells (cE e) 54)) := (Below.refl _ W).alloc (Nat.le_refl _) _
  obtain ⟨x0, x1, x2, x3, x4, x5, x6, x7, x8, x9, x10, x11⟩ := cells12 (heap_alloc_new W (.cells (cE e) 54))
  have y0 : (W.alloc (.cells (cE e) 54)).cell? ⟨gw, 0, none⟩ = some (.slice (some ⟨g, 0, none⟩) rows.length cr) := (k0.cell (p := ⟨gw, 0, none⟩) hgl).trans (cel2 hw.blk).1
  have y2 : (W.alloc (.cells (cE e) 54)).cell? ⟨g, i, none⟩ = some (.slice A n c) := (k0.cell (p := ⟨g, i, none⟩) (cell_lt hcr)).trans hcr
  have hiz : (i : Int) < (rows.length : Int) := by omega
  have K0 := Lib.hid k0
  clear k0 hw hc hcr hr
  obtain ⟨of, rl, sv, fm, en, uy, um, dk, dw, dn, sc, ck⟩ := e
  unfold evV at *
  unfold cE at *
  simp only at *
  subst he
  go_enter Tryz.func55, Tryz.ntmps55
  have d0 := bel_cell x0
  have d1 := bel_cell x1
  have d2 := bel_cell x2
  have d3 := bel_cell x3
  have d4 := bel_cell x4
  have d5 := bel_cell x5
  have d6 := bel_cell x6
  have d7 := bel_cell x7
  have d8 := bel_cell x8
  have d9 := bel_cell x9
  have d10 := bel_cell x10
  have d11 := bel_cell x11
  have d12 := bel_cell y0
  have d13 := bel_cell y2
  clear x0 x1 x2 x3 x4 x5 x6 x7 x8 x9 x10 x11 y0 y2
  go_wp2_with fail
  refine region_bel mixed (by kernel_rfl) ?_
  repeat (quiet_step ((go_at_call 56; rename_i y; refine (EN.out _).mono ?_; rintro e w6 ⟨rfl, k6⟩; exact ⟨rfl, ⟨w6, y.k.trans (k6.mono y.k.size)⟩, rfl⟩)))
  refine wpQuiet_nil ?_
  rintro w6 ⟨x6, hx6⟩
  have k6 := Lib.hid (bthen K0.out (hx6 ▸ x6.k))
  clear hx6 x6 d0 d1 d2 d3 d4 d5 d6 d7 d8 d9 d10 d11 d12 d13
  go_wp2
  go_ret
  exact ⟨rfl, k6.out⟩
end Go.Proofs.YtdmfgechoanmlaaGreatDoor
