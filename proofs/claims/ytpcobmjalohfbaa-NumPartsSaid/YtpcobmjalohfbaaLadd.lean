/- The contracts of the reference's Add and Neg: pieces in their bounds which come to the sum, and to the number turned round; what was in memory stays as it was. -/
import Derived.Test.YtpcobmjalohfbaaOf
namespace Go.Proofs.Ytpcobmjalohfbaa
open Go.RowKit

theorem norm_bd {x : Nat → Int} (h : Norm x) (h1 : -1427247692705959881058285969449495136382746624 ≤ valL x) (h2 : valL x ≤ 1427247692705959881058285969449495136382746624) : ∀ j, j < 8 → -2305843009213693952 ≤ x j ∧ x j ≤ 2305843009213693952 := by
  obtain ⟨a0, a1, a2, a3, a4, a5, a6⟩ := norm_parts h
  unfold valL at h1 h2
  intro j hj
  rcases eight j hj with rfl | rfl | rfl | rfl | rfl | rfl | rfl | rfl <;> omega

def addTo (x y : Nat → Int) (k : Nat) : Nat → Int := fun j => if j < k then x j + y j else x j
theorem addTo_step (x y : Nat → Int) (k : Nat) : ∀ j, j < 8 → upd (addTo x y k) k (x k + y k) j = addTo x y (k + 1) j := by
  intro j _
  unfold upd addTo
  by_cases e : j = k
  · subst e; rw [if_pos rfl, if_pos (by omega)]
  · rw [if_neg e]
    by_cases h : j < k
    · rw [if_pos h, if_pos (by omega)]
    · rw [if_neg h, if_neg (by omega)]
def AddInv (w : World) (x y : Nat → Int) (k : Nat) (wr : World) : Prop :=
  LongAt LT wr w.heap.size (addTo x y k) ∧ LongAt LT wr (w.heap.size + 1) y ∧ LongAt LT wr (w.heap.size + 1 + 1) (fun _ => 0) ∧ Below w.heap.size w wr
theorem add_step {w wr : World} {x y : Nat → Int} {k : Nat} {u v : Int} (hk : k < 8) (h : AddInv w x y k wr) (hu : x k = u) (hv : y k = v) :
    AddInv w x y (k + 1) (wr.setCell ⟨w.heap.size, k, none⟩ (.int .i64 (u + v))).drew := by
  subst hu hv
  obtain ⟨h0, h1, h2, hb⟩ := h
  exact ⟨(((h0.set k _ hk).congr (addTo_step x y k))).drew, (h1.far (by simp) _).drew, (h2.far (by simp; omega) _).drew, (hb.setCell (Nat.le_refl _) _).drew⟩
theorem addTo_at (x y : Nat → Int) (k : Nat) : addTo x y k k = x k := by unfold addTo; rw [if_neg (by omega)]
theorem addTo_val (x y : Nat → Int) : valL (addTo x y 8) = valL x + valL y := by simp [valL, addTo]; omega
theorem addTo_8 (x y : Nat → Int) (j : Nat) (h : j < 8) : addTo x y 8 j = x j + y j := by unfold addTo; rw [if_pos h]

set_option maxHeartbeats 400000 in
theorem ladd_any (x y : Nat → Int) (w : World) (hx : ∀ j, j < 8 → -2305843009213693952 ≤ x j ∧ x j ≤ 2305843009213693952) (hy : ∀ j, j < 8 → -2305843009213693952 ≤ y j ∧ y j ≤ 2305843009213693952) :
    Calls Try.prog 15 #[.agg (cellsL x), .agg (cellsL y)] w fun e w' => (∃ z, e = .returned (.agg (cellsL z)) ∧ Norm z ∧ valL z = valL x + valL y) ∧ Below w.heap.size w w' := by
  have HX := Lib.hid hx
  have HY := Lib.hid hy
  clear hx hy
  go_enter Try.func15, Try.ntmps15
  go_wp2
  go_loopw [5] (fun i wr => ∃ k : Nat, k ≤ 8 ∧ i = .int .i64 k ∧ AddInv w x y k wr) (fun i _ => 8 - (intOf i).toNat)
  case atStart =>
    refine ⟨0, by omega, rfl, (((LongAt.new w LT x).alloc _).alloc _).congr fun j _ => by unfold addTo; rw [if_neg (by omega)], ?_, ?_, (((Below.refl _ _).alloc (Nat.le_refl _) _).alloc (by simp) _).alloc (by simp; omega) _⟩
    · have := (LongAt.new (w.alloc (.cells (cellsL x) LT)) LT y).alloc (.cells (cellsL (fun _ => 0)) LT)
      rw [World.size_alloc] at this
      exact this
    · have := LongAt.new ((w.alloc (.cells (cellsL x) LT)).alloc (.cells (cellsL y) LT)) LT (fun _ => 0)
      rw [World.size_alloc, World.size_alloc] at this
      exact this
  case round =>
    obtain ⟨k, hk, rfl, hinv⟩ := hrel
    by_cases hlt : k < 8
    · obtain ⟨h0, h1, _⟩ := id hinv
      have hc1 := h0.cell k hlt
      rw [addTo_at] at hc1
      have hc2 := h1.cell k hlt
      have hf1 := h0.frozen k
      have hu := HX.out k hlt
      have hv := HY.out k hlt
      have HI := Lib.hid hinv
      clear h0 h1 hinv
      generalize hxk : x k = u at *
      generalize hyk : y k = v at *
      have HXK := Lib.hid hxk
      have HYK := Lib.hid hyk
      clear hxk hyk
      go_wp2
      go_region
      go_wp2
      refine ⟨⟨k + 1, by omega, by go_num, ?_⟩, by simp [intOf]; omega⟩
      exact add_step hlt HI.out HXK.out HYK.out
    · have hk8 : k = 8 := by omega
      subst hk8
      obtain ⟨h0, h1, h2, hbw⟩ := hinv
      have H0 := Lib.hid h0
      have H2 := Lib.hid h2
      have HB : Hid (∀ j, j < 8 → -4611686018427387904 ≤ addTo x y 8 j ∧ addTo x y 8 j ≤ 4611686018427387904) := by
        intro j hj
        rw [addTo_8 x y j hj]
        have := HX.out j hj
        have := HY.out j hj
        omega
      clear h0 h1 h2
      go_wp2_with (first
        | (refine wpList_load_row rfl LT (.tmp 2) rfl w.heap.size rfl LT _ (0, 0) _ H0.out Try.underlying25 rfl info_long ?_)
        | (go_at_call 22; refine (even_any (addTo x y 8) _ HB.out).mono ?_; rintro e w1 ⟨⟨z, rfl, hy1, hy2⟩, hb1⟩
           have H1 := Lib.hid (LongAt.below H2.out hb1 H2.out.lt)
           have HY1 := Lib.hid hy1
           have HY2 := Lib.hid (hy2.trans (addTo_val x y))
           clear hy1 hy2)
        | (refine wpList_store_row rfl LT (.tmp 4) (.tmp 20) rfl (w.heap.size + 1 + 1) (cellsL z) rfl rfl LT _ H1.out info_long rfl (cellsL_all _) ?_))
      refine bodyPost_ret (results_cell_row Try.results15 _ _ (w.heap.size + 1 + 1) LT (cellsL z) (0, 0) _ rfl (setRow_long H1.out z) Try.underlying25 rfl info_long) rfl ?_
      exact ⟨⟨z, rfl, HY1.out, HY2.out⟩, below_setRow (below_after hbw hb1 hbw.size) (by omega) _⟩

def negTo (x : Nat → Int) (k : Nat) : Nat → Int := fun j => if j < k then 0 - x j else x j
theorem negTo_step (x : Nat → Int) (k : Nat) : ∀ j, j < 8 → upd (negTo x k) k (0 - x k) j = negTo x (k + 1) j := by
  intro j _
  unfold upd negTo
  by_cases e : j = k
  · subst e; rw [if_pos rfl, if_pos (by omega)]
  · rw [if_neg e]
    by_cases h : j < k
    · rw [if_pos h, if_pos (by omega)]
    · rw [if_neg h, if_neg (by omega)]
def NegInv (w : World) (x : Nat → Int) (k : Nat) (wr : World) : Prop :=
  LongAt LT wr w.heap.size (negTo x k) ∧ LongAt LT wr (w.heap.size + 1) (fun _ => 0) ∧ Below w.heap.size w wr
theorem neg_step {w wr : World} {x : Nat → Int} {k : Nat} {u v : Int} (hk : k < 8) (h : NegInv w x k wr) (hu : x k = u) (hv : v = 0 - u) :
    NegInv w x (k + 1) (wr.setCell ⟨w.heap.size, k, none⟩ (.int .i64 v)) := by
  subst hu hv
  obtain ⟨h0, h1, hb⟩ := h
  exact ⟨(h0.set k _ hk).congr (negTo_step x k), h1.far (by simp) _, hb.setCell (Nat.le_refl _) _⟩
theorem negTo_at (x : Nat → Int) (k : Nat) : negTo x k k = x k := by unfold negTo; rw [if_neg (by omega)]
theorem negTo_val (x : Nat → Int) : valL (negTo x 8) = - valL x := by simp [valL, negTo]; omega
theorem negTo_8 (x : Nat → Int) (j : Nat) (h : j < 8) : negTo x 8 j = 0 - x j := by unfold negTo; rw [if_pos h]

set_option maxHeartbeats 400000 in
theorem lneg_any (x : Nat → Int) (w : World) (hx : ∀ j, j < 8 → -2305843009213693952 ≤ x j ∧ x j ≤ 2305843009213693952) :
    Calls Try.prog 16 #[.agg (cellsL x)] w fun e w' => (∃ z, e = .returned (.agg (cellsL z)) ∧ Norm z ∧ valL z = - valL x) ∧ Below w.heap.size w w' := by
  have HX := Lib.hid hx
  clear hx
  go_enter Try.func16, Try.ntmps16
  go_wp2
  go_loopw [3] (fun i wr => ∃ k : Nat, k ≤ 8 ∧ i = .int .i64 k ∧ NegInv w x k wr) (fun i _ => 8 - (intOf i).toNat)
  case atStart =>
    refine ⟨0, by omega, rfl, ((LongAt.new w LT x).alloc _).congr fun j _ => by unfold negTo; rw [if_neg (by omega)], ?_, ((Below.refl _ _).alloc (Nat.le_refl _) _).alloc (by simp) _⟩
    have := LongAt.new (w.alloc (.cells (cellsL x) LT)) LT (fun _ => 0)
    rw [World.size_alloc] at this
    exact this
  case round =>
    obtain ⟨k, hk, rfl, hinv⟩ := hrel
    by_cases hlt : k < 8
    · obtain ⟨h0, _⟩ := id hinv
      have hc1 := h0.cell k hlt
      rw [negTo_at] at hc1
      have hf1 := h0.frozen k
      have hu := HX.out k hlt
      have HI := Lib.hid hinv
      clear h0 hinv
      generalize hxk : x k = u at *
      have HXK := Lib.hid hxk
      clear hxk
      go_wp2
      refine ⟨⟨k + 1, by omega, by go_num, ?_⟩, by simp [intOf]; omega⟩
      exact neg_step hlt HI.out HXK.out (by omega)
    · have hk8 : k = 8 := by omega
      subst hk8
      obtain ⟨h0, h2, hbw⟩ := hinv
      have H0 := Lib.hid h0
      have H2 := Lib.hid h2
      have HB : Hid (∀ j, j < 8 → -4611686018427387904 ≤ negTo x 8 j ∧ negTo x 8 j ≤ 4611686018427387904) := by
        intro j hj
        rw [negTo_8 x j hj]
        have := HX.out j hj
        omega
      clear h0 h2
      go_wp2_with (first
        | (refine wpList_load_row rfl LT (.tmp 1) rfl w.heap.size rfl LT _ (0, 0) _ H0.out Try.underlying25 rfl info_long ?_)
        | (go_at_call 22; refine (even_any (negTo x 8) _ HB.out).mono ?_; rintro e w1 ⟨⟨z, rfl, hy1, hy2⟩, hb1⟩
           have H1 := Lib.hid (LongAt.below H2.out hb1 H2.out.lt)
           have HY1 := Lib.hid hy1
           have HY2 := Lib.hid (hy2.trans (negTo_val x))
           clear hy1 hy2)
        | (refine wpList_store_row rfl LT (.tmp 2) (.tmp 15) rfl (w.heap.size + 1) (cellsL z) rfl rfl LT _ H1.out info_long rfl (cellsL_all _) ?_))
      refine bodyPost_ret (results_cell_row Try.results16 _ _ (w.heap.size + 1) LT (cellsL z) (0, 0) _ rfl (setRow_long H1.out z) Try.underlying25 rfl info_long) rfl ?_
      exact ⟨⟨z, rfl, HY1.out, HY2.out⟩, below_setRow (below_after hbw hb1 hbw.size) (by omega) _⟩
end Go.Proofs.Ytpcobmjalohfbaa
