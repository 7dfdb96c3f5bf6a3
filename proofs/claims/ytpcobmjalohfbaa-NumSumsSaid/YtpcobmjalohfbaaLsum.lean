/- The contract of the reference's Sum: pieces in their bounds which come to the sum of a slice's numbers (up to 65536 of them); what was in memory stays as it was. -/
import Derived.Test.YtpcobmjalohfbaaLint
namespace Go.Proofs.Ytpcobmjalohfbaa
open Go.RowKit

def LsumInv (w : World) (zs : List Int) (k : Nat) (wr : World) : Prop :=
  ∃ x, LongAt LT wr (w.heap.size + 1) x ∧ LongAt LT wr w.heap.size (fun _ => 0) ∧ Below w.heap.size w wr ∧ Norm x ∧ valL x = (zs.take k).sum

theorem upd8 (x u : Nat → Int) : ∀ j, j < 8 → upd (upd (upd (upd (upd (upd (upd (upd x 0 (u 0)) 1 (u 1)) 2 (u 2)) 3 (u 3)) 4 (u 4)) 5 (u 5)) 6 (u 6)) 7 (u 7) j = u j := by
  intro j hj
  rcases eight j hj with rfl | rfl | rfl | rfl | rfl | rfl | rfl | rfl <;> simp [upd]

theorem lsum_step {w w2 : World} {zs : List Int} {k : Nat} {x u : Nat → Int} (hx : LongAt LT w2 (w.heap.size + 1) x) (h0 : LongAt LT w2 w.heap.size (fun _ => 0)) (hb : Below w.heap.size w w2) (hn : Norm u) (hv : valL u = (zs.take (k + 1)).sum) :
    LsumInv w zs (k + 1) ((((((((w2.setCell ⟨w.heap.size + 1, 0, none⟩ (.int .i64 (u 0))).setCell ⟨w.heap.size + 1, 1, none⟩ (.int .i64 (u 1))).setCell ⟨w.heap.size + 1, 2, none⟩ (.int .i64 (u 2))).setCell ⟨w.heap.size + 1, 3, none⟩ (.int .i64 (u 3))).setCell ⟨w.heap.size + 1, 4, none⟩ (.int .i64 (u 4))).setCell ⟨w.heap.size + 1, 5, none⟩ (.int .i64 (u 5))).setCell ⟨w.heap.size + 1, 6, none⟩ (.int .i64 (u 6))).setCell ⟨w.heap.size + 1, 7, none⟩ (.int .i64 (u 7))) := by
  refine ⟨u, LongAt.congr ((((((((hx.set 0 _ (by omega)).set 1 _ (by omega)).set 2 _ (by omega)).set 3 _ (by omega)).set 4 _ (by omega)).set 5 _ (by omega)).set 6 _ (by omega)).set 7 _ (by omega)) (upd8 x u), ?_, ?_, hn, hv⟩
  · exact (((((((h0.far (by simp) _).far (by simp) _).far (by simp) _).far (by simp) _).far (by simp) _).far (by simp) _).far (by simp) _).far (by simp) _
  · exact (((((((hb.setCell (by simp) _).setCell (by simp) _).setCell (by simp) _).setCell (by simp) _).setCell (by simp) _).setCell (by simp) _).setCell (by simp) _).setCell (by simp) _

set_option maxHeartbeats 2000000 in
theorem lsum_any (a : Option Addr) (cap : Nat) (zs : List Int) (w : World) (h : Ints w a zs) (hl : zs.length ≤ 65536) :
    Calls Try.prog 18 #[.slice a zs.length cap] w fun e w' => (∃ y, e = .returned (.agg (cellsL y)) ∧ Norm y ∧ valL y = zs.sum) ∧ Below w.heap.size w w' := by
  have HI := Lib.hid h
  clear h
  go_enter Try.func18, Try.ntmps18
  go_wp2
  go_loopw [4] (fun i wr => ∃ k : Nat, k ≤ zs.length ∧ i = .int .i64 k ∧ LsumInv w zs k wr) (fun i _ => zs.length - (intOf i).toNat)
  case atStart =>
    refine ⟨0, Nat.zero_le _, rfl, fun _ => 0, ?_, (LongAt.new w LT (fun _ => 0)).alloc _, ((Below.refl _ _).alloc (Nat.le_refl _) _).alloc (by simp) _, fun j _ => ⟨Int.le_refl _, by show (0 : Int) < 65536; omega⟩, by simp [valL]⟩
    have := LongAt.new (w.alloc (.cells (cellsL (fun _ => 0)) LT)) LT (fun _ => 0)
    rw [World.size_alloc] at this
    exact this
  case round =>
    obtain ⟨k, hk, rfl, hinv⟩ := hrel
    by_cases hlt : k < zs.length
    · obtain ⟨x, hx, h0, hbw, hn, hv⟩ := hinv
      obtain ⟨b, off, rfl, hb, hcell⟩ := HI.out.1 k hlt
      have hcell' : wr.cell? ⟨b, off + k, none⟩ = some (.int .i64 (zs.getD k 0)) := by rw [hbw.cell (p := ⟨b, off + k, none⟩) hb]; exact hcell
      have hs := sum_take_bd zs k hl HI.out.2
      have hz := getD_bd zs k hlt HI.out.2
      have HS := Lib.hid (sum_take_succ zs k hlt)
      have HX := Lib.hid hx
      have H0 := Lib.hid h0
      have HN := Lib.hid hn
      have HV := Lib.hid hv
      have HBX := Lib.hid (norm_bd hn (by omega) (by omega))
      have c0 := hx.cell 0 (by omega)
      have c1 := hx.cell 1 (by omega)
      have c2 := hx.cell 2 (by omega)
      have c3 := hx.cell 3 (by omega)
      have c4 := hx.cell 4 (by omega)
      have c5 := hx.cell 5 (by omega)
      have c6 := hx.cell 6 (by omega)
      have c7 := hx.cell 7 (by omega)
      have zx := hx.lt
      clear hcell hx h0 hn hv
      generalize zs.getD k 0 = z at *
      go_wp2
      go_region_with (first
        | (go_at_call 9; refine (of_any z _ hz.1 hz.2).mono ?_; rintro e w1 ⟨⟨y, rfl, n1, v1⟩, k1⟩
           have q1 := Nat.lt_of_lt_of_le zx k1.size
           have HY1 := Lib.hid n1
           have HY2 := Lib.hid v1
           have HX1 := Lib.hid (HX.out.drew.below k1 zx)
           have HBY := Lib.hid (norm_bd n1 (by rw [v1]; omega) (by rw [v1]; omega))
           have c0 := HX1.out.cell 0 (by omega)
           have c1 := HX1.out.cell 1 (by omega)
           have c2 := HX1.out.cell 2 (by omega)
           have c3 := HX1.out.cell 3 (by omega)
           have c4 := HX1.out.cell 4 (by omega)
           have c5 := HX1.out.cell 5 (by omega)
           have c6 := HX1.out.cell 6 (by omega)
           have c7 := HX1.out.cell 7 (by omega)
           clear n1 v1)
        | (go_at_call 15; refine (ladd_any x y _ HBX.out HBY.out).mono ?_; rintro e w2 ⟨⟨u, rfl, n2, v2⟩, k2⟩
           have q2 := Nat.lt_of_lt_of_le q1 k2.size
           have HU1 := Lib.hid n2
           have HU2 := Lib.hid v2
           have HX2 := Lib.hid (HX1.out.below k2 q1)
           have c0 := HX2.out.cell 0 (by omega)
           have c1 := HX2.out.cell 1 (by omega)
           have c2 := HX2.out.cell 2 (by omega)
           have c3 := HX2.out.cell 3 (by omega)
           have c4 := HX2.out.cell 4 (by omega)
           have c5 := HX2.out.cell 5 (by omega)
           have c6 := HX2.out.cell 6 (by omega)
           have c7 := HX2.out.cell 7 (by omega)
           have f0 := HX2.out.frozen 0
           have f1 := HX2.out.frozen 1
           have f2 := HX2.out.frozen 2
           have f3 := HX2.out.frozen 3
           have f4 := HX2.out.frozen 4
           have f5 := HX2.out.frozen 5
           have f6 := HX2.out.frozen 6
           have f7 := HX2.out.frozen 7
           clear n2 v2
           unfold cellsL))
      all_goals
        clear c0 c1 c2 c3 c4 c5 c6 c7 f0 f1 f2 f3 f4 f5 f6 f7
        go_wp2
        refine ⟨⟨k + 1, by omega, by go_num, ?_⟩, by simp [intOf]; omega⟩
        have e1 : Below w.heap.size w w2 := below_after (below_after hbw.drew k1 hbw.size) k2 (Nat.le_trans hbw.size k1.size)
        exact lsum_step HX2.out ((H0.out.drew.below k1 H0.out.lt).below k2 (Nat.lt_of_lt_of_le H0.out.lt k1.size)) e1 HU1.out (by rw [HU2.out, HV.out, HY2.out, HS.out])
    · have hkl : k = zs.length := by omega
      subst hkl
      obtain ⟨x, hx, h0, hbw, hn, hv⟩ := hinv
      rw [List.take_length] at hv
      have HX := Lib.hid hx
      have H0 := Lib.hid h0
      have HN := Lib.hid hn
      have HV := Lib.hid hv
      clear hx h0 hn hv hlt hk
      go_wp2_with (first
        | (refine wpList_load_row rfl LT (.tmp 3) rfl (w.heap.size + 1) rfl LT _ (0, 0) _ HX.out Try.underlying25 rfl info_long ?_)
        | (refine wpList_store_row rfl LT (.tmp 2) (.tmp 18) rfl w.heap.size (cellsL x) rfl rfl LT _ H0.out info_long rfl (cellsL_all _) ?_))
      refine bodyPost_ret (results_cell_row Try.results18 _ _ w.heap.size LT (cellsL x) (0, 0) _ rfl (setRow_long H0.out x) Try.underlying25 rfl info_long) rfl ?_
      exact ⟨⟨x, rfl, HN.out, HV.out⟩, below_setRow hbw (Nat.le_refl _) _⟩
end Go.Proofs.Ytpcobmjalohfbaa
