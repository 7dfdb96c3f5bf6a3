/- x -/
import Derived.Test.YtpcobmjalohfbaaChecked
import Derived.Test.YtpcobmjalohfbaaPlain
import Derived.Test.YtpcobmjalohfbaaLong
import Derived.WalkKit
import Derived.IntWalk
import Derived.Lib.Hide
import Derived.WalkLawsBesides
import Derived.LoopTactic
import Derived.RegionTactic
import Derived.BigRegion
import Derived.Outline
namespace Go.Proofs.Ytpcobmjalohfbaa
open Go.RowKit

abbrev LT : TypeId := 25

theorem info_long : (Try.prog.info? LT).map (·.size) = some 8 := by kernel_rfl

def EvenInv (w : World) (x : Nat → Int) (k : Nat) (wr : World) : Prop :=
  ∃ y, LongAt LT wr w.heap.size y ∧ LongAt LT wr (w.heap.size + 1) (fun _ => 0) ∧ Below w.heap.size w wr ∧ valL y = valL x ∧ (∀ j, j < k → 0 ≤ y j ∧ y j < 65536) ∧ (∀ j, k < j → j < 8 → y j = x j) ∧ -4611967493404098560 ≤ y k ∧ y k ≤ 4611967493404098560

theorem even_step {w wr : World} {x y : Nat → Int} {k : Nat} {z u lo q : Int} (hk : k < 7) (hx : ∀ j, j < 8 → -4611686018427387904 ≤ x j ∧ x j ≤ 4611686018427387904)
    (h0 : LongAt LT wr w.heap.size y) (h1 : LongAt LT wr (w.heap.size + 1) (fun _ => 0)) (hbw : Below w.heap.size w wr) (hv : valL y = valL x) (hn : ∀ j, j < k → 0 ≤ y j ∧ y j < 65536) (hs : ∀ j, k < j → j < 8 → y j = x j)
    (hz : y k = z) (hu : y (k + 1) = u) (hb1 : -4611967493404098560 ≤ z) (hb2 : z ≤ 4611967493404098560) (hl : lo = z % 65536 ∧ q = z / 65536) :
    EvenInv w x (k + 1) ((wr.setCell ⟨w.heap.size, k + 1, none⟩ (.int .i64 (u + q))).setCell ⟨w.heap.size, k, none⟩ (.int .i64 lo)).drew := by
  obtain ⟨rfl, rfl⟩ := hl
  subst hz hu
  refine ⟨evenTo y k, ((h0.set (k + 1) _ (by omega)).set k _ (by omega)).drew, ((h1.far (by simp) _).far (by simp) _).drew, ((hbw.setCell (Nat.le_refl _) _).setCell (Nat.le_refl _) _).drew, (evenTo_val y k hk).trans hv, ?_, ?_, ?_, ?_⟩
  · intro j hj
    by_cases e : j = k
    · subst e; unfold evenTo; rw [upd_same]; omega
    · unfold evenTo; rw [upd_other _ _ _ _ e, upd_other _ _ _ _ (by omega)]; exact hn j (by omega)
  · intro j hj h8
    unfold evenTo; rw [upd_other _ _ _ _ (by omega), upd_other _ _ _ _ (by omega)]; exact hs j (by omega) h8
  · unfold evenTo; rw [upd_other _ _ _ _ (by omega), upd_same]
    have := hx (k + 1) (by omega); rw [← hs (k + 1) (by omega) (by omega)] at this; omega
  · unfold evenTo; rw [upd_other _ _ _ _ (by omega), upd_same]
    have := hx (k + 1) (by omega); rw [← hs (k + 1) (by omega) (by omega)] at this; omega

theorem tmod_low (z : Int) (h : ¬ 0 ≤ z) : (z.tmod 65536 < 0 → z.tmod 65536 + 65536 = z % 65536) ∧ (¬ z.tmod 65536 < 0 → z.tmod 65536 = z % 65536) := by
  have := Int.neg_tmod (-z) 65536
  rw [Int.neg_neg] at this
  have h2 : (-z).tmod 65536 = (-z) % 65536 := Int.tmod_eq_emod_of_nonneg (by omega)
  omega
theorem tdiv_low (z : Int) : (z - z % 65536).tdiv 65536 = z / 65536 := by
  have h : z - z % 65536 = z / 65536 * 65536 := by omega
  rw [h, Int.mul_tdiv_cancel _ (by omega)]

set_option maxHeartbeats 400000 in
theorem even_any (x : Nat → Int) (w : World) (hx : ∀ j, j < 8 → -4611686018427387904 ≤ x j ∧ x j ≤ 4611686018427387904) :
    Calls Try.prog 22 #[.agg (cellsL x)] w fun e w' => (∃ y, e = .returned (.agg (cellsL y)) ∧ Norm y ∧ valL y = valL x) ∧ Below w.heap.size w w' := by
  have HX := Lib.hid hx
  clear hx
  go_enter Try.func22, Try.ntmps22
  go_wp2
  go_loopw [3] (fun i wr => ∃ k : Nat, k ≤ 7 ∧ i = .int .i64 k ∧ EvenInv w x k wr) (fun i _ => 7 - (intOf i).toNat)
  case atStart =>
    refine ⟨0, by omega, rfl, x, (LongAt.new w LT x).alloc _, ?_, ((Below.refl _ _).alloc (Nat.le_refl _) _).alloc (by simp) _, rfl, fun j h => by omega, fun j _ _ => rfl, ?_, ?_⟩
    · have := LongAt.new (w.alloc (.cells (cellsL x) LT)) LT (fun _ => 0)
      rw [World.size_alloc] at this
      exact this
    · have := HX.out 0 (by omega); omega
    · have := HX.out 0 (by omega); omega
  case round =>
    obtain ⟨k, hk, rfl, y, hy0, hy1, hbw, hval, hnorm, hsame, hb1, hb2⟩ := hrel
    by_cases hlt : k < 7
    · have hc1 := hy0.cell k (by omega)
      have hc2 := hy0.cell (k + 1) (by omega)
      have hf1 := hy0.frozen k
      have hf2 := hy0.frozen (k + 1)
      have hu := HX.out (k + 1) (by omega)
      rw [← hsame (k + 1) (by omega) (by omega)] at hu
      have H0 := Lib.hid hy0
      have H1 := Lib.hid hy1
      have HN := Lib.hid hnorm
      have HS := Lib.hid hsame
      have HV := Lib.hid hval
      clear hy0 hy1 hnorm hsame hval
      generalize hz : y k = z at *
      generalize hv : y (k + 1) = u at *
      have HZ := Lib.hid hz
      have HU := Lib.hid hv
      clear hz hv
      by_cases h0 : 0 ≤ z
      · have r1 : ∃ lo, z % 65536 = lo := ⟨_, rfl⟩
        obtain ⟨lo, r1⟩ := r1
        have r2 : ∃ q, (z - lo) / 65536 = q := ⟨_, rfl⟩
        obtain ⟨q, r2⟩ := r2
        have HL : Hid (lo = z % 65536 ∧ q = z / 65536) := by show _ ∧ _; omega
        have l1 : 0 ≤ lo ∧ lo < 65536 ∧ lo ≤ z := by omega
        have l2 : 0 ≤ q ∧ q ≤ 281474976710656 := by omega
        go_wp2
        go_region
        go_wp2
        refine ⟨⟨k + 1, by omega, by go_num, ?_⟩, by simp [intOf]; omega⟩
        exact even_step hlt HX.out H0.out H1.out hbw HV.out HN.out HS.out HZ.out HU.out hb1 hb2 HL.out
      · obtain ⟨lo, hlo⟩ : ∃ lo, lo = z % 65536 := ⟨_, rfl⟩
        obtain ⟨q, hq⟩ : ∃ q, q = z / 65536 := ⟨_, rfl⟩
        have HL : Hid (lo = z % 65536 ∧ q = z / 65536) := ⟨hlo, hq⟩
        have l1 : 0 ≤ lo ∧ lo < 65536 := by omega
        have l2 : -281474976710656 ≤ q ∧ q ≤ 0 := by omega
        have t1 := tmod_low z h0
        have t2 := tdiv_low z
        rw [← hlo, ← hq] at t2
        rw [← hlo] at t1
        clear hlo hq
        have e4 : wrap64 q = q := wrap64_in _ (by omega) (by omega)
        by_cases h1 : z.tmod 65536 < 0
        · have e3 : wrap64 (z.tmod 65536 + 65536) = lo := by rw [wrap64_in _ (by omega) (by omega)]; exact t1.1 h1
          clear t1
          go_wp2
          go_region
          go_wp2
          refine ⟨⟨k + 1, by omega, by go_num, ?_⟩, by simp [intOf]; omega⟩
          exact even_step hlt HX.out H0.out H1.out hbw HV.out HN.out HS.out HZ.out HU.out hb1 hb2 HL.out
        · have e3 : z.tmod 65536 = lo := t1.2 h1
          clear t1
          go_wp2
          go_region
          go_wp2
          refine ⟨⟨k + 1, by omega, by go_num, ?_⟩, by simp [intOf]; omega⟩
          exact even_step hlt HX.out H0.out H1.out hbw HV.out HN.out HS.out HZ.out HU.out hb1 hb2 HL.out
    · have hk7 : k = 7 := by omega
      subst hk7
      have H0 := Lib.hid hy0
      have H1 := Lib.hid hy1
      have HV := Lib.hid hval
      have HN := Lib.hid hnorm
      clear hy0 hy1 hnorm hsame hval hb1 hb2
      go_wp2_with (first
        | (refine wpList_load_row rfl LT (.tmp 1) rfl w.heap.size rfl LT _ (0, 0) _ H0.out Try.underlying25 rfl info_long ?_)
        | (refine wpList_store_row rfl LT (.tmp 2) (.tmp 34) rfl (w.heap.size + 1) (cellsL y) rfl rfl LT _ H1.out info_long rfl (cellsL_all _) ?_))
      refine bodyPost_ret (results_cell_row Try.results22 _ _ (w.heap.size + 1) LT (cellsL y) (0, 0) _ rfl (setRow_long H1.out y) Try.underlying25 rfl info_long) rfl ?_
      exact ⟨⟨y, rfl, HN.out, HV.out⟩, below_setRow hbw (by omega) _⟩
end Go.Proofs.Ytpcobmjalohfbaa
