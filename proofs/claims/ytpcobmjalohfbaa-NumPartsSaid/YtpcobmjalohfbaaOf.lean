/- The contract of the reference's Of: the pieces of any number of 64 bits, each in its bounds, which come to the number; what was in memory stays as it was. -/
import Derived.Test.YtpcobmjalohfbaaEven
namespace Go.Proofs.Ytpcobmjalohfbaa
open Go.RowKit

theorem carry_yes (n lo : Int) (w : World) (h : n < 0) (h2 : (lo != 0) = true) :
    Calls Try.prog 21 #[.int .i64 n, .int .i64 lo] w fun e w' => e = .returned (.int .i64 1) ∧ w = w' := by
  go_enter Try.func21, Try.ntmps21
  go_wp2
  go_ret
  exact ⟨rfl, rfl⟩
theorem carry_pos (n lo : Int) (w : World) (h : 0 ≤ n) :
    Calls Try.prog 21 #[.int .i64 n, .int .i64 lo] w fun e w' => e = .returned (.int .i64 0) ∧ w = w' := by
  go_enter Try.func21, Try.ntmps21
  go_wp2
  go_ret
  exact ⟨rfl, rfl⟩
theorem carry_zero (n : Int) (w : World) (h : n < 0) :
    Calls Try.prog 21 #[.int .i64 n, .int .i64 0] w fun e w' => e = .returned (.int .i64 0) ∧ w = w' := by
  go_enter Try.func21, Try.ntmps21
  go_wp2
  go_ret
  exact ⟨rfl, rfl⟩

def pw : Nat → Int
  | 0 => 1
  | 1 => 65536
  | 2 => 4294967296
  | 3 => 281474976710656
  | _ => 0

def OfInv (w : World) (n : Int) (k : Nat) (z : Int) (wr : World) : Prop :=
  ∃ x, LongAt LT wr (w.heap.size + 1) x ∧ LongAt LT wr w.heap.size (fun _ => 0) ∧ Below w.heap.size w wr ∧ (∀ j, k ≤ j → j < 8 → x j = 0) ∧ (∀ j, j < 4 → -65536 ≤ x j ∧ x j ≤ 65535) ∧ valL x + z * pw k = n ∧ (k < 4 → ∀ j, j < k → 0 ≤ x j)

theorem four (k : Nat) (h : k < 4) : k = 0 ∨ k = 1 ∨ k = 2 ∨ k = 3 := by omega

theorem of_bd {w wr : World} {n z : Int} {k : Nat} (hk : k < 4) (h1 : -9223372036854775808 ≤ n) (h2 : n ≤ 9223372036854775807) (h : OfInv w n k z wr) :
    -9223372036854775808 ≤ z ∧ z ≤ 9223372036854775807 ∧ (k = 3 → -32768 ≤ z ∧ z ≤ 32767) := by
  obtain ⟨x, _, _, _, hz, hb, hv, hp⟩ := h
  have b0 := hb 0 (by omega)
  have b1 := hb 1 (by omega)
  have b2 := hb 2 (by omega)
  have z3 := hz 3 (by omega) (by omega)
  have z4 := hz 4 (by omega) (by omega)
  have z5 := hz 5 (by omega) (by omega)
  have z6 := hz 6 (by omega) (by omega)
  have z7 := hz 7 (by omega) (by omega)
  rcases four k hk with rfl | rfl | rfl | rfl
  · have z0 := hz 0 (by omega) (by omega)
    have z1 := hz 1 (by omega) (by omega)
    have z2 := hz 2 (by omega) (by omega)
    simp only [pw, valL] at hv
    omega
  · have z1 := hz 1 (by omega) (by omega)
    have z2 := hz 2 (by omega) (by omega)
    simp only [pw, valL] at hv
    have p0 := hp (by omega) 0 (by omega)
    omega
  · have z2 := hz 2 (by omega) (by omega)
    simp only [pw, valL] at hv
    have p0 := hp (by omega) 0 (by omega)
    have p1 := hp (by omega) 1 (by omega)
    omega
  · simp only [pw, valL] at hv
    have p0 := hp (by omega) 0 (by omega)
    have p1 := hp (by omega) 1 (by omega)
    have p2 := hp (by omega) 2 (by omega)
    omega

/-- One round ahead of the last one. -/
theorem of_step {w wr : World} {n z lo q : Int} {k : Nat} (hk : k < 3) (h : OfInv w n k z wr) (hl : lo = z % 65536 ∧ q = z / 65536) :
    OfInv w n (k + 1) q (wr.setCell ⟨w.heap.size + 1, k, none⟩ (.int .i64 lo)) := by
  obtain ⟨rfl, rfl⟩ := hl
  obtain ⟨x, hx, h0, hbw, hz, hb, hv, hp⟩ := h
  refine ⟨upd x k (z % 65536), hx.set k _ (by omega), h0.far (by simp) _, hbw.setCell (by simp) _, ?_, ?_, ?_, ?_⟩
  · intro j h1 h2; rw [upd_other _ _ _ _ (by omega)]; exact hz j (by omega) h2
  · intro j h1
    by_cases e : j = k
    · subst e; rw [upd_same]; omega
    · rw [upd_other _ _ _ _ e]; exact hb j h1
  · have hk0 := hz k (by omega) (by omega)
    have : k = 0 ∨ k = 1 ∨ k = 2 := by omega
    rcases this with rfl | rfl | rfl <;> simp [pw, valL, upd] at hv ⊢ <;> omega
  · intro _ j h1
    by_cases e : j = k
    · subst e; rw [upd_same]; omega
    · rw [upd_other _ _ _ _ e]; exact hp (by omega) j (by omega)

/-- The last round. -/
theorem of_last {w wr : World} {n z v : Int} (q : Int) (h : OfInv w n 3 z wr) (hz1 : -32768 ≤ z) (hz2 : z ≤ 32767) (hv : v = z) :
    OfInv w n 4 q (wr.setCell ⟨w.heap.size + 1, 3, none⟩ (.int .i64 v)) := by
  subst hv
  obtain ⟨x, hx, h0, hbw, hz, hb, hv, hp⟩ := h
  refine ⟨upd x 3 v, hx.set 3 _ (by omega), h0.far (by simp) _, hbw.setCell (by simp) _, ?_, ?_, ?_, fun h => by omega⟩
  · intro j h1 h2; rw [upd_other _ _ _ _ (by omega)]; exact hz j (by omega) h2
  · intro j h1
    by_cases e : j = 3
    · subst e; rw [upd_same]; omega
    · rw [upd_other _ _ _ _ e]; exact hb j h1
  · have hk0 := hz 3 (by omega) (by omega)
    simp [pw, valL, upd] at hv ⊢
    omega

theorem of_last2 {w wr : World} {n z v : Int} (q lo : Int) (h : OfInv w n 3 z wr) (hz1 : -32768 ≤ z) (hz2 : z ≤ 32767) (hv : v = z) :
    OfInv w n 4 q ((wr.setCell ⟨w.heap.size + 1, 3, none⟩ (.int .i64 lo)).setCell ⟨w.heap.size + 1, 3, none⟩ (.int .i64 v)) := by
  subst hv
  obtain ⟨x, hx, h0, hbw, hz, hb, hv, hp⟩ := h
  refine ⟨upd (upd x 3 lo) 3 v, (hx.set 3 _ (by omega)).set 3 _ (by omega), (h0.far (by simp) _).far (by simp) _, (hbw.setCell (by simp) _).setCell (by simp) _, ?_, ?_, ?_, fun h => by omega⟩
  · intro j h1 h2; rw [upd_other _ _ _ _ (by omega), upd_other _ _ _ _ (by omega)]; exact hz j (by omega) h2
  · intro j h1
    by_cases e : j = 3
    · subst e; rw [upd_same]; omega
    · rw [upd_other _ _ _ _ e, upd_other _ _ _ _ e]; exact hb j h1
  · have hk0 := hz 3 (by omega) (by omega)
    simp [pw, valL, upd] at hv ⊢
    omega

theorem tdiv_floor (z : Int) (h : z < 0) : (z.tmod 65536 < 0 → z.tdiv 65536 = z / 65536 + 1 ∧ z % 65536 ≠ 0) ∧ (¬ z.tmod 65536 < 0 → z.tdiv 65536 = z / 65536 ∧ z % 65536 = 0) := by
  have h1 := Int.neg_tmod (-z) 65536
  rw [Int.neg_neg] at h1
  have h2 : (-z).tmod 65536 = (-z) % 65536 := Int.tmod_eq_emod_of_nonneg (by omega)
  have h3 := Int.neg_tdiv (-z) 65536
  rw [Int.neg_neg] at h3
  have h4 : (-z).tdiv 65536 = (-z) / 65536 := Int.tdiv_eq_ediv_of_nonneg (by omega)
  omega

set_option maxHeartbeats 1000000 in
theorem of_any (n : Int) (w : World) (hn1 : -9223372036854775808 ≤ n) (hn2 : n ≤ 9223372036854775807) :
    Calls Try.prog 9 #[.int .i64 n] w fun e w' => (∃ y, e = .returned (.agg (cellsL y)) ∧ Norm y ∧ valL y = n) ∧ Below w.heap.size w w' := by
  go_enter Try.func9, Try.ntmps9
  go_wp2
  go_loopw [0, 4] (fun m i wr => ∃ (k : Nat) (z : Int), k ≤ 4 ∧ m = .int .i64 z ∧ i = .int .i64 k ∧ OfInv w n k z wr) (fun _ i _ => 4 - (intOf i).toNat)
  case atStart =>
    refine ⟨0, n, by omega, rfl, rfl, fun _ => 0, ?_, (LongAt.new w LT (fun _ => 0)).alloc _, ((Below.refl _ _).alloc (Nat.le_refl _) _).alloc (by simp) _, fun j _ _ => rfl, fun j _ => ⟨show (-65536 : Int) ≤ 0 by omega, show (0 : Int) ≤ 65535 by omega⟩, by simp [pw, valL], fun _ j h => by omega⟩
    have := LongAt.new (w.alloc (.cells (cellsL (fun _ => 0)) LT)) LT (fun _ => 0)
    rw [World.size_alloc] at this
    exact this
  case round =>
    obtain ⟨k, z, hk, rfl, rfl, hinv⟩ := hrel
    by_cases hlt : k < 4
    · have hz := of_bd hlt hn1 hn2 hinv
      obtain ⟨x, hx, h0, hbw, _⟩ := id hinv
      have hc1 := hx.cell k (by omega)
      have hf1 := hx.frozen k
      have HO := Lib.hid hinv
      clear hinv hx h0 hbw
      generalize x k = xk at *
      obtain ⟨hz1, hz2, hz3⟩ := hz
      obtain ⟨lo, hlo⟩ : ∃ lo, z % 65536 = lo := ⟨_, rfl⟩
      obtain ⟨q, hq⟩ : ∃ q, z / 65536 = q := ⟨_, rfl⟩
      have HL : Hid (lo = z % 65536 ∧ q = z / 65536) := ⟨hlo.symm, hq.symm⟩
      have l1 : 0 ≤ lo ∧ lo < 65536 := by omega
      have l2 : -140737488355328 ≤ q ∧ q ≤ 140737488355328 := by omega
      by_cases hs : 0 ≤ z
      · by_cases hk3 : k = 3
        · subst hk3
          obtain ⟨hz4, hz5⟩ := hz3 rfl
          go_wp2_with (go_at_call 21; refine (carry_pos _ _ _ (by omega)).mono ?_; rintro e w1 ⟨rfl, rfl⟩)
          refine ⟨⟨4, _, by omega, rfl, by go_num, ?_⟩, by simp [intOf]⟩
          exact of_last _ HO.out (by omega) (by omega) (by have := HL.out; omega)
        · have hk4 : ((k : Int) == 3) = false := by simp; omega
          clear hz3
          go_wp2_with (go_at_call 21; refine (carry_pos _ _ _ (by omega)).mono ?_; rintro e w1 ⟨rfl, rfl⟩)
          refine ⟨⟨k + 1, q, by omega, rfl, by go_num, ?_⟩, by simp [intOf]; omega⟩
          exact of_step (by omega) HO.out HL.out
      · have t1 := tmod_low z hs
        have t2 := tdiv_floor z (by omega)
        by_cases hm : z.tmod 65536 < 0
        · have e3 : wrap64 (z.tmod 65536 + 65536) = lo := by rw [wrap64_in _ (by omega) (by omega)]; omega
          have e5 : z.tdiv 65536 = q + 1 := by rw [(t2.1 hm).1, hq]
          have e6 : (lo != 0) = true := by simp; have := (t2.1 hm).2; omega
          clear t1 t2 hlo hq
          by_cases hk3 : k = 3
          · subst hk3
            obtain ⟨hz4, hz5⟩ := hz3 rfl
            go_wp2_with (go_at_call 21; refine (carry_yes _ _ _ (by omega) (by assumption)).mono ?_; rintro e w1 ⟨rfl, rfl⟩)
            refine ⟨⟨4, _, by omega, rfl, by go_num, ?_⟩, by simp [intOf]⟩
            exact of_last2 _ lo HO.out (by omega) (by omega) (by have := HL.out; omega)
          · have hk4 : ((k : Int) == 3) = false := by simp; omega
            clear hz3
            go_wp2_with (go_at_call 21; refine (carry_yes _ _ _ (by omega) (by assumption)).mono ?_; rintro e w1 ⟨rfl, rfl⟩)
            refine ⟨⟨k + 1, q, by omega, rfl, by go_num, ?_⟩, by simp [intOf]; omega⟩
            exact of_step (by omega) HO.out HL.out
        · have e3 : z.tmod 65536 = 0 := by omega
          have e5 : z.tdiv 65536 = q := by rw [(t2.2 hm).1, hq]
          have e6 : lo = 0 := by have := (t2.2 hm).2; omega
          subst e6
          clear t1 t2 hlo hq
          by_cases hk3 : k = 3
          · exfalso
            obtain ⟨hz4, hz5⟩ := hz3 hk3
            have := HL.out
            omega
          · have hk4 : ((k : Int) == 3) = false := by simp; omega
            clear hz3
            go_wp2_with (go_at_call 21; refine (carry_zero _ _ (by omega)).mono ?_; rintro e w1 ⟨rfl, rfl⟩)
            refine ⟨⟨k + 1, q, by omega, rfl, by go_num, ?_⟩, by simp [intOf]; omega⟩
            exact of_step (by omega) HO.out HL.out
    · have hk4 : k = 4 := by omega
      subst hk4
      obtain ⟨x, hx, h0, hbw, hz, hb, hv, hp⟩ := hinv
      have H0 := Lib.hid h0
      have HX := Lib.hid hx
      have HV : Hid (valL x = n) := by simp [pw] at hv; exact hv
      have HB : Hid (∀ j, j < 8 → -4611686018427387904 ≤ x j ∧ x j ≤ 4611686018427387904) := by
        intro j hj
        by_cases h4 : j < 4
        · have := hb j h4; omega
        · rw [hz j (by omega) hj]; omega
      clear hx h0 hz hb hv hp hn1 hn2
      go_wp2_with (first
        | (refine wpList_load_row rfl LT (.tmp 3) rfl (w.heap.size + 1) rfl LT _ (0, 0) _ HX.out Try.underlying25 rfl info_long ?_)
        | (go_at_call 22; refine (even_any x _ HB.out).mono ?_; rintro e w1 ⟨⟨y, rfl, hy1, hy2⟩, hb1⟩
           have H1 := Lib.hid (LongAt.below H0.out hb1 H0.out.lt)
           have HY1 := Lib.hid hy1
           have HY2 := Lib.hid (hy2.trans HV.out)
           clear hy1 hy2)
        | (refine wpList_store_row rfl LT (.tmp 2) (.tmp 36) rfl w.heap.size (cellsL y) rfl rfl LT _ H1.out info_long rfl (cellsL_all _) ?_))
      refine bodyPost_ret (results_cell_row Try.results9 _ _ w.heap.size LT (cellsL y) (0, 0) _ rfl (setRow_long H1.out y) Try.underlying25 rfl info_long) rfl ?_
      exact ⟨⟨y, rfl, HY1.out, HY2.out⟩, below_setRow (below_after hbw hb1 hbw.size) (Nat.le_refl _) _⟩
end Go.Proofs.Ytpcobmjalohfbaa
