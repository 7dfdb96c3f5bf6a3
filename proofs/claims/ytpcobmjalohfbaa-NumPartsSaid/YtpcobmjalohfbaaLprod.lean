/- The contract of the reference's Mul: pieces in their bounds which come to the product of any two numbers of 64 bits; what was in memory stays as it was. -/
import Derived.Test.YtpcobmjalohfbaaLmul
namespace Go.Proofs.Ytpcobmjalohfbaa
open Go.RowKit

/-- The product's pieces behind t rounds. -/
def conv (a b : Nat → Int) : Nat → Nat → Int
  | 0 => fun _ => 0
  | t + 1 => upd (conv a b t) (t / 4 + t % 4) (conv a b t (t / 4 + t % 4) + a (t / 4) * b (t % 4))

theorem prod_bd (x y : Int) (hx : -65536 ≤ x ∧ x ≤ 65536) (hy : -65536 ≤ y ∧ y ≤ 65536) : -4294967296 ≤ x * y ∧ x * y ≤ 4294967296 := by
  have h : (x * y).natAbs ≤ 65536 * 65536 := by
    rw [Int.natAbs_mul]
    exact Nat.mul_le_mul (by omega) (by omega)
  omega

theorem conv_bd (a b : Nat → Int) (ha : ∀ j, j < 4 → -65536 ≤ a j ∧ a j ≤ 65536) (hb : ∀ j, j < 4 → -65536 ≤ b j ∧ b j ≤ 65536) :
    ∀ (t : Nat), t ≤ 16 → ∀ (j : Nat), -4294967296 * (t : Int) ≤ conv a b t j ∧ conv a b t j ≤ 4294967296 * (t : Int)
  | 0, _, j => by simp [conv]
  | t + 1, h, j => by
    have ih := conv_bd a b ha hb t (by omega)
    have hp := prod_bd (a (t / 4)) (b (t % 4)) (ha _ (by omega)) (hb _ (by omega))
    simp only [conv, upd]
    split
    · have := ih (t / 4 + t % 4); omega
    · have := ih j; omega

theorem conv_val (a b : Nat → Int) : valL (conv a b 16) = (a 0 + a 1 * 65536 + a 2 * 4294967296 + a 3 * 281474976710656) * (b 0 + b 1 * 65536 + b 2 * 4294967296 + b 3 * 281474976710656) := by
  simp [valL, conv, upd]
  simp only [Int.add_mul, Int.mul_add]
  have e : ∀ (x y c d : Int), x * c * (y * d) = x * y * (c * d) := fun x y c d => by
    rw [Int.mul_assoc, Int.mul_assoc, Int.mul_left_comm c y d]
  have e1 : ∀ (x y d : Int), x * (y * d) = x * y * d := fun x y d => (Int.mul_assoc _ _ _).symm
  have e2 : ∀ (x y c : Int), x * c * y = x * y * c := fun x y c => Int.mul_right_comm _ _ _
  rw [e1 (a 0) (b 1), e1 (a 0) (b 2), e1 (a 0) (b 3), e2 (a 1) (b 0), e2 (a 2) (b 0), e2 (a 3) (b 0), e (a 1) (b 1), e (a 1) (b 2), e (a 1) (b 3), e (a 2) (b 1), e (a 2) (b 2), e (a 2) (b 3), e (a 3) (b 1), e (a 3) (b 2), e (a 3) (b 3)]
  generalize a 0 * b 0 = p00
  generalize a 0 * b 1 = p01
  generalize a 0 * b 2 = p02
  generalize a 0 * b 3 = p03
  generalize a 1 * b 0 = p10
  generalize a 1 * b 1 = p11
  generalize a 1 * b 2 = p12
  generalize a 1 * b 3 = p13
  generalize a 2 * b 0 = p20
  generalize a 2 * b 1 = p21
  generalize a 2 * b 2 = p22
  generalize a 2 * b 3 = p23
  generalize a 3 * b 0 = p30
  generalize a 3 * b 1 = p31
  generalize a 3 * b 2 = p32
  generalize a 3 * b 3 = p33
  omega

/-- What holds at every round's head: the two factors' pieces, the product's so far, and the result's place. -/
def MulInv (w : World) (ga gb go : Nat) (a b : Nat → Int) (t : Nat) (wr : World) : Prop :=
  FourAt wr ga a ∧ FourAt wr gb b ∧ LongAt LT wr go (conv a b t) ∧ LongAt LT wr w.heap.size (fun _ => 0) ∧ Below w.heap.size w wr
theorem mul_step {w wr : World} {ga gb go i k : Nat} {a b : Nat → Int} {x y u : Int} (hi : i < 4) (hk : k < 4) (h : MulInv w ga gb go a b (4 * i + k) wr) (hga : w.heap.size < ga) (hgb : ga < gb) (hgo : gb < go)
    (hx : a i = x) (hy : b k = y) (hu : conv a b (4 * i + k) (i + k) = u) :
    MulInv w ga gb go a b (4 * i + (k + 1)) (wr.setCell ⟨go, i + k, none⟩ (.int .i64 (u + x * y))).drew := by
  obtain ⟨h1, h2, h3, h4, h5⟩ := h
  subst hx hy hu
  have e1 : (4 * i + k) / 4 = i := by omega
  have e2 : (4 * i + k) % 4 = k := by omega
  have e3 : conv a b (4 * i + (k + 1)) = upd (conv a b (4 * i + k)) (i + k) (conv a b (4 * i + k) (i + k) + a i * b k) := by
    rw [← Nat.add_assoc, conv, e1, e2]
  refine ⟨h1.far (by simp; omega) _, h2.far (by simp; omega) _, ?_, (h4.far (by simp; omega) _).drew, (h5.setCell (by simp; omega) _).drew⟩
  rw [e3]
  exact (h3.set (i + k) _ (by omega)).drew

theorem mul_start {w w1 w2 : World} {a b : Nat → Int} (hb1 : Below (w.alloc (.cells (cellsL fun _ => 0) LT)).heap.size (w.alloc (.cells (cellsL fun _ => 0) LT)) w1)
    (hb2 : Below (w1.alloc (.cells (cells4 a) FT)).heap.size (w1.alloc (.cells (cells4 a) FT)) w2) :
    MulInv w w1.heap.size w2.heap.size (w2.heap.size + 1) a b 0 ((w2.alloc (.cells (cells4 b) FT)).alloc (.cells (cellsL fun _ => 0) LT)) := by
  have z1 : w.heap.size < w1.heap.size := by have := hb1.size; rw [World.size_alloc] at this; omega
  have z2 : w1.heap.size < w2.heap.size := by have := hb2.size; rw [World.size_alloc] at this; omega
  have k1 : FourAt w2 w1.heap.size a := FourAt.below (heap_alloc_new w1 _) hb2 (by simp)
  have k2 : FourAt (w2.alloc (.cells (cells4 b) FT)) w2.heap.size b := heap_alloc_new w2 _
  have k3 := LongAt.new (w2.alloc (.cells (cells4 b) FT)) LT (fun _ => 0)
  rw [World.size_alloc] at k3
  have k4 : LongAt LT w1 w.heap.size (fun _ => 0) := (LongAt.new w LT (fun _ => 0)).below hb1 (by simp)
  have k5 : LongAt LT w2 w.heap.size (fun _ => 0) := (k4.alloc (.cells (cells4 a) FT)).below hb2 (by simp; omega)
  have k6 : Below w.heap.size w w1 := below_after ((Below.refl _ _).alloc (Nat.le_refl _) _) hb1 (by simp)
  have k7 : Below w.heap.size w w2 := below_after (k6.alloc (by omega) _) hb2 (by simp; omega)
  exact ⟨(k1.alloc _).alloc _, k2.alloc _, k3, (k5.alloc _).alloc _, (k7.alloc (by omega) _).alloc (by simp; omega) _⟩

set_option maxHeartbeats 1000000 in
theorem lmul_any (n m : Int) (w : World) (hn1 : -9223372036854775808 ≤ n) (hn2 : n ≤ 9223372036854775807) (hm1 : -9223372036854775808 ≤ m) (hm2 : m ≤ 9223372036854775807) :
    Calls Try.prog 17 #[.int .i64 n, .int .i64 m] w fun e w' => (∃ z, e = .returned (.agg (cellsL z)) ∧ Norm z ∧ valL z = n * m) ∧ Below w.heap.size w w' := by
  go_enter Try.func17, Try.ntmps17
  go_wp2_with fail
  refine (lsigned_any n _ hn1 hn2).mono ?_
  rintro e w1 ⟨⟨a, rfl, ha⟩, hb1⟩
  have HA := Lib.hid ha
  clear ha
  unfold cells4
  go_wp2_with fail
  refine (lsigned_any m _ hm1 hm2).mono ?_
  rintro e w2 ⟨⟨b, rfl, hb⟩, hb2⟩
  have HB := Lib.hid hb
  clear hb
  unfold cells4
  clear hn1 hn2 hm1 hm2
  go_wp2_with fail
  have z1 : w.heap.size < w1.heap.size := by have := hb1.size; rw [World.size_alloc] at this; omega
  have z2 : w1.heap.size < w2.heap.size := by have := hb2.size; rw [World.size_alloc] at this; omega
  have HI := Lib.hid (mul_start (b := b) hb1 hb2)
  clear hb1 hb2
  go_loopw [8] (fun i wr => ∃ k : Nat, k ≤ 4 ∧ i = .int .i64 k ∧ MulInv w w1.heap.size w2.heap.size (w2.heap.size + 1) a b (4 * k) wr) (fun i _ => 4 - (intOf i).toNat)
  case atStart => exact ⟨0, by omega, rfl, HI.out⟩
  case round =>
    obtain ⟨i, hi, rfl, hinv⟩ := hrel
    have HO := Lib.hid hinv
    clear hinv HI
    by_cases hlt : i < 4
    · go_wp2
      go_loopw [9] (fun j ws => ∃ k : Nat, k ≤ 4 ∧ j = .int .i64 k ∧ MulInv w w1.heap.size w2.heap.size (w2.heap.size + 1) a b (4 * i + k) ws) (fun j _ => 4 - (intOf j).toNat)
      case atStart => exact ⟨0, by omega, rfl, HO.out⟩
      case round =>
        obtain ⟨k, hk, rfl, hinv⟩ := hrel
        clear HO
        by_cases hlk : k < 4
        · obtain ⟨h1, h2, h3, _⟩ := id hinv
          have c1 := h1.cell i hlt
          have c2 := h2.cell k hlk
          have c3 := h3.cell (i + k) (by omega)
          have f3 := h3.frozen (i + k)
          have bu := conv_bd a b HA.out.1 HB.out.1 (4 * i + k) (by omega) (i + k)
          have bp := prod_bd (a i) (b k) (HA.out.1 i hlt) (HB.out.1 k hlk)
          have HM := Lib.hid hinv
          clear h1 h2 h3 hinv
          generalize hx : a i = x at *
          generalize hy : b k = y at *
          generalize hu : conv a b (4 * i + k) (i + k) = u at *
          have HXX := Lib.hid hx
          have HYY := Lib.hid hy
          have HUU := Lib.hid hu
          clear hx hy hu
          have bu1 : -68719476736 ≤ u ∧ u ≤ 68719476736 := by omega
          clear bu
          go_wp2
          go_region
          go_wp2
          refine ⟨⟨k + 1, by omega, by go_num, ?_⟩, by simp [intOf]; omega⟩
          exact mul_step hlt hlk HM.out z1 z2 (by omega) HXX.out HYY.out HUU.out
        · have HM := Lib.hid hinv
          clear hinv
          go_wp2
          refine ⟨⟨i + 1, by omega, by go_num, ?_⟩, by simp [intOf]; omega⟩
          have hk4 : k = 4 := by omega
          subst hk4
          exact HM.out
    · have hi4 : i = 4 := by omega
      subst hi4
      obtain ⟨_, _, h3, h4, hbw⟩ := HO.out
      have H3 := Lib.hid h3
      have H4 := Lib.hid h4
      have HBD : Hid (∀ j, j < 8 → -4611686018427387904 ≤ conv a b 16 j ∧ conv a b 16 j ≤ 4611686018427387904) := by
        intro j _
        have := conv_bd a b HA.out.1 HB.out.1 16 (by omega) j
        omega
      have HV : Hid (valL (conv a b 16) = n * m) := by
        show _ = _
        rw [conv_val, HA.out.2, HB.out.2]
      clear h3 h4 HO
      go_wp2_with (first
        | (refine wpList_load_row rfl LT (.tmp 7) rfl (w2.heap.size + 1) rfl LT _ (0, 0) _ H3.out Try.underlying25 rfl info_long ?_)
        | (go_at_call 22; refine (even_any (conv a b 16) _ HBD.out).mono ?_; rintro e w3 ⟨⟨z, rfl, hy1, hy2⟩, hb1⟩
           have H1 := Lib.hid (LongAt.below H4.out hb1 H4.out.lt)
           have HY1 := Lib.hid hy1
           have HY2 := Lib.hid (hy2.trans HV.out)
           clear hy1 hy2)
        | (refine wpList_store_row rfl LT (.tmp 4) (.tmp 40) rfl w.heap.size (cellsL z) rfl rfl LT _ H1.out info_long rfl (cellsL_all _) ?_))
      refine bodyPost_ret (results_cell_row Try.results17 _ _ w.heap.size LT (cellsL z) (0, 0) _ rfl (setRow_long H1.out z) Try.underlying25 rfl info_long) rfl ?_
      exact ⟨⟨z, rfl, HY1.out, HY2.out⟩, below_setRow (below_after hbw hb1 hbw.size) (Nat.le_refl _) _⟩
end Go.Proofs.Ytpcobmjalohfbaa
