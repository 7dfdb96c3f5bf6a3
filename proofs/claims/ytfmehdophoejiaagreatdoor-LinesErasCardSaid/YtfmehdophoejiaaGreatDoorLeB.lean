/- The walks of the reference's Era: no rules, or wrong ahead of them; nothing that was in memory changes. Written by wip/tools/genlre.py. -/
import Derived.Test.YtfmehdophoejiaaGreatDoorLeA
namespace Go.Proofs.YtfmehdophoejiaaGreatDoor
open Go Go.RowKit

set_option maxRecDepth 20000 in
set_option linter.unusedSimpArgs false in
set_option maxHeartbeats 3200000 in
theorem re_f0 (L off c : Nat) (n : Nat) (n3 : ¬ (n : Int) < 3) (n7 : ¬ (7 : Int) < (n : Int)) (p0 p2 : List UInt8) (w : World) (hL : L < w.heap.size)
    (HC0 : CellAt w ⟨L, off, none⟩ p0) (HC2 : CellAt w ⟨L, off + 2, none⟩ p2)
    (l0 : p0.length ≤ 100) (_ : p2.length ≤ 100)
    (v0 : Int) (x : Int) (hx : (x != 0) = true) (H0 : Hid (ofV p0 = v0 ∧ ofE p0 = x)) :
    Calls Tryz.prog 22 #[.slice (some ⟨L, off, none⟩) n c] w fun e w' => e = .returned (.tuple #[evV e0V, .int .i64 x]) ∧ Below w.heap.size w w' := by
  have wc0 := HC0.out (Below.refl _ _)
  have wc2 := HC2.out (Below.refl _ _)
  have hL1 : L < w.heap.size + 1 := by omega
  have hL2 : L < w.heap.size + 1 + 1 := by omega
  have C0 : Hid (∀ W, Calls Tryz.prog 66 #[.string ⟨p0.toArray⟩] W fun e w' => e = .returned (.tuple #[.int .i64 v0, .int .i64 x]) ∧ Below W.heap.size W w') := Lib.hid fun W => roff_is p0 v0 x W (by omega) H0
  clear l0
  go_enter Tryz.func22, Tryz.ntmps22
  go_wp2_with (first
   | (go_at_call 66
      with_reducible refine (C0.out _).mono ?_
      rintro e w1 ⟨rfl, k1⟩
      have X := Lib.hid ((three_blk w _ _ _ _ _ _).1.next k1)
      have Y := Lib.hid ((three_blk w _ _ _ _ _ _).2.1.next k1)
      have O := Lib.hid ((three_blk w _ _ _ _ _ _).2.2.next k1)
      clear k1 wc2 wc0
      have oc0 := cell_of_row _ (w.heap.size + 1 + 1) 0 _ _ (0, 0) O.out.blk
      have of := no_frost O.out.blk
      have oq := row_lt O.out.blk
      obtain ⟨hc0, hc1, hc2, hc3, hc4, hc5, hc6, hc7, hc8, hc9, hc10, hc11⟩ := cells12 X.out.blk
      have hf := no_frost X.out.blk
      have hq := row_lt X.out.blk
      obtain ⟨zc0, zc1, zc2, zc3, zc4, zc5, zc6, zc7, zc8, zc9, zc10, zc11⟩ := cells12 Y.out.blk
      have zq := row_lt Y.out.blk
      simp only []))
  refine ret12 (BlkN.blk (BlkN.other X.out (by omega) (by omega))) rfl _ _ _ _ _ _ _ _ _ _ _ _ (fun W' hrow hgr => ?_)
  obtain ⟨rc0, rc1, rc2, rc3, rc4, rc5, rc6, rc7, rc8, rc9, rc10, rc11⟩ := cells12 hrow
  refine bodyPost_ret (v := .tuple #[evV e0V, .int .i64 x]) (by simp [results, Tryz.results22, go_sem, rc0, rc1, rc2, rc3, rc4, rc5, rc6, rc7, rc8, rc9, rc10, rc11, evV, e0V]) rfl ⟨rfl, ?_⟩
  refine Below.grown (BlkN.bel (BlkN.other X.out (by omega) (by omega))) hgr ?_ (fun j e => by injection e with e; omega)
  exact Below.size (BlkN.bel (BlkN.other X.out (by omega) (by omega)))

set_option maxRecDepth 20000 in
set_option linter.unusedSimpArgs false in
set_option maxHeartbeats 3200000 in
theorem re_f1u (L off c : Nat) (n : Nat) (n3 : ¬ (n : Int) < 3) (n7 : ¬ (7 : Int) < (n : Int)) (p0 p1 p2 : List UInt8) (w : World) (hL : L < w.heap.size)
    (HC0 : CellAt w ⟨L, off, none⟩ p0) (HC1 : CellAt w ⟨L, off + 1, none⟩ p1) (HC2 : CellAt w ⟨L, off + 2, none⟩ p2)
    (l0 : p0.length ≤ 100) (l1 : p1.length ≤ 100) (_ : p2.length ≤ 100)
    (v0 : Int) (H0 : Hid (ofV p0 = v0 ∧ ofE p0 = 0)) (h1 : (p1 == [45]) = false) (lp : ¬ (0 : Int) < (p1.length : Int)) (H1 : Hid (stOk p1 = false)) :
    Calls Tryz.prog 22 #[.slice (some ⟨L, off, none⟩) n c] w fun e w' => e = .returned (.tuple #[evV e0V, .int .i64 23]) ∧ Below w.heap.size w w' := by
  have wc0 := HC0.out (Below.refl _ _)
  have wc2 := HC2.out (Below.refl _ _)
  have hL1 : L < w.heap.size + 1 := by omega
  have hL2 : L < w.heap.size + 1 + 1 := by omega
  have C0 : Hid (∀ W, Calls Tryz.prog 66 #[.string ⟨p0.toArray⟩] W fun e w' => e = .returned (.tuple #[.int .i64 v0, .int .i64 0]) ∧ Below W.heap.size W w') := Lib.hid fun W => roff_is p0 v0 0 W (by omega) H0
  have hz1 := wsize p1
  have C1 : Hid (∀ W, Calls Tryz.prog 15 #[.string ⟨p1.toArray⟩] W fun e w' => e = .returned (.bool false) ∧ Below W.heap.size W w') := Lib.hid fun W => (rset_is p1 false W (by omega) H1).mono fun e w' h => ⟨h.1, h.2 ▸ Below.refl _ _⟩
  clear l0 l1
  go_enter Tryz.func22, Tryz.ntmps22
  go_wp2_with (first
   | (go_at_call 66
      with_reducible refine (C0.out _).mono ?_
      rintro e w1 ⟨rfl, k1⟩
      have X := Lib.hid ((three_blk w _ _ _ _ _ _).1.next k1)
      have Y := Lib.hid ((three_blk w _ _ _ _ _ _).2.1.next k1)
      have O := Lib.hid ((three_blk w _ _ _ _ _ _).2.2.next k1)
      clear k1 wc2 wc0
      have wc1 := HC1.out X.out.bel
      have lq1 := wcell_lt wc1
      have oc0 := cell_of_row _ (w.heap.size + 1 + 1) 0 _ _ (0, 0) O.out.blk
      have of := no_frost O.out.blk
      have oq := row_lt O.out.blk
      simp only [])
   | (go_at_call 15
      with_reducible refine (C1.out _).mono ?_
      rintro e w2 ⟨rfl, k2⟩
      replace X := Lib.hid ((X.out.other (by omega) (by omega)).next k2)
      replace Y := Lib.hid ((Y.out.other (by omega) (by omega)).next k2)
      replace O : Hid (BlkN w (w.heap.size + 1 + 1) #[.int .i64 v0, .string ⟨#[]⟩, .int .i64 0, .string ⟨p2.toArray⟩, .bool false, .int .i64 0, .int .i64 0, .int .i64 0, .int .i64 0, .int .i64 0, .int .i64 0, .int .i64 0] 40 w2) := Lib.hid (((O.out.put).next k2).cast rfl)
      clear k2 wc1 lq1 oc0 of oq
      have wc2 := HC2.out X.out.bel
      have lq2 := wcell_lt wc2
      obtain ⟨hc0, hc1, hc2, hc3, hc4, hc5, hc6, hc7, hc8, hc9, hc10, hc11⟩ := cells12 X.out.blk
      have hf := no_frost X.out.blk
      have hq := row_lt X.out.blk
      obtain ⟨zc0, zc1, zc2, zc3, zc4, zc5, zc6, zc7, zc8, zc9, zc10, zc11⟩ := cells12 Y.out.blk
      have zq := row_lt Y.out.blk
      simp only []))
  refine ret12 (BlkN.blk X.out) rfl _ _ _ _ _ _ _ _ _ _ _ _ (fun W' hrow hgr => ?_)
  obtain ⟨rc0, rc1, rc2, rc3, rc4, rc5, rc6, rc7, rc8, rc9, rc10, rc11⟩ := cells12 hrow
  refine bodyPost_ret (v := .tuple #[evV e0V, .int .i64 23]) (by simp [results, Tryz.results22, go_sem, rc0, rc1, rc2, rc3, rc4, rc5, rc6, rc7, rc8, rc9, rc10, rc11, evV, e0V]) rfl ⟨rfl, ?_⟩
  refine Below.grown (BlkN.bel X.out) hgr ?_ (fun j e => by injection e with e; omega)
  exact Below.size (BlkN.bel X.out)

set_option maxRecDepth 20000 in
set_option linter.unusedSimpArgs false in
set_option maxHeartbeats 3200000 in
theorem re_f2d (L off c : Nat) (n : Nat) (n3 : ¬ (n : Int) < 3) (n7 : ¬ (7 : Int) < (n : Int)) (p0 p1 p2 : List UInt8) (w : World) (hL : L < w.heap.size)
    (HC0 : CellAt w ⟨L, off, none⟩ p0) (HC1 : CellAt w ⟨L, off + 1, none⟩ p1) (HC2 : CellAt w ⟨L, off + 2, none⟩ p2)
    (l0 : p0.length ≤ 100) (_ : p1.length ≤ 100) (l2 : p2.length ≤ 100)
    (v0 : Int) (H0 : Hid (ofV p0 = v0 ∧ ofE p0 = 0)) (h1 : (p1 == [45]) = true) (H2 : Hid (fmOk p2 = false)) :
    Calls Tryz.prog 22 #[.slice (some ⟨L, off, none⟩) n c] w fun e w' => e = .returned (.tuple #[evV e0V, .int .i64 12]) ∧ Below w.heap.size w w' := by
  have wc0 := HC0.out (Below.refl _ _)
  have wc2 := HC2.out (Below.refl _ _)
  have hL1 : L < w.heap.size + 1 := by omega
  have hL2 : L < w.heap.size + 1 + 1 := by omega
  have C0 : Hid (∀ W, Calls Tryz.prog 66 #[.string ⟨p0.toArray⟩] W fun e w' => e = .returned (.tuple #[.int .i64 v0, .int .i64 0]) ∧ Below W.heap.size W w') := Lib.hid fun W => roff_is p0 v0 0 W (by omega) H0
  have C2 : Hid (∀ W, Calls Tryz.prog 17 #[.string ⟨p2.toArray⟩] W fun e w' => e = .returned (.bool false) ∧ Below W.heap.size W w') := Lib.hid fun W => rformat_is p2 false W (by omega) H2
  clear l0 l2
  go_enter Tryz.func22, Tryz.ntmps22
  go_wp2_with (first
   | (go_at_call 66
      with_reducible refine (C0.out _).mono ?_
      rintro e w1 ⟨rfl, k1⟩
      have X := Lib.hid ((three_blk w _ _ _ _ _ _).1.next k1)
      have Y := Lib.hid ((three_blk w _ _ _ _ _ _).2.1.next k1)
      have O := Lib.hid ((three_blk w _ _ _ _ _ _).2.2.next k1)
      clear k1 wc2 wc0
      have wc1 := HC1.out X.out.bel
      have lq1 := wcell_lt wc1
      have wc2 := HC2.out X.out.bel
      have lq2 := wcell_lt wc2
      have oc0 := cell_of_row _ (w.heap.size + 1 + 1) 0 _ _ (0, 0) O.out.blk
      have of := no_frost O.out.blk
      have oq := row_lt O.out.blk
      simp only [])
   | (go_at_call 17
      with_reducible refine (C2.out _).mono ?_
      rintro e w3 ⟨rfl, k3⟩
      replace X := Lib.hid ((X.out.other (by omega) (by omega)).next k3)
      replace Y := Lib.hid ((Y.out.other (by omega) (by omega)).next k3)
      replace O : Hid (BlkN w (w.heap.size + 1 + 1) #[.int .i64 v0, .string ⟨#[]⟩, .int .i64 0, .string ⟨p2.toArray⟩, .bool false, .int .i64 0, .int .i64 0, .int .i64 0, .int .i64 0, .int .i64 0, .int .i64 0, .int .i64 0] 40 w3) := Lib.hid (((O.out.put).next k3).cast rfl)
      clear k3 wc1 lq1 wc2 lq2 oc0 of oq
      obtain ⟨hc0, hc1, hc2, hc3, hc4, hc5, hc6, hc7, hc8, hc9, hc10, hc11⟩ := cells12 X.out.blk
      have hf := no_frost X.out.blk
      have hq := row_lt X.out.blk
      obtain ⟨zc0, zc1, zc2, zc3, zc4, zc5, zc6, zc7, zc8, zc9, zc10, zc11⟩ := cells12 Y.out.blk
      have zq := row_lt Y.out.blk
      simp only []))
  refine ret12 (BlkN.blk X.out) rfl _ _ _ _ _ _ _ _ _ _ _ _ (fun W' hrow hgr => ?_)
  obtain ⟨rc0, rc1, rc2, rc3, rc4, rc5, rc6, rc7, rc8, rc9, rc10, rc11⟩ := cells12 hrow
  refine bodyPost_ret (v := .tuple #[evV e0V, .int .i64 12]) (by simp [results, Tryz.results22, go_sem, rc0, rc1, rc2, rc3, rc4, rc5, rc6, rc7, rc8, rc9, rc10, rc11, evV, e0V]) rfl ⟨rfl, ?_⟩
  refine Below.grown (BlkN.bel X.out) hgr ?_ (fun j e => by injection e with e; omega)
  exact Below.size (BlkN.bel X.out)

set_option maxRecDepth 20000 in
set_option linter.unusedSimpArgs false in
set_option maxHeartbeats 3200000 in
theorem re_f3d (L off c : Nat) (n : Nat) (n3 : ¬ (n : Int) < 3) (n7 : ¬ (7 : Int) < (n : Int)) (e3 : ((n : Int) == 3) = false) (g3 : (3 : Int) < (n : Int)) (p0 p1 p2 p3 : List UInt8) (w : World) (hL : L < w.heap.size)
    (HC0 : CellAt w ⟨L, off, none⟩ p0) (HC1 : CellAt w ⟨L, off + 1, none⟩ p1) (HC2 : CellAt w ⟨L, off + 2, none⟩ p2) (HC3 : CellAt w ⟨L, off + 3, none⟩ p3)
    (l0 : p0.length ≤ 100) (_ : p1.length ≤ 100) (l2 : p2.length ≤ 100) (l3 : p3.length ≤ 100)
    (v0 : Int) (H0 : Hid (ofV p0 = v0 ∧ ofE p0 = 0)) (h1 : (p1 == [45]) = true) (H2 : Hid (fmOk p2 = true)) (y : Int) (x : Int) (hx : (x != 0) = true) (H3 : Hid (nrV p3 = y ∧ nrE p3 = x)) :
    Calls Tryz.prog 22 #[.slice (some ⟨L, off, none⟩) n c] w fun e w' => e = .returned (.tuple #[evV e0V, .int .i64 x]) ∧ Below w.heap.size w w' := by
  have wc0 := HC0.out (Below.refl _ _)
  have wc2 := HC2.out (Below.refl _ _)
  have hL1 : L < w.heap.size + 1 := by omega
  have hL2 : L < w.heap.size + 1 + 1 := by omega
  have C0 : Hid (∀ W, Calls Tryz.prog 66 #[.string ⟨p0.toArray⟩] W fun e w' => e = .returned (.tuple #[.int .i64 v0, .int .i64 0]) ∧ Below W.heap.size W w') := Lib.hid fun W => roff_is p0 v0 0 W (by omega) H0
  have C2 : Hid (∀ W, Calls Tryz.prog 17 #[.string ⟨p2.toArray⟩] W fun e w' => e = .returned (.bool true) ∧ Below W.heap.size W w') := Lib.hid fun W => rformat_is p2 true W (by omega) H2
  have C3 : Hid (∀ W, Calls Tryz.prog 61 #[.string ⟨p3.toArray⟩] W fun e w' => e = .returned (.tuple #[.int .i64 y, .int .i64 x]) ∧ Below W.heap.size W w') := Lib.hid fun W => (rnumber_is p3 y x W (by omega) H3).mono fun e w' h => ⟨h.1, h.2 ▸ Below.refl _ _⟩
  clear l0 l2 l3
  go_enter Tryz.func22, Tryz.ntmps22
  go_wp2_with (first
   | (go_at_call 66
      with_reducible refine (C0.out _).mono ?_
      rintro e w1 ⟨rfl, k1⟩
      have X := Lib.hid ((three_blk w _ _ _ _ _ _).1.next k1)
      have Y := Lib.hid ((three_blk w _ _ _ _ _ _).2.1.next k1)
      have O := Lib.hid ((three_blk w _ _ _ _ _ _).2.2.next k1)
      clear k1 wc2 wc0
      have wc1 := HC1.out X.out.bel
      have lq1 := wcell_lt wc1
      have wc2 := HC2.out X.out.bel
      have lq2 := wcell_lt wc2
      have oc0 := cell_of_row _ (w.heap.size + 1 + 1) 0 _ _ (0, 0) O.out.blk
      have of := no_frost O.out.blk
      have oq := row_lt O.out.blk
      simp only [])
   | (go_at_call 17
      with_reducible refine (C2.out _).mono ?_
      rintro e w3 ⟨rfl, k3⟩
      replace X := Lib.hid ((X.out.other (by omega) (by omega)).next k3)
      replace Y := Lib.hid ((Y.out.other (by omega) (by omega)).next k3)
      replace O : Hid (BlkN w (w.heap.size + 1 + 1) #[.int .i64 v0, .string ⟨#[]⟩, .int .i64 0, .string ⟨p2.toArray⟩, .bool false, .int .i64 0, .int .i64 0, .int .i64 0, .int .i64 0, .int .i64 0, .int .i64 0, .int .i64 0] 40 w3) := Lib.hid (((O.out.put).next k3).cast rfl)
      clear k3 wc1 lq1 wc2 lq2 oc0 of oq
      have wc3 := HC3.out X.out.bel
      have lq3 := wcell_lt wc3
      obtain ⟨-, -, -, -, oc4, oc5, oc6, oc7, oc8, oc9, oc10, oc11⟩ := cells12 O.out.blk
      have of := no_frost O.out.blk
      have oq := row_lt O.out.blk
      simp only [])
   | (go_at_call 61
      with_reducible refine (C3.out _).mono ?_
      rintro e w4 ⟨rfl, k4⟩
      replace X := Lib.hid (((((((((X.out.other (by omega) (by omega)).other (by omega) (by omega)).other (by omega) (by omega)).other (by omega) (by omega)).other (by omega) (by omega)).other (by omega) (by omega)).other (by omega) (by omega)).other (by omega) (by omega)).next k4)
      replace Y := Lib.hid (((((((((Y.out.other (by omega) (by omega)).other (by omega) (by omega)).other (by omega) (by omega)).other (by omega) (by omega)).other (by omega) (by omega)).other (by omega) (by omega)).other (by omega) (by omega)).other (by omega) (by omega)).next k4)
      replace O : Hid (BlkN w (w.heap.size + 1 + 1) #[.int .i64 v0, .string ⟨#[]⟩, .int .i64 0, .string ⟨p2.toArray⟩, .bool true, .int .i64 0, .int .i64 1, .int .i64 0, .int .i64 0, .int .i64 1, .int .i64 0, .int .i64 0] 40 w4) := Lib.hid (by have h := (((((((((O.out.put).put).put).put).put).put).put).put).next k4); simp only [List.setIfInBounds_toArray, List.set_cons_succ, List.set_cons_zero] at h; exact h)
      clear k4 wc3 lq3 oc4 oc5 oc6 oc7 oc8 oc9 oc10 oc11 of oq
      have oc5 := cell_of_row _ (w.heap.size + 1 + 1) 5 _ _ (0, 0) O.out.blk
      have of := no_frost O.out.blk
      have oq := row_lt O.out.blk
      obtain ⟨hc0, hc1, hc2, hc3, hc4, hc5, hc6, hc7, hc8, hc9, hc10, hc11⟩ := cells12 X.out.blk
      have hf := no_frost X.out.blk
      have hq := row_lt X.out.blk
      obtain ⟨zc0, zc1, zc2, zc3, zc4, zc5, zc6, zc7, zc8, zc9, zc10, zc11⟩ := cells12 Y.out.blk
      have zq := row_lt Y.out.blk
      simp only []))
  refine ret12 (BlkN.blk (BlkN.other X.out (by omega) (by omega))) rfl _ _ _ _ _ _ _ _ _ _ _ _ (fun W' hrow hgr => ?_)
  obtain ⟨rc0, rc1, rc2, rc3, rc4, rc5, rc6, rc7, rc8, rc9, rc10, rc11⟩ := cells12 hrow
  refine bodyPost_ret (v := .tuple #[evV e0V, .int .i64 x]) (by simp [results, Tryz.results22, go_sem, rc0, rc1, rc2, rc3, rc4, rc5, rc6, rc7, rc8, rc9, rc10, rc11, evV, e0V]) rfl ⟨rfl, ?_⟩
  refine Below.grown (BlkN.bel (BlkN.other X.out (by omega) (by omega))) hgr ?_ (fun j e => by injection e with e; omega)
  exact Below.size (BlkN.bel (BlkN.other X.out (by omega) (by omega)))

set_option maxRecDepth 20000 in
set_option linter.unusedSimpArgs false in
set_option maxHeartbeats 3200000 in
theorem re_f4d (L off c : Nat) (n : Nat) (n3 : ¬ (n : Int) < 3) (n7 : ¬ (7 : Int) < (n : Int)) (e3 : ((n : Int) == 3) = false) (g3 : (3 : Int) < (n : Int)) (g4 : (4 : Int) < (n : Int)) (p0 p1 p2 p3 p4 : List UInt8) (w : World) (hL : L < w.heap.size)
    (HC0 : CellAt w ⟨L, off, none⟩ p0) (HC1 : CellAt w ⟨L, off + 1, none⟩ p1) (HC2 : CellAt w ⟨L, off + 2, none⟩ p2) (HC3 : CellAt w ⟨L, off + 3, none⟩ p3) (HC4 : CellAt w ⟨L, off + 4, none⟩ p4)
    (l0 : p0.length ≤ 100) (_ : p1.length ≤ 100) (l2 : p2.length ≤ 100) (l3 : p3.length ≤ 100) (l4 : p4.length ≤ 100)
    (v0 : Int) (H0 : Hid (ofV p0 = v0 ∧ ofE p0 = 0)) (h1 : (p1 == [45]) = true) (H2 : Hid (fmOk p2 = true)) (y : Int) (H3 : Hid (nrV p3 = y ∧ nrE p3 = 0)) (H4 : Hid (wantZ (findL (low p4) monthsL) = (-1))) :
    Calls Tryz.prog 22 #[.slice (some ⟨L, off, none⟩) n c] w fun e w' => e = .returned (.tuple #[evV e0V, .int .i64 13]) ∧ Below w.heap.size w w' := by
  have wc0 := HC0.out (Below.refl _ _)
  have wc2 := HC2.out (Below.refl _ _)
  have hL1 : L < w.heap.size + 1 := by omega
  have hL2 : L < w.heap.size + 1 + 1 := by omega
  have C0 : Hid (∀ W, Calls Tryz.prog 66 #[.string ⟨p0.toArray⟩] W fun e w' => e = .returned (.tuple #[.int .i64 v0, .int .i64 0]) ∧ Below W.heap.size W w') := Lib.hid fun W => roff_is p0 v0 0 W (by omega) H0
  have C2 : Hid (∀ W, Calls Tryz.prog 17 #[.string ⟨p2.toArray⟩] W fun e w' => e = .returned (.bool true) ∧ Below W.heap.size W w') := Lib.hid fun W => rformat_is p2 true W (by omega) H2
  have C3 : Hid (∀ W, Calls Tryz.prog 61 #[.string ⟨p3.toArray⟩] W fun e w' => e = .returned (.tuple #[.int .i64 y, .int .i64 0]) ∧ Below W.heap.size W w') := Lib.hid fun W => (rnumber_is p3 y 0 W (by omega) H3).mono fun e w' h => ⟨h.1, h.2 ▸ Below.refl _ _⟩
  have C4 : Hid (∀ L W, ListAt L monthsL W → Calls Tryz.prog 62 #[.string ⟨p4.toArray⟩, .slice (some ⟨L, 0, none⟩) 12 12] W fun e w' => e = .returned (.int .i64 (-1)) ∧ Below W.heap.size W w') := Lib.hid fun L W hL => rfind_is p4 monthsL L 12 (-1) W l4 rfl (by omega) months_100 hL H4
  have wr4 : IntKind.i64.wrap ((-1) + 1 : Int) = (-1) + 1 := w64 (by omega) (by omega)
  clear l0 l2 l3 l4
  go_enter Tryz.func22, Tryz.ntmps22
  go_wp2_with (first
   | (go_at_call 66
      with_reducible refine (C0.out _).mono ?_
      rintro e w1 ⟨rfl, k1⟩
      have X := Lib.hid ((three_blk w _ _ _ _ _ _).1.next k1)
      have Y := Lib.hid ((three_blk w _ _ _ _ _ _).2.1.next k1)
      have O := Lib.hid ((three_blk w _ _ _ _ _ _).2.2.next k1)
      clear k1 wc2 wc0
      have wc1 := HC1.out X.out.bel
      have lq1 := wcell_lt wc1
      have wc2 := HC2.out X.out.bel
      have lq2 := wcell_lt wc2
      have oc0 := cell_of_row _ (w.heap.size + 1 + 1) 0 _ _ (0, 0) O.out.blk
      have of := no_frost O.out.blk
      have oq := row_lt O.out.blk
      simp only [])
   | (go_at_call 17
      with_reducible refine (C2.out _).mono ?_
      rintro e w3 ⟨rfl, k3⟩
      replace X := Lib.hid ((X.out.other (by omega) (by omega)).next k3)
      replace Y := Lib.hid ((Y.out.other (by omega) (by omega)).next k3)
      replace O : Hid (BlkN w (w.heap.size + 1 + 1) #[.int .i64 v0, .string ⟨#[]⟩, .int .i64 0, .string ⟨p2.toArray⟩, .bool false, .int .i64 0, .int .i64 0, .int .i64 0, .int .i64 0, .int .i64 0, .int .i64 0, .int .i64 0] 40 w3) := Lib.hid (((O.out.put).next k3).cast rfl)
      clear k3 wc1 lq1 wc2 lq2 oc0 of oq
      have wc3 := HC3.out X.out.bel
      have lq3 := wcell_lt wc3
      obtain ⟨-, -, -, -, oc4, oc5, oc6, oc7, oc8, oc9, oc10, oc11⟩ := cells12 O.out.blk
      have of := no_frost O.out.blk
      have oq := row_lt O.out.blk
      simp only [])
   | (go_at_call 61
      with_reducible refine (C3.out _).mono ?_
      rintro e w4 ⟨rfl, k4⟩
      replace X := Lib.hid (((((((((X.out.other (by omega) (by omega)).other (by omega) (by omega)).other (by omega) (by omega)).other (by omega) (by omega)).other (by omega) (by omega)).other (by omega) (by omega)).other (by omega) (by omega)).other (by omega) (by omega)).next k4)
      replace Y := Lib.hid (((((((((Y.out.other (by omega) (by omega)).other (by omega) (by omega)).other (by omega) (by omega)).other (by omega) (by omega)).other (by omega) (by omega)).other (by omega) (by omega)).other (by omega) (by omega)).other (by omega) (by omega)).next k4)
      replace O : Hid (BlkN w (w.heap.size + 1 + 1) #[.int .i64 v0, .string ⟨#[]⟩, .int .i64 0, .string ⟨p2.toArray⟩, .bool true, .int .i64 0, .int .i64 1, .int .i64 0, .int .i64 0, .int .i64 1, .int .i64 0, .int .i64 0] 40 w4) := Lib.hid (by have h := (((((((((O.out.put).put).put).put).put).put).put).put).next k4); simp only [List.setIfInBounds_toArray, List.set_cons_succ, List.set_cons_zero] at h; exact h)
      clear k4 wc3 lq3 oc4 oc5 oc6 oc7 oc8 oc9 oc10 oc11 of oq
      have wc4 := HC4.out X.out.bel
      have lq4 := wcell_lt wc4
      have oc5 := cell_of_row _ (w.heap.size + 1 + 1) 5 _ _ (0, 0) O.out.blk
      have of := no_frost O.out.blk
      have oq := row_lt O.out.blk
      simp only []))
  have KB : (w4.setCell ⟨(w.heap.size + 1 + 1), 5, none⟩ (Value.int IntKind.i64 y)).drew.cell? ⟨L, off + 4, none⟩ = some (.string ⟨p4.toArray⟩) := HC4.out (bdrew (bset X.out.bel (by omega)))
  go_region_held3 (fun w' => w'.cell? ⟨L, off + 4, none⟩ = some (.string ⟨p4.toArray⟩)) (first | exact KB | exact wc4 | go_keep | exact HC4.out (bset (bthen (bthen (bdrew (bset X.out.bel (by omega))) k5) k6) (by omega)) | exact HC4.out (bset X.out.bel (by omega)) | exact HC4.out (bdrew (bset X.out.bel (by omega))) | exact HC4.out (bthen (bdrew (bset X.out.bel (by omega))) k5) | exact HC4.out (bthen (bthen (bdrew (bset X.out.bel (by omega))) k5) k6)) (first
    | (go_at_call 63; refine (rmonths_any _).mono ?_; rintro e w5 ⟨Lm, rfl, hL1, hL2, k5⟩)
    | (go_at_call 62
       refine (C4.out Lm _ hL2).mono ?_
       rintro e w6 ⟨rfl, k6⟩
       have X2 := Lib.hid (((X.out.other (by omega) (by omega)).drew.next k5).next k6)
       have Y2 := Lib.hid (((Y.out.other (by omega) (by omega)).drew.next k5).next k6)
       have O2 : Hid (BlkN w (w.heap.size + 1 + 1) #[.int .i64 v0, .string ⟨#[]⟩, .int .i64 0, .string ⟨p2.toArray⟩, .bool true, .int .i64 y, .int .i64 1, .int .i64 0, .int .i64 0, .int .i64 1, .int .i64 0, .int .i64 0] 40 w6) := Lib.hid ((((O.out.put).drew.next k5).next k6).cast rfl)
       have pc6 := cell_of_row _ (w.heap.size + 1 + 1) 6 _ _ (0, 0) O2.out.blk
       have pf := no_frost O2.out.blk
       have pq := row_lt O2.out.blk
       obtain ⟨hc0, hc1, hc2, hc3, hc4, hc5, hc6, hc7, hc8, hc9, hc10, hc11⟩ := cells12 X2.out.blk
       have hf := no_frost X2.out.blk
       have hq := row_lt X2.out.blk
       obtain ⟨zc0, zc1, zc2, zc3, zc4, zc5, zc6, zc7, zc8, zc9, zc10, zc11⟩ := cells12 Y2.out.blk
       have zq := row_lt Y2.out.blk))
  clear KB k5 k6 hL1 hL2 X Y O wc4 lq4 oc5 of oq
  have X := X2
  have Y := Y2
  have O := O2
  clear X2 Y2 O2
  go_wp2
  refine ret12 (BlkN.blk (BlkN.other X.out (by omega) (by omega))) rfl _ _ _ _ _ _ _ _ _ _ _ _ (fun W' hrow hgr => ?_)
  obtain ⟨rc0, rc1, rc2, rc3, rc4, rc5, rc6, rc7, rc8, rc9, rc10, rc11⟩ := cells12 hrow
  refine bodyPost_ret (v := .tuple #[evV e0V, .int .i64 13]) (by simp [results, Tryz.results22, go_sem, rc0, rc1, rc2, rc3, rc4, rc5, rc6, rc7, rc8, rc9, rc10, rc11, evV, e0V]) rfl ⟨rfl, ?_⟩
  refine Below.grown (BlkN.bel (BlkN.other X.out (by omega) (by omega))) hgr ?_ (fun j e => by injection e with e; omega)
  exact Below.size (BlkN.bel (BlkN.other X.out (by omega) (by omega)))

set_option maxRecDepth 20000 in
set_option linter.unusedSimpArgs false in
set_option maxHeartbeats 3200000 in
theorem re_f5d (L off c : Nat) (n : Nat) (n3 : ¬ (n : Int) < 3) (n7 : ¬ (7 : Int) < (n : Int)) (e3 : ((n : Int) == 3) = false) (g3 : (3 : Int) < (n : Int)) (g4 : (4 : Int) < (n : Int)) (g5 : (5 : Int) < (n : Int)) (p0 p1 p2 p3 p4 p5 : List UInt8) (w : World) (hL : L < w.heap.size)
    (HC0 : CellAt w ⟨L, off, none⟩ p0) (HC1 : CellAt w ⟨L, off + 1, none⟩ p1) (HC2 : CellAt w ⟨L, off + 2, none⟩ p2) (HC3 : CellAt w ⟨L, off + 3, none⟩ p3) (HC4 : CellAt w ⟨L, off + 4, none⟩ p4) (HC5 : CellAt w ⟨L, off + 5, none⟩ p5)
    (l0 : p0.length ≤ 100) (_ : p1.length ≤ 100) (l2 : p2.length ≤ 100) (l3 : p3.length ≤ 100) (l4 : p4.length ≤ 100) (l5 : p5.length ≤ 100)
    (v0 : Int) (H0 : Hid (ofV p0 = v0 ∧ ofE p0 = 0)) (h1 : (p1 == [45]) = true) (H2 : Hid (fmOk p2 = true)) (y : Int) (H3 : Hid (nrV p3 = y ∧ nrE p3 = 0)) (f4 : Int) (H4 : Hid (wantZ (findL (low p4) monthsL) = f4)) (h4 : ((f4 + 1 : Int) == 0) = false) (b4 : 0 ≤ f4 ∧ f4 ≤ 11) (dk dw dn : Int) (x : Int) (hx : (x != 0) = true) (H5 : Hid (parsF p5 = (dk, dw, dn, x))) :
    Calls Tryz.prog 22 #[.slice (some ⟨L, off, none⟩) n c] w fun e w' => e = .returned (.tuple #[evV e0V, .int .i64 x]) ∧ Below w.heap.size w w' := by
  have wc0 := HC0.out (Below.refl _ _)
  have wc2 := HC2.out (Below.refl _ _)
  have hL1 : L < w.heap.size + 1 := by omega
  have hL2 : L < w.heap.size + 1 + 1 := by omega
  have C0 : Hid (∀ W, Calls Tryz.prog 66 #[.string ⟨p0.toArray⟩] W fun e w' => e = .returned (.tuple #[.int .i64 v0, .int .i64 0]) ∧ Below W.heap.size W w') := Lib.hid fun W => roff_is p0 v0 0 W (by omega) H0
  have C2 : Hid (∀ W, Calls Tryz.prog 17 #[.string ⟨p2.toArray⟩] W fun e w' => e = .returned (.bool true) ∧ Below W.heap.size W w') := Lib.hid fun W => rformat_is p2 true W (by omega) H2
  have C3 : Hid (∀ W, Calls Tryz.prog 61 #[.string ⟨p3.toArray⟩] W fun e w' => e = .returned (.tuple #[.int .i64 y, .int .i64 0]) ∧ Below W.heap.size W w') := Lib.hid fun W => (rnumber_is p3 y 0 W (by omega) H3).mono fun e w' h => ⟨h.1, h.2 ▸ Below.refl _ _⟩
  have C4 : Hid (∀ L W, ListAt L monthsL W → Calls Tryz.prog 62 #[.string ⟨p4.toArray⟩, .slice (some ⟨L, 0, none⟩) 12 12] W fun e w' => e = .returned (.int .i64 f4) ∧ Below W.heap.size W w') := Lib.hid fun L W hL => rfind_is p4 monthsL L 12 f4 W l4 rfl (by omega) months_100 hL H4
  have wr4 : IntKind.i64.wrap (f4 + 1 : Int) = f4 + 1 := w64 (by omega) (by omega)
  have C5 : Hid (∀ W, Calls Tryz.prog 64 #[.string ⟨p5.toArray⟩] W fun e w' => e = .returned (.tuple #[.agg #[.int .i64 dk, .int .i64 dw, .int .i64 dn], .int .i64 x]) ∧ Below W.heap.size W w') := Lib.hid fun W => rdparse_is p5 dk dw dn x W l5 H5
  clear l0 l2 l3 l4 l5
  go_enter Tryz.func22, Tryz.ntmps22
  go_wp2_with (first
   | (go_at_call 66
      with_reducible refine (C0.out _).mono ?_
      rintro e w1 ⟨rfl, k1⟩
      have X := Lib.hid ((three_blk w _ _ _ _ _ _).1.next k1)
      have Y := Lib.hid ((three_blk w _ _ _ _ _ _).2.1.next k1)
      have O := Lib.hid ((three_blk w _ _ _ _ _ _).2.2.next k1)
      clear k1 wc2 wc0
      have wc1 := HC1.out X.out.bel
      have lq1 := wcell_lt wc1
      have wc2 := HC2.out X.out.bel
      have lq2 := wcell_lt wc2
      have oc0 := cell_of_row _ (w.heap.size + 1 + 1) 0 _ _ (0, 0) O.out.blk
      have of := no_frost O.out.blk
      have oq := row_lt O.out.blk
      simp only [])
   | (go_at_call 17
      with_reducible refine (C2.out _).mono ?_
      rintro e w3 ⟨rfl, k3⟩
      replace X := Lib.hid ((X.out.other (by omega) (by omega)).next k3)
      replace Y := Lib.hid ((Y.out.other (by omega) (by omega)).next k3)
      replace O : Hid (BlkN w (w.heap.size + 1 + 1) #[.int .i64 v0, .string ⟨#[]⟩, .int .i64 0, .string ⟨p2.toArray⟩, .bool false, .int .i64 0, .int .i64 0, .int .i64 0, .int .i64 0, .int .i64 0, .int .i64 0, .int .i64 0] 40 w3) := Lib.hid (((O.out.put).next k3).cast rfl)
      clear k3 wc1 lq1 wc2 lq2 oc0 of oq
      have wc3 := HC3.out X.out.bel
      have lq3 := wcell_lt wc3
      obtain ⟨-, -, -, -, oc4, oc5, oc6, oc7, oc8, oc9, oc10, oc11⟩ := cells12 O.out.blk
      have of := no_frost O.out.blk
      have oq := row_lt O.out.blk
      simp only [])
   | (go_at_call 61
      with_reducible refine (C3.out _).mono ?_
      rintro e w4 ⟨rfl, k4⟩
      replace X := Lib.hid (((((((((X.out.other (by omega) (by omega)).other (by omega) (by omega)).other (by omega) (by omega)).other (by omega) (by omega)).other (by omega) (by omega)).other (by omega) (by omega)).other (by omega) (by omega)).other (by omega) (by omega)).next k4)
      replace Y := Lib.hid (((((((((Y.out.other (by omega) (by omega)).other (by omega) (by omega)).other (by omega) (by omega)).other (by omega) (by omega)).other (by omega) (by omega)).other (by omega) (by omega)).other (by omega) (by omega)).other (by omega) (by omega)).next k4)
      replace O : Hid (BlkN w (w.heap.size + 1 + 1) #[.int .i64 v0, .string ⟨#[]⟩, .int .i64 0, .string ⟨p2.toArray⟩, .bool true, .int .i64 0, .int .i64 1, .int .i64 0, .int .i64 0, .int .i64 1, .int .i64 0, .int .i64 0] 40 w4) := Lib.hid (by have h := (((((((((O.out.put).put).put).put).put).put).put).put).next k4); simp only [List.setIfInBounds_toArray, List.set_cons_succ, List.set_cons_zero] at h; exact h)
      clear k4 wc3 lq3 oc4 oc5 oc6 oc7 oc8 oc9 oc10 oc11 of oq
      have wc4 := HC4.out X.out.bel
      have lq4 := wcell_lt wc4
      have oc5 := cell_of_row _ (w.heap.size + 1 + 1) 5 _ _ (0, 0) O.out.blk
      have of := no_frost O.out.blk
      have oq := row_lt O.out.blk
      simp only []))
  have KB : (w4.setCell ⟨(w.heap.size + 1 + 1), 5, none⟩ (Value.int IntKind.i64 y)).drew.cell? ⟨L, off + 4, none⟩ = some (.string ⟨p4.toArray⟩) := HC4.out (bdrew (bset X.out.bel (by omega)))
  go_region_held3 (fun w' => w'.cell? ⟨L, off + 4, none⟩ = some (.string ⟨p4.toArray⟩)) (first | exact KB | exact wc4 | go_keep | exact HC4.out (bset (bthen (bthen (bdrew (bset X.out.bel (by omega))) k5) k6) (by omega)) | exact HC4.out (bset X.out.bel (by omega)) | exact HC4.out (bdrew (bset X.out.bel (by omega))) | exact HC4.out (bthen (bdrew (bset X.out.bel (by omega))) k5) | exact HC4.out (bthen (bthen (bdrew (bset X.out.bel (by omega))) k5) k6)) (first
    | (go_at_call 63; refine (rmonths_any _).mono ?_; rintro e w5 ⟨Lm, rfl, hL1, hL2, k5⟩)
    | (go_at_call 62
       refine (C4.out Lm _ hL2).mono ?_
       rintro e w6 ⟨rfl, k6⟩
       have X2 := Lib.hid (((X.out.other (by omega) (by omega)).drew.next k5).next k6)
       have Y2 := Lib.hid (((Y.out.other (by omega) (by omega)).drew.next k5).next k6)
       have O2 : Hid (BlkN w (w.heap.size + 1 + 1) #[.int .i64 v0, .string ⟨#[]⟩, .int .i64 0, .string ⟨p2.toArray⟩, .bool true, .int .i64 y, .int .i64 1, .int .i64 0, .int .i64 0, .int .i64 1, .int .i64 0, .int .i64 0] 40 w6) := Lib.hid ((((O.out.put).drew.next k5).next k6).cast rfl)
       have wd5 := HC5.out X2.out.bel
       have ld5 := wcell_lt wd5
       have pc6 := cell_of_row _ (w.heap.size + 1 + 1) 6 _ _ (0, 0) O2.out.blk
       have pf := no_frost O2.out.blk
       have pq := row_lt O2.out.blk))
  clear KB k5 k6 hL1 hL2 X Y O wc4 lq4 oc5 of oq
  have X := X2
  have Y := Y2
  have O := O2
  clear X2 Y2 O2
  have wc5 := wd5
  have lq5 := ld5
  clear wd5 ld5
  go_wp2_with (first
   | (go_at_call 64
      with_reducible refine (C5.out _).mono ?_
      rintro e w7 ⟨rfl, k7⟩
      replace X := Lib.hid ((X.out.other (by omega) (by omega)).next k7)
      replace Y := Lib.hid ((Y.out.other (by omega) (by omega)).next k7)
      replace O : Hid (BlkN w (w.heap.size + 1 + 1) #[.int .i64 v0, .string ⟨#[]⟩, .int .i64 0, .string ⟨p2.toArray⟩, .bool true, .int .i64 y, .int .i64 (f4 + 1), .int .i64 0, .int .i64 0, .int .i64 1, .int .i64 0, .int .i64 0] 40 w7) := Lib.hid (((O.out.put).next k7).cast rfl)
      clear k7 wc5 lq5 pc6 pf pq
      obtain ⟨-, -, -, -, -, -, -, oc7, oc8, oc9, -, -⟩ := cells12 O.out.blk
      have of := no_frost O.out.blk
      have oq := row_lt O.out.blk
      obtain ⟨hc0, hc1, hc2, hc3, hc4, hc5, hc6, hc7, hc8, hc9, hc10, hc11⟩ := cells12 X.out.blk
      have hf := no_frost X.out.blk
      have hq := row_lt X.out.blk
      obtain ⟨zc0, zc1, zc2, zc3, zc4, zc5, zc6, zc7, zc8, zc9, zc10, zc11⟩ := cells12 Y.out.blk
      have zq := row_lt Y.out.blk
      simp only []))
  refine ret12 (BlkN.blk (BlkN.other (BlkN.other (BlkN.other X.out (by omega) (by omega)) (by omega) (by omega)) (by omega) (by omega))) rfl _ _ _ _ _ _ _ _ _ _ _ _ (fun W' hrow hgr => ?_)
  obtain ⟨rc0, rc1, rc2, rc3, rc4, rc5, rc6, rc7, rc8, rc9, rc10, rc11⟩ := cells12 hrow
  refine bodyPost_ret (v := .tuple #[evV e0V, .int .i64 x]) (by simp [results, Tryz.results22, go_sem, rc0, rc1, rc2, rc3, rc4, rc5, rc6, rc7, rc8, rc9, rc10, rc11, evV, e0V]) rfl ⟨rfl, ?_⟩
  refine Below.grown (BlkN.bel (BlkN.other (BlkN.other (BlkN.other X.out (by omega) (by omega)) (by omega) (by omega)) (by omega) (by omega))) hgr ?_ (fun j e => by injection e with e; omega)
  exact Below.size (BlkN.bel (BlkN.other (BlkN.other (BlkN.other X.out (by omega) (by omega)) (by omega) (by omega)) (by omega) (by omega)))

set_option maxRecDepth 20000 in
set_option linter.unusedSimpArgs false in
set_option maxHeartbeats 3200000 in
theorem re_f6d (L off c : Nat) (n : Nat) (n3 : ¬ (n : Int) < 3) (n7 : ¬ (7 : Int) < (n : Int)) (e3 : ((n : Int) == 3) = false) (g3 : (3 : Int) < (n : Int)) (g4 : (4 : Int) < (n : Int)) (g5 : (5 : Int) < (n : Int)) (g6 : (6 : Int) < (n : Int)) (p0 p1 p2 p3 p4 p5 p6 : List UInt8) (w : World) (hL : L < w.heap.size)
    (HC0 : CellAt w ⟨L, off, none⟩ p0) (HC1 : CellAt w ⟨L, off + 1, none⟩ p1) (HC2 : CellAt w ⟨L, off + 2, none⟩ p2) (HC3 : CellAt w ⟨L, off + 3, none⟩ p3) (HC4 : CellAt w ⟨L, off + 4, none⟩ p4) (HC5 : CellAt w ⟨L, off + 5, none⟩ p5) (HC6 : CellAt w ⟨L, off + 6, none⟩ p6)
    (l0 : p0.length ≤ 100) (_ : p1.length ≤ 100) (l2 : p2.length ≤ 100) (l3 : p3.length ≤ 100) (l4 : p4.length ≤ 100) (l5 : p5.length ≤ 100) (l6 : p6.length ≤ 100)
    (v0 : Int) (H0 : Hid (ofV p0 = v0 ∧ ofE p0 = 0)) (h1 : (p1 == [45]) = true) (H2 : Hid (fmOk p2 = true)) (y : Int) (H3 : Hid (nrV p3 = y ∧ nrE p3 = 0)) (f4 : Int) (H4 : Hid (wantZ (findL (low p4) monthsL) = f4)) (h4 : ((f4 + 1 : Int) == 0) = false) (b4 : 0 ≤ f4 ∧ f4 ≤ 11) (dk dw dn : Int) (H5 : Hid (parsF p5 = (dk, dw, dn, 0))) (n6 k6 : Int) (x : Int) (hx : (x != 0) = true) (H6 : Hid (parN p6 = n6 ∧ parK p6 = k6 ∧ parE p6 = x)) :
    Calls Tryz.prog 22 #[.slice (some ⟨L, off, none⟩) n c] w fun e w' => e = .returned (.tuple #[evV e0V, .int .i64 x]) ∧ Below w.heap.size w w' := by
  have wc0 := HC0.out (Below.refl _ _)
  have wc2 := HC2.out (Below.refl _ _)
  have hL1 : L < w.heap.size + 1 := by omega
  have hL2 : L < w.heap.size + 1 + 1 := by omega
  have C0 : Hid (∀ W, Calls Tryz.prog 66 #[.string ⟨p0.toArray⟩] W fun e w' => e = .returned (.tuple #[.int .i64 v0, .int .i64 0]) ∧ Below W.heap.size W w') := Lib.hid fun W => roff_is p0 v0 0 W (by omega) H0
  have C2 : Hid (∀ W, Calls Tryz.prog 17 #[.string ⟨p2.toArray⟩] W fun e w' => e = .returned (.bool true) ∧ Below W.heap.size W w') := Lib.hid fun W => rformat_is p2 true W (by omega) H2
  have C3 : Hid (∀ W, Calls Tryz.prog 61 #[.string ⟨p3.toArray⟩] W fun e w' => e = .returned (.tuple #[.int .i64 y, .int .i64 0]) ∧ Below W.heap.size W w') := Lib.hid fun W => (rnumber_is p3 y 0 W (by omega) H3).mono fun e w' h => ⟨h.1, h.2 ▸ Below.refl _ _⟩
  have C4 : Hid (∀ L W, ListAt L monthsL W → Calls Tryz.prog 62 #[.string ⟨p4.toArray⟩, .slice (some ⟨L, 0, none⟩) 12 12] W fun e w' => e = .returned (.int .i64 f4) ∧ Below W.heap.size W w') := Lib.hid fun L W hL => rfind_is p4 monthsL L 12 f4 W l4 rfl (by omega) months_100 hL H4
  have wr4 : IntKind.i64.wrap (f4 + 1 : Int) = f4 + 1 := w64 (by omega) (by omega)
  have C5 : Hid (∀ W, Calls Tryz.prog 64 #[.string ⟨p5.toArray⟩] W fun e w' => e = .returned (.tuple #[.agg #[.int .i64 dk, .int .i64 dw, .int .i64 dn], .int .i64 0]) ∧ Below W.heap.size W w') := Lib.hid fun W => rdparse_is p5 dk dw dn 0 W l5 H5
  have C6 : Hid (∀ W, Calls Tryz.prog 65 #[.string ⟨p6.toArray⟩] W fun e w' => e = .returned (.tuple #[.agg #[.int .i64 n6, .int .i64 k6], .int .i64 x]) ∧ Below W.heap.size W w') := Lib.hid fun W => rpars_is p6 n6 k6 x W (by omega) H6
  clear l0 l2 l3 l4 l5 l6
  go_enter Tryz.func22, Tryz.ntmps22
  go_wp2_with (first
   | (go_at_call 66
      with_reducible refine (C0.out _).mono ?_
      rintro e w1 ⟨rfl, k1⟩
      have X := Lib.hid ((three_blk w _ _ _ _ _ _).1.next k1)
      have Y := Lib.hid ((three_blk w _ _ _ _ _ _).2.1.next k1)
      have O := Lib.hid ((three_blk w _ _ _ _ _ _).2.2.next k1)
      clear k1 wc2 wc0
      have wc1 := HC1.out X.out.bel
      have lq1 := wcell_lt wc1
      have wc2 := HC2.out X.out.bel
      have lq2 := wcell_lt wc2
      have oc0 := cell_of_row _ (w.heap.size + 1 + 1) 0 _ _ (0, 0) O.out.blk
      have of := no_frost O.out.blk
      have oq := row_lt O.out.blk
      simp only [])
   | (go_at_call 17
      with_reducible refine (C2.out _).mono ?_
      rintro e w3 ⟨rfl, k3⟩
      replace X := Lib.hid ((X.out.other (by omega) (by omega)).next k3)
      replace Y := Lib.hid ((Y.out.other (by omega) (by omega)).next k3)
      replace O : Hid (BlkN w (w.heap.size + 1 + 1) #[.int .i64 v0, .string ⟨#[]⟩, .int .i64 0, .string ⟨p2.toArray⟩, .bool false, .int .i64 0, .int .i64 0, .int .i64 0, .int .i64 0, .int .i64 0, .int .i64 0, .int .i64 0] 40 w3) := Lib.hid (((O.out.put).next k3).cast rfl)
      clear k3 wc1 lq1 wc2 lq2 oc0 of oq
      have wc3 := HC3.out X.out.bel
      have lq3 := wcell_lt wc3
      obtain ⟨-, -, -, -, oc4, oc5, oc6, oc7, oc8, oc9, oc10, oc11⟩ := cells12 O.out.blk
      have of := no_frost O.out.blk
      have oq := row_lt O.out.blk
      simp only [])
   | (go_at_call 61
      with_reducible refine (C3.out _).mono ?_
      rintro e w4 ⟨rfl, k4⟩
      replace X := Lib.hid (((((((((X.out.other (by omega) (by omega)).other (by omega) (by omega)).other (by omega) (by omega)).other (by omega) (by omega)).other (by omega) (by omega)).other (by omega) (by omega)).other (by omega) (by omega)).other (by omega) (by omega)).next k4)
      replace Y := Lib.hid (((((((((Y.out.other (by omega) (by omega)).other (by omega) (by omega)).other (by omega) (by omega)).other (by omega) (by omega)).other (by omega) (by omega)).other (by omega) (by omega)).other (by omega) (by omega)).other (by omega) (by omega)).next k4)
      replace O : Hid (BlkN w (w.heap.size + 1 + 1) #[.int .i64 v0, .string ⟨#[]⟩, .int .i64 0, .string ⟨p2.toArray⟩, .bool true, .int .i64 0, .int .i64 1, .int .i64 0, .int .i64 0, .int .i64 1, .int .i64 0, .int .i64 0] 40 w4) := Lib.hid (by have h := (((((((((O.out.put).put).put).put).put).put).put).put).next k4); simp only [List.setIfInBounds_toArray, List.set_cons_succ, List.set_cons_zero] at h; exact h)
      clear k4 wc3 lq3 oc4 oc5 oc6 oc7 oc8 oc9 oc10 oc11 of oq
      have wc4 := HC4.out X.out.bel
      have lq4 := wcell_lt wc4
      have oc5 := cell_of_row _ (w.heap.size + 1 + 1) 5 _ _ (0, 0) O.out.blk
      have of := no_frost O.out.blk
      have oq := row_lt O.out.blk
      simp only []))
  have KB : (w4.setCell ⟨(w.heap.size + 1 + 1), 5, none⟩ (Value.int IntKind.i64 y)).drew.cell? ⟨L, off + 4, none⟩ = some (.string ⟨p4.toArray⟩) := HC4.out (bdrew (bset X.out.bel (by omega)))
  go_region_held3 (fun w' => w'.cell? ⟨L, off + 4, none⟩ = some (.string ⟨p4.toArray⟩)) (first | exact KB | exact wc4 | go_keep | exact HC4.out (bset (bthen (bthen (bdrew (bset X.out.bel (by omega))) k5) k6) (by omega)) | exact HC4.out (bset X.out.bel (by omega)) | exact HC4.out (bdrew (bset X.out.bel (by omega))) | exact HC4.out (bthen (bdrew (bset X.out.bel (by omega))) k5) | exact HC4.out (bthen (bthen (bdrew (bset X.out.bel (by omega))) k5) k6)) (first
    | (go_at_call 63; refine (rmonths_any _).mono ?_; rintro e w5 ⟨Lm, rfl, hL1, hL2, k5⟩)
    | (go_at_call 62
       refine (C4.out Lm _ hL2).mono ?_
       rintro e w6 ⟨rfl, k6⟩
       have X2 := Lib.hid (((X.out.other (by omega) (by omega)).drew.next k5).next k6)
       have Y2 := Lib.hid (((Y.out.other (by omega) (by omega)).drew.next k5).next k6)
       have O2 : Hid (BlkN w (w.heap.size + 1 + 1) #[.int .i64 v0, .string ⟨#[]⟩, .int .i64 0, .string ⟨p2.toArray⟩, .bool true, .int .i64 y, .int .i64 1, .int .i64 0, .int .i64 0, .int .i64 1, .int .i64 0, .int .i64 0] 40 w6) := Lib.hid ((((O.out.put).drew.next k5).next k6).cast rfl)
       have wd5 := HC5.out X2.out.bel
       have ld5 := wcell_lt wd5
       have pc6 := cell_of_row _ (w.heap.size + 1 + 1) 6 _ _ (0, 0) O2.out.blk
       have pf := no_frost O2.out.blk
       have pq := row_lt O2.out.blk))
  clear KB k5 k6 hL1 hL2 X Y O wc4 lq4 oc5 of oq
  have X := X2
  have Y := Y2
  have O := O2
  clear X2 Y2 O2
  have wc5 := wd5
  have lq5 := ld5
  clear wd5 ld5
  go_wp2_with (first
   | (go_at_call 64
      with_reducible refine (C5.out _).mono ?_
      rintro e w7 ⟨rfl, k7⟩
      replace X := Lib.hid ((X.out.other (by omega) (by omega)).next k7)
      replace Y := Lib.hid ((Y.out.other (by omega) (by omega)).next k7)
      replace O : Hid (BlkN w (w.heap.size + 1 + 1) #[.int .i64 v0, .string ⟨#[]⟩, .int .i64 0, .string ⟨p2.toArray⟩, .bool true, .int .i64 y, .int .i64 (f4 + 1), .int .i64 0, .int .i64 0, .int .i64 1, .int .i64 0, .int .i64 0] 40 w7) := Lib.hid (((O.out.put).next k7).cast rfl)
      clear k7 wc5 lq5 pc6 pf pq
      have wc6 := HC6.out X.out.bel
      have lq6 := wcell_lt wc6
      obtain ⟨-, -, -, -, -, -, -, oc7, oc8, oc9, -, -⟩ := cells12 O.out.blk
      have of := no_frost O.out.blk
      have oq := row_lt O.out.blk
      simp only [])
   | (go_at_call 65
      with_reducible refine (C6.out _).mono ?_
      rintro e w8 ⟨rfl, k8⟩
      replace X := Lib.hid ((((X.out.other (by omega) (by omega)).other (by omega) (by omega)).other (by omega) (by omega)).next k8)
      replace Y := Lib.hid ((((Y.out.other (by omega) (by omega)).other (by omega) (by omega)).other (by omega) (by omega)).next k8)
      replace O : Hid (BlkN w (w.heap.size + 1 + 1) #[.int .i64 v0, .string ⟨#[]⟩, .int .i64 0, .string ⟨p2.toArray⟩, .bool true, .int .i64 y, .int .i64 (f4 + 1), .int .i64 dk, .int .i64 dw, .int .i64 dn, .int .i64 0, .int .i64 0] 40 w8) := Lib.hid (((((O.out.put).put).put).next k8).cast rfl)
      clear k8 wc6 lq6 oc7 oc8 oc9 of oq
      have oc10 := cell_of_row _ (w.heap.size + 1 + 1) 10 _ _ (0, 0) O.out.blk
      have oc11 := cell_of_row _ (w.heap.size + 1 + 1) 11 _ _ (0, 0) O.out.blk
      have of := no_frost O.out.blk
      have oq := row_lt O.out.blk
      obtain ⟨hc0, hc1, hc2, hc3, hc4, hc5, hc6, hc7, hc8, hc9, hc10, hc11⟩ := cells12 X.out.blk
      have hf := no_frost X.out.blk
      have hq := row_lt X.out.blk
      obtain ⟨zc0, zc1, zc2, zc3, zc4, zc5, zc6, zc7, zc8, zc9, zc10, zc11⟩ := cells12 Y.out.blk
      have zq := row_lt Y.out.blk
      simp only []))
  refine ret12 (BlkN.blk (BlkN.other (BlkN.other X.out (by omega) (by omega)) (by omega) (by omega))) rfl _ _ _ _ _ _ _ _ _ _ _ _ (fun W' hrow hgr => ?_)
  obtain ⟨rc0, rc1, rc2, rc3, rc4, rc5, rc6, rc7, rc8, rc9, rc10, rc11⟩ := cells12 hrow
  refine bodyPost_ret (v := .tuple #[evV e0V, .int .i64 x]) (by simp [results, Tryz.results22, go_sem, rc0, rc1, rc2, rc3, rc4, rc5, rc6, rc7, rc8, rc9, rc10, rc11, evV, e0V]) rfl ⟨rfl, ?_⟩
  refine Below.grown (BlkN.bel (BlkN.other (BlkN.other X.out (by omega) (by omega)) (by omega) (by omega))) hgr ?_ (fun j e => by injection e with e; omega)
  exact Below.size (BlkN.bel (BlkN.other (BlkN.other X.out (by omega) (by omega)) (by omega) (by omega)))

set_option maxRecDepth 20000 in
set_option linter.unusedSimpArgs false in
set_option maxHeartbeats 3200000 in
theorem re_s3d (L off c : Nat) (p0 p1 p2 : List UInt8) (w : World) (hL : L < w.heap.size)
    (HC0 : CellAt w ⟨L, off, none⟩ p0) (HC1 : CellAt w ⟨L, off + 1, none⟩ p1) (HC2 : CellAt w ⟨L, off + 2, none⟩ p2)
    (l0 : p0.length ≤ 100) (_ : p1.length ≤ 100) (l2 : p2.length ≤ 100)
    (v0 : Int) (H0 : Hid (ofV p0 = v0 ∧ ofE p0 = 0)) (h1 : (p1 == [45]) = true) (H2 : Hid (fmOk p2 = true)) :
    Calls Tryz.prog 22 #[.slice (some ⟨L, off, none⟩) 3 c] w fun e w' => e = .returned (.tuple #[evV ⟨v0, [], 0, p2, false, 0, 0, 0, 0, 0, 0, 0⟩, .int .i64 0]) ∧ Below w.heap.size w w' := by
  have wc0 := HC0.out (Below.refl _ _)
  have wc2 := HC2.out (Below.refl _ _)
  have hL1 : L < w.heap.size + 1 := by omega
  have hL2 : L < w.heap.size + 1 + 1 := by omega
  have C0 : Hid (∀ W, Calls Tryz.prog 66 #[.string ⟨p0.toArray⟩] W fun e w' => e = .returned (.tuple #[.int .i64 v0, .int .i64 0]) ∧ Below W.heap.size W w') := Lib.hid fun W => roff_is p0 v0 0 W (by omega) H0
  have C2 : Hid (∀ W, Calls Tryz.prog 17 #[.string ⟨p2.toArray⟩] W fun e w' => e = .returned (.bool true) ∧ Below W.heap.size W w') := Lib.hid fun W => rformat_is p2 true W (by omega) H2
  clear l0 l2
  go_enter Tryz.func22, Tryz.ntmps22
  go_wp2_with (first
   | (go_at_call 66
      with_reducible refine (C0.out _).mono ?_
      rintro e w1 ⟨rfl, k1⟩
      have X := Lib.hid ((three_blk w _ _ _ _ _ _).1.next k1)
      have Y := Lib.hid ((three_blk w _ _ _ _ _ _).2.1.next k1)
      have O := Lib.hid ((three_blk w _ _ _ _ _ _).2.2.next k1)
      clear k1 wc2 wc0
      have wc1 := HC1.out X.out.bel
      have lq1 := wcell_lt wc1
      have wc2 := HC2.out X.out.bel
      have lq2 := wcell_lt wc2
      have oc0 := cell_of_row _ (w.heap.size + 1 + 1) 0 _ _ (0, 0) O.out.blk
      have of := no_frost O.out.blk
      have oq := row_lt O.out.blk
      simp only [])
   | (go_at_call 17
      with_reducible refine (C2.out _).mono ?_
      rintro e w3 ⟨rfl, k3⟩
      replace X := Lib.hid ((X.out.other (by omega) (by omega)).next k3)
      replace Y := Lib.hid ((Y.out.other (by omega) (by omega)).next k3)
      replace O : Hid (BlkN w (w.heap.size + 1 + 1) #[.int .i64 v0, .string ⟨#[]⟩, .int .i64 0, .string ⟨p2.toArray⟩, .bool false, .int .i64 0, .int .i64 0, .int .i64 0, .int .i64 0, .int .i64 0, .int .i64 0, .int .i64 0] 40 w3) := Lib.hid (((O.out.put).next k3).cast rfl)
      clear k3 wc1 lq1 wc2 lq2 oc0 of oq
      obtain ⟨oc0, oc1, oc2, oc3, oc4, oc5, oc6, oc7, oc8, oc9, oc10, oc11⟩ := cells12 O.out.blk
      have oq := row_lt O.out.blk
      obtain ⟨hc0, hc1, hc2, hc3, hc4, hc5, hc6, hc7, hc8, hc9, hc10, hc11⟩ := cells12 X.out.blk
      have hf := no_frost X.out.blk
      have hq := row_lt X.out.blk
      simp only []))
  refine ret12 (BlkN.blk X.out) rfl _ _ _ _ _ _ _ _ _ _ _ _ (fun W' hrow hgr => ?_)
  obtain ⟨rc0, rc1, rc2, rc3, rc4, rc5, rc6, rc7, rc8, rc9, rc10, rc11⟩ := cells12 hrow
  refine bodyPost_ret (v := .tuple #[evV ⟨v0, [], 0, p2, false, 0, 0, 0, 0, 0, 0, 0⟩, .int .i64 0]) (by simp [results, Tryz.results22, go_sem, rc0, rc1, rc2, rc3, rc4, rc5, rc6, rc7, rc8, rc9, rc10, rc11, evV]) rfl ⟨rfl, ?_⟩
  refine Below.grown (BlkN.bel X.out) hgr ?_ (fun j e => by injection e with e; omega)
  exact Below.size (BlkN.bel X.out)

set_option maxRecDepth 20000 in
set_option linter.unusedSimpArgs false in
set_option maxHeartbeats 3200000 in
theorem re_s4d (L off c : Nat) (p0 p1 p2 p3 : List UInt8) (w : World) (hL : L < w.heap.size)
    (HC0 : CellAt w ⟨L, off, none⟩ p0) (HC1 : CellAt w ⟨L, off + 1, none⟩ p1) (HC2 : CellAt w ⟨L, off + 2, none⟩ p2) (HC3 : CellAt w ⟨L, off + 3, none⟩ p3)
    (l0 : p0.length ≤ 100) (_ : p1.length ≤ 100) (l2 : p2.length ≤ 100) (l3 : p3.length ≤ 100)
    (v0 : Int) (H0 : Hid (ofV p0 = v0 ∧ ofE p0 = 0)) (h1 : (p1 == [45]) = true) (H2 : Hid (fmOk p2 = true)) (y : Int) (H3 : Hid (nrV p3 = y ∧ nrE p3 = 0)) :
    Calls Tryz.prog 22 #[.slice (some ⟨L, off, none⟩) 4 c] w fun e w' => e = .returned (.tuple #[evV ⟨v0, [], 0, p2, true, y, 1, 0, 0, 1, 0, 0⟩, .int .i64 0]) ∧ Below w.heap.size w w' := by
  have wc0 := HC0.out (Below.refl _ _)
  have wc2 := HC2.out (Below.refl _ _)
  have hL1 : L < w.heap.size + 1 := by omega
  have hL2 : L < w.heap.size + 1 + 1 := by omega
  have C0 : Hid (∀ W, Calls Tryz.prog 66 #[.string ⟨p0.toArray⟩] W fun e w' => e = .returned (.tuple #[.int .i64 v0, .int .i64 0]) ∧ Below W.heap.size W w') := Lib.hid fun W => roff_is p0 v0 0 W (by omega) H0
  have C2 : Hid (∀ W, Calls Tryz.prog 17 #[.string ⟨p2.toArray⟩] W fun e w' => e = .returned (.bool true) ∧ Below W.heap.size W w') := Lib.hid fun W => rformat_is p2 true W (by omega) H2
  have C3 : Hid (∀ W, Calls Tryz.prog 61 #[.string ⟨p3.toArray⟩] W fun e w' => e = .returned (.tuple #[.int .i64 y, .int .i64 0]) ∧ Below W.heap.size W w') := Lib.hid fun W => (rnumber_is p3 y 0 W (by omega) H3).mono fun e w' h => ⟨h.1, h.2 ▸ Below.refl _ _⟩
  clear l0 l2 l3
  go_enter Tryz.func22, Tryz.ntmps22
  go_wp2_with (first
   | (go_at_call 66
      with_reducible refine (C0.out _).mono ?_
      rintro e w1 ⟨rfl, k1⟩
      have X := Lib.hid ((three_blk w _ _ _ _ _ _).1.next k1)
      have Y := Lib.hid ((three_blk w _ _ _ _ _ _).2.1.next k1)
      have O := Lib.hid ((three_blk w _ _ _ _ _ _).2.2.next k1)
      clear k1 wc2 wc0
      have wc1 := HC1.out X.out.bel
      have lq1 := wcell_lt wc1
      have wc2 := HC2.out X.out.bel
      have lq2 := wcell_lt wc2
      have oc0 := cell_of_row _ (w.heap.size + 1 + 1) 0 _ _ (0, 0) O.out.blk
      have of := no_frost O.out.blk
      have oq := row_lt O.out.blk
      simp only [])
   | (go_at_call 17
      with_reducible refine (C2.out _).mono ?_
      rintro e w3 ⟨rfl, k3⟩
      replace X := Lib.hid ((X.out.other (by omega) (by omega)).next k3)
      replace Y := Lib.hid ((Y.out.other (by omega) (by omega)).next k3)
      replace O : Hid (BlkN w (w.heap.size + 1 + 1) #[.int .i64 v0, .string ⟨#[]⟩, .int .i64 0, .string ⟨p2.toArray⟩, .bool false, .int .i64 0, .int .i64 0, .int .i64 0, .int .i64 0, .int .i64 0, .int .i64 0, .int .i64 0] 40 w3) := Lib.hid (((O.out.put).next k3).cast rfl)
      clear k3 wc1 lq1 wc2 lq2 oc0 of oq
      have wc3 := HC3.out X.out.bel
      have lq3 := wcell_lt wc3
      obtain ⟨-, -, -, -, oc4, oc5, oc6, oc7, oc8, oc9, oc10, oc11⟩ := cells12 O.out.blk
      have of := no_frost O.out.blk
      have oq := row_lt O.out.blk
      simp only [])
   | (go_at_call 61
      with_reducible refine (C3.out _).mono ?_
      rintro e w4 ⟨rfl, k4⟩
      replace X := Lib.hid (((((((((X.out.other (by omega) (by omega)).other (by omega) (by omega)).other (by omega) (by omega)).other (by omega) (by omega)).other (by omega) (by omega)).other (by omega) (by omega)).other (by omega) (by omega)).other (by omega) (by omega)).next k4)
      replace Y := Lib.hid (((((((((Y.out.other (by omega) (by omega)).other (by omega) (by omega)).other (by omega) (by omega)).other (by omega) (by omega)).other (by omega) (by omega)).other (by omega) (by omega)).other (by omega) (by omega)).other (by omega) (by omega)).next k4)
      replace O : Hid (BlkN w (w.heap.size + 1 + 1) #[.int .i64 v0, .string ⟨#[]⟩, .int .i64 0, .string ⟨p2.toArray⟩, .bool true, .int .i64 0, .int .i64 1, .int .i64 0, .int .i64 0, .int .i64 1, .int .i64 0, .int .i64 0] 40 w4) := Lib.hid (by have h := (((((((((O.out.put).put).put).put).put).put).put).put).next k4); simp only [List.setIfInBounds_toArray, List.set_cons_succ, List.set_cons_zero] at h; exact h)
      clear k4 wc3 lq3 oc4 oc5 oc6 oc7 oc8 oc9 oc10 oc11 of oq
      obtain ⟨oc0, oc1, oc2, oc3, oc4, oc5, oc6, oc7, oc8, oc9, oc10, oc11⟩ := cells12 O.out.blk
      have of := no_frost O.out.blk
      have oq := row_lt O.out.blk
      obtain ⟨hc0, hc1, hc2, hc3, hc4, hc5, hc6, hc7, hc8, hc9, hc10, hc11⟩ := cells12 X.out.blk
      have hf := no_frost X.out.blk
      have hq := row_lt X.out.blk
      simp only []))
  refine ret12 (BlkN.blk (BlkN.other X.out (by omega) (by omega))) rfl _ _ _ _ _ _ _ _ _ _ _ _ (fun W' hrow hgr => ?_)
  obtain ⟨rc0, rc1, rc2, rc3, rc4, rc5, rc6, rc7, rc8, rc9, rc10, rc11⟩ := cells12 hrow
  refine bodyPost_ret (v := .tuple #[evV ⟨v0, [], 0, p2, true, y, 1, 0, 0, 1, 0, 0⟩, .int .i64 0]) (by simp [results, Tryz.results22, go_sem, rc0, rc1, rc2, rc3, rc4, rc5, rc6, rc7, rc8, rc9, rc10, rc11, evV]) rfl ⟨rfl, ?_⟩
  refine Below.grown (BlkN.bel (BlkN.other X.out (by omega) (by omega))) hgr ?_ (fun j e => by injection e with e; omega)
  exact Below.size (BlkN.bel (BlkN.other X.out (by omega) (by omega)))

set_option maxRecDepth 20000 in
set_option linter.unusedSimpArgs false in
set_option maxHeartbeats 3200000 in
theorem re_s5d (L off c : Nat) (p0 p1 p2 p3 p4 : List UInt8) (w : World) (hL : L < w.heap.size)
    (HC0 : CellAt w ⟨L, off, none⟩ p0) (HC1 : CellAt w ⟨L, off + 1, none⟩ p1) (HC2 : CellAt w ⟨L, off + 2, none⟩ p2) (HC3 : CellAt w ⟨L, off + 3, none⟩ p3) (HC4 : CellAt w ⟨L, off + 4, none⟩ p4)
    (l0 : p0.length ≤ 100) (_ : p1.length ≤ 100) (l2 : p2.length ≤ 100) (l3 : p3.length ≤ 100) (l4 : p4.length ≤ 100)
    (v0 : Int) (H0 : Hid (ofV p0 = v0 ∧ ofE p0 = 0)) (h1 : (p1 == [45]) = true) (H2 : Hid (fmOk p2 = true)) (y : Int) (H3 : Hid (nrV p3 = y ∧ nrE p3 = 0)) (f4 : Int) (H4 : Hid (wantZ (findL (low p4) monthsL) = f4)) (h4 : ((f4 + 1 : Int) == 0) = false) (b4 : 0 ≤ f4 ∧ f4 ≤ 11) :
    Calls Tryz.prog 22 #[.slice (some ⟨L, off, none⟩) 5 c] w fun e w' => e = .returned (.tuple #[evV ⟨v0, [], 0, p2, true, y, f4 + 1, 0, 0, 1, 0, 0⟩, .int .i64 0]) ∧ Below w.heap.size w w' := by
  have wc0 := HC0.out (Below.refl _ _)
  have wc2 := HC2.out (Below.refl _ _)
  have hL1 : L < w.heap.size + 1 := by omega
  have hL2 : L < w.heap.size + 1 + 1 := by omega
  have C0 : Hid (∀ W, Calls Tryz.prog 66 #[.string ⟨p0.toArray⟩] W fun e w' => e = .returned (.tuple #[.int .i64 v0, .int .i64 0]) ∧ Below W.heap.size W w') := Lib.hid fun W => roff_is p0 v0 0 W (by omega) H0
  have C2 : Hid (∀ W, Calls Tryz.prog 17 #[.string ⟨p2.toArray⟩] W fun e w' => e = .returned (.bool true) ∧ Below W.heap.size W w') := Lib.hid fun W => rformat_is p2 true W (by omega) H2
  have C3 : Hid (∀ W, Calls Tryz.prog 61 #[.string ⟨p3.toArray⟩] W fun e w' => e = .returned (.tuple #[.int .i64 y, .int .i64 0]) ∧ Below W.heap.size W w') := Lib.hid fun W => (rnumber_is p3 y 0 W (by omega) H3).mono fun e w' h => ⟨h.1, h.2 ▸ Below.refl _ _⟩
  have C4 : Hid (∀ L W, ListAt L monthsL W → Calls Tryz.prog 62 #[.string ⟨p4.toArray⟩, .slice (some ⟨L, 0, none⟩) 12 12] W fun e w' => e = .returned (.int .i64 f4) ∧ Below W.heap.size W w') := Lib.hid fun L W hL => rfind_is p4 monthsL L 12 f4 W l4 rfl (by omega) months_100 hL H4
  have wr4 : IntKind.i64.wrap (f4 + 1 : Int) = f4 + 1 := w64 (by omega) (by omega)
  clear l0 l2 l3 l4
  go_enter Tryz.func22, Tryz.ntmps22
  go_wp2_with (first
   | (go_at_call 66
      with_reducible refine (C0.out _).mono ?_
      rintro e w1 ⟨rfl, k1⟩
      have X := Lib.hid ((three_blk w _ _ _ _ _ _).1.next k1)
      have Y := Lib.hid ((three_blk w _ _ _ _ _ _).2.1.next k1)
      have O := Lib.hid ((three_blk w _ _ _ _ _ _).2.2.next k1)
      clear k1 wc2 wc0
      have wc1 := HC1.out X.out.bel
      have lq1 := wcell_lt wc1
      have wc2 := HC2.out X.out.bel
      have lq2 := wcell_lt wc2
      have oc0 := cell_of_row _ (w.heap.size + 1 + 1) 0 _ _ (0, 0) O.out.blk
      have of := no_frost O.out.blk
      have oq := row_lt O.out.blk
      simp only [])
   | (go_at_call 17
      with_reducible refine (C2.out _).mono ?_
      rintro e w3 ⟨rfl, k3⟩
      replace X := Lib.hid ((X.out.other (by omega) (by omega)).next k3)
      replace Y := Lib.hid ((Y.out.other (by omega) (by omega)).next k3)
      replace O : Hid (BlkN w (w.heap.size + 1 + 1) #[.int .i64 v0, .string ⟨#[]⟩, .int .i64 0, .string ⟨p2.toArray⟩, .bool false, .int .i64 0, .int .i64 0, .int .i64 0, .int .i64 0, .int .i64 0, .int .i64 0, .int .i64 0] 40 w3) := Lib.hid (((O.out.put).next k3).cast rfl)
      clear k3 wc1 lq1 wc2 lq2 oc0 of oq
      have wc3 := HC3.out X.out.bel
      have lq3 := wcell_lt wc3
      obtain ⟨-, -, -, -, oc4, oc5, oc6, oc7, oc8, oc9, oc10, oc11⟩ := cells12 O.out.blk
      have of := no_frost O.out.blk
      have oq := row_lt O.out.blk
      simp only [])
   | (go_at_call 61
      with_reducible refine (C3.out _).mono ?_
      rintro e w4 ⟨rfl, k4⟩
      replace X := Lib.hid (((((((((X.out.other (by omega) (by omega)).other (by omega) (by omega)).other (by omega) (by omega)).other (by omega) (by omega)).other (by omega) (by omega)).other (by omega) (by omega)).other (by omega) (by omega)).other (by omega) (by omega)).next k4)
      replace Y := Lib.hid (((((((((Y.out.other (by omega) (by omega)).other (by omega) (by omega)).other (by omega) (by omega)).other (by omega) (by omega)).other (by omega) (by omega)).other (by omega) (by omega)).other (by omega) (by omega)).other (by omega) (by omega)).next k4)
      replace O : Hid (BlkN w (w.heap.size + 1 + 1) #[.int .i64 v0, .string ⟨#[]⟩, .int .i64 0, .string ⟨p2.toArray⟩, .bool true, .int .i64 0, .int .i64 1, .int .i64 0, .int .i64 0, .int .i64 1, .int .i64 0, .int .i64 0] 40 w4) := Lib.hid (by have h := (((((((((O.out.put).put).put).put).put).put).put).put).next k4); simp only [List.setIfInBounds_toArray, List.set_cons_succ, List.set_cons_zero] at h; exact h)
      clear k4 wc3 lq3 oc4 oc5 oc6 oc7 oc8 oc9 oc10 oc11 of oq
      have wc4 := HC4.out X.out.bel
      have lq4 := wcell_lt wc4
      have oc5 := cell_of_row _ (w.heap.size + 1 + 1) 5 _ _ (0, 0) O.out.blk
      have of := no_frost O.out.blk
      have oq := row_lt O.out.blk
      simp only []))
  have KB : (w4.setCell ⟨(w.heap.size + 1 + 1), 5, none⟩ (Value.int IntKind.i64 y)).drew.cell? ⟨L, off + 4, none⟩ = some (.string ⟨p4.toArray⟩) := HC4.out (bdrew (bset X.out.bel (by omega)))
  go_region_held3 (fun w' => w'.cell? ⟨L, off + 4, none⟩ = some (.string ⟨p4.toArray⟩)) (first | exact KB | exact wc4 | go_keep | exact HC4.out (bset (bthen (bthen (bdrew (bset X.out.bel (by omega))) k5) k6) (by omega)) | exact HC4.out (bset X.out.bel (by omega)) | exact HC4.out (bdrew (bset X.out.bel (by omega))) | exact HC4.out (bthen (bdrew (bset X.out.bel (by omega))) k5) | exact HC4.out (bthen (bthen (bdrew (bset X.out.bel (by omega))) k5) k6)) (first
    | (go_at_call 63; refine (rmonths_any _).mono ?_; rintro e w5 ⟨Lm, rfl, hL1, hL2, k5⟩)
    | (go_at_call 62
       refine (C4.out Lm _ hL2).mono ?_
       rintro e w6 ⟨rfl, k6⟩
       have X2 := Lib.hid (((X.out.other (by omega) (by omega)).drew.next k5).next k6)
       have Y2 := Lib.hid (((Y.out.other (by omega) (by omega)).drew.next k5).next k6)
       have O2 : Hid (BlkN w (w.heap.size + 1 + 1) #[.int .i64 v0, .string ⟨#[]⟩, .int .i64 0, .string ⟨p2.toArray⟩, .bool true, .int .i64 y, .int .i64 1, .int .i64 0, .int .i64 0, .int .i64 1, .int .i64 0, .int .i64 0] 40 w6) := Lib.hid ((((O.out.put).drew.next k5).next k6).cast rfl)
       obtain ⟨pc0, pc1, pc2, pc3, pc4, pc5, pc6, pc7, pc8, pc9, pc10, pc11⟩ := cells12 O2.out.blk
       have pf := no_frost O2.out.blk
       have pq := row_lt O2.out.blk
       obtain ⟨hc0, hc1, hc2, hc3, hc4, hc5, hc6, hc7, hc8, hc9, hc10, hc11⟩ := cells12 X2.out.blk
       have hf := no_frost X2.out.blk
       have hq := row_lt X2.out.blk))
  clear KB k5 k6 hL1 hL2 X Y O wc4 lq4 oc5 of oq
  have X := X2
  have Y := Y2
  have O := O2
  clear X2 Y2 O2
  go_wp2
  refine ret12 (BlkN.blk (BlkN.other X.out (by omega) (by omega))) rfl _ _ _ _ _ _ _ _ _ _ _ _ (fun W' hrow hgr => ?_)
  obtain ⟨rc0, rc1, rc2, rc3, rc4, rc5, rc6, rc7, rc8, rc9, rc10, rc11⟩ := cells12 hrow
  refine bodyPost_ret (v := .tuple #[evV ⟨v0, [], 0, p2, true, y, f4 + 1, 0, 0, 1, 0, 0⟩, .int .i64 0]) (by simp [results, Tryz.results22, go_sem, rc0, rc1, rc2, rc3, rc4, rc5, rc6, rc7, rc8, rc9, rc10, rc11, evV]) rfl ⟨rfl, ?_⟩
  refine Below.grown (BlkN.bel (BlkN.other X.out (by omega) (by omega))) hgr ?_ (fun j e => by injection e with e; omega)
  exact Below.size (BlkN.bel (BlkN.other X.out (by omega) (by omega)))

set_option maxRecDepth 20000 in
set_option linter.unusedSimpArgs false in
set_option maxHeartbeats 3200000 in
theorem re_s6d (L off c : Nat) (p0 p1 p2 p3 p4 p5 : List UInt8) (w : World) (hL : L < w.heap.size)
    (HC0 : CellAt w ⟨L, off, none⟩ p0) (HC1 : CellAt w ⟨L, off + 1, none⟩ p1) (HC2 : CellAt w ⟨L, off + 2, none⟩ p2) (HC3 : CellAt w ⟨L, off + 3, none⟩ p3) (HC4 : CellAt w ⟨L, off + 4, none⟩ p4) (HC5 : CellAt w ⟨L, off + 5, none⟩ p5)
    (l0 : p0.length ≤ 100) (_ : p1.length ≤ 100) (l2 : p2.length ≤ 100) (l3 : p3.length ≤ 100) (l4 : p4.length ≤ 100) (l5 : p5.length ≤ 100)
    (v0 : Int) (H0 : Hid (ofV p0 = v0 ∧ ofE p0 = 0)) (h1 : (p1 == [45]) = true) (H2 : Hid (fmOk p2 = true)) (y : Int) (H3 : Hid (nrV p3 = y ∧ nrE p3 = 0)) (f4 : Int) (H4 : Hid (wantZ (findL (low p4) monthsL) = f4)) (h4 : ((f4 + 1 : Int) == 0) = false) (b4 : 0 ≤ f4 ∧ f4 ≤ 11) (dk dw dn : Int) (H5 : Hid (parsF p5 = (dk, dw, dn, 0))) :
    Calls Tryz.prog 22 #[.slice (some ⟨L, off, none⟩) 6 c] w fun e w' => e = .returned (.tuple #[evV ⟨v0, [], 0, p2, true, y, f4 + 1, dk, dw, dn, 0, 0⟩, .int .i64 0]) ∧ Below w.heap.size w w' := by
  have wc0 := HC0.out (Below.refl _ _)
  have wc2 := HC2.out (Below.refl _ _)
  have hL1 : L < w.heap.size + 1 := by omega
  have hL2 : L < w.heap.size + 1 + 1 := by omega
  have C0 : Hid (∀ W, Calls Tryz.prog 66 #[.string ⟨p0.toArray⟩] W fun e w' => e = .returned (.tuple #[.int .i64 v0, .int .i64 0]) ∧ Below W.heap.size W w') := Lib.hid fun W => roff_is p0 v0 0 W (by omega) H0
  have C2 : Hid (∀ W, Calls Tryz.prog 17 #[.string ⟨p2.toArray⟩] W fun e w' => e = .returned (.bool true) ∧ Below W.heap.size W w') := Lib.hid fun W => rformat_is p2 true W (by omega) H2
  have C3 : Hid (∀ W, Calls Tryz.prog 61 #[.string ⟨p3.toArray⟩] W fun e w' => e = .returned (.tuple #[.int .i64 y, .int .i64 0]) ∧ Below W.heap.size W w') := Lib.hid fun W => (rnumber_is p3 y 0 W (by omega) H3).mono fun e w' h => ⟨h.1, h.2 ▸ Below.refl _ _⟩
  have C4 : Hid (∀ L W, ListAt L monthsL W → Calls Tryz.prog 62 #[.string ⟨p4.toArray⟩, .slice (some ⟨L, 0, none⟩) 12 12] W fun e w' => e = .returned (.int .i64 f4) ∧ Below W.heap.size W w') := Lib.hid fun L W hL => rfind_is p4 monthsL L 12 f4 W l4 rfl (by omega) months_100 hL H4
  have wr4 : IntKind.i64.wrap (f4 + 1 : Int) = f4 + 1 := w64 (by omega) (by omega)
  have C5 : Hid (∀ W, Calls Tryz.prog 64 #[.string ⟨p5.toArray⟩] W fun e w' => e = .returned (.tuple #[.agg #[.int .i64 dk, .int .i64 dw, .int .i64 dn], .int .i64 0]) ∧ Below W.heap.size W w') := Lib.hid fun W => rdparse_is p5 dk dw dn 0 W l5 H5
  clear l0 l2 l3 l4 l5
  go_enter Tryz.func22, Tryz.ntmps22
  go_wp2_with (first
   | (go_at_call 66
      with_reducible refine (C0.out _).mono ?_
      rintro e w1 ⟨rfl, k1⟩
      have X := Lib.hid ((three_blk w _ _ _ _ _ _).1.next k1)
      have Y := Lib.hid ((three_blk w _ _ _ _ _ _).2.1.next k1)
      have O := Lib.hid ((three_blk w _ _ _ _ _ _).2.2.next k1)
      clear k1 wc2 wc0
      have wc1 := HC1.out X.out.bel
      have lq1 := wcell_lt wc1
      have wc2 := HC2.out X.out.bel
      have lq2 := wcell_lt wc2
      have oc0 := cell_of_row _ (w.heap.size + 1 + 1) 0 _ _ (0, 0) O.out.blk
      have of := no_frost O.out.blk
      have oq := row_lt O.out.blk
      simp only [])
   | (go_at_call 17
      with_reducible refine (C2.out _).mono ?_
      rintro e w3 ⟨rfl, k3⟩
      replace X := Lib.hid ((X.out.other (by omega) (by omega)).next k3)
      replace Y := Lib.hid ((Y.out.other (by omega) (by omega)).next k3)
      replace O : Hid (BlkN w (w.heap.size + 1 + 1) #[.int .i64 v0, .string ⟨#[]⟩, .int .i64 0, .string ⟨p2.toArray⟩, .bool false, .int .i64 0, .int .i64 0, .int .i64 0, .int .i64 0, .int .i64 0, .int .i64 0, .int .i64 0] 40 w3) := Lib.hid (((O.out.put).next k3).cast rfl)
      clear k3 wc1 lq1 wc2 lq2 oc0 of oq
      have wc3 := HC3.out X.out.bel
      have lq3 := wcell_lt wc3
      obtain ⟨-, -, -, -, oc4, oc5, oc6, oc7, oc8, oc9, oc10, oc11⟩ := cells12 O.out.blk
      have of := no_frost O.out.blk
      have oq := row_lt O.out.blk
      simp only [])
   | (go_at_call 61
      with_reducible refine (C3.out _).mono ?_
      rintro e w4 ⟨rfl, k4⟩
      replace X := Lib.hid (((((((((X.out.other (by omega) (by omega)).other (by omega) (by omega)).other (by omega) (by omega)).other (by omega) (by omega)).other (by omega) (by omega)).other (by omega) (by omega)).other (by omega) (by omega)).other (by omega) (by omega)).next k4)
      replace Y := Lib.hid (((((((((Y.out.other (by omega) (by omega)).other (by omega) (by omega)).other (by omega) (by omega)).other (by omega) (by omega)).other (by omega) (by omega)).other (by omega) (by omega)).other (by omega) (by omega)).other (by omega) (by omega)).next k4)
      replace O : Hid (BlkN w (w.heap.size + 1 + 1) #[.int .i64 v0, .string ⟨#[]⟩, .int .i64 0, .string ⟨p2.toArray⟩, .bool true, .int .i64 0, .int .i64 1, .int .i64 0, .int .i64 0, .int .i64 1, .int .i64 0, .int .i64 0] 40 w4) := Lib.hid (by have h := (((((((((O.out.put).put).put).put).put).put).put).put).next k4); simp only [List.setIfInBounds_toArray, List.set_cons_succ, List.set_cons_zero] at h; exact h)
      clear k4 wc3 lq3 oc4 oc5 oc6 oc7 oc8 oc9 oc10 oc11 of oq
      have wc4 := HC4.out X.out.bel
      have lq4 := wcell_lt wc4
      have oc5 := cell_of_row _ (w.heap.size + 1 + 1) 5 _ _ (0, 0) O.out.blk
      have of := no_frost O.out.blk
      have oq := row_lt O.out.blk
      simp only []))
  have KB : (w4.setCell ⟨(w.heap.size + 1 + 1), 5, none⟩ (Value.int IntKind.i64 y)).drew.cell? ⟨L, off + 4, none⟩ = some (.string ⟨p4.toArray⟩) := HC4.out (bdrew (bset X.out.bel (by omega)))
  go_region_held3 (fun w' => w'.cell? ⟨L, off + 4, none⟩ = some (.string ⟨p4.toArray⟩)) (first | exact KB | exact wc4 | go_keep | exact HC4.out (bset (bthen (bthen (bdrew (bset X.out.bel (by omega))) k5) k6) (by omega)) | exact HC4.out (bset X.out.bel (by omega)) | exact HC4.out (bdrew (bset X.out.bel (by omega))) | exact HC4.out (bthen (bdrew (bset X.out.bel (by omega))) k5) | exact HC4.out (bthen (bthen (bdrew (bset X.out.bel (by omega))) k5) k6)) (first
    | (go_at_call 63; refine (rmonths_any _).mono ?_; rintro e w5 ⟨Lm, rfl, hL1, hL2, k5⟩)
    | (go_at_call 62
       refine (C4.out Lm _ hL2).mono ?_
       rintro e w6 ⟨rfl, k6⟩
       have X2 := Lib.hid (((X.out.other (by omega) (by omega)).drew.next k5).next k6)
       have Y2 := Lib.hid (((Y.out.other (by omega) (by omega)).drew.next k5).next k6)
       have O2 : Hid (BlkN w (w.heap.size + 1 + 1) #[.int .i64 v0, .string ⟨#[]⟩, .int .i64 0, .string ⟨p2.toArray⟩, .bool true, .int .i64 y, .int .i64 1, .int .i64 0, .int .i64 0, .int .i64 1, .int .i64 0, .int .i64 0] 40 w6) := Lib.hid ((((O.out.put).drew.next k5).next k6).cast rfl)
       have wd5 := HC5.out X2.out.bel
       have ld5 := wcell_lt wd5
       have pc6 := cell_of_row _ (w.heap.size + 1 + 1) 6 _ _ (0, 0) O2.out.blk
       have pf := no_frost O2.out.blk
       have pq := row_lt O2.out.blk))
  clear KB k5 k6 hL1 hL2 X Y O wc4 lq4 oc5 of oq
  have X := X2
  have Y := Y2
  have O := O2
  clear X2 Y2 O2
  have wc5 := wd5
  have lq5 := ld5
  clear wd5 ld5
  go_wp2_with (first
   | (go_at_call 64
      with_reducible refine (C5.out _).mono ?_
      rintro e w7 ⟨rfl, k7⟩
      replace X := Lib.hid ((X.out.other (by omega) (by omega)).next k7)
      replace Y := Lib.hid ((Y.out.other (by omega) (by omega)).next k7)
      replace O : Hid (BlkN w (w.heap.size + 1 + 1) #[.int .i64 v0, .string ⟨#[]⟩, .int .i64 0, .string ⟨p2.toArray⟩, .bool true, .int .i64 y, .int .i64 (f4 + 1), .int .i64 0, .int .i64 0, .int .i64 1, .int .i64 0, .int .i64 0] 40 w7) := Lib.hid (((O.out.put).next k7).cast rfl)
      clear k7 wc5 lq5 pc6 pf pq
      obtain ⟨oc0, oc1, oc2, oc3, oc4, oc5, oc6, oc7, oc8, oc9, oc10, oc11⟩ := cells12 O.out.blk
      have of := no_frost O.out.blk
      have oq := row_lt O.out.blk
      obtain ⟨hc0, hc1, hc2, hc3, hc4, hc5, hc6, hc7, hc8, hc9, hc10, hc11⟩ := cells12 X.out.blk
      have hf := no_frost X.out.blk
      have hq := row_lt X.out.blk
      simp only []))
  refine ret12 (BlkN.blk (BlkN.other (BlkN.other (BlkN.other X.out (by omega) (by omega)) (by omega) (by omega)) (by omega) (by omega))) rfl _ _ _ _ _ _ _ _ _ _ _ _ (fun W' hrow hgr => ?_)
  obtain ⟨rc0, rc1, rc2, rc3, rc4, rc5, rc6, rc7, rc8, rc9, rc10, rc11⟩ := cells12 hrow
  refine bodyPost_ret (v := .tuple #[evV ⟨v0, [], 0, p2, true, y, f4 + 1, dk, dw, dn, 0, 0⟩, .int .i64 0]) (by simp [results, Tryz.results22, go_sem, rc0, rc1, rc2, rc3, rc4, rc5, rc6, rc7, rc8, rc9, rc10, rc11, evV]) rfl ⟨rfl, ?_⟩
  refine Below.grown (BlkN.bel (BlkN.other (BlkN.other (BlkN.other X.out (by omega) (by omega)) (by omega) (by omega)) (by omega) (by omega))) hgr ?_ (fun j e => by injection e with e; omega)
  exact Below.size (BlkN.bel (BlkN.other (BlkN.other (BlkN.other X.out (by omega) (by omega)) (by omega) (by omega)) (by omega) (by omega)))

set_option maxRecDepth 20000 in
set_option linter.unusedSimpArgs false in
set_option maxHeartbeats 3200000 in
theorem re_s7d (L off c : Nat) (p0 p1 p2 p3 p4 p5 p6 : List UInt8) (w : World) (hL : L < w.heap.size)
    (HC0 : CellAt w ⟨L, off, none⟩ p0) (HC1 : CellAt w ⟨L, off + 1, none⟩ p1) (HC2 : CellAt w ⟨L, off + 2, none⟩ p2) (HC3 : CellAt w ⟨L, off + 3, none⟩ p3) (HC4 : CellAt w ⟨L, off + 4, none⟩ p4) (HC5 : CellAt w ⟨L, off + 5, none⟩ p5) (HC6 : CellAt w ⟨L, off + 6, none⟩ p6)
    (l0 : p0.length ≤ 100) (_ : p1.length ≤ 100) (l2 : p2.length ≤ 100) (l3 : p3.length ≤ 100) (l4 : p4.length ≤ 100) (l5 : p5.length ≤ 100) (l6 : p6.length ≤ 100)
    (v0 : Int) (H0 : Hid (ofV p0 = v0 ∧ ofE p0 = 0)) (h1 : (p1 == [45]) = true) (H2 : Hid (fmOk p2 = true)) (y : Int) (H3 : Hid (nrV p3 = y ∧ nrE p3 = 0)) (f4 : Int) (H4 : Hid (wantZ (findL (low p4) monthsL) = f4)) (h4 : ((f4 + 1 : Int) == 0) = false) (b4 : 0 ≤ f4 ∧ f4 ≤ 11) (dk dw dn : Int) (H5 : Hid (parsF p5 = (dk, dw, dn, 0))) (n6 k6 : Int) (H6 : Hid (parN p6 = n6 ∧ parK p6 = k6 ∧ parE p6 = 0)) :
    Calls Tryz.prog 22 #[.slice (some ⟨L, off, none⟩) 7 c] w fun e w' => e = .returned (.tuple #[evV ⟨v0, [], 0, p2, true, y, f4 + 1, dk, dw, dn, n6, k6⟩, .int .i64 0]) ∧ Below w.heap.size w w' := by
  have wc0 := HC0.out (Below.refl _ _)
  have wc2 := HC2.out (Below.refl _ _)
  have hL1 : L < w.heap.size + 1 := by omega
  have hL2 : L < w.heap.size + 1 + 1 := by omega
  have C0 : Hid (∀ W, Calls Tryz.prog 66 #[.string ⟨p0.toArray⟩] W fun e w' => e = .returned (.tuple #[.int .i64 v0, .int .i64 0]) ∧ Below W.heap.size W w') := Lib.hid fun W => roff_is p0 v0 0 W (by omega) H0
  have C2 : Hid (∀ W, Calls Tryz.prog 17 #[.string ⟨p2.toArray⟩] W fun e w' => e = .returned (.bool true) ∧ Below W.heap.size W w') := Lib.hid fun W => rformat_is p2 true W (by omega) H2
  have C3 : Hid (∀ W, Calls Tryz.prog 61 #[.string ⟨p3.toArray⟩] W fun e w' => e = .returned (.tuple #[.int .i64 y, .int .i64 0]) ∧ Below W.heap.size W w') := Lib.hid fun W => (rnumber_is p3 y 0 W (by omega) H3).mono fun e w' h => ⟨h.1, h.2 ▸ Below.refl _ _⟩
  have C4 : Hid (∀ L W, ListAt L monthsL W → Calls Tryz.prog 62 #[.string ⟨p4.toArray⟩, .slice (some ⟨L, 0, none⟩) 12 12] W fun e w' => e = .returned (.int .i64 f4) ∧ Below W.heap.size W w') := Lib.hid fun L W hL => rfind_is p4 monthsL L 12 f4 W l4 rfl (by omega) months_100 hL H4
  have wr4 : IntKind.i64.wrap (f4 + 1 : Int) = f4 + 1 := w64 (by omega) (by omega)
  have C5 : Hid (∀ W, Calls Tryz.prog 64 #[.string ⟨p5.toArray⟩] W fun e w' => e = .returned (.tuple #[.agg #[.int .i64 dk, .int .i64 dw, .int .i64 dn], .int .i64 0]) ∧ Below W.heap.size W w') := Lib.hid fun W => rdparse_is p5 dk dw dn 0 W l5 H5
  have C6 : Hid (∀ W, Calls Tryz.prog 65 #[.string ⟨p6.toArray⟩] W fun e w' => e = .returned (.tuple #[.agg #[.int .i64 n6, .int .i64 k6], .int .i64 0]) ∧ Below W.heap.size W w') := Lib.hid fun W => rpars_is p6 n6 k6 0 W (by omega) H6
  clear l0 l2 l3 l4 l5 l6
  go_enter Tryz.func22, Tryz.ntmps22
  go_wp2_with (first
   | (go_at_call 66
      with_reducible refine (C0.out _).mono ?_
      rintro e w1 ⟨rfl, k1⟩
      have X := Lib.hid ((three_blk w _ _ _ _ _ _).1.next k1)
      have Y := Lib.hid ((three_blk w _ _ _ _ _ _).2.1.next k1)
      have O := Lib.hid ((three_blk w _ _ _ _ _ _).2.2.next k1)
      clear k1 wc2 wc0
      have wc1 := HC1.out X.out.bel
      have lq1 := wcell_lt wc1
      have wc2 := HC2.out X.out.bel
      have lq2 := wcell_lt wc2
      have oc0 := cell_of_row _ (w.heap.size + 1 + 1) 0 _ _ (0, 0) O.out.blk
      have of := no_frost O.out.blk
      have oq := row_lt O.out.blk
      simp only [])
   | (go_at_call 17
      with_reducible refine (C2.out _).mono ?_
      rintro e w3 ⟨rfl, k3⟩
      replace X := Lib.hid ((X.out.other (by omega) (by omega)).next k3)
      replace Y := Lib.hid ((Y.out.other (by omega) (by omega)).next k3)
      replace O : Hid (BlkN w (w.heap.size + 1 + 1) #[.int .i64 v0, .string ⟨#[]⟩, .int .i64 0, .string ⟨p2.toArray⟩, .bool false, .int .i64 0, .int .i64 0, .int .i64 0, .int .i64 0, .int .i64 0, .int .i64 0, .int .i64 0] 40 w3) := Lib.hid (((O.out.put).next k3).cast rfl)
      clear k3 wc1 lq1 wc2 lq2 oc0 of oq
      have wc3 := HC3.out X.out.bel
      have lq3 := wcell_lt wc3
      obtain ⟨-, -, -, -, oc4, oc5, oc6, oc7, oc8, oc9, oc10, oc11⟩ := cells12 O.out.blk
      have of := no_frost O.out.blk
      have oq := row_lt O.out.blk
      simp only [])
   | (go_at_call 61
      with_reducible refine (C3.out _).mono ?_
      rintro e w4 ⟨rfl, k4⟩
      replace X := Lib.hid (((((((((X.out.other (by omega) (by omega)).other (by omega) (by omega)).other (by omega) (by omega)).other (by omega) (by omega)).other (by omega) (by omega)).other (by omega) (by omega)).other (by omega) (by omega)).other (by omega) (by omega)).next k4)
      replace Y := Lib.hid (((((((((Y.out.other (by omega) (by omega)).other (by omega) (by omega)).other (by omega) (by omega)).other (by omega) (by omega)).other (by omega) (by omega)).other (by omega) (by omega)).other (by omega) (by omega)).other (by omega) (by omega)).next k4)
      replace O : Hid (BlkN w (w.heap.size + 1 + 1) #[.int .i64 v0, .string ⟨#[]⟩, .int .i64 0, .string ⟨p2.toArray⟩, .bool true, .int .i64 0, .int .i64 1, .int .i64 0, .int .i64 0, .int .i64 1, .int .i64 0, .int .i64 0] 40 w4) := Lib.hid (by have h := (((((((((O.out.put).put).put).put).put).put).put).put).next k4); simp only [List.setIfInBounds_toArray, List.set_cons_succ, List.set_cons_zero] at h; exact h)
      clear k4 wc3 lq3 oc4 oc5 oc6 oc7 oc8 oc9 oc10 oc11 of oq
      have wc4 := HC4.out X.out.bel
      have lq4 := wcell_lt wc4
      have oc5 := cell_of_row _ (w.heap.size + 1 + 1) 5 _ _ (0, 0) O.out.blk
      have of := no_frost O.out.blk
      have oq := row_lt O.out.blk
      simp only []))
  have KB : (w4.setCell ⟨(w.heap.size + 1 + 1), 5, none⟩ (Value.int IntKind.i64 y)).drew.cell? ⟨L, off + 4, none⟩ = some (.string ⟨p4.toArray⟩) := HC4.out (bdrew (bset X.out.bel (by omega)))
  go_region_held3 (fun w' => w'.cell? ⟨L, off + 4, none⟩ = some (.string ⟨p4.toArray⟩)) (first | exact KB | exact wc4 | go_keep | exact HC4.out (bset (bthen (bthen (bdrew (bset X.out.bel (by omega))) k5) k6) (by omega)) | exact HC4.out (bset X.out.bel (by omega)) | exact HC4.out (bdrew (bset X.out.bel (by omega))) | exact HC4.out (bthen (bdrew (bset X.out.bel (by omega))) k5) | exact HC4.out (bthen (bthen (bdrew (bset X.out.bel (by omega))) k5) k6)) (first
    | (go_at_call 63; refine (rmonths_any _).mono ?_; rintro e w5 ⟨Lm, rfl, hL1, hL2, k5⟩)
    | (go_at_call 62
       refine (C4.out Lm _ hL2).mono ?_
       rintro e w6 ⟨rfl, k6⟩
       have X2 := Lib.hid (((X.out.other (by omega) (by omega)).drew.next k5).next k6)
       have Y2 := Lib.hid (((Y.out.other (by omega) (by omega)).drew.next k5).next k6)
       have O2 : Hid (BlkN w (w.heap.size + 1 + 1) #[.int .i64 v0, .string ⟨#[]⟩, .int .i64 0, .string ⟨p2.toArray⟩, .bool true, .int .i64 y, .int .i64 1, .int .i64 0, .int .i64 0, .int .i64 1, .int .i64 0, .int .i64 0] 40 w6) := Lib.hid ((((O.out.put).drew.next k5).next k6).cast rfl)
       have wd5 := HC5.out X2.out.bel
       have ld5 := wcell_lt wd5
       have pc6 := cell_of_row _ (w.heap.size + 1 + 1) 6 _ _ (0, 0) O2.out.blk
       have pf := no_frost O2.out.blk
       have pq := row_lt O2.out.blk))
  clear KB k5 k6 hL1 hL2 X Y O wc4 lq4 oc5 of oq
  have X := X2
  have Y := Y2
  have O := O2
  clear X2 Y2 O2
  have wc5 := wd5
  have lq5 := ld5
  clear wd5 ld5
  go_wp2_with (first
   | (go_at_call 64
      with_reducible refine (C5.out _).mono ?_
      rintro e w7 ⟨rfl, k7⟩
      replace X := Lib.hid ((X.out.other (by omega) (by omega)).next k7)
      replace Y := Lib.hid ((Y.out.other (by omega) (by omega)).next k7)
      replace O : Hid (BlkN w (w.heap.size + 1 + 1) #[.int .i64 v0, .string ⟨#[]⟩, .int .i64 0, .string ⟨p2.toArray⟩, .bool true, .int .i64 y, .int .i64 (f4 + 1), .int .i64 0, .int .i64 0, .int .i64 1, .int .i64 0, .int .i64 0] 40 w7) := Lib.hid (((O.out.put).next k7).cast rfl)
      clear k7 wc5 lq5 pc6 pf pq
      have wc6 := HC6.out X.out.bel
      have lq6 := wcell_lt wc6
      obtain ⟨-, -, -, -, -, -, -, oc7, oc8, oc9, -, -⟩ := cells12 O.out.blk
      have of := no_frost O.out.blk
      have oq := row_lt O.out.blk
      simp only [])
   | (go_at_call 65
      with_reducible refine (C6.out _).mono ?_
      rintro e w8 ⟨rfl, k8⟩
      replace X := Lib.hid ((((X.out.other (by omega) (by omega)).other (by omega) (by omega)).other (by omega) (by omega)).next k8)
      replace Y := Lib.hid ((((Y.out.other (by omega) (by omega)).other (by omega) (by omega)).other (by omega) (by omega)).next k8)
      replace O : Hid (BlkN w (w.heap.size + 1 + 1) #[.int .i64 v0, .string ⟨#[]⟩, .int .i64 0, .string ⟨p2.toArray⟩, .bool true, .int .i64 y, .int .i64 (f4 + 1), .int .i64 dk, .int .i64 dw, .int .i64 dn, .int .i64 0, .int .i64 0] 40 w8) := Lib.hid (((((O.out.put).put).put).next k8).cast rfl)
      clear k8 wc6 lq6 oc7 oc8 oc9 of oq
      obtain ⟨oc0, oc1, oc2, oc3, oc4, oc5, oc6, oc7, oc8, oc9, oc10, oc11⟩ := cells12 O.out.blk
      have of := no_frost O.out.blk
      have oq := row_lt O.out.blk
      obtain ⟨hc0, hc1, hc2, hc3, hc4, hc5, hc6, hc7, hc8, hc9, hc10, hc11⟩ := cells12 X.out.blk
      have hf := no_frost X.out.blk
      have hq := row_lt X.out.blk
      simp only []))
  refine ret12 (BlkN.blk (BlkN.other (BlkN.other X.out (by omega) (by omega)) (by omega) (by omega))) rfl _ _ _ _ _ _ _ _ _ _ _ _ (fun W' hrow hgr => ?_)
  obtain ⟨rc0, rc1, rc2, rc3, rc4, rc5, rc6, rc7, rc8, rc9, rc10, rc11⟩ := cells12 hrow
  refine bodyPost_ret (v := .tuple #[evV ⟨v0, [], 0, p2, true, y, f4 + 1, dk, dw, dn, n6, k6⟩, .int .i64 0]) (by simp [results, Tryz.results22, go_sem, rc0, rc1, rc2, rc3, rc4, rc5, rc6, rc7, rc8, rc9, rc10, rc11, evV]) rfl ⟨rfl, ?_⟩
  refine Below.grown (BlkN.bel (BlkN.other (BlkN.other X.out (by omega) (by omega)) (by omega) (by omega))) hgr ?_ (fun j e => by injection e with e; omega)
  exact Below.size (BlkN.bel (BlkN.other (BlkN.other X.out (by omega) (by omega)) (by omega) (by omega)))

end Go.Proofs.YtfmehdophoejiaaGreatDoor
