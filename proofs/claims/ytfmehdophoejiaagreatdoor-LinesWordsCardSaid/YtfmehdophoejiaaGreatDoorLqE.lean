/- The walks of the reference's Era, all ways to tell its rules in one text; nothing that was in memory changes. Written by wip/tools/gencp.py. -/
import Derived.Test.YtfmehdophoejiaaGreatDoorLq0
namespace Go.Proofs.YtfmehdophoejiaaGreatDoor
open Go Go.RowKit

set_option maxRecDepth 20000 in
set_option linter.unusedSimpArgs false in
set_option maxHeartbeats 6400000 in
theorem rq_f0 (L off c : Nat) (n : Nat) (n3 : ¬ (n : Int) < 3) (n7 : ¬ (7 : Int) < (n : Int)) (p0 p2 : List UInt8) (w : World) (hL : L < w.heap.size) (AA : At w L off p0 ∧ At w L (off + 2) p2)
    (v0 : Int) (x : Int) (hx : (x != 0) = true) (H0 : Hid (ofV p0 = v0 ∧ ofE p0 = x)) : EraTo L off n c w e0V x := by
  obtain ⟨⟨HC0, l0⟩, ⟨HC2, l2⟩⟩ := AA
  have wc0 := HC0.out (Below.refl _ _)
  have wc2 := HC2.out (Below.refl _ _)
  have hL1 : L < w.heap.size + 1 := by omega
  have hL2 : L < w.heap.size + 1 + 1 := by omega
  unfold EraTo
  have C0 := an_off l0 H0
  clear l0 l2
  go_enter Tryz.func22, Tryz.ntmps22
  go_wp2_with (first
     | (go_at_call 66
        with_reducible refine (C0.out _).mono ?_
        rintro e w1 ⟨rfl, k1⟩
        have T := Er.mk k1
        clear k1 wc2 wc0
        have oc0 := cell_of_row _ (w.heap.size + 1 + 1) 0 _ _ (0, 0) T.o.blk
        have of := no_frost T.o.blk
        have oq := row_lt T.o.blk
        obtain ⟨hc0, hc1, hc2, hc3, hc4, hc5, hc6, hc7, hc8, hc9, hc10, hc11⟩ := cells12 T.x.blk
        have hf := no_frost T.x.blk
        have hq := row_lt T.x.blk
        obtain ⟨zc0, zc1, zc2, zc3, zc4, zc5, zc6, zc7, zc8, zc9, zc10, zc11⟩ := cells12 T.y.blk
        have zq := row_lt T.y.blk
        simp only []))
  refine ret12 (BlkN.blk T.p0.x) rfl _ _ _ _ _ _ _ _ _ _ _ _ (fun W' hrow hgr => bodyPost_ret (by simp [results, Tryz.results22, go_sem, cells12 hrow, evV, e0V]) rfl ⟨rfl, own_low T.p0.x hgr⟩)

set_option maxRecDepth 20000 in
set_option linter.unusedSimpArgs false in
set_option maxHeartbeats 6400000 in
theorem rq_f1 (L off c : Nat) (n : Nat) (n3 : ¬ (n : Int) < 3) (n7 : ¬ (7 : Int) < (n : Int)) (p0 p1 p2 : List UInt8) (w : World) (hL : L < w.heap.size) (AA : At w L off p0 ∧ At w L (off + 1) p1 ∧ At w L (off + 2) p2)
    (v0 : Int) (H0 : Hid (ofV p0 = v0 ∧ ofE p0 = 0)) (x : Int) (V : RulBad p1 x) : EraTo L off n c w e0V x := by
  obtain ⟨⟨HC0, l0⟩, ⟨HC1, l1⟩, ⟨HC2, l2⟩⟩ := AA
  have wc0 := HC0.out (Below.refl _ _)
  have wc2 := HC2.out (Below.refl _ _)
  have hL1 : L < w.heap.size + 1 := by omega
  have hL2 : L < w.heap.size + 1 + 1 := by omega
  unfold EraTo
  rcases V with ⟨h1, lp, H1, rfl⟩ | ⟨c1, h1, lp, i0, ⟨b1, ⟨v1, H1⟩, hx⟩ | ⟨b1, HD, ⟨v1, H1⟩, hx⟩ | ⟨b1, HD, H1, rfl⟩⟩
  all_goals
    have C0 := an_off l0 H0
    try (have hz1 := wsize p1)
    first | have C1 := an_off l1 H1 | have C1 := an_set l1 H1 | skip
    first | have D1 := an_dg HD | skip
    clear l0 l1 l2
    go_enter Tryz.func22, Tryz.ntmps22
    go_wp2_with (first
     | (go_at_call 66
        with_reducible refine (C0.out _).mono ?_
        rintro e w1 ⟨rfl, k1⟩
        have T := Er.mk k1
        clear k1 wc2 wc0
        have wc1 := HC1.out T.bel
        have lq1 := wcell_lt wc1
        have wc2 := HC2.out T.bel
        have lq2 := wcell_lt wc2
        have oc0 := cell_of_row _ (w.heap.size + 1 + 1) 0 _ _ (0, 0) T.o.blk
        have of := no_frost T.o.blk
        have oq := row_lt T.o.blk
        simp only [])
     | (go_at_call 40; with_reducible refine (D1.out _).mono ?_; rintro e wp1 ⟨rfl, rfl⟩; simp only [])
     | (first | go_at_call 66 | go_at_call 15
        with_reducible refine (C1.out _).mono ?_
        rintro e w2 ⟨rfl, k2⟩
        replace T := T.p0.next k2
        clear k2 wc1 lq1 wc2 lq2 oc0 of oq
        have oc1 := cell_of_row _ (w.heap.size + 1 + 1) 1 _ _ (0, 0) T.o.blk
        have oc2 := cell_of_row _ (w.heap.size + 1 + 1) 2 _ _ (0, 0) T.o.blk
        have of := no_frost T.o.blk
        have oq := row_lt T.o.blk
        obtain ⟨hc0, hc1, hc2, hc3, hc4, hc5, hc6, hc7, hc8, hc9, hc10, hc11⟩ := cells12 T.x.blk
        have hf := no_frost T.x.blk
        have hq := row_lt T.x.blk
        obtain ⟨zc0, zc1, zc2, zc3, zc4, zc5, zc6, zc7, zc8, zc9, zc10, zc11⟩ := cells12 T.y.blk
        have zq := row_lt T.y.blk
        simp only []))
    first | (have _ := v1; refine ret12 (BlkN.blk T.p2.x) rfl _ _ _ _ _ _ _ _ _ _ _ _ (fun W' hrow hgr => bodyPost_ret (by simp [results, Tryz.results22, go_sem, cells12 hrow, evV, e0V]) rfl ⟨rfl, own_low T.p2.x hgr⟩)) | refine ret12 (BlkN.blk T.x) rfl _ _ _ _ _ _ _ _ _ _ _ _ (fun W' hrow hgr => bodyPost_ret (by simp [results, Tryz.results22, go_sem, cells12 hrow, evV, e0V]) rfl ⟨rfl, own_low T.x hgr⟩)

set_option maxRecDepth 20000 in
set_option linter.unusedSimpArgs false in
set_option maxHeartbeats 6400000 in
theorem rq_f2 (L off c : Nat) (n : Nat) (n3 : ¬ (n : Int) < 3) (n7 : ¬ (7 : Int) < (n : Int)) (p0 p1 p2 : List UInt8) (w : World) (hL : L < w.heap.size) (AA : At w L off p0 ∧ At w L (off + 1) p1 ∧ At w L (off + 2) p2)
    (v0 : Int) (H0 : Hid (ofV p0 = v0 ∧ ofE p0 = 0)) (rl : List UInt8) (sv : Int) (V : RulOk p1 rl sv) (H2 : Hid (fmOk p2 = false)) : EraTo L off n c w e0V 12 := by
  obtain ⟨⟨HC0, l0⟩, ⟨HC1, l1⟩, ⟨HC2, l2⟩⟩ := AA
  have wc0 := HC0.out (Below.refl _ _)
  have wc2 := HC2.out (Below.refl _ _)
  have hL1 : L < w.heap.size + 1 := by omega
  have hL2 : L < w.heap.size + 1 + 1 := by omega
  unfold EraTo
  rcases V with ⟨h1, rfl, rfl⟩ | ⟨c1, h1, lp, i0, ⟨b1, H1, rfl⟩ | ⟨b1, HD, H1, rfl⟩ | ⟨b1, HD, H1, rfl, rfl⟩⟩
  all_goals
    have C0 := an_off l0 H0
    have C2 := an_fmt l2 H2
    try (have hz1 := wsize p1)
    first | have C1 := an_off l1 H1 | have C1 := an_set l1 H1 | skip
    first | have D1 := an_dg HD | skip
    clear l0 l1 l2
    go_enter Tryz.func22, Tryz.ntmps22
    go_wp2_with (first
     | (go_at_call 66
        with_reducible refine (C0.out _).mono ?_
        rintro e w1 ⟨rfl, k1⟩
        have T := Er.mk k1
        clear k1 wc2 wc0
        have wc1 := HC1.out T.bel
        have lq1 := wcell_lt wc1
        have wc2 := HC2.out T.bel
        have lq2 := wcell_lt wc2
        have oc0 := cell_of_row _ (w.heap.size + 1 + 1) 0 _ _ (0, 0) T.o.blk
        have of := no_frost T.o.blk
        have oq := row_lt T.o.blk
        simp only [])
     | (go_at_call 40; with_reducible refine (D1.out _).mono ?_; rintro e wp1 ⟨rfl, rfl⟩; simp only [])
     | (first | go_at_call 66 | go_at_call 15
        with_reducible refine (C1.out _).mono ?_
        rintro e w2 ⟨rfl, k2⟩
        replace T := T.p0.next k2
        clear k2 wc1 lq1 wc2 lq2 oc0 of oq
        have wc1 := HC1.out T.bel
        have lq1 := wcell_lt wc1
        have wc2 := HC2.out T.bel
        have lq2 := wcell_lt wc2
        have oc1 := cell_of_row _ (w.heap.size + 1 + 1) 1 _ _ (0, 0) T.o.blk
        have oc2 := cell_of_row _ (w.heap.size + 1 + 1) 2 _ _ (0, 0) T.o.blk
        have of := no_frost T.o.blk
        have oq := row_lt T.o.blk
        simp only [])
     | (go_at_call 17
        with_reducible refine (C2.out _).mono ?_
        rintro e w3 ⟨rfl, k3⟩
        with_reducible first | replace T := T.p0.next k3 | replace T := T.p2.next k3 | replace T := T.p1.next k3
        clear k3 wc1 lq1 wc2 lq2 of oq
        first | clear oc0 | clear oc1 oc2
        obtain ⟨hc0, hc1, hc2, hc3, hc4, hc5, hc6, hc7, hc8, hc9, hc10, hc11⟩ := cells12 T.x.blk
        have hf := no_frost T.x.blk
        have hq := row_lt T.x.blk
        obtain ⟨zc0, zc1, zc2, zc3, zc4, zc5, zc6, zc7, zc8, zc9, zc10, zc11⟩ := cells12 T.y.blk
        have zq := row_lt T.y.blk
        simp only []))
    refine ret12 (BlkN.blk T.x) rfl _ _ _ _ _ _ _ _ _ _ _ _ (fun W' hrow hgr => bodyPost_ret (by simp [results, Tryz.results22, go_sem, cells12 hrow, evV, e0V]) rfl ⟨rfl, own_low T.x hgr⟩)

set_option maxRecDepth 20000 in
set_option linter.unusedSimpArgs false in
set_option maxHeartbeats 12800000 in
theorem rq_s3 (L off c : Nat) (p0 p1 p2 : List UInt8) (w : World) (hL : L < w.heap.size) (AA : At w L off p0 ∧ At w L (off + 1) p1 ∧ At w L (off + 2) p2)
    (v0 : Int) (H0 : Hid (ofV p0 = v0 ∧ ofE p0 = 0)) (rl : List UInt8) (sv : Int) (V : RulOk p1 rl sv) (H2 : Hid (fmOk p2 = true)) : EraTo L off 3 c w ⟨v0, rl, sv, p2, false, 0, 0, 0, 0, 0, 0, 0⟩ 0 := by
  obtain ⟨⟨HC0, l0⟩, ⟨HC1, l1⟩, ⟨HC2, l2⟩⟩ := AA
  have wc0 := HC0.out (Below.refl _ _)
  have wc2 := HC2.out (Below.refl _ _)
  have hL1 : L < w.heap.size + 1 := by omega
  have hL2 : L < w.heap.size + 1 + 1 := by omega
  unfold EraTo
  rcases V with ⟨h1, rfl, rfl⟩ | ⟨c1, h1, lp, i0, ⟨b1, H1, rfl⟩ | ⟨b1, HD, H1, rfl⟩ | ⟨b1, HD, H1, rfl, rfl⟩⟩
  all_goals
    have C0 := an_off l0 H0
    have C2 := an_fmt l2 H2
    try (have hz1 := wsize p1)
    first | have C1 := an_off l1 H1 | have C1 := an_set l1 H1 | skip
    first | have D1 := an_dg HD | skip
    clear l0 l1 l2
    go_enter Tryz.func22, Tryz.ntmps22
    go_wp2_with (first
     | (go_at_call 66
        with_reducible refine (C0.out _).mono ?_
        rintro e w1 ⟨rfl, k1⟩
        have T := Er.mk k1
        clear k1 wc2 wc0
        have wc1 := HC1.out T.bel
        have lq1 := wcell_lt wc1
        have wc2 := HC2.out T.bel
        have lq2 := wcell_lt wc2
        have oc0 := cell_of_row _ (w.heap.size + 1 + 1) 0 _ _ (0, 0) T.o.blk
        have of := no_frost T.o.blk
        have oq := row_lt T.o.blk
        simp only [])
     | (go_at_call 40; with_reducible refine (D1.out _).mono ?_; rintro e wp1 ⟨rfl, rfl⟩; simp only [])
     | (first | go_at_call 66 | go_at_call 15
        with_reducible refine (C1.out _).mono ?_
        rintro e w2 ⟨rfl, k2⟩
        replace T := T.p0.next k2
        clear k2 wc1 lq1 wc2 lq2 oc0 of oq
        have wc1 := HC1.out T.bel
        have lq1 := wcell_lt wc1
        have wc2 := HC2.out T.bel
        have lq2 := wcell_lt wc2
        have oc1 := cell_of_row _ (w.heap.size + 1 + 1) 1 _ _ (0, 0) T.o.blk
        have oc2 := cell_of_row _ (w.heap.size + 1 + 1) 2 _ _ (0, 0) T.o.blk
        have of := no_frost T.o.blk
        have oq := row_lt T.o.blk
        simp only [])
     | (go_at_call 17
        with_reducible refine (C2.out _).mono ?_
        rintro e w3 ⟨rfl, k3⟩
        with_reducible first | replace T := T.p0.next k3 | replace T := T.p2.next k3 | replace T := T.p1.next k3
        clear k3 wc1 lq1 wc2 lq2 of oq
        first | clear oc0 | clear oc1 oc2
        obtain ⟨oc0, oc1, oc2, oc3, oc4, oc5, oc6, oc7, oc8, oc9, oc10, oc11⟩ := cells12 T.o.blk
        have of := no_frost T.o.blk
        have oq := row_lt T.o.blk
        obtain ⟨hc0, hc1, hc2, hc3, hc4, hc5, hc6, hc7, hc8, hc9, hc10, hc11⟩ := cells12 T.x.blk
        have hf := no_frost T.x.blk
        have hq := row_lt T.x.blk
        simp only []))
    refine ret12 (BlkN.blk T.x) rfl _ _ _ _ _ _ _ _ _ _ _ _ (fun W' hrow hgr => bodyPost_ret (by simp [results, Tryz.results22, go_sem, cells12 hrow, evV]) rfl ⟨rfl, own_low T.x hgr⟩)

set_option maxRecDepth 20000 in
set_option linter.unusedSimpArgs false in
set_option maxHeartbeats 12800000 in
theorem rq_f3 (L off c : Nat) (n : Nat) (n3 : ¬ (n : Int) < 3) (n7 : ¬ (7 : Int) < (n : Int)) (e3 : ((n : Int) == 3) = false) (g3 : (3 : Int) < (n : Int)) (p0 p1 p2 p3 : List UInt8) (w : World) (hL : L < w.heap.size) (AA : At w L off p0 ∧ At w L (off + 1) p1 ∧ At w L (off + 2) p2 ∧ At w L (off + 3) p3)
    (v0 : Int) (H0 : Hid (ofV p0 = v0 ∧ ofE p0 = 0)) (rl : List UInt8) (sv : Int) (V : RulOk p1 rl sv) (H2 : Hid (fmOk p2 = true)) (y : Int) (x : Int) (hx : (x != 0) = true) (H3 : Hid (nrV p3 = y ∧ nrE p3 = x)) : EraTo L off n c w e0V x := by
  obtain ⟨⟨HC0, l0⟩, ⟨HC1, l1⟩, ⟨HC2, l2⟩, ⟨HC3, l3⟩⟩ := AA
  have wc0 := HC0.out (Below.refl _ _)
  have wc2 := HC2.out (Below.refl _ _)
  have hL1 : L < w.heap.size + 1 := by omega
  have hL2 : L < w.heap.size + 1 + 1 := by omega
  unfold EraTo
  rcases V with ⟨h1, rfl, rfl⟩ | ⟨c1, h1, lp, i0, ⟨b1, H1, rfl⟩ | ⟨b1, HD, H1, rfl⟩ | ⟨b1, HD, H1, rfl, rfl⟩⟩
  all_goals
    have C0 := an_off l0 H0
    have C2 := an_fmt l2 H2
    have C3 := an_num l3 H3
    try (have hz1 := wsize p1)
    first | have C1 := an_off l1 H1 | have C1 := an_set l1 H1 | skip
    first | have D1 := an_dg HD | skip
    clear l0 l1 l2 l3
    go_enter Tryz.func22, Tryz.ntmps22
    go_wp2_with (first
     | (go_at_call 66
        with_reducible refine (C0.out _).mono ?_
        rintro e w1 ⟨rfl, k1⟩
        have T := Er.mk k1
        clear k1 wc2 wc0
        have wc1 := HC1.out T.bel
        have lq1 := wcell_lt wc1
        have wc2 := HC2.out T.bel
        have lq2 := wcell_lt wc2
        have oc0 := cell_of_row _ (w.heap.size + 1 + 1) 0 _ _ (0, 0) T.o.blk
        have of := no_frost T.o.blk
        have oq := row_lt T.o.blk
        simp only [])
     | (go_at_call 40; with_reducible refine (D1.out _).mono ?_; rintro e wp1 ⟨rfl, rfl⟩; simp only [])
     | (first | go_at_call 66 | go_at_call 15
        with_reducible refine (C1.out _).mono ?_
        rintro e w2 ⟨rfl, k2⟩
        replace T := T.p0.next k2
        clear k2 wc1 lq1 wc2 lq2 oc0 of oq
        have wc1 := HC1.out T.bel
        have lq1 := wcell_lt wc1
        have wc2 := HC2.out T.bel
        have lq2 := wcell_lt wc2
        have oc1 := cell_of_row _ (w.heap.size + 1 + 1) 1 _ _ (0, 0) T.o.blk
        have oc2 := cell_of_row _ (w.heap.size + 1 + 1) 2 _ _ (0, 0) T.o.blk
        have of := no_frost T.o.blk
        have oq := row_lt T.o.blk
        simp only [])
     | (go_at_call 17
        with_reducible refine (C2.out _).mono ?_
        rintro e w3 ⟨rfl, k3⟩
        with_reducible first | replace T := T.p0.next k3 | replace T := T.p2.next k3 | replace T := T.p1.next k3
        clear k3 wc1 lq1 wc2 lq2 of oq
        first | clear oc0 | clear oc1 oc2
        have wc3 := HC3.out T.bel
        have lq3 := wcell_lt wc3
        obtain ⟨-, -, -, -, oc4, oc5, oc6, oc7, oc8, oc9, oc10, oc11⟩ := cells12 T.o.blk
        have of := no_frost T.o.blk
        have oq := row_lt T.o.blk
        simp only [])
     | (go_at_call 61
        with_reducible refine (C3.out _).mono ?_
        rintro e w4 ⟨rfl, k4⟩
        replace T := T.p4.p5.p6.p7.p8.p9.p10.p11.next k4
        clear k4 wc3 lq3 oc4 oc5 oc6 oc7 oc8 oc9 oc10 oc11 of oq
        have oc5 := cell_of_row _ (w.heap.size + 1 + 1) 5 _ _ (0, 0) T.o.blk
        have of := no_frost T.o.blk
        have oq := row_lt T.o.blk
        obtain ⟨hc0, hc1, hc2, hc3, hc4, hc5, hc6, hc7, hc8, hc9, hc10, hc11⟩ := cells12 T.x.blk
        have hf := no_frost T.x.blk
        have hq := row_lt T.x.blk
        obtain ⟨zc0, zc1, zc2, zc3, zc4, zc5, zc6, zc7, zc8, zc9, zc10, zc11⟩ := cells12 T.y.blk
        have zq := row_lt T.y.blk
        simp only []))
    refine ret12 (BlkN.blk T.p5.x) rfl _ _ _ _ _ _ _ _ _ _ _ _ (fun W' hrow hgr => bodyPost_ret (by simp [results, Tryz.results22, go_sem, cells12 hrow, evV, e0V]) rfl ⟨rfl, own_low T.p5.x hgr⟩)

set_option maxRecDepth 20000 in
set_option linter.unusedSimpArgs false in
set_option maxHeartbeats 12800000 in
theorem rq_f4 (L off c : Nat) (n : Nat) (n3 : ¬ (n : Int) < 3) (n7 : ¬ (7 : Int) < (n : Int)) (e3 : ((n : Int) == 3) = false) (g3 : (3 : Int) < (n : Int)) (g4 : (4 : Int) < (n : Int)) (p0 p1 p2 p3 p4 : List UInt8) (w : World) (hL : L < w.heap.size) (AA : At w L off p0 ∧ At w L (off + 1) p1 ∧ At w L (off + 2) p2 ∧ At w L (off + 3) p3 ∧ At w L (off + 4) p4)
    (v0 : Int) (H0 : Hid (ofV p0 = v0 ∧ ofE p0 = 0)) (rl : List UInt8) (sv : Int) (V : RulOk p1 rl sv) (H2 : Hid (fmOk p2 = true)) (y : Int) (H3 : Hid (nrV p3 = y ∧ nrE p3 = 0)) (H4 : Hid (wantZ (findL (low p4) monthsL) = (-1))) : EraTo L off n c w e0V 13 := by
  obtain ⟨⟨HC0, l0⟩, ⟨HC1, l1⟩, ⟨HC2, l2⟩, ⟨HC3, l3⟩, ⟨HC4, l4⟩⟩ := AA
  have wc0 := HC0.out (Below.refl _ _)
  have wc2 := HC2.out (Below.refl _ _)
  have hL1 : L < w.heap.size + 1 := by omega
  have hL2 : L < w.heap.size + 1 + 1 := by omega
  unfold EraTo
  rcases V with ⟨h1, rfl, rfl⟩ | ⟨c1, h1, lp, i0, ⟨b1, H1, rfl⟩ | ⟨b1, HD, H1, rfl⟩ | ⟨b1, HD, H1, rfl, rfl⟩⟩
  all_goals
    have C0 := an_off l0 H0
    have C2 := an_fmt l2 H2
    have C3 := an_num l3 H3
    have C4 := an_mon l4 H4
    have wr4 : IntKind.i64.wrap ((-1) + 1 : Int) = (-1) + 1 := w64 (by omega) (by omega)
    try (have hz1 := wsize p1)
    first | have C1 := an_off l1 H1 | have C1 := an_set l1 H1 | skip
    first | have D1 := an_dg HD | skip
    clear l0 l1 l2 l3 l4
    go_enter Tryz.func22, Tryz.ntmps22
    go_wp2_with (first
     | (go_at_call 66
        with_reducible refine (C0.out _).mono ?_
        rintro e w1 ⟨rfl, k1⟩
        have T := Er.mk k1
        clear k1 wc2 wc0
        have wc1 := HC1.out T.bel
        have lq1 := wcell_lt wc1
        have wc2 := HC2.out T.bel
        have lq2 := wcell_lt wc2
        have oc0 := cell_of_row _ (w.heap.size + 1 + 1) 0 _ _ (0, 0) T.o.blk
        have of := no_frost T.o.blk
        have oq := row_lt T.o.blk
        simp only [])
     | (go_at_call 40; with_reducible refine (D1.out _).mono ?_; rintro e wp1 ⟨rfl, rfl⟩; simp only [])
     | (first | go_at_call 66 | go_at_call 15
        with_reducible refine (C1.out _).mono ?_
        rintro e w2 ⟨rfl, k2⟩
        replace T := T.p0.next k2
        clear k2 wc1 lq1 wc2 lq2 oc0 of oq
        have wc1 := HC1.out T.bel
        have lq1 := wcell_lt wc1
        have wc2 := HC2.out T.bel
        have lq2 := wcell_lt wc2
        have oc1 := cell_of_row _ (w.heap.size + 1 + 1) 1 _ _ (0, 0) T.o.blk
        have oc2 := cell_of_row _ (w.heap.size + 1 + 1) 2 _ _ (0, 0) T.o.blk
        have of := no_frost T.o.blk
        have oq := row_lt T.o.blk
        simp only [])
     | (go_at_call 17
        with_reducible refine (C2.out _).mono ?_
        rintro e w3 ⟨rfl, k3⟩
        with_reducible first | replace T := T.p0.next k3 | replace T := T.p2.next k3 | replace T := T.p1.next k3
        clear k3 wc1 lq1 wc2 lq2 of oq
        first | clear oc0 | clear oc1 oc2
        have wc3 := HC3.out T.bel
        have lq3 := wcell_lt wc3
        obtain ⟨-, -, -, -, oc4, oc5, oc6, oc7, oc8, oc9, oc10, oc11⟩ := cells12 T.o.blk
        have of := no_frost T.o.blk
        have oq := row_lt T.o.blk
        simp only [])
     | (go_at_call 61
        with_reducible refine (C3.out _).mono ?_
        rintro e w4 ⟨rfl, k4⟩
        replace T := T.p4.p5.p6.p7.p8.p9.p10.p11.next k4
        clear k4 wc3 lq3 oc4 oc5 oc6 oc7 oc8 oc9 oc10 oc11 of oq
        have wc4 := HC4.out T.bel
        have lq4 := wcell_lt wc4
        have oc5 := cell_of_row _ (w.heap.size + 1 + 1) 5 _ _ (0, 0) T.o.blk
        have of := no_frost T.o.blk
        have oq := row_lt T.o.blk
        simp only []))
    have KB : (w4.setCell ⟨(w.heap.size + 1 + 1), 5, none⟩ (Value.int IntKind.i64 y)).drew.cell? ⟨L, off + 4, none⟩ = some (.string ⟨p4.toArray⟩) := HC4.out (bdrew (bset T.bel (by omega)))
    go_region_held3 (fun w' => w'.cell? ⟨L, off + 4, none⟩ = some (.string ⟨p4.toArray⟩)) (first | exact KB | exact wc4 | go_keep | exact HC4.out (bset (bthen (bthen (bdrew (bset T.bel (by omega))) k5) k6) (by omega)) | exact HC4.out (bset T.bel (by omega)) | exact HC4.out (bdrew (bset T.bel (by omega))) | exact HC4.out (bthen (bdrew (bset T.bel (by omega))) k5) | exact HC4.out (bthen (bthen (bdrew (bset T.bel (by omega))) k5) k6)) (first
      | (go_at_call 63; refine (rmonths_any _).mono ?_; rintro e w5 ⟨Lm, rfl, hL1, hL2, k5⟩)
      | (go_at_call 62
         refine (C4.out Lm _ hL2).mono ?_
         rintro e w6 ⟨rfl, k6⟩
         have T2 := (T.p5.drew.next k5).next k6
         have pc6 := cell_of_row _ (w.heap.size + 1 + 1) 6 _ _ (0, 0) T2.o.blk
         have pf := no_frost T2.o.blk
         have pq := row_lt T2.o.blk
         obtain ⟨hc0, hc1, hc2, hc3, hc4, hc5, hc6, hc7, hc8, hc9, hc10, hc11⟩ := cells12 T2.x.blk
         have hf := no_frost T2.x.blk
         have hq := row_lt T2.x.blk
         obtain ⟨zc0, zc1, zc2, zc3, zc4, zc5, zc6, zc7, zc8, zc9, zc10, zc11⟩ := cells12 T2.y.blk
         have zq := row_lt T2.y.blk))
    clear KB k5 k6 hL1 hL2 T wc4 lq4 oc5 of oq
    have T := T2
    clear T2
    go_wp2
    refine ret12 (BlkN.blk T.p6.x) rfl _ _ _ _ _ _ _ _ _ _ _ _ (fun W' hrow hgr => bodyPost_ret (by simp [results, Tryz.results22, go_sem, cells12 hrow, evV, e0V]) rfl ⟨rfl, own_low T.p6.x hgr⟩)

end Go.Proofs.YtfmehdophoejiaaGreatDoor
