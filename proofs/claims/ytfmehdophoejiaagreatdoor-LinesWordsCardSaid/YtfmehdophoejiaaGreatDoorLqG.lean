/- The walks of the reference's Era, all ways to tell its rules in one text; nothing that was in memory changes. Written by wip/tools/gencp.py. -/
import Derived.Test.YtfmehdophoejiaaGreatDoorLq0
namespace Go.Proofs.YtfmehdophoejiaaGreatDoor
open Go Go.RowKit

set_option maxRecDepth 20000 in
set_option linter.unusedSimpArgs false in
set_option maxHeartbeats 12800000 in
theorem rq_f5 (L off c : Nat) (n : Nat) (n3 : ¬ (n : Int) < 3) (n7 : ¬ (7 : Int) < (n : Int)) (e3 : ((n : Int) == 3) = false) (g3 : (3 : Int) < (n : Int)) (g4 : (4 : Int) < (n : Int)) (g5 : (5 : Int) < (n : Int)) (p0 p1 p2 p3 p4 p5 : List UInt8) (w : World) (hL : L < w.heap.size) (AA : At w L off p0 ∧ At w L (off + 1) p1 ∧ At w L (off + 2) p2 ∧ At w L (off + 3) p3 ∧ At w L (off + 4) p4 ∧ At w L (off + 5) p5)
    (v0 : Int) (H0 : Hid (ofV p0 = v0 ∧ ofE p0 = 0)) (rl : List UInt8) (sv : Int) (V : RulOk p1 rl sv) (H2 : Hid (fmOk p2 = true)) (y : Int) (H3 : Hid (nrV p3 = y ∧ nrE p3 = 0)) (f4 : Int) (H4 : Hid (wantZ (findL (low p4) monthsL) = f4)) (h4 : ((f4 + 1 : Int) == 0) = false) (b4 : 0 ≤ f4 ∧ f4 ≤ 11) (dk dw dn : Int) (x : Int) (hx : (x != 0) = true) (H5 : Hid (parsF p5 = (dk, dw, dn, x))) : EraTo L off n c w e0V x := by
  obtain ⟨⟨HC0, l0⟩, ⟨HC1, l1⟩, ⟨HC2, l2⟩, ⟨HC3, l3⟩, ⟨HC4, l4⟩, ⟨HC5, l5⟩⟩ := AA
  have wc0 := HC0.out (Below.refl _ _)
  have wc2 := HC2.out (Below.refl _ _)
  have hL1 : L < w.heap.size + 1 := by omega
  have hL2 : L < w.heap.size + 1 + 1 := by omega
  unfold EraTo
  rcases V with ⟨h1, rfl, rfl⟩ | ⟨c1, h1, lp, i0, ⟨b1, H1, rfl⟩ | ⟨b1, HD, H1, rfl⟩ | ⟨b1, HD, H1, rfl, rfl⟩⟩
  all_goals
    have C0 := an_off l0 H0
    have C2 := an_fmt l2 H2
    have C3 := an_num l3 H3
    have C4 := an_mon l4 H4
    have wr4 : IntKind.i64.wrap (f4 + 1 : Int) = f4 + 1 := w64 (by omega) (by omega)
    have C5 := an_day l5 H5
    try (have hz1 := wsize p1)
    first | have C1 := an_off l1 H1 | have C1 := an_set l1 H1 | skip
    first | have D1 := an_dg HD | skip
    clear l0 l1 l2 l3 l4 l5
    go_enter Tryz.func22, Tryz.ntmps22
    go_wp2_with (first
     | (go_at_call 66
        with_reducible refine (C0.out _).mono ?_
        rintro e w1 ⟨rfl, k1⟩
        have T := Er.mk k1
        clear k1 wc2 wc0
        have wc1 := HC1.out T.bel
        have lq1 := wcell_lt wc1
        have wc2 := HC2.out T.bel
        have lq2 := wcell_lt wc2
        have oc0 := cell_of_row _ (w.heap.size + 1 + 1) 0 _ _ (0, 0) T.o.blk
        have of := no_frost T.o.blk
        have oq := row_lt T.o.blk
        simp only [])
     | (go_at_call 40; with_reducible refine (D1.out _).mono ?_; rintro e wp1 ⟨rfl, rfl⟩; simp only [])
     | (first | go_at_call 66 | go_at_call 15
        with_reducible refine (C1.out _).mono ?_
        rintro e w2 ⟨rfl, k2⟩
        replace T := T.p0.next k2
        clear k2 wc1 lq1 wc2 lq2 oc0 of oq
        have wc1 := HC1.out T.bel
        have lq1 := wcell_lt wc1
        have wc2 := HC2.out T.bel
        have lq2 := wcell_lt wc2
        have oc1 := cell_of_row _ (w.heap.size + 1 + 1) 1 _ _ (0, 0) T.o.blk
        have oc2 := cell_of_row _ (w.heap.size + 1 + 1) 2 _ _ (0, 0) T.o.blk
        have of := no_frost T.o.blk
        have oq := row_lt T.o.blk
        simp only [])
     | (go_at_call 17
        with_reducible refine (C2.out _).mono ?_
        rintro e w3 ⟨rfl, k3⟩
        with_reducible first | replace T := T.p0.next k3 | replace T := T.p2.next k3 | replace T := T.p1.next k3
        clear k3 wc1 lq1 wc2 lq2 of oq
        first | clear oc0 | clear oc1 oc2
        have wc3 := HC3.out T.bel
        have lq3 := wcell_lt wc3
        obtain ⟨-, -, -, -, oc4, oc5, oc6, oc7, oc8, oc9, oc10, oc11⟩ := cells12 T.o.blk
        have of := no_frost T.o.blk
        have oq := row_lt T.o.blk
        simp only [])
     | (go_at_call 61
        with_reducible refine (C3.out _).mono ?_
        rintro e w4 ⟨rfl, k4⟩
        replace T := T.p4.p5.p6.p7.p8.p9.p10.p11.next k4
        clear k4 wc3 lq3 oc4 oc5 oc6 oc7 oc8 oc9 oc10 oc11 of oq
        have wc4 := HC4.out T.bel
        have lq4 := wcell_lt wc4
        have oc5 := cell_of_row _ (w.heap.size + 1 + 1) 5 _ _ (0, 0) T.o.blk
        have of := no_frost T.o.blk
        have oq := row_lt T.o.blk
        simp only []))
    have KB : (w4.setCell ⟨(w.heap.size + 1 + 1), 5, none⟩ (Value.int IntKind.i64 y)).drew.cell? ⟨L, off + 4, none⟩ = some (.string ⟨p4.toArray⟩) := HC4.out (bdrew (bset T.bel (by omega)))
    go_region_held3 (fun w' => w'.cell? ⟨L, off + 4, none⟩ = some (.string ⟨p4.toArray⟩)) (first | exact KB | exact wc4 | go_keep | exact HC4.out (bset (bthen (bthen (bdrew (bset T.bel (by omega))) k5) k6) (by omega)) | exact HC4.out (bset T.bel (by omega)) | exact HC4.out (bdrew (bset T.bel (by omega))) | exact HC4.out (bthen (bdrew (bset T.bel (by omega))) k5) | exact HC4.out (bthen (bthen (bdrew (bset T.bel (by omega))) k5) k6)) (first
      | (go_at_call 63; refine (rmonths_any _).mono ?_; rintro e w5 ⟨Lm, rfl, hL1, hL2, k5⟩)
      | (go_at_call 62
         refine (C4.out Lm _ hL2).mono ?_
         rintro e w6 ⟨rfl, k6⟩
         have T2 := (T.p5.drew.next k5).next k6
         have wd5 := HC5.out T2.bel
         have ld5 := wcell_lt wd5
         have pc6 := cell_of_row _ (w.heap.size + 1 + 1) 6 _ _ (0, 0) T2.o.blk
         have pf := no_frost T2.o.blk
         have pq := row_lt T2.o.blk))
    clear KB k5 k6 hL1 hL2 T wc4 lq4 oc5 of oq
    have T := T2
    clear T2
    go_wp2_with (first
     | (go_at_call 64
        with_reducible refine (C5.out _).mono ?_
        rintro e w7 ⟨rfl, k7⟩
        replace T := T.p6.next k7
        clear k7 wd5 ld5 pc6 pf pq
        obtain ⟨-, -, -, -, -, -, -, oc7, oc8, oc9, -, -⟩ := cells12 T.o.blk
        have of := no_frost T.o.blk
        have oq := row_lt T.o.blk
        obtain ⟨hc0, hc1, hc2, hc3, hc4, hc5, hc6, hc7, hc8, hc9, hc10, hc11⟩ := cells12 T.x.blk
        have hf := no_frost T.x.blk
        have hq := row_lt T.x.blk
        obtain ⟨zc0, zc1, zc2, zc3, zc4, zc5, zc6, zc7, zc8, zc9, zc10, zc11⟩ := cells12 T.y.blk
        have zq := row_lt T.y.blk
        simp only []))
    refine ret12 (BlkN.blk T.p7.p8.p9.x) rfl _ _ _ _ _ _ _ _ _ _ _ _ (fun W' hrow hgr => bodyPost_ret (by simp [results, Tryz.results22, go_sem, cells12 hrow, evV, e0V]) rfl ⟨rfl, own_low T.p7.p8.p9.x hgr⟩)

set_option maxRecDepth 20000 in
set_option linter.unusedSimpArgs false in
set_option maxHeartbeats 12800000 in
theorem rq_f6 (L off c : Nat) (n : Nat) (n3 : ¬ (n : Int) < 3) (n7 : ¬ (7 : Int) < (n : Int)) (e3 : ((n : Int) == 3) = false) (g3 : (3 : Int) < (n : Int)) (g4 : (4 : Int) < (n : Int)) (g5 : (5 : Int) < (n : Int)) (g6 : (6 : Int) < (n : Int)) (p0 p1 p2 p3 p4 p5 p6 : List UInt8) (w : World) (hL : L < w.heap.size) (AA : At w L off p0 ∧ At w L (off + 1) p1 ∧ At w L (off + 2) p2 ∧ At w L (off + 3) p3 ∧ At w L (off + 4) p4 ∧ At w L (off + 5) p5 ∧ At w L (off + 6) p6)
    (v0 : Int) (H0 : Hid (ofV p0 = v0 ∧ ofE p0 = 0)) (rl : List UInt8) (sv : Int) (V : RulOk p1 rl sv) (H2 : Hid (fmOk p2 = true)) (y : Int) (H3 : Hid (nrV p3 = y ∧ nrE p3 = 0)) (f4 : Int) (H4 : Hid (wantZ (findL (low p4) monthsL) = f4)) (h4 : ((f4 + 1 : Int) == 0) = false) (b4 : 0 ≤ f4 ∧ f4 ≤ 11) (dk dw dn : Int) (H5 : Hid (parsF p5 = (dk, dw, dn, 0))) (n6 k6 : Int) (x : Int) (hx : (x != 0) = true) (H6 : Hid (parN p6 = n6 ∧ parK p6 = k6 ∧ parE p6 = x)) : EraTo L off n c w e0V x := by
  obtain ⟨⟨HC0, l0⟩, ⟨HC1, l1⟩, ⟨HC2, l2⟩, ⟨HC3, l3⟩, ⟨HC4, l4⟩, ⟨HC5, l5⟩, ⟨HC6, l6⟩⟩ := AA
  have wc0 := HC0.out (Below.refl _ _)
  have wc2 := HC2.out (Below.refl _ _)
  have hL1 : L < w.heap.size + 1 := by omega
  have hL2 : L < w.heap.size + 1 + 1 := by omega
  unfold EraTo
  rcases V with ⟨h1, rfl, rfl⟩ | ⟨c1, h1, lp, i0, ⟨b1, H1, rfl⟩ | ⟨b1, HD, H1, rfl⟩ | ⟨b1, HD, H1, rfl, rfl⟩⟩
  all_goals
    have C0 := an_off l0 H0
    have C2 := an_fmt l2 H2
    have C3 := an_num l3 H3
    have C4 := an_mon l4 H4
    have wr4 : IntKind.i64.wrap (f4 + 1 : Int) = f4 + 1 := w64 (by omega) (by omega)
    have C5 := an_day l5 H5
    have C6 := an_clk l6 H6
    try (have hz1 := wsize p1)
    first | have C1 := an_off l1 H1 | have C1 := an_set l1 H1 | skip
    first | have D1 := an_dg HD | skip
    clear l0 l1 l2 l3 l4 l5 l6
    go_enter Tryz.func22, Tryz.ntmps22
    go_wp2_with (first
     | (go_at_call 66
        with_reducible refine (C0.out _).mono ?_
        rintro e w1 ⟨rfl, k1⟩
        have T := Er.mk k1
        clear k1 wc2 wc0
        have wc1 := HC1.out T.bel
        have lq1 := wcell_lt wc1
        have wc2 := HC2.out T.bel
        have lq2 := wcell_lt wc2
        have oc0 := cell_of_row _ (w.heap.size + 1 + 1) 0 _ _ (0, 0) T.o.blk
        have of := no_frost T.o.blk
        have oq := row_lt T.o.blk
        simp only [])
     | (go_at_call 40; with_reducible refine (D1.out _).mono ?_; rintro e wp1 ⟨rfl, rfl⟩; simp only [])
     | (first | go_at_call 66 | go_at_call 15
        with_reducible refine (C1.out _).mono ?_
        rintro e w2 ⟨rfl, k2⟩
        replace T := T.p0.next k2
        clear k2 wc1 lq1 wc2 lq2 oc0 of oq
        have wc1 := HC1.out T.bel
        have lq1 := wcell_lt wc1
        have wc2 := HC2.out T.bel
        have lq2 := wcell_lt wc2
        have oc1 := cell_of_row _ (w.heap.size + 1 + 1) 1 _ _ (0, 0) T.o.blk
        have oc2 := cell_of_row _ (w.heap.size + 1 + 1) 2 _ _ (0, 0) T.o.blk
        have of := no_frost T.o.blk
        have oq := row_lt T.o.blk
        simp only [])
     | (go_at_call 17
        with_reducible refine (C2.out _).mono ?_
        rintro e w3 ⟨rfl, k3⟩
        with_reducible first | replace T := T.p0.next k3 | replace T := T.p2.next k3 | replace T := T.p1.next k3
        clear k3 wc1 lq1 wc2 lq2 of oq
        first | clear oc0 | clear oc1 oc2
        have wc3 := HC3.out T.bel
        have lq3 := wcell_lt wc3
        obtain ⟨-, -, -, -, oc4, oc5, oc6, oc7, oc8, oc9, oc10, oc11⟩ := cells12 T.o.blk
        have of := no_frost T.o.blk
        have oq := row_lt T.o.blk
        simp only [])
     | (go_at_call 61
        with_reducible refine (C3.out _).mono ?_
        rintro e w4 ⟨rfl, k4⟩
        replace T := T.p4.p5.p6.p7.p8.p9.p10.p11.next k4
        clear k4 wc3 lq3 oc4 oc5 oc6 oc7 oc8 oc9 oc10 oc11 of oq
        have wc4 := HC4.out T.bel
        have lq4 := wcell_lt wc4
        have oc5 := cell_of_row _ (w.heap.size + 1 + 1) 5 _ _ (0, 0) T.o.blk
        have of := no_frost T.o.blk
        have oq := row_lt T.o.blk
        simp only []))
    have KB : (w4.setCell ⟨(w.heap.size + 1 + 1), 5, none⟩ (Value.int IntKind.i64 y)).drew.cell? ⟨L, off + 4, none⟩ = some (.string ⟨p4.toArray⟩) := HC4.out (bdrew (bset T.bel (by omega)))
    go_region_held3 (fun w' => w'.cell? ⟨L, off + 4, none⟩ = some (.string ⟨p4.toArray⟩)) (first | exact KB | exact wc4 | go_keep | exact HC4.out (bset (bthen (bthen (bdrew (bset T.bel (by omega))) k5) k6) (by omega)) | exact HC4.out (bset T.bel (by omega)) | exact HC4.out (bdrew (bset T.bel (by omega))) | exact HC4.out (bthen (bdrew (bset T.bel (by omega))) k5) | exact HC4.out (bthen (bthen (bdrew (bset T.bel (by omega))) k5) k6)) (first
      | (go_at_call 63; refine (rmonths_any _).mono ?_; rintro e w5 ⟨Lm, rfl, hL1, hL2, k5⟩)
      | (go_at_call 62
         refine (C4.out Lm _ hL2).mono ?_
         rintro e w6 ⟨rfl, k6⟩
         have T2 := (T.p5.drew.next k5).next k6
         have wd5 := HC5.out T2.bel
         have ld5 := wcell_lt wd5
         have pc6 := cell_of_row _ (w.heap.size + 1 + 1) 6 _ _ (0, 0) T2.o.blk
         have pf := no_frost T2.o.blk
         have pq := row_lt T2.o.blk))
    clear KB k5 k6 hL1 hL2 T wc4 lq4 oc5 of oq
    have T := T2
    clear T2
    go_wp2_with (first
     | (go_at_call 64
        with_reducible refine (C5.out _).mono ?_
        rintro e w7 ⟨rfl, k7⟩
        replace T := T.p6.next k7
        clear k7 wd5 ld5 pc6 pf pq
        have wc6 := HC6.out T.bel
        have lq6 := wcell_lt wc6
        obtain ⟨-, -, -, -, -, -, -, oc7, oc8, oc9, -, -⟩ := cells12 T.o.blk
        have of := no_frost T.o.blk
        have oq := row_lt T.o.blk
        simp only [])
     | (go_at_call 65
        with_reducible refine (C6.out _).mono ?_
        rintro e w8 ⟨rfl, k8⟩
        replace T := T.p7.p8.p9.next k8
        clear k8 wc6 lq6 oc7 oc8 oc9 of oq
        have oc10 := cell_of_row _ (w.heap.size + 1 + 1) 10 _ _ (0, 0) T.o.blk
        have oc11 := cell_of_row _ (w.heap.size + 1 + 1) 11 _ _ (0, 0) T.o.blk
        have of := no_frost T.o.blk
        have oq := row_lt T.o.blk
        obtain ⟨hc0, hc1, hc2, hc3, hc4, hc5, hc6, hc7, hc8, hc9, hc10, hc11⟩ := cells12 T.x.blk
        have hf := no_frost T.x.blk
        have hq := row_lt T.x.blk
        obtain ⟨zc0, zc1, zc2, zc3, zc4, zc5, zc6, zc7, zc8, zc9, zc10, zc11⟩ := cells12 T.y.blk
        have zq := row_lt T.y.blk
        simp only []))
    refine ret12 (BlkN.blk T.p10.p11.x) rfl _ _ _ _ _ _ _ _ _ _ _ _ (fun W' hrow hgr => bodyPost_ret (by simp [results, Tryz.results22, go_sem, cells12 hrow, evV, e0V]) rfl ⟨rfl, own_low T.p10.p11.x hgr⟩)

set_option maxRecDepth 20000 in
set_option linter.unusedSimpArgs false in
set_option maxHeartbeats 12800000 in
theorem rq_s7 (L off c : Nat) (p0 p1 p2 p3 p4 p5 p6 : List UInt8) (w : World) (hL : L < w.heap.size) (AA : At w L off p0 ∧ At w L (off + 1) p1 ∧ At w L (off + 2) p2 ∧ At w L (off + 3) p3 ∧ At w L (off + 4) p4 ∧ At w L (off + 5) p5 ∧ At w L (off + 6) p6)
    (v0 : Int) (H0 : Hid (ofV p0 = v0 ∧ ofE p0 = 0)) (rl : List UInt8) (sv : Int) (V : RulOk p1 rl sv) (H2 : Hid (fmOk p2 = true)) (y : Int) (H3 : Hid (nrV p3 = y ∧ nrE p3 = 0)) (f4 : Int) (H4 : Hid (wantZ (findL (low p4) monthsL) = f4)) (h4 : ((f4 + 1 : Int) == 0) = false) (b4 : 0 ≤ f4 ∧ f4 ≤ 11) (dk dw dn : Int) (H5 : Hid (parsF p5 = (dk, dw, dn, 0))) (n6 k6 : Int) (H6 : Hid (parN p6 = n6 ∧ parK p6 = k6 ∧ parE p6 = 0)) : EraTo L off 7 c w ⟨v0, rl, sv, p2, true, y, (f4 + 1), dk, dw, dn, n6, k6⟩ 0 := by
  obtain ⟨⟨HC0, l0⟩, ⟨HC1, l1⟩, ⟨HC2, l2⟩, ⟨HC3, l3⟩, ⟨HC4, l4⟩, ⟨HC5, l5⟩, ⟨HC6, l6⟩⟩ := AA
  have wc0 := HC0.out (Below.refl _ _)
  have wc2 := HC2.out (Below.refl _ _)
  have hL1 : L < w.heap.size + 1 := by omega
  have hL2 : L < w.heap.size + 1 + 1 := by omega
  unfold EraTo
  rcases V with ⟨h1, rfl, rfl⟩ | ⟨c1, h1, lp, i0, ⟨b1, H1, rfl⟩ | ⟨b1, HD, H1, rfl⟩ | ⟨b1, HD, H1, rfl, rfl⟩⟩
  all_goals
    have C0 := an_off l0 H0
    have C2 := an_fmt l2 H2
    have C3 := an_num l3 H3
    have C4 := an_mon l4 H4
    have wr4 : IntKind.i64.wrap (f4 + 1 : Int) = f4 + 1 := w64 (by omega) (by omega)
    have C5 := an_day l5 H5
    have C6 := an_clk l6 H6
    try (have hz1 := wsize p1)
    first | have C1 := an_off l1 H1 | have C1 := an_set l1 H1 | skip
    first | have D1 := an_dg HD | skip
    clear l0 l1 l2 l3 l4 l5 l6
    go_enter Tryz.func22, Tryz.ntmps22
    go_wp2_with (first
     | (go_at_call 66
        with_reducible refine (C0.out _).mono ?_
        rintro e w1 ⟨rfl, k1⟩
        have T := Er.mk k1
        clear k1 wc2 wc0
        have wc1 := HC1.out T.bel
        have lq1 := wcell_lt wc1
        have wc2 := HC2.out T.bel
        have lq2 := wcell_lt wc2
        have oc0 := cell_of_row _ (w.heap.size + 1 + 1) 0 _ _ (0, 0) T.o.blk
        have of := no_frost T.o.blk
        have oq := row_lt T.o.blk
        simp only [])
     | (go_at_call 40; with_reducible refine (D1.out _).mono ?_; rintro e wp1 ⟨rfl, rfl⟩; simp only [])
     | (first | go_at_call 66 | go_at_call 15
        with_reducible refine (C1.out _).mono ?_
        rintro e w2 ⟨rfl, k2⟩
        replace T := T.p0.next k2
        clear k2 wc1 lq1 wc2 lq2 oc0 of oq
        have wc1 := HC1.out T.bel
        have lq1 := wcell_lt wc1
        have wc2 := HC2.out T.bel
        have lq2 := wcell_lt wc2
        have oc1 := cell_of_row _ (w.heap.size + 1 + 1) 1 _ _ (0, 0) T.o.blk
        have oc2 := cell_of_row _ (w.heap.size + 1 + 1) 2 _ _ (0, 0) T.o.blk
        have of := no_frost T.o.blk
        have oq := row_lt T.o.blk
        simp only [])
     | (go_at_call 17
        with_reducible refine (C2.out _).mono ?_
        rintro e w3 ⟨rfl, k3⟩
        with_reducible first | replace T := T.p0.next k3 | replace T := T.p2.next k3 | replace T := T.p1.next k3
        clear k3 wc1 lq1 wc2 lq2 of oq
        first | clear oc0 | clear oc1 oc2
        have wc3 := HC3.out T.bel
        have lq3 := wcell_lt wc3
        obtain ⟨-, -, -, -, oc4, oc5, oc6, oc7, oc8, oc9, oc10, oc11⟩ := cells12 T.o.blk
        have of := no_frost T.o.blk
        have oq := row_lt T.o.blk
        simp only [])
     | (go_at_call 61
        with_reducible refine (C3.out _).mono ?_
        rintro e w4 ⟨rfl, k4⟩
        replace T := T.p4.p5.p6.p7.p8.p9.p10.p11.next k4
        clear k4 wc3 lq3 oc4 oc5 oc6 oc7 oc8 oc9 oc10 oc11 of oq
        have wc4 := HC4.out T.bel
        have lq4 := wcell_lt wc4
        have oc5 := cell_of_row _ (w.heap.size + 1 + 1) 5 _ _ (0, 0) T.o.blk
        have of := no_frost T.o.blk
        have oq := row_lt T.o.blk
        simp only []))
    have KB : (w4.setCell ⟨(w.heap.size + 1 + 1), 5, none⟩ (Value.int IntKind.i64 y)).drew.cell? ⟨L, off + 4, none⟩ = some (.string ⟨p4.toArray⟩) := HC4.out (bdrew (bset T.bel (by omega)))
    go_region_held3 (fun w' => w'.cell? ⟨L, off + 4, none⟩ = some (.string ⟨p4.toArray⟩)) (first | exact KB | exact wc4 | go_keep | exact HC4.out (bset (bthen (bthen (bdrew (bset T.bel (by omega))) k5) k6) (by omega)) | exact HC4.out (bset T.bel (by omega)) | exact HC4.out (bdrew (bset T.bel (by omega))) | exact HC4.out (bthen (bdrew (bset T.bel (by omega))) k5) | exact HC4.out (bthen (bthen (bdrew (bset T.bel (by omega))) k5) k6)) (first
      | (go_at_call 63; refine (rmonths_any _).mono ?_; rintro e w5 ⟨Lm, rfl, hL1, hL2, k5⟩)
      | (go_at_call 62
         refine (C4.out Lm _ hL2).mono ?_
         rintro e w6 ⟨rfl, k6⟩
         have T2 := (T.p5.drew.next k5).next k6
         have wd5 := HC5.out T2.bel
         have ld5 := wcell_lt wd5
         have pc6 := cell_of_row _ (w.heap.size + 1 + 1) 6 _ _ (0, 0) T2.o.blk
         have pf := no_frost T2.o.blk
         have pq := row_lt T2.o.blk))
    clear KB k5 k6 hL1 hL2 T wc4 lq4 oc5 of oq
    have T := T2
    clear T2
    go_wp2_with (first
     | (go_at_call 64
        with_reducible refine (C5.out _).mono ?_
        rintro e w7 ⟨rfl, k7⟩
        replace T := T.p6.next k7
        clear k7 wd5 ld5 pc6 pf pq
        have wc6 := HC6.out T.bel
        have lq6 := wcell_lt wc6
        obtain ⟨-, -, -, -, -, -, -, oc7, oc8, oc9, -, -⟩ := cells12 T.o.blk
        have of := no_frost T.o.blk
        have oq := row_lt T.o.blk
        simp only [])
     | (go_at_call 65
        with_reducible refine (C6.out _).mono ?_
        rintro e w8 ⟨rfl, k8⟩
        replace T := T.p7.p8.p9.next k8
        clear k8 wc6 lq6 oc7 oc8 oc9 of oq
        obtain ⟨oc0, oc1, oc2, oc3, oc4, oc5, oc6, oc7, oc8, oc9, oc10, oc11⟩ := cells12 T.o.blk
        have of := no_frost T.o.blk
        have oq := row_lt T.o.blk
        obtain ⟨hc0, hc1, hc2, hc3, hc4, hc5, hc6, hc7, hc8, hc9, hc10, hc11⟩ := cells12 T.x.blk
        have hf := no_frost T.x.blk
        have hq := row_lt T.x.blk
        simp only []))
    refine ret12 (BlkN.blk T.p10.p11.x) rfl _ _ _ _ _ _ _ _ _ _ _ _ (fun W' hrow hgr => bodyPost_ret (by simp [results, Tryz.results22, go_sem, cells12 hrow, evV]) rfl ⟨rfl, own_low T.p10.p11.x hgr⟩)

end Go.Proofs.YtfmehdophoejiaaGreatDoor
