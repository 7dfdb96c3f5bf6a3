/- The walks of the reference's Rule: the last year a number; nothing that was in memory changes. Written by wip/tools/genlrr.py. -/
import Derived.Test.YtfmehdophoejiaaGreatDoorLrQ
namespace Go.Proofs.YtfmehdophoejiaaGreatDoor
open Go Go.RowKit

set_option maxRecDepth 20000 in
set_option maxHeartbeats 3200000 in
theorem rr_f4n (L off c : Nat) (p0 p1 p2 p3 p4 p5 p6 p7 p8 p9 : List UInt8) (w : World) (hL : L < w.heap.size) (CC : Hid (∀ W, Below w.heap.size w W → W.cell? ⟨L, off, none⟩ = some (.string ⟨p0.toArray⟩) ∧ W.cell? ⟨L, off + 1, none⟩ = some (.string ⟨p1.toArray⟩) ∧ W.cell? ⟨L, off + 2, none⟩ = some (.string ⟨p2.toArray⟩) ∧ W.cell? ⟨L, off + 3, none⟩ = some (.string ⟨p3.toArray⟩) ∧ W.cell? ⟨L, off + 4, none⟩ = some (.string ⟨p4.toArray⟩) ∧ W.cell? ⟨L, off + 5, none⟩ = some (.string ⟨p5.toArray⟩) ∧ W.cell? ⟨L, off + 6, none⟩ = some (.string ⟨p6.toArray⟩) ∧ W.cell? ⟨L, off + 7, none⟩ = some (.string ⟨p7.toArray⟩) ∧ W.cell? ⟨L, off + 8, none⟩ = some (.string ⟨p8.toArray⟩) ∧ W.cell? ⟨L, off + 9, none⟩ = some (.string ⟨p9.toArray⟩)))
    (l0 : p0.length ≤ 100) (l1 : p1.length ≤ 100) (l2 : p2.length ≤ 100) (l3 : p3.length ≤ 100) (_ : p4.length ≤ 100)
    (H0 : Hid (decide (knE 0 p0 = 0) = true)) (H1 : Hid (stOk p1 = true)) (y : Int) (H2 : Hid (nrV p2 = y ∧ nrE p2 = 0)) (H3 : Hid (wantZ (findL (low p3) endsL) = (-1))) (t : Int) (H3n : Hid (nrV p3 = t ∧ nrE p3 = 0)) (hy : ¬ t < y) (h4 : (p4 == [45]) = false) :
    Calls Tryz.prog 20 #[.slice (some ⟨L, off, none⟩) 10 c] w fun e w' => e = .returned (.tuple #[rvV r0, .int .i64 12]) ∧ Below w.heap.size w w' := by
  have wc0 := (CC.out w (Below.refl _ _)).1
  have C0 : Hid (∀ W, Calls Tryz.prog 60 #[.string ⟨p0.toArray⟩, .int .i64 1] W fun e w' => e = .returned (.bool true) ∧ Below W.heap.size W w') := Lib.hid fun W => rkind_is p0 0 true W l0 (by omega) H0
  have C1 : Hid (∀ W, Calls Tryz.prog 15 #[.string ⟨p1.toArray⟩] W fun e w' => e = .returned (.bool true) ∧ W = w') := Lib.hid fun W => rset_is p1 true W (by omega) H1
  have C2 : Hid (∀ W, Calls Tryz.prog 61 #[.string ⟨p2.toArray⟩] W fun e w' => e = .returned (.tuple #[.int .i64 y, .int .i64 0]) ∧ W = w') := Lib.hid fun W => rnumber_is p2 _ _ W (by omega) H2
  have C3 : Hid (∀ L W, ListAt L endsL W → Calls Tryz.prog 62 #[.string ⟨p3.toArray⟩, .slice (some ⟨L, 0, none⟩) 2 2] W fun e w' => e = .returned (.int .i64 (-1)) ∧ Below W.heap.size W w') := Lib.hid fun L W hL => rfind_is p3 endsL L 2 (-1) W l3 rfl (by omega) ends_100 hL H3
  have C3n : Hid (∀ W, Calls Tryz.prog 61 #[.string ⟨p3.toArray⟩] W fun e w' => e = .returned (.tuple #[.int .i64 t, .int .i64 0]) ∧ W = w') := Lib.hid fun W => rnumber_is p3 _ _ W (by omega) H3n
  clear l0 l1 l2 l3
  go_enter Tryz.func20, Tryz.ntmps20
  go_wp2_with (first
    | (go_at_call 60
       with_reducible refine (C0.out _).mono ?_
       rintro e w1 ⟨rfl, k1⟩
       have X := Lib.hid ((two_blk w _ _ _ _).1.next k1)
       have Y := Lib.hid ((two_blk w _ _ _ _).2.next k1)
       clear wc0
       clear k1
       have wc1 := (CC.out _ X.out.bel).2.1
       have wc2 := (CC.out _ X.out.bel).2.2.1
       have wc3 := (CC.out _ X.out.bel).2.2.2.1
       simp only [])
    | (go_at_call 15; with_reducible refine (C1.out _).mono ?_; rintro e wp1 ⟨rfl, rfl⟩; simp only [])
    | (go_at_call 61; with_reducible refine (C2.out _).mono ?_; rintro e wp2 ⟨rfl, rfl⟩; simp only [])
    | (go_at_call 62
       with_reducible refine (C3.out _ _ ?_).mono ?_
       · exact ListAt.newE _ endsL _ _ _ (by simp) rfl
       rintro e w2 ⟨rfl, k2⟩
       have X2 := Lib.hid ((X.out.more _).next k2)
       have Y2 := Lib.hid ((Y.out.more _).next k2)
       clear k2 X Y wc1 wc2 wc3
       have X := X2
       have Y := Y2
       clear X2 Y2
       have wc3 := (CC.out _ X.out.bel).2.2.2.1
       have wc4 := (CC.out _ X.out.bel).2.2.2.2.1
       have hc0 := cell_of_row w2 w.heap.size 0 _ _ (0, 0) X.out.blk
       have hc1 := cell_of_row w2 w.heap.size 1 _ _ (0, 0) X.out.blk
       have hc2 := cell_of_row w2 w.heap.size 2 _ _ (0, 0) X.out.blk
       have hc3 := cell_of_row w2 w.heap.size 3 _ _ (0, 0) X.out.blk
       have hc4 := cell_of_row w2 w.heap.size 4 _ _ (0, 0) X.out.blk
       have hc5 := cell_of_row w2 w.heap.size 5 _ _ (0, 0) X.out.blk
       have hc6 := cell_of_row w2 w.heap.size 6 _ _ (0, 0) X.out.blk
       have hc7 := cell_of_row w2 w.heap.size 7 _ _ (0, 0) X.out.blk
       have hc8 := cell_of_row w2 w.heap.size 8 _ _ (0, 0) X.out.blk
       have hc9 := cell_of_row w2 w.heap.size 9 _ _ (0, 0) X.out.blk
       have hc10 := cell_of_row w2 w.heap.size 10 _ _ (0, 0) X.out.blk
       have hcf0 := row_frozen (o := 0) X.out.blk
       have hcf1 := row_frozen (o := 1) X.out.blk
       have hcf2 := row_frozen (o := 2) X.out.blk
       have hcf3 := row_frozen (o := 3) X.out.blk
       have hcf4 := row_frozen (o := 4) X.out.blk
       have hcf5 := row_frozen (o := 5) X.out.blk
       have hcf6 := row_frozen (o := 6) X.out.blk
       have hcf7 := row_frozen (o := 7) X.out.blk
       have hcf8 := row_frozen (o := 8) X.out.blk
       have hcf9 := row_frozen (o := 9) X.out.blk
       have hcf10 := row_frozen (o := 10) X.out.blk
       have hcq := row_lt X.out.blk
       have zc0 := cell_of_row w2 (w.heap.size + 1) 0 _ _ (0, 0) Y.out.blk
       have zc1 := cell_of_row w2 (w.heap.size + 1) 1 _ _ (0, 0) Y.out.blk
       have zc2 := cell_of_row w2 (w.heap.size + 1) 2 _ _ (0, 0) Y.out.blk
       have zc3 := cell_of_row w2 (w.heap.size + 1) 3 _ _ (0, 0) Y.out.blk
       have zc4 := cell_of_row w2 (w.heap.size + 1) 4 _ _ (0, 0) Y.out.blk
       have zc5 := cell_of_row w2 (w.heap.size + 1) 5 _ _ (0, 0) Y.out.blk
       have zc6 := cell_of_row w2 (w.heap.size + 1) 6 _ _ (0, 0) Y.out.blk
       have zc7 := cell_of_row w2 (w.heap.size + 1) 7 _ _ (0, 0) Y.out.blk
       have zc8 := cell_of_row w2 (w.heap.size + 1) 8 _ _ (0, 0) Y.out.blk
       have zc9 := cell_of_row w2 (w.heap.size + 1) 9 _ _ (0, 0) Y.out.blk
       have zc10 := cell_of_row w2 (w.heap.size + 1) 10 _ _ (0, 0) Y.out.blk
       have zcq := row_lt Y.out.blk
       simp only [])
    | (go_at_call 61; with_reducible refine (C3n.out _).mono ?_; rintro e wp3 ⟨rfl, rfl⟩; simp only []))
  refine ret11 (BlkN.blk X.out) rfl _ _ _ _ _ _ _ _ _ _ _ (fun W' hrow hgr => ?_)
  have rc0 := cell_of_row W' w.heap.size 0 _ _ (0, 0) hrow
  have rc1 := cell_of_row W' w.heap.size 1 _ _ (0, 0) hrow
  have rc2 := cell_of_row W' w.heap.size 2 _ _ (0, 0) hrow
  have rc3 := cell_of_row W' w.heap.size 3 _ _ (0, 0) hrow
  have rc4 := cell_of_row W' w.heap.size 4 _ _ (0, 0) hrow
  have rc5 := cell_of_row W' w.heap.size 5 _ _ (0, 0) hrow
  have rc6 := cell_of_row W' w.heap.size 6 _ _ (0, 0) hrow
  have rc7 := cell_of_row W' w.heap.size 7 _ _ (0, 0) hrow
  have rc8 := cell_of_row W' w.heap.size 8 _ _ (0, 0) hrow
  have rc9 := cell_of_row W' w.heap.size 9 _ _ (0, 0) hrow
  have rc10 := cell_of_row W' w.heap.size 10 _ _ (0, 0) hrow
  refine bodyPost_ret (v := .tuple #[rvV r0, .int .i64 12]) (by simp [results, Tryz.results20, go_sem, rc0, rc1, rc2, rc3, rc4, rc5, rc6, rc7, rc8, rc9, rc10, rvV, r0]) rfl ⟨rfl, ?_⟩
  refine Below.grown (BlkN.bel X.out) hgr ?_ (fun j e => by injection e with e; omega)
  exact Below.size (BlkN.bel X.out)

set_option maxRecDepth 20000 in
set_option maxHeartbeats 3200000 in
theorem rr_f5n (L off c : Nat) (p0 p1 p2 p3 p4 p5 p6 p7 p8 p9 : List UInt8) (w : World) (hL : L < w.heap.size) (CC : Hid (∀ W, Below w.heap.size w W → W.cell? ⟨L, off, none⟩ = some (.string ⟨p0.toArray⟩) ∧ W.cell? ⟨L, off + 1, none⟩ = some (.string ⟨p1.toArray⟩) ∧ W.cell? ⟨L, off + 2, none⟩ = some (.string ⟨p2.toArray⟩) ∧ W.cell? ⟨L, off + 3, none⟩ = some (.string ⟨p3.toArray⟩) ∧ W.cell? ⟨L, off + 4, none⟩ = some (.string ⟨p4.toArray⟩) ∧ W.cell? ⟨L, off + 5, none⟩ = some (.string ⟨p5.toArray⟩) ∧ W.cell? ⟨L, off + 6, none⟩ = some (.string ⟨p6.toArray⟩) ∧ W.cell? ⟨L, off + 7, none⟩ = some (.string ⟨p7.toArray⟩) ∧ W.cell? ⟨L, off + 8, none⟩ = some (.string ⟨p8.toArray⟩) ∧ W.cell? ⟨L, off + 9, none⟩ = some (.string ⟨p9.toArray⟩)))
    (l0 : p0.length ≤ 100) (l1 : p1.length ≤ 100) (l2 : p2.length ≤ 100) (l3 : p3.length ≤ 100) (_ : p4.length ≤ 100) (l5 : p5.length ≤ 100)
    (H0 : Hid (decide (knE 0 p0 = 0) = true)) (H1 : Hid (stOk p1 = true)) (y : Int) (H2 : Hid (nrV p2 = y ∧ nrE p2 = 0)) (H3 : Hid (wantZ (findL (low p3) endsL) = (-1))) (t : Int) (H3n : Hid (nrV p3 = t ∧ nrE p3 = 0)) (hy : ¬ t < y) (h4 : (p4 == [45]) = true) (H5 : Hid (wantZ (findL (low p5) monthsL) = (-1))) :
    Calls Tryz.prog 20 #[.slice (some ⟨L, off, none⟩) 10 c] w fun e w' => e = .returned (.tuple #[rvV r0, .int .i64 13]) ∧ Below w.heap.size w w' := by
  have wc0 := (CC.out w (Below.refl _ _)).1
  have C0 : Hid (∀ W, Calls Tryz.prog 60 #[.string ⟨p0.toArray⟩, .int .i64 1] W fun e w' => e = .returned (.bool true) ∧ Below W.heap.size W w') := Lib.hid fun W => rkind_is p0 0 true W l0 (by omega) H0
  have C1 : Hid (∀ W, Calls Tryz.prog 15 #[.string ⟨p1.toArray⟩] W fun e w' => e = .returned (.bool true) ∧ W = w') := Lib.hid fun W => rset_is p1 true W (by omega) H1
  have C2 : Hid (∀ W, Calls Tryz.prog 61 #[.string ⟨p2.toArray⟩] W fun e w' => e = .returned (.tuple #[.int .i64 y, .int .i64 0]) ∧ W = w') := Lib.hid fun W => rnumber_is p2 _ _ W (by omega) H2
  have C3 : Hid (∀ L W, ListAt L endsL W → Calls Tryz.prog 62 #[.string ⟨p3.toArray⟩, .slice (some ⟨L, 0, none⟩) 2 2] W fun e w' => e = .returned (.int .i64 (-1)) ∧ Below W.heap.size W w') := Lib.hid fun L W hL => rfind_is p3 endsL L 2 (-1) W l3 rfl (by omega) ends_100 hL H3
  have C3n : Hid (∀ W, Calls Tryz.prog 61 #[.string ⟨p3.toArray⟩] W fun e w' => e = .returned (.tuple #[.int .i64 t, .int .i64 0]) ∧ W = w') := Lib.hid fun W => rnumber_is p3 _ _ W (by omega) H3n
  have C5 : Hid (∀ L W, ListAt L monthsL W → Calls Tryz.prog 62 #[.string ⟨p5.toArray⟩, .slice (some ⟨L, 0, none⟩) 12 12] W fun e w' => e = .returned (.int .i64 (-1)) ∧ Below W.heap.size W w') := Lib.hid fun L W hL => rfind_is p5 monthsL L 12 (-1) W l5 rfl (by omega) months_100 hL H5
  have wr5 : IntKind.i64.wrap ((-1) + 1 : Int) = (-1) + 1 := w64 (by omega) (by omega)
  clear l0 l1 l2 l3 l5
  go_enter Tryz.func20, Tryz.ntmps20
  go_wp2_with (first
    | (go_at_call 60
       with_reducible refine (C0.out _).mono ?_
       rintro e w1 ⟨rfl, k1⟩
       have X := Lib.hid ((two_blk w _ _ _ _).1.next k1)
       have Y := Lib.hid ((two_blk w _ _ _ _).2.next k1)
       clear wc0
       clear k1
       have wc1 := (CC.out _ X.out.bel).2.1
       have wc2 := (CC.out _ X.out.bel).2.2.1
       have wc3 := (CC.out _ X.out.bel).2.2.2.1
       simp only [])
    | (go_at_call 15; with_reducible refine (C1.out _).mono ?_; rintro e wp1 ⟨rfl, rfl⟩; simp only [])
    | (go_at_call 61; with_reducible refine (C2.out _).mono ?_; rintro e wp2 ⟨rfl, rfl⟩; simp only [])
    | (go_at_call 62
       with_reducible refine (C3.out _ _ ?_).mono ?_
       · exact ListAt.newE _ endsL _ _ _ (by simp) rfl
       rintro e w2 ⟨rfl, k2⟩
       have X2 := Lib.hid ((X.out.more _).next k2)
       have Y2 := Lib.hid ((Y.out.more _).next k2)
       clear k2 X Y wc1 wc2 wc3
       have X := X2
       have Y := Y2
       clear X2 Y2
       have wc3 := (CC.out _ X.out.bel).2.2.2.1
       have wc4 := (CC.out _ X.out.bel).2.2.2.2.1
       have wc5 := (CC.out _ X.out.bel).2.2.2.2.2.1
       simp only [])
    | (go_at_call 61; with_reducible refine (C3n.out _).mono ?_; rintro e wp3 ⟨rfl, rfl⟩; simp only []))
  go_region_held3 (fun w' => w'.cell? ⟨L, off + 5, none⟩ = some (.string ⟨p5.toArray⟩)) (first | exact wc5 | go_keep | exact (CC.out _ (bthen (bdrew X.out.bel) k3)).2.2.2.2.2.1 | exact (CC.out _ (bthen (bthen (bdrew X.out.bel) k3) k4)).2.2.2.2.2.1) (first
    | (go_at_call 63; refine (rmonths_any _).mono ?_; rintro e w3 ⟨Lm, rfl, hL1, hL2, k3⟩)
    | (go_at_call 62; refine (C5.out Lm _ hL2).mono ?_; rintro e w4 ⟨rfl, k4⟩))
  have X4 := Lib.hid ((X.out.drew.next k3).next k4)
  have Y4 := Lib.hid ((Y.out.drew.next k3).next k4)
  clear k3 k4 X Y hL1 hL2 wc4 wc5 wc3
  have X := X4
  have Y := Y4
  clear X4 Y4
  have hc0 := cell_of_row w4 w.heap.size 0 _ _ (0, 0) X.out.blk
  have hc1 := cell_of_row w4 w.heap.size 1 _ _ (0, 0) X.out.blk
  have hc2 := cell_of_row w4 w.heap.size 2 _ _ (0, 0) X.out.blk
  have hc3 := cell_of_row w4 w.heap.size 3 _ _ (0, 0) X.out.blk
  have hc4 := cell_of_row w4 w.heap.size 4 _ _ (0, 0) X.out.blk
  have hc5 := cell_of_row w4 w.heap.size 5 _ _ (0, 0) X.out.blk
  have hc6 := cell_of_row w4 w.heap.size 6 _ _ (0, 0) X.out.blk
  have hc7 := cell_of_row w4 w.heap.size 7 _ _ (0, 0) X.out.blk
  have hc8 := cell_of_row w4 w.heap.size 8 _ _ (0, 0) X.out.blk
  have hc9 := cell_of_row w4 w.heap.size 9 _ _ (0, 0) X.out.blk
  have hc10 := cell_of_row w4 w.heap.size 10 _ _ (0, 0) X.out.blk
  have hcf0 := row_frozen (o := 0) X.out.blk
  have hcf1 := row_frozen (o := 1) X.out.blk
  have hcf2 := row_frozen (o := 2) X.out.blk
  have hcf3 := row_frozen (o := 3) X.out.blk
  have hcf4 := row_frozen (o := 4) X.out.blk
  have hcf5 := row_frozen (o := 5) X.out.blk
  have hcf6 := row_frozen (o := 6) X.out.blk
  have hcf7 := row_frozen (o := 7) X.out.blk
  have hcf8 := row_frozen (o := 8) X.out.blk
  have hcf9 := row_frozen (o := 9) X.out.blk
  have hcf10 := row_frozen (o := 10) X.out.blk
  have hcq := row_lt X.out.blk
  have zc0 := cell_of_row w4 (w.heap.size + 1) 0 _ _ (0, 0) Y.out.blk
  have zc1 := cell_of_row w4 (w.heap.size + 1) 1 _ _ (0, 0) Y.out.blk
  have zc2 := cell_of_row w4 (w.heap.size + 1) 2 _ _ (0, 0) Y.out.blk
  have zc3 := cell_of_row w4 (w.heap.size + 1) 3 _ _ (0, 0) Y.out.blk
  have zc4 := cell_of_row w4 (w.heap.size + 1) 4 _ _ (0, 0) Y.out.blk
  have zc5 := cell_of_row w4 (w.heap.size + 1) 5 _ _ (0, 0) Y.out.blk
  have zc6 := cell_of_row w4 (w.heap.size + 1) 6 _ _ (0, 0) Y.out.blk
  have zc7 := cell_of_row w4 (w.heap.size + 1) 7 _ _ (0, 0) Y.out.blk
  have zc8 := cell_of_row w4 (w.heap.size + 1) 8 _ _ (0, 0) Y.out.blk
  have zc9 := cell_of_row w4 (w.heap.size + 1) 9 _ _ (0, 0) Y.out.blk
  have zc10 := cell_of_row w4 (w.heap.size + 1) 10 _ _ (0, 0) Y.out.blk
  have zcq := row_lt Y.out.blk
  go_wp2
  refine ret11 (BlkN.blk X.out) rfl _ _ _ _ _ _ _ _ _ _ _ (fun W' hrow hgr => ?_)
  have rc0 := cell_of_row W' w.heap.size 0 _ _ (0, 0) hrow
  have rc1 := cell_of_row W' w.heap.size 1 _ _ (0, 0) hrow
  have rc2 := cell_of_row W' w.heap.size 2 _ _ (0, 0) hrow
  have rc3 := cell_of_row W' w.heap.size 3 _ _ (0, 0) hrow
  have rc4 := cell_of_row W' w.heap.size 4 _ _ (0, 0) hrow
  have rc5 := cell_of_row W' w.heap.size 5 _ _ (0, 0) hrow
  have rc6 := cell_of_row W' w.heap.size 6 _ _ (0, 0) hrow
  have rc7 := cell_of_row W' w.heap.size 7 _ _ (0, 0) hrow
  have rc8 := cell_of_row W' w.heap.size 8 _ _ (0, 0) hrow
  have rc9 := cell_of_row W' w.heap.size 9 _ _ (0, 0) hrow
  have rc10 := cell_of_row W' w.heap.size 10 _ _ (0, 0) hrow
  refine bodyPost_ret (v := .tuple #[rvV r0, .int .i64 13]) (by simp [results, Tryz.results20, go_sem, rc0, rc1, rc2, rc3, rc4, rc5, rc6, rc7, rc8, rc9, rc10, rvV, r0]) rfl ⟨rfl, ?_⟩
  refine Below.grown (BlkN.bel X.out) hgr ?_ (fun j e => by injection e with e; omega)
  exact Below.size (BlkN.bel X.out)

set_option maxRecDepth 20000 in
set_option maxHeartbeats 3200000 in
theorem rr_f6n (L off c : Nat) (p0 p1 p2 p3 p4 p5 p6 p7 p8 p9 : List UInt8) (w : World) (hL : L < w.heap.size) (CC : Hid (∀ W, Below w.heap.size w W → W.cell? ⟨L, off, none⟩ = some (.string ⟨p0.toArray⟩) ∧ W.cell? ⟨L, off + 1, none⟩ = some (.string ⟨p1.toArray⟩) ∧ W.cell? ⟨L, off + 2, none⟩ = some (.string ⟨p2.toArray⟩) ∧ W.cell? ⟨L, off + 3, none⟩ = some (.string ⟨p3.toArray⟩) ∧ W.cell? ⟨L, off + 4, none⟩ = some (.string ⟨p4.toArray⟩) ∧ W.cell? ⟨L, off + 5, none⟩ = some (.string ⟨p5.toArray⟩) ∧ W.cell? ⟨L, off + 6, none⟩ = some (.string ⟨p6.toArray⟩) ∧ W.cell? ⟨L, off + 7, none⟩ = some (.string ⟨p7.toArray⟩) ∧ W.cell? ⟨L, off + 8, none⟩ = some (.string ⟨p8.toArray⟩) ∧ W.cell? ⟨L, off + 9, none⟩ = some (.string ⟨p9.toArray⟩)))
    (l0 : p0.length ≤ 100) (l1 : p1.length ≤ 100) (l2 : p2.length ≤ 100) (l3 : p3.length ≤ 100) (_ : p4.length ≤ 100) (l5 : p5.length ≤ 100) (l6 : p6.length ≤ 100)
    (H0 : Hid (decide (knE 0 p0 = 0) = true)) (H1 : Hid (stOk p1 = true)) (y : Int) (H2 : Hid (nrV p2 = y ∧ nrE p2 = 0)) (H3 : Hid (wantZ (findL (low p3) endsL) = (-1))) (t : Int) (H3n : Hid (nrV p3 = t ∧ nrE p3 = 0)) (hy : ¬ t < y) (h4 : (p4 == [45]) = true) (f5 : Int) (H5 : Hid (wantZ (findL (low p5) monthsL) = f5)) (h5 : ((f5 + 1 : Int) == 0) = false) (b5 : 0 ≤ f5 ∧ f5 ≤ 11) (dk dw dn : Int) (x : Int) (hx : (x != 0) = true) (H6 : Hid (parsF p6 = (dk, dw, dn, x))) :
    Calls Tryz.prog 20 #[.slice (some ⟨L, off, none⟩) 10 c] w fun e w' => e = .returned (.tuple #[rvV r0, .int .i64 x]) ∧ Below w.heap.size w w' := by
  have wc0 := (CC.out w (Below.refl _ _)).1
  have C0 : Hid (∀ W, Calls Tryz.prog 60 #[.string ⟨p0.toArray⟩, .int .i64 1] W fun e w' => e = .returned (.bool true) ∧ Below W.heap.size W w') := Lib.hid fun W => rkind_is p0 0 true W l0 (by omega) H0
  have C1 : Hid (∀ W, Calls Tryz.prog 15 #[.string ⟨p1.toArray⟩] W fun e w' => e = .returned (.bool true) ∧ W = w') := Lib.hid fun W => rset_is p1 true W (by omega) H1
  have C2 : Hid (∀ W, Calls Tryz.prog 61 #[.string ⟨p2.toArray⟩] W fun e w' => e = .returned (.tuple #[.int .i64 y, .int .i64 0]) ∧ W = w') := Lib.hid fun W => rnumber_is p2 _ _ W (by omega) H2
  have C3 : Hid (∀ L W, ListAt L endsL W → Calls Tryz.prog 62 #[.string ⟨p3.toArray⟩, .slice (some ⟨L, 0, none⟩) 2 2] W fun e w' => e = .returned (.int .i64 (-1)) ∧ Below W.heap.size W w') := Lib.hid fun L W hL => rfind_is p3 endsL L 2 (-1) W l3 rfl (by omega) ends_100 hL H3
  have C3n : Hid (∀ W, Calls Tryz.prog 61 #[.string ⟨p3.toArray⟩] W fun e w' => e = .returned (.tuple #[.int .i64 t, .int .i64 0]) ∧ W = w') := Lib.hid fun W => rnumber_is p3 _ _ W (by omega) H3n
  have C5 : Hid (∀ L W, ListAt L monthsL W → Calls Tryz.prog 62 #[.string ⟨p5.toArray⟩, .slice (some ⟨L, 0, none⟩) 12 12] W fun e w' => e = .returned (.int .i64 f5) ∧ Below W.heap.size W w') := Lib.hid fun L W hL => rfind_is p5 monthsL L 12 f5 W l5 rfl (by omega) months_100 hL H5
  have wr5 : IntKind.i64.wrap (f5 + 1 : Int) = f5 + 1 := w64 (by omega) (by omega)
  have C6 : Hid (∀ W, Calls Tryz.prog 64 #[.string ⟨p6.toArray⟩] W fun e w' => e = .returned (.tuple #[.agg #[.int .i64 dk, .int .i64 dw, .int .i64 dn], .int .i64 x]) ∧ Below W.heap.size W w') := Lib.hid fun W => rdparse_is p6 dk dw dn x W l6 H6
  clear l0 l1 l2 l3 l5 l6
  go_enter Tryz.func20, Tryz.ntmps20
  go_wp2_with (first
    | (go_at_call 60
       with_reducible refine (C0.out _).mono ?_
       rintro e w1 ⟨rfl, k1⟩
       have X := Lib.hid ((two_blk w _ _ _ _).1.next k1)
       have Y := Lib.hid ((two_blk w _ _ _ _).2.next k1)
       clear wc0
       clear k1
       have wc1 := (CC.out _ X.out.bel).2.1
       have wc2 := (CC.out _ X.out.bel).2.2.1
       have wc3 := (CC.out _ X.out.bel).2.2.2.1
       simp only [])
    | (go_at_call 15; with_reducible refine (C1.out _).mono ?_; rintro e wp1 ⟨rfl, rfl⟩; simp only [])
    | (go_at_call 61; with_reducible refine (C2.out _).mono ?_; rintro e wp2 ⟨rfl, rfl⟩; simp only [])
    | (go_at_call 62
       with_reducible refine (C3.out _ _ ?_).mono ?_
       · exact ListAt.newE _ endsL _ _ _ (by simp) rfl
       rintro e w2 ⟨rfl, k2⟩
       have X2 := Lib.hid ((X.out.more _).next k2)
       have Y2 := Lib.hid ((Y.out.more _).next k2)
       clear k2 X Y wc1 wc2 wc3
       have X := X2
       have Y := Y2
       clear X2 Y2
       have wc3 := (CC.out _ X.out.bel).2.2.2.1
       have wc4 := (CC.out _ X.out.bel).2.2.2.2.1
       have wc5 := (CC.out _ X.out.bel).2.2.2.2.2.1
       simp only [])
    | (go_at_call 61; with_reducible refine (C3n.out _).mono ?_; rintro e wp3 ⟨rfl, rfl⟩; simp only []))
  go_region_held3 (fun w' => w'.cell? ⟨L, off + 5, none⟩ = some (.string ⟨p5.toArray⟩)) (first | exact wc5 | go_keep | exact (CC.out _ (bthen (bdrew X.out.bel) k3)).2.2.2.2.2.1 | exact (CC.out _ (bthen (bthen (bdrew X.out.bel) k3) k4)).2.2.2.2.2.1) (first
    | (go_at_call 63; refine (rmonths_any _).mono ?_; rintro e w3 ⟨Lm, rfl, hL1, hL2, k3⟩)
    | (go_at_call 62; refine (C5.out Lm _ hL2).mono ?_; rintro e w4 ⟨rfl, k4⟩))
  have X4 := Lib.hid ((X.out.drew.next k3).next k4)
  have Y4 := Lib.hid ((Y.out.drew.next k3).next k4)
  clear k3 k4 X Y hL1 hL2 wc4 wc5 wc3
  have X := X4
  have Y := Y4
  clear X4 Y4
  have wc6 := (CC.out _ X.out.bel).2.2.2.2.2.2.1
  go_wp2_with (first
    | (go_at_call 64
       with_reducible refine (C6.out _).mono ?_
       rintro e w5 ⟨rfl, k5⟩
       have X5 := Lib.hid (X.out.next k5)
       have Y5 := Lib.hid (Y.out.next k5)
       clear X Y wc6
       have X := X5
       have Y := Y5
       clear X5 Y5
       clear k5
       have hc0 := cell_of_row w5 w.heap.size 0 _ _ (0, 0) X.out.blk
       have hc1 := cell_of_row w5 w.heap.size 1 _ _ (0, 0) X.out.blk
       have hc2 := cell_of_row w5 w.heap.size 2 _ _ (0, 0) X.out.blk
       have hc3 := cell_of_row w5 w.heap.size 3 _ _ (0, 0) X.out.blk
       have hc4 := cell_of_row w5 w.heap.size 4 _ _ (0, 0) X.out.blk
       have hc5 := cell_of_row w5 w.heap.size 5 _ _ (0, 0) X.out.blk
       have hc6 := cell_of_row w5 w.heap.size 6 _ _ (0, 0) X.out.blk
       have hc7 := cell_of_row w5 w.heap.size 7 _ _ (0, 0) X.out.blk
       have hc8 := cell_of_row w5 w.heap.size 8 _ _ (0, 0) X.out.blk
       have hc9 := cell_of_row w5 w.heap.size 9 _ _ (0, 0) X.out.blk
       have hc10 := cell_of_row w5 w.heap.size 10 _ _ (0, 0) X.out.blk
       have hcf0 := row_frozen (o := 0) X.out.blk
       have hcf1 := row_frozen (o := 1) X.out.blk
       have hcf2 := row_frozen (o := 2) X.out.blk
       have hcf3 := row_frozen (o := 3) X.out.blk
       have hcf4 := row_frozen (o := 4) X.out.blk
       have hcf5 := row_frozen (o := 5) X.out.blk
       have hcf6 := row_frozen (o := 6) X.out.blk
       have hcf7 := row_frozen (o := 7) X.out.blk
       have hcf8 := row_frozen (o := 8) X.out.blk
       have hcf9 := row_frozen (o := 9) X.out.blk
       have hcf10 := row_frozen (o := 10) X.out.blk
       have hcq := row_lt X.out.blk
       have zc0 := cell_of_row w5 (w.heap.size + 1) 0 _ _ (0, 0) Y.out.blk
       have zc1 := cell_of_row w5 (w.heap.size + 1) 1 _ _ (0, 0) Y.out.blk
       have zc2 := cell_of_row w5 (w.heap.size + 1) 2 _ _ (0, 0) Y.out.blk
       have zc3 := cell_of_row w5 (w.heap.size + 1) 3 _ _ (0, 0) Y.out.blk
       have zc4 := cell_of_row w5 (w.heap.size + 1) 4 _ _ (0, 0) Y.out.blk
       have zc5 := cell_of_row w5 (w.heap.size + 1) 5 _ _ (0, 0) Y.out.blk
       have zc6 := cell_of_row w5 (w.heap.size + 1) 6 _ _ (0, 0) Y.out.blk
       have zc7 := cell_of_row w5 (w.heap.size + 1) 7 _ _ (0, 0) Y.out.blk
       have zc8 := cell_of_row w5 (w.heap.size + 1) 8 _ _ (0, 0) Y.out.blk
       have zc9 := cell_of_row w5 (w.heap.size + 1) 9 _ _ (0, 0) Y.out.blk
       have zc10 := cell_of_row w5 (w.heap.size + 1) 10 _ _ (0, 0) Y.out.blk
       have zcq := row_lt Y.out.blk
       simp only []))
  refine ret11a (BlkN.blk X.out) rfl _ _ _ _ _ _ _ _ _ _ _ (fun W' hrow hgr => ?_)
  have rc0 := cell_of_row W' w.heap.size 0 _ _ (0, 0) hrow
  have rc1 := cell_of_row W' w.heap.size 1 _ _ (0, 0) hrow
  have rc2 := cell_of_row W' w.heap.size 2 _ _ (0, 0) hrow
  have rc3 := cell_of_row W' w.heap.size 3 _ _ (0, 0) hrow
  have rc4 := cell_of_row W' w.heap.size 4 _ _ (0, 0) hrow
  have rc5 := cell_of_row W' w.heap.size 5 _ _ (0, 0) hrow
  have rc6 := cell_of_row W' w.heap.size 6 _ _ (0, 0) hrow
  have rc7 := cell_of_row W' w.heap.size 7 _ _ (0, 0) hrow
  have rc8 := cell_of_row W' w.heap.size 8 _ _ (0, 0) hrow
  have rc9 := cell_of_row W' w.heap.size 9 _ _ (0, 0) hrow
  have rc10 := cell_of_row W' w.heap.size 10 _ _ (0, 0) hrow
  refine bodyPost_ret (v := .tuple #[rvV r0, .int .i64 x]) (by simp [results, Tryz.results20, go_sem, rc0, rc1, rc2, rc3, rc4, rc5, rc6, rc7, rc8, rc9, rc10, rvV, r0]) rfl ⟨rfl, ?_⟩
  refine Below.grown (BlkN.bel X.out) hgr ?_ (fun j e => by injection e with e; omega)
  exact Below.size (BlkN.bel X.out)

set_option maxRecDepth 20000 in
set_option maxHeartbeats 3200000 in
theorem rr_f7n (L off c : Nat) (p0 p1 p2 p3 p4 p5 p6 p7 p8 p9 : List UInt8) (w : World) (hL : L < w.heap.size) (CC : Hid (∀ W, Below w.heap.size w W → W.cell? ⟨L, off, none⟩ = some (.string ⟨p0.toArray⟩) ∧ W.cell? ⟨L, off + 1, none⟩ = some (.string ⟨p1.toArray⟩) ∧ W.cell? ⟨L, off + 2, none⟩ = some (.string ⟨p2.toArray⟩) ∧ W.cell? ⟨L, off + 3, none⟩ = some (.string ⟨p3.toArray⟩) ∧ W.cell? ⟨L, off + 4, none⟩ = some (.string ⟨p4.toArray⟩) ∧ W.cell? ⟨L, off + 5, none⟩ = some (.string ⟨p5.toArray⟩) ∧ W.cell? ⟨L, off + 6, none⟩ = some (.string ⟨p6.toArray⟩) ∧ W.cell? ⟨L, off + 7, none⟩ = some (.string ⟨p7.toArray⟩) ∧ W.cell? ⟨L, off + 8, none⟩ = some (.string ⟨p8.toArray⟩) ∧ W.cell? ⟨L, off + 9, none⟩ = some (.string ⟨p9.toArray⟩)))
    (l0 : p0.length ≤ 100) (l1 : p1.length ≤ 100) (l2 : p2.length ≤ 100) (l3 : p3.length ≤ 100) (_ : p4.length ≤ 100) (l5 : p5.length ≤ 100) (l6 : p6.length ≤ 100) (l7 : p7.length ≤ 100)
    (H0 : Hid (decide (knE 0 p0 = 0) = true)) (H1 : Hid (stOk p1 = true)) (y : Int) (H2 : Hid (nrV p2 = y ∧ nrE p2 = 0)) (H3 : Hid (wantZ (findL (low p3) endsL) = (-1))) (t : Int) (H3n : Hid (nrV p3 = t ∧ nrE p3 = 0)) (hy : ¬ t < y) (h4 : (p4 == [45]) = true) (f5 : Int) (H5 : Hid (wantZ (findL (low p5) monthsL) = f5)) (h5 : ((f5 + 1 : Int) == 0) = false) (b5 : 0 ≤ f5 ∧ f5 ≤ 11) (dk dw dn : Int) (H6 : Hid (parsF p6 = (dk, dw, dn, 0))) (n7 k7 : Int) (x : Int) (hx : (x != 0) = true) (H7 : Hid (parN p7 = n7 ∧ parK p7 = k7 ∧ parE p7 = x)) :
    Calls Tryz.prog 20 #[.slice (some ⟨L, off, none⟩) 10 c] w fun e w' => e = .returned (.tuple #[rvV r0, .int .i64 x]) ∧ Below w.heap.size w w' := by
  have wc0 := (CC.out w (Below.refl _ _)).1
  have C0 : Hid (∀ W, Calls Tryz.prog 60 #[.string ⟨p0.toArray⟩, .int .i64 1] W fun e w' => e = .returned (.bool true) ∧ Below W.heap.size W w') := Lib.hid fun W => rkind_is p0 0 true W l0 (by omega) H0
  have C1 : Hid (∀ W, Calls Tryz.prog 15 #[.string ⟨p1.toArray⟩] W fun e w' => e = .returned (.bool true) ∧ W = w') := Lib.hid fun W => rset_is p1 true W (by omega) H1
  have C2 : Hid (∀ W, Calls Tryz.prog 61 #[.string ⟨p2.toArray⟩] W fun e w' => e = .returned (.tuple #[.int .i64 y, .int .i64 0]) ∧ W = w') := Lib.hid fun W => rnumber_is p2 _ _ W (by omega) H2
  have C3 : Hid (∀ L W, ListAt L endsL W → Calls Tryz.prog 62 #[.string ⟨p3.toArray⟩, .slice (some ⟨L, 0, none⟩) 2 2] W fun e w' => e = .returned (.int .i64 (-1)) ∧ Below W.heap.size W w') := Lib.hid fun L W hL => rfind_is p3 endsL L 2 (-1) W l3 rfl (by omega) ends_100 hL H3
  have C3n : Hid (∀ W, Calls Tryz.prog 61 #[.string ⟨p3.toArray⟩] W fun e w' => e = .returned (.tuple #[.int .i64 t, .int .i64 0]) ∧ W = w') := Lib.hid fun W => rnumber_is p3 _ _ W (by omega) H3n
  have C5 : Hid (∀ L W, ListAt L monthsL W → Calls Tryz.prog 62 #[.string ⟨p5.toArray⟩, .slice (some ⟨L, 0, none⟩) 12 12] W fun e w' => e = .returned (.int .i64 f5) ∧ Below W.heap.size W w') := Lib.hid fun L W hL => rfind_is p5 monthsL L 12 f5 W l5 rfl (by omega) months_100 hL H5
  have wr5 : IntKind.i64.wrap (f5 + 1 : Int) = f5 + 1 := w64 (by omega) (by omega)
  have C6 : Hid (∀ W, Calls Tryz.prog 64 #[.string ⟨p6.toArray⟩] W fun e w' => e = .returned (.tuple #[.agg #[.int .i64 dk, .int .i64 dw, .int .i64 dn], .int .i64 0]) ∧ Below W.heap.size W w') := Lib.hid fun W => rdparse_is p6 dk dw dn 0 W l6 H6
  have C7 : Hid (∀ W, Calls Tryz.prog 65 #[.string ⟨p7.toArray⟩] W fun e w' => e = .returned (.tuple #[.agg #[.int .i64 n7, .int .i64 k7], .int .i64 x]) ∧ Below W.heap.size W w') := Lib.hid fun W => rpars_is p7 n7 k7 x W (by omega) H7
  clear l0 l1 l2 l3 l5 l6 l7
  go_enter Tryz.func20, Tryz.ntmps20
  go_wp2_with (first
    | (go_at_call 60
       with_reducible refine (C0.out _).mono ?_
       rintro e w1 ⟨rfl, k1⟩
       have X := Lib.hid ((two_blk w _ _ _ _).1.next k1)
       have Y := Lib.hid ((two_blk w _ _ _ _).2.next k1)
       clear wc0
       clear k1
       have wc1 := (CC.out _ X.out.bel).2.1
       have wc2 := (CC.out _ X.out.bel).2.2.1
       have wc3 := (CC.out _ X.out.bel).2.2.2.1
       simp only [])
    | (go_at_call 15; with_reducible refine (C1.out _).mono ?_; rintro e wp1 ⟨rfl, rfl⟩; simp only [])
    | (go_at_call 61; with_reducible refine (C2.out _).mono ?_; rintro e wp2 ⟨rfl, rfl⟩; simp only [])
    | (go_at_call 62
       with_reducible refine (C3.out _ _ ?_).mono ?_
       · exact ListAt.newE _ endsL _ _ _ (by simp) rfl
       rintro e w2 ⟨rfl, k2⟩
       have X2 := Lib.hid ((X.out.more _).next k2)
       have Y2 := Lib.hid ((Y.out.more _).next k2)
       clear k2 X Y wc1 wc2 wc3
       have X := X2
       have Y := Y2
       clear X2 Y2
       have wc3 := (CC.out _ X.out.bel).2.2.2.1
       have wc4 := (CC.out _ X.out.bel).2.2.2.2.1
       have wc5 := (CC.out _ X.out.bel).2.2.2.2.2.1
       simp only [])
    | (go_at_call 61; with_reducible refine (C3n.out _).mono ?_; rintro e wp3 ⟨rfl, rfl⟩; simp only []))
  go_region_held3 (fun w' => w'.cell? ⟨L, off + 5, none⟩ = some (.string ⟨p5.toArray⟩)) (first | exact wc5 | go_keep | exact (CC.out _ (bthen (bdrew X.out.bel) k3)).2.2.2.2.2.1 | exact (CC.out _ (bthen (bthen (bdrew X.out.bel) k3) k4)).2.2.2.2.2.1) (first
    | (go_at_call 63; refine (rmonths_any _).mono ?_; rintro e w3 ⟨Lm, rfl, hL1, hL2, k3⟩)
    | (go_at_call 62; refine (C5.out Lm _ hL2).mono ?_; rintro e w4 ⟨rfl, k4⟩))
  have X4 := Lib.hid ((X.out.drew.next k3).next k4)
  have Y4 := Lib.hid ((Y.out.drew.next k3).next k4)
  clear k3 k4 X Y hL1 hL2 wc4 wc5 wc3
  have X := X4
  have Y := Y4
  clear X4 Y4
  have wc6 := (CC.out _ X.out.bel).2.2.2.2.2.2.1
  go_wp2_with (first
    | (go_at_call 64
       with_reducible refine (C6.out _).mono ?_
       rintro e w5 ⟨rfl, k5⟩
       have X5 := Lib.hid (X.out.next k5)
       have Y5 := Lib.hid (Y.out.next k5)
       clear X Y wc6
       have X := X5
       have Y := Y5
       clear X5 Y5
       clear k5
       have wc7 := (CC.out _ X.out.bel).2.2.2.2.2.2.2.1
       have lq7 := wcell_lt wc7
       simp only [])
    | (go_at_call 65
       with_reducible refine (C7.out _).mono ?_
       rintro e w6 ⟨rfl, k6⟩
       have D := Lib.hid ((BlkN.make X.out.bel _ _).next k6)
       have X6 := Lib.hid ((X.out.more _).next k6)
       have Y6 := Lib.hid ((Y.out.more _).next k6)
       clear X Y wc7 lq7
       have X := X6
       have Y := Y6
       clear X6 Y6
       clear k6
       have hc0 := cell_of_row w6 w.heap.size 0 _ _ (0, 0) X.out.blk
       have hc1 := cell_of_row w6 w.heap.size 1 _ _ (0, 0) X.out.blk
       have hc2 := cell_of_row w6 w.heap.size 2 _ _ (0, 0) X.out.blk
       have hc3 := cell_of_row w6 w.heap.size 3 _ _ (0, 0) X.out.blk
       have hc4 := cell_of_row w6 w.heap.size 4 _ _ (0, 0) X.out.blk
       have hc5 := cell_of_row w6 w.heap.size 5 _ _ (0, 0) X.out.blk
       have hc6 := cell_of_row w6 w.heap.size 6 _ _ (0, 0) X.out.blk
       have hc7 := cell_of_row w6 w.heap.size 7 _ _ (0, 0) X.out.blk
       have hc8 := cell_of_row w6 w.heap.size 8 _ _ (0, 0) X.out.blk
       have hc9 := cell_of_row w6 w.heap.size 9 _ _ (0, 0) X.out.blk
       have hc10 := cell_of_row w6 w.heap.size 10 _ _ (0, 0) X.out.blk
       have hcf0 := row_frozen (o := 0) X.out.blk
       have hcf1 := row_frozen (o := 1) X.out.blk
       have hcf2 := row_frozen (o := 2) X.out.blk
       have hcf3 := row_frozen (o := 3) X.out.blk
       have hcf4 := row_frozen (o := 4) X.out.blk
       have hcf5 := row_frozen (o := 5) X.out.blk
       have hcf6 := row_frozen (o := 6) X.out.blk
       have hcf7 := row_frozen (o := 7) X.out.blk
       have hcf8 := row_frozen (o := 8) X.out.blk
       have hcf9 := row_frozen (o := 9) X.out.blk
       have hcf10 := row_frozen (o := 10) X.out.blk
       have hcq := row_lt X.out.blk
       have zc0 := cell_of_row w6 (w.heap.size + 1) 0 _ _ (0, 0) Y.out.blk
       have zc1 := cell_of_row w6 (w.heap.size + 1) 1 _ _ (0, 0) Y.out.blk
       have zc2 := cell_of_row w6 (w.heap.size + 1) 2 _ _ (0, 0) Y.out.blk
       have zc3 := cell_of_row w6 (w.heap.size + 1) 3 _ _ (0, 0) Y.out.blk
       have zc4 := cell_of_row w6 (w.heap.size + 1) 4 _ _ (0, 0) Y.out.blk
       have zc5 := cell_of_row w6 (w.heap.size + 1) 5 _ _ (0, 0) Y.out.blk
       have zc6 := cell_of_row w6 (w.heap.size + 1) 6 _ _ (0, 0) Y.out.blk
       have zc7 := cell_of_row w6 (w.heap.size + 1) 7 _ _ (0, 0) Y.out.blk
       have zc8 := cell_of_row w6 (w.heap.size + 1) 8 _ _ (0, 0) Y.out.blk
       have zc9 := cell_of_row w6 (w.heap.size + 1) 9 _ _ (0, 0) Y.out.blk
       have zc10 := cell_of_row w6 (w.heap.size + 1) 10 _ _ (0, 0) Y.out.blk
       have zcq := row_lt Y.out.blk
       simp only []))
  refine ret11a (BlkN.blk X.out) rfl _ _ _ _ _ _ _ _ _ _ _ (fun W' hrow hgr => ?_)
  have rc0 := cell_of_row W' w.heap.size 0 _ _ (0, 0) hrow
  have rc1 := cell_of_row W' w.heap.size 1 _ _ (0, 0) hrow
  have rc2 := cell_of_row W' w.heap.size 2 _ _ (0, 0) hrow
  have rc3 := cell_of_row W' w.heap.size 3 _ _ (0, 0) hrow
  have rc4 := cell_of_row W' w.heap.size 4 _ _ (0, 0) hrow
  have rc5 := cell_of_row W' w.heap.size 5 _ _ (0, 0) hrow
  have rc6 := cell_of_row W' w.heap.size 6 _ _ (0, 0) hrow
  have rc7 := cell_of_row W' w.heap.size 7 _ _ (0, 0) hrow
  have rc8 := cell_of_row W' w.heap.size 8 _ _ (0, 0) hrow
  have rc9 := cell_of_row W' w.heap.size 9 _ _ (0, 0) hrow
  have rc10 := cell_of_row W' w.heap.size 10 _ _ (0, 0) hrow
  refine bodyPost_ret (v := .tuple #[rvV r0, .int .i64 x]) (by simp [results, Tryz.results20, go_sem, rc0, rc1, rc2, rc3, rc4, rc5, rc6, rc7, rc8, rc9, rc10, rvV, r0]) rfl ⟨rfl, ?_⟩
  refine Below.grown (BlkN.bel X.out) hgr ?_ (fun j e => by injection e with e; omega)
  exact Below.size (BlkN.bel X.out)

set_option maxRecDepth 20000 in
set_option maxHeartbeats 3200000 in
theorem rr_f8n (L off c : Nat) (p0 p1 p2 p3 p4 p5 p6 p7 p8 p9 : List UInt8) (w : World) (hL : L < w.heap.size) (CC : Hid (∀ W, Below w.heap.size w W → W.cell? ⟨L, off, none⟩ = some (.string ⟨p0.toArray⟩) ∧ W.cell? ⟨L, off + 1, none⟩ = some (.string ⟨p1.toArray⟩) ∧ W.cell? ⟨L, off + 2, none⟩ = some (.string ⟨p2.toArray⟩) ∧ W.cell? ⟨L, off + 3, none⟩ = some (.string ⟨p3.toArray⟩) ∧ W.cell? ⟨L, off + 4, none⟩ = some (.string ⟨p4.toArray⟩) ∧ W.cell? ⟨L, off + 5, none⟩ = some (.string ⟨p5.toArray⟩) ∧ W.cell? ⟨L, off + 6, none⟩ = some (.string ⟨p6.toArray⟩) ∧ W.cell? ⟨L, off + 7, none⟩ = some (.string ⟨p7.toArray⟩) ∧ W.cell? ⟨L, off + 8, none⟩ = some (.string ⟨p8.toArray⟩) ∧ W.cell? ⟨L, off + 9, none⟩ = some (.string ⟨p9.toArray⟩)))
    (l0 : p0.length ≤ 100) (l1 : p1.length ≤ 100) (l2 : p2.length ≤ 100) (l3 : p3.length ≤ 100) (_ : p4.length ≤ 100) (l5 : p5.length ≤ 100) (l6 : p6.length ≤ 100) (l7 : p7.length ≤ 100) (l8 : p8.length ≤ 100)
    (H0 : Hid (decide (knE 0 p0 = 0) = true)) (H1 : Hid (stOk p1 = true)) (y : Int) (H2 : Hid (nrV p2 = y ∧ nrE p2 = 0)) (H3 : Hid (wantZ (findL (low p3) endsL) = (-1))) (t : Int) (H3n : Hid (nrV p3 = t ∧ nrE p3 = 0)) (hy : ¬ t < y) (h4 : (p4 == [45]) = true) (f5 : Int) (H5 : Hid (wantZ (findL (low p5) monthsL) = f5)) (h5 : ((f5 + 1 : Int) == 0) = false) (b5 : 0 ≤ f5 ∧ f5 ≤ 11) (dk dw dn : Int) (H6 : Hid (parsF p6 = (dk, dw, dn, 0))) (n7 k7 : Int) (H7 : Hid (parN p7 = n7 ∧ parK p7 = k7 ∧ parE p7 = 0)) (v8 : Int) (x : Int) (hx : (x != 0) = true) (H8 : Hid (ofV p8 = v8 ∧ ofE p8 = x)) :
    Calls Tryz.prog 20 #[.slice (some ⟨L, off, none⟩) 10 c] w fun e w' => e = .returned (.tuple #[rvV r0, .int .i64 x]) ∧ Below w.heap.size w w' := by
  have wc0 := (CC.out w (Below.refl _ _)).1
  have C0 : Hid (∀ W, Calls Tryz.prog 60 #[.string ⟨p0.toArray⟩, .int .i64 1] W fun e w' => e = .returned (.bool true) ∧ Below W.heap.size W w') := Lib.hid fun W => rkind_is p0 0 true W l0 (by omega) H0
  have C1 : Hid (∀ W, Calls Tryz.prog 15 #[.string ⟨p1.toArray⟩] W fun e w' => e = .returned (.bool true) ∧ W = w') := Lib.hid fun W => rset_is p1 true W (by omega) H1
  have C2 : Hid (∀ W, Calls Tryz.prog 61 #[.string ⟨p2.toArray⟩] W fun e w' => e = .returned (.tuple #[.int .i64 y, .int .i64 0]) ∧ W = w') := Lib.hid fun W => rnumber_is p2 _ _ W (by omega) H2
  have C3 : Hid (∀ L W, ListAt L endsL W → Calls Tryz.prog 62 #[.string ⟨p3.toArray⟩, .slice (some ⟨L, 0, none⟩) 2 2] W fun e w' => e = .returned (.int .i64 (-1)) ∧ Below W.heap.size W w') := Lib.hid fun L W hL => rfind_is p3 endsL L 2 (-1) W l3 rfl (by omega) ends_100 hL H3
  have C3n : Hid (∀ W, Calls Tryz.prog 61 #[.string ⟨p3.toArray⟩] W fun e w' => e = .returned (.tuple #[.int .i64 t, .int .i64 0]) ∧ W = w') := Lib.hid fun W => rnumber_is p3 _ _ W (by omega) H3n
  have C5 : Hid (∀ L W, ListAt L monthsL W → Calls Tryz.prog 62 #[.string ⟨p5.toArray⟩, .slice (some ⟨L, 0, none⟩) 12 12] W fun e w' => e = .returned (.int .i64 f5) ∧ Below W.heap.size W w') := Lib.hid fun L W hL => rfind_is p5 monthsL L 12 f5 W l5 rfl (by omega) months_100 hL H5
  have wr5 : IntKind.i64.wrap (f5 + 1 : Int) = f5 + 1 := w64 (by omega) (by omega)
  have C6 : Hid (∀ W, Calls Tryz.prog 64 #[.string ⟨p6.toArray⟩] W fun e w' => e = .returned (.tuple #[.agg #[.int .i64 dk, .int .i64 dw, .int .i64 dn], .int .i64 0]) ∧ Below W.heap.size W w') := Lib.hid fun W => rdparse_is p6 dk dw dn 0 W l6 H6
  have C7 : Hid (∀ W, Calls Tryz.prog 65 #[.string ⟨p7.toArray⟩] W fun e w' => e = .returned (.tuple #[.agg #[.int .i64 n7, .int .i64 k7], .int .i64 0]) ∧ Below W.heap.size W w') := Lib.hid fun W => rpars_is p7 n7 k7 0 W (by omega) H7
  have C8 : Hid (∀ W, Calls Tryz.prog 66 #[.string ⟨p8.toArray⟩] W fun e w' => e = .returned (.tuple #[.int .i64 v8, .int .i64 x]) ∧ Below W.heap.size W w') := Lib.hid fun W => roff_is p8 v8 x W (by omega) H8
  clear l0 l1 l2 l3 l5 l6 l7 l8
  go_enter Tryz.func20, Tryz.ntmps20
  go_wp2_with (first
    | (go_at_call 60
       with_reducible refine (C0.out _).mono ?_
       rintro e w1 ⟨rfl, k1⟩
       have X := Lib.hid ((two_blk w _ _ _ _).1.next k1)
       have Y := Lib.hid ((two_blk w _ _ _ _).2.next k1)
       clear wc0
       clear k1
       have wc1 := (CC.out _ X.out.bel).2.1
       have wc2 := (CC.out _ X.out.bel).2.2.1
       have wc3 := (CC.out _ X.out.bel).2.2.2.1
       simp only [])
    | (go_at_call 15; with_reducible refine (C1.out _).mono ?_; rintro e wp1 ⟨rfl, rfl⟩; simp only [])
    | (go_at_call 61; with_reducible refine (C2.out _).mono ?_; rintro e wp2 ⟨rfl, rfl⟩; simp only [])
    | (go_at_call 62
       with_reducible refine (C3.out _ _ ?_).mono ?_
       · exact ListAt.newE _ endsL _ _ _ (by simp) rfl
       rintro e w2 ⟨rfl, k2⟩
       have X2 := Lib.hid ((X.out.more _).next k2)
       have Y2 := Lib.hid ((Y.out.more _).next k2)
       clear k2 X Y wc1 wc2 wc3
       have X := X2
       have Y := Y2
       clear X2 Y2
       have wc3 := (CC.out _ X.out.bel).2.2.2.1
       have wc4 := (CC.out _ X.out.bel).2.2.2.2.1
       have wc5 := (CC.out _ X.out.bel).2.2.2.2.2.1
       simp only [])
    | (go_at_call 61; with_reducible refine (C3n.out _).mono ?_; rintro e wp3 ⟨rfl, rfl⟩; simp only []))
  go_region_held3 (fun w' => w'.cell? ⟨L, off + 5, none⟩ = some (.string ⟨p5.toArray⟩)) (first | exact wc5 | go_keep | exact (CC.out _ (bthen (bdrew X.out.bel) k3)).2.2.2.2.2.1 | exact (CC.out _ (bthen (bthen (bdrew X.out.bel) k3) k4)).2.2.2.2.2.1) (first
    | (go_at_call 63; refine (rmonths_any _).mono ?_; rintro e w3 ⟨Lm, rfl, hL1, hL2, k3⟩)
    | (go_at_call 62; refine (C5.out Lm _ hL2).mono ?_; rintro e w4 ⟨rfl, k4⟩))
  have X4 := Lib.hid ((X.out.drew.next k3).next k4)
  have Y4 := Lib.hid ((Y.out.drew.next k3).next k4)
  clear k3 k4 X Y hL1 hL2 wc4 wc5 wc3
  have X := X4
  have Y := Y4
  clear X4 Y4
  have wc6 := (CC.out _ X.out.bel).2.2.2.2.2.2.1
  go_wp2_with (first
    | (go_at_call 64
       with_reducible refine (C6.out _).mono ?_
       rintro e w5 ⟨rfl, k5⟩
       have X5 := Lib.hid (X.out.next k5)
       have Y5 := Lib.hid (Y.out.next k5)
       clear X Y wc6
       have X := X5
       have Y := Y5
       clear X5 Y5
       clear k5
       have wc7 := (CC.out _ X.out.bel).2.2.2.2.2.2.2.1
       have lq7 := wcell_lt wc7
       simp only [])
    | (go_at_call 65
       with_reducible refine (C7.out _).mono ?_
       rintro e w6 ⟨rfl, k6⟩
       have D := Lib.hid ((BlkN.make X.out.bel _ _).next k6)
       have X6 := Lib.hid ((X.out.more _).next k6)
       have Y6 := Lib.hid ((Y.out.more _).next k6)
       clear X Y wc7 lq7
       have X := X6
       have Y := Y6
       clear X6 Y6
       clear k6
       have wc8 := (CC.out _ X.out.bel).2.2.2.2.2.2.2.2.1
       have lq8 := wcell_lt wc8
       simp only [])
    | (go_at_call 66
       with_reducible refine (C8.out _).mono ?_
       rintro e w7 ⟨rfl, k7⟩
       have E := Lib.hid ((BlkN.make X.out.bel _ _).next k7)
       have X7 := Lib.hid ((X.out.more _).next k7)
       have Y7 := Lib.hid ((Y.out.more _).next k7)
       have D7 := Lib.hid ((D.out.more _).next k7)
       clear X Y D wc8 lq8
       have X := X7
       have Y := Y7
       have D := D7
       clear X7 Y7 D7
       clear k7
       have hc0 := cell_of_row w7 w.heap.size 0 _ _ (0, 0) X.out.blk
       have hc1 := cell_of_row w7 w.heap.size 1 _ _ (0, 0) X.out.blk
       have hc2 := cell_of_row w7 w.heap.size 2 _ _ (0, 0) X.out.blk
       have hc3 := cell_of_row w7 w.heap.size 3 _ _ (0, 0) X.out.blk
       have hc4 := cell_of_row w7 w.heap.size 4 _ _ (0, 0) X.out.blk
       have hc5 := cell_of_row w7 w.heap.size 5 _ _ (0, 0) X.out.blk
       have hc6 := cell_of_row w7 w.heap.size 6 _ _ (0, 0) X.out.blk
       have hc7 := cell_of_row w7 w.heap.size 7 _ _ (0, 0) X.out.blk
       have hc8 := cell_of_row w7 w.heap.size 8 _ _ (0, 0) X.out.blk
       have hc9 := cell_of_row w7 w.heap.size 9 _ _ (0, 0) X.out.blk
       have hc10 := cell_of_row w7 w.heap.size 10 _ _ (0, 0) X.out.blk
       have hcf0 := row_frozen (o := 0) X.out.blk
       have hcf1 := row_frozen (o := 1) X.out.blk
       have hcf2 := row_frozen (o := 2) X.out.blk
       have hcf3 := row_frozen (o := 3) X.out.blk
       have hcf4 := row_frozen (o := 4) X.out.blk
       have hcf5 := row_frozen (o := 5) X.out.blk
       have hcf6 := row_frozen (o := 6) X.out.blk
       have hcf7 := row_frozen (o := 7) X.out.blk
       have hcf8 := row_frozen (o := 8) X.out.blk
       have hcf9 := row_frozen (o := 9) X.out.blk
       have hcf10 := row_frozen (o := 10) X.out.blk
       have hcq := row_lt X.out.blk
       have zc0 := cell_of_row w7 (w.heap.size + 1) 0 _ _ (0, 0) Y.out.blk
       have zc1 := cell_of_row w7 (w.heap.size + 1) 1 _ _ (0, 0) Y.out.blk
       have zc2 := cell_of_row w7 (w.heap.size + 1) 2 _ _ (0, 0) Y.out.blk
       have zc3 := cell_of_row w7 (w.heap.size + 1) 3 _ _ (0, 0) Y.out.blk
       have zc4 := cell_of_row w7 (w.heap.size + 1) 4 _ _ (0, 0) Y.out.blk
       have zc5 := cell_of_row w7 (w.heap.size + 1) 5 _ _ (0, 0) Y.out.blk
       have zc6 := cell_of_row w7 (w.heap.size + 1) 6 _ _ (0, 0) Y.out.blk
       have zc7 := cell_of_row w7 (w.heap.size + 1) 7 _ _ (0, 0) Y.out.blk
       have zc8 := cell_of_row w7 (w.heap.size + 1) 8 _ _ (0, 0) Y.out.blk
       have zc9 := cell_of_row w7 (w.heap.size + 1) 9 _ _ (0, 0) Y.out.blk
       have zc10 := cell_of_row w7 (w.heap.size + 1) 10 _ _ (0, 0) Y.out.blk
       have zcq := row_lt Y.out.blk
       simp only []))
  refine ret11 (BlkN.blk X.out) rfl _ _ _ _ _ _ _ _ _ _ _ (fun W' hrow hgr => ?_)
  have rc0 := cell_of_row W' w.heap.size 0 _ _ (0, 0) hrow
  have rc1 := cell_of_row W' w.heap.size 1 _ _ (0, 0) hrow
  have rc2 := cell_of_row W' w.heap.size 2 _ _ (0, 0) hrow
  have rc3 := cell_of_row W' w.heap.size 3 _ _ (0, 0) hrow
  have rc4 := cell_of_row W' w.heap.size 4 _ _ (0, 0) hrow
  have rc5 := cell_of_row W' w.heap.size 5 _ _ (0, 0) hrow
  have rc6 := cell_of_row W' w.heap.size 6 _ _ (0, 0) hrow
  have rc7 := cell_of_row W' w.heap.size 7 _ _ (0, 0) hrow
  have rc8 := cell_of_row W' w.heap.size 8 _ _ (0, 0) hrow
  have rc9 := cell_of_row W' w.heap.size 9 _ _ (0, 0) hrow
  have rc10 := cell_of_row W' w.heap.size 10 _ _ (0, 0) hrow
  refine bodyPost_ret (v := .tuple #[rvV r0, .int .i64 x]) (by simp [results, Tryz.results20, go_sem, rc0, rc1, rc2, rc3, rc4, rc5, rc6, rc7, rc8, rc9, rc10, rvV, r0]) rfl ⟨rfl, ?_⟩
  refine Below.grown (BlkN.bel X.out) hgr ?_ (fun j e => by injection e with e; omega)
  exact Below.size (BlkN.bel X.out)

set_option maxRecDepth 20000 in
set_option maxHeartbeats 3200000 in
theorem rr_f9n (L off c : Nat) (p0 p1 p2 p3 p4 p5 p6 p7 p8 p9 : List UInt8) (w : World) (hL : L < w.heap.size) (CC : Hid (∀ W, Below w.heap.size w W → W.cell? ⟨L, off, none⟩ = some (.string ⟨p0.toArray⟩) ∧ W.cell? ⟨L, off + 1, none⟩ = some (.string ⟨p1.toArray⟩) ∧ W.cell? ⟨L, off + 2, none⟩ = some (.string ⟨p2.toArray⟩) ∧ W.cell? ⟨L, off + 3, none⟩ = some (.string ⟨p3.toArray⟩) ∧ W.cell? ⟨L, off + 4, none⟩ = some (.string ⟨p4.toArray⟩) ∧ W.cell? ⟨L, off + 5, none⟩ = some (.string ⟨p5.toArray⟩) ∧ W.cell? ⟨L, off + 6, none⟩ = some (.string ⟨p6.toArray⟩) ∧ W.cell? ⟨L, off + 7, none⟩ = some (.string ⟨p7.toArray⟩) ∧ W.cell? ⟨L, off + 8, none⟩ = some (.string ⟨p8.toArray⟩) ∧ W.cell? ⟨L, off + 9, none⟩ = some (.string ⟨p9.toArray⟩)))
    (l0 : p0.length ≤ 100) (l1 : p1.length ≤ 100) (l2 : p2.length ≤ 100) (l3 : p3.length ≤ 100) (_ : p4.length ≤ 100) (l5 : p5.length ≤ 100) (l6 : p6.length ≤ 100) (l7 : p7.length ≤ 100) (l8 : p8.length ≤ 100) (l9 : p9.length ≤ 100)
    (H0 : Hid (decide (knE 0 p0 = 0) = true)) (H1 : Hid (stOk p1 = true)) (y : Int) (H2 : Hid (nrV p2 = y ∧ nrE p2 = 0)) (H3 : Hid (wantZ (findL (low p3) endsL) = (-1))) (t : Int) (H3n : Hid (nrV p3 = t ∧ nrE p3 = 0)) (hy : ¬ t < y) (h4 : (p4 == [45]) = true) (f5 : Int) (H5 : Hid (wantZ (findL (low p5) monthsL) = f5)) (h5 : ((f5 + 1 : Int) == 0) = false) (b5 : 0 ≤ f5 ∧ f5 ≤ 11) (dk dw dn : Int) (H6 : Hid (parsF p6 = (dk, dw, dn, 0))) (n7 k7 : Int) (H7 : Hid (parN p7 = n7 ∧ parK p7 = k7 ∧ parE p7 = 0)) (v8 : Int) (H8 : Hid (ofV p8 = v8 ∧ ofE p8 = 0)) (H9 : Hid (txOk lnP 1 8 p9 = false)) :
    Calls Tryz.prog 20 #[.slice (some ⟨L, off, none⟩) 10 c] w fun e w' => e = .returned (.tuple #[rvV r0, .int .i64 23]) ∧ Below w.heap.size w w' := by
  have wc0 := (CC.out w (Below.refl _ _)).1
  have C0 : Hid (∀ W, Calls Tryz.prog 60 #[.string ⟨p0.toArray⟩, .int .i64 1] W fun e w' => e = .returned (.bool true) ∧ Below W.heap.size W w') := Lib.hid fun W => rkind_is p0 0 true W l0 (by omega) H0
  have C1 : Hid (∀ W, Calls Tryz.prog 15 #[.string ⟨p1.toArray⟩] W fun e w' => e = .returned (.bool true) ∧ W = w') := Lib.hid fun W => rset_is p1 true W (by omega) H1
  have C2 : Hid (∀ W, Calls Tryz.prog 61 #[.string ⟨p2.toArray⟩] W fun e w' => e = .returned (.tuple #[.int .i64 y, .int .i64 0]) ∧ W = w') := Lib.hid fun W => rnumber_is p2 _ _ W (by omega) H2
  have C3 : Hid (∀ L W, ListAt L endsL W → Calls Tryz.prog 62 #[.string ⟨p3.toArray⟩, .slice (some ⟨L, 0, none⟩) 2 2] W fun e w' => e = .returned (.int .i64 (-1)) ∧ Below W.heap.size W w') := Lib.hid fun L W hL => rfind_is p3 endsL L 2 (-1) W l3 rfl (by omega) ends_100 hL H3
  have C3n : Hid (∀ W, Calls Tryz.prog 61 #[.string ⟨p3.toArray⟩] W fun e w' => e = .returned (.tuple #[.int .i64 t, .int .i64 0]) ∧ W = w') := Lib.hid fun W => rnumber_is p3 _ _ W (by omega) H3n
  have C5 : Hid (∀ L W, ListAt L monthsL W → Calls Tryz.prog 62 #[.string ⟨p5.toArray⟩, .slice (some ⟨L, 0, none⟩) 12 12] W fun e w' => e = .returned (.int .i64 f5) ∧ Below W.heap.size W w') := Lib.hid fun L W hL => rfind_is p5 monthsL L 12 f5 W l5 rfl (by omega) months_100 hL H5
  have wr5 : IntKind.i64.wrap (f5 + 1 : Int) = f5 + 1 := w64 (by omega) (by omega)
  have C6 : Hid (∀ W, Calls Tryz.prog 64 #[.string ⟨p6.toArray⟩] W fun e w' => e = .returned (.tuple #[.agg #[.int .i64 dk, .int .i64 dw, .int .i64 dn], .int .i64 0]) ∧ Below W.heap.size W w') := Lib.hid fun W => rdparse_is p6 dk dw dn 0 W l6 H6
  have C7 : Hid (∀ W, Calls Tryz.prog 65 #[.string ⟨p7.toArray⟩] W fun e w' => e = .returned (.tuple #[.agg #[.int .i64 n7, .int .i64 k7], .int .i64 0]) ∧ Below W.heap.size W w') := Lib.hid fun W => rpars_is p7 n7 k7 0 W (by omega) H7
  have C8 : Hid (∀ W, Calls Tryz.prog 66 #[.string ⟨p8.toArray⟩] W fun e w' => e = .returned (.tuple #[.int .i64 v8, .int .i64 0]) ∧ Below W.heap.size W w') := Lib.hid fun W => roff_is p8 v8 0 W (by omega) H8
  have C9 : Hid (∀ W, Calls Tryz.prog 36 #[.string ⟨p9.toArray⟩, .int .i64 1, .int .i64 8] W fun e w' => e = .returned (.bool false) ∧ W = w') := Lib.hid fun W => rplain_is p9 1 8 false W (by omega) (by omega) (by omega) H9
  clear l0 l1 l2 l3 l5 l6 l7 l8 l9
  go_enter Tryz.func20, Tryz.ntmps20
  go_wp2_with (first
    | (go_at_call 60
       with_reducible refine (C0.out _).mono ?_
       rintro e w1 ⟨rfl, k1⟩
       have X := Lib.hid ((two_blk w _ _ _ _).1.next k1)
       have Y := Lib.hid ((two_blk w _ _ _ _).2.next k1)
       clear wc0
       clear k1
       have wc1 := (CC.out _ X.out.bel).2.1
       have wc2 := (CC.out _ X.out.bel).2.2.1
       have wc3 := (CC.out _ X.out.bel).2.2.2.1
       simp only [])
    | (go_at_call 15; with_reducible refine (C1.out _).mono ?_; rintro e wp1 ⟨rfl, rfl⟩; simp only [])
    | (go_at_call 61; with_reducible refine (C2.out _).mono ?_; rintro e wp2 ⟨rfl, rfl⟩; simp only [])
    | (go_at_call 62
       with_reducible refine (C3.out _ _ ?_).mono ?_
       · exact ListAt.newE _ endsL _ _ _ (by simp) rfl
       rintro e w2 ⟨rfl, k2⟩
       have X2 := Lib.hid ((X.out.more _).next k2)
       have Y2 := Lib.hid ((Y.out.more _).next k2)
       clear k2 X Y wc1 wc2 wc3
       have X := X2
       have Y := Y2
       clear X2 Y2
       have wc3 := (CC.out _ X.out.bel).2.2.2.1
       have wc4 := (CC.out _ X.out.bel).2.2.2.2.1
       have wc5 := (CC.out _ X.out.bel).2.2.2.2.2.1
       simp only [])
    | (go_at_call 61; with_reducible refine (C3n.out _).mono ?_; rintro e wp3 ⟨rfl, rfl⟩; simp only []))
  go_region_held3 (fun w' => w'.cell? ⟨L, off + 5, none⟩ = some (.string ⟨p5.toArray⟩)) (first | exact wc5 | go_keep | exact (CC.out _ (bthen (bdrew X.out.bel) k3)).2.2.2.2.2.1 | exact (CC.out _ (bthen (bthen (bdrew X.out.bel) k3) k4)).2.2.2.2.2.1) (first
    | (go_at_call 63; refine (rmonths_any _).mono ?_; rintro e w3 ⟨Lm, rfl, hL1, hL2, k3⟩)
    | (go_at_call 62; refine (C5.out Lm _ hL2).mono ?_; rintro e w4 ⟨rfl, k4⟩))
  have X4 := Lib.hid ((X.out.drew.next k3).next k4)
  have Y4 := Lib.hid ((Y.out.drew.next k3).next k4)
  clear k3 k4 X Y hL1 hL2 wc4 wc5 wc3
  have X := X4
  have Y := Y4
  clear X4 Y4
  have wc6 := (CC.out _ X.out.bel).2.2.2.2.2.2.1
  go_wp2_with (first
    | (go_at_call 64
       with_reducible refine (C6.out _).mono ?_
       rintro e w5 ⟨rfl, k5⟩
       have X5 := Lib.hid (X.out.next k5)
       have Y5 := Lib.hid (Y.out.next k5)
       clear X Y wc6
       have X := X5
       have Y := Y5
       clear X5 Y5
       clear k5
       have wc7 := (CC.out _ X.out.bel).2.2.2.2.2.2.2.1
       have lq7 := wcell_lt wc7
       simp only [])
    | (go_at_call 65
       with_reducible refine (C7.out _).mono ?_
       rintro e w6 ⟨rfl, k6⟩
       have D := Lib.hid ((BlkN.make X.out.bel _ _).next k6)
       have X6 := Lib.hid ((X.out.more _).next k6)
       have Y6 := Lib.hid ((Y.out.more _).next k6)
       clear X Y wc7 lq7
       have X := X6
       have Y := Y6
       clear X6 Y6
       clear k6
       have wc8 := (CC.out _ X.out.bel).2.2.2.2.2.2.2.2.1
       have lq8 := wcell_lt wc8
       simp only [])
    | (go_at_call 66
       with_reducible refine (C8.out _).mono ?_
       rintro e w7 ⟨rfl, k7⟩
       have E := Lib.hid ((BlkN.make X.out.bel _ _).next k7)
       have X7 := Lib.hid ((X.out.more _).next k7)
       have Y7 := Lib.hid ((Y.out.more _).next k7)
       have D7 := Lib.hid ((D.out.more _).next k7)
       clear X Y D wc8 lq8
       have X := X7
       have Y := Y7
       have D := D7
       clear X7 Y7 D7
       clear k7
       have wc9 := (CC.out _ X.out.bel).2.2.2.2.2.2.2.2.2
       have hc0 := cell_of_row w7 w.heap.size 0 _ _ (0, 0) X.out.blk
       have hc1 := cell_of_row w7 w.heap.size 1 _ _ (0, 0) X.out.blk
       have hc2 := cell_of_row w7 w.heap.size 2 _ _ (0, 0) X.out.blk
       have hc3 := cell_of_row w7 w.heap.size 3 _ _ (0, 0) X.out.blk
       have hc4 := cell_of_row w7 w.heap.size 4 _ _ (0, 0) X.out.blk
       have hc5 := cell_of_row w7 w.heap.size 5 _ _ (0, 0) X.out.blk
       have hc6 := cell_of_row w7 w.heap.size 6 _ _ (0, 0) X.out.blk
       have hc7 := cell_of_row w7 w.heap.size 7 _ _ (0, 0) X.out.blk
       have hc8 := cell_of_row w7 w.heap.size 8 _ _ (0, 0) X.out.blk
       have hc9 := cell_of_row w7 w.heap.size 9 _ _ (0, 0) X.out.blk
       have hc10 := cell_of_row w7 w.heap.size 10 _ _ (0, 0) X.out.blk
       have hcf0 := row_frozen (o := 0) X.out.blk
       have hcf1 := row_frozen (o := 1) X.out.blk
       have hcf2 := row_frozen (o := 2) X.out.blk
       have hcf3 := row_frozen (o := 3) X.out.blk
       have hcf4 := row_frozen (o := 4) X.out.blk
       have hcf5 := row_frozen (o := 5) X.out.blk
       have hcf6 := row_frozen (o := 6) X.out.blk
       have hcf7 := row_frozen (o := 7) X.out.blk
       have hcf8 := row_frozen (o := 8) X.out.blk
       have hcf9 := row_frozen (o := 9) X.out.blk
       have hcf10 := row_frozen (o := 10) X.out.blk
       have hcq := row_lt X.out.blk
       have zc0 := cell_of_row w7 (w.heap.size + 1) 0 _ _ (0, 0) Y.out.blk
       have zc1 := cell_of_row w7 (w.heap.size + 1) 1 _ _ (0, 0) Y.out.blk
       have zc2 := cell_of_row w7 (w.heap.size + 1) 2 _ _ (0, 0) Y.out.blk
       have zc3 := cell_of_row w7 (w.heap.size + 1) 3 _ _ (0, 0) Y.out.blk
       have zc4 := cell_of_row w7 (w.heap.size + 1) 4 _ _ (0, 0) Y.out.blk
       have zc5 := cell_of_row w7 (w.heap.size + 1) 5 _ _ (0, 0) Y.out.blk
       have zc6 := cell_of_row w7 (w.heap.size + 1) 6 _ _ (0, 0) Y.out.blk
       have zc7 := cell_of_row w7 (w.heap.size + 1) 7 _ _ (0, 0) Y.out.blk
       have zc8 := cell_of_row w7 (w.heap.size + 1) 8 _ _ (0, 0) Y.out.blk
       have zc9 := cell_of_row w7 (w.heap.size + 1) 9 _ _ (0, 0) Y.out.blk
       have zc10 := cell_of_row w7 (w.heap.size + 1) 10 _ _ (0, 0) Y.out.blk
       have zcq := row_lt Y.out.blk
       simp only [])
    | (go_at_call 36; with_reducible refine (C9.out _).mono ?_; rintro e wp9 ⟨rfl, rfl⟩; simp only []))
  refine ret11 (BlkN.blk X.out) rfl _ _ _ _ _ _ _ _ _ _ _ (fun W' hrow hgr => ?_)
  have rc0 := cell_of_row W' w.heap.size 0 _ _ (0, 0) hrow
  have rc1 := cell_of_row W' w.heap.size 1 _ _ (0, 0) hrow
  have rc2 := cell_of_row W' w.heap.size 2 _ _ (0, 0) hrow
  have rc3 := cell_of_row W' w.heap.size 3 _ _ (0, 0) hrow
  have rc4 := cell_of_row W' w.heap.size 4 _ _ (0, 0) hrow
  have rc5 := cell_of_row W' w.heap.size 5 _ _ (0, 0) hrow
  have rc6 := cell_of_row W' w.heap.size 6 _ _ (0, 0) hrow
  have rc7 := cell_of_row W' w.heap.size 7 _ _ (0, 0) hrow
  have rc8 := cell_of_row W' w.heap.size 8 _ _ (0, 0) hrow
  have rc9 := cell_of_row W' w.heap.size 9 _ _ (0, 0) hrow
  have rc10 := cell_of_row W' w.heap.size 10 _ _ (0, 0) hrow
  refine bodyPost_ret (v := .tuple #[rvV r0, .int .i64 23]) (by simp [results, Tryz.results20, go_sem, rc0, rc1, rc2, rc3, rc4, rc5, rc6, rc7, rc8, rc9, rc10, rvV, r0]) rfl ⟨rfl, ?_⟩
  refine Below.grown (BlkN.bel X.out) hgr ?_ (fun j e => by injection e with e; omega)
  exact Below.size (BlkN.bel X.out)

set_option maxRecDepth 20000 in
set_option maxHeartbeats 3200000 in
theorem rr_snd (L off c : Nat) (p0 p1 p2 p3 p4 p5 p6 p7 p8 p9 : List UInt8) (w : World) (hL : L < w.heap.size) (CC : Hid (∀ W, Below w.heap.size w W → W.cell? ⟨L, off, none⟩ = some (.string ⟨p0.toArray⟩) ∧ W.cell? ⟨L, off + 1, none⟩ = some (.string ⟨p1.toArray⟩) ∧ W.cell? ⟨L, off + 2, none⟩ = some (.string ⟨p2.toArray⟩) ∧ W.cell? ⟨L, off + 3, none⟩ = some (.string ⟨p3.toArray⟩) ∧ W.cell? ⟨L, off + 4, none⟩ = some (.string ⟨p4.toArray⟩) ∧ W.cell? ⟨L, off + 5, none⟩ = some (.string ⟨p5.toArray⟩) ∧ W.cell? ⟨L, off + 6, none⟩ = some (.string ⟨p6.toArray⟩) ∧ W.cell? ⟨L, off + 7, none⟩ = some (.string ⟨p7.toArray⟩) ∧ W.cell? ⟨L, off + 8, none⟩ = some (.string ⟨p8.toArray⟩) ∧ W.cell? ⟨L, off + 9, none⟩ = some (.string ⟨p9.toArray⟩)))
    (l0 : p0.length ≤ 100) (l1 : p1.length ≤ 100) (l2 : p2.length ≤ 100) (l3 : p3.length ≤ 100) (_ : p4.length ≤ 100) (l5 : p5.length ≤ 100) (l6 : p6.length ≤ 100) (l7 : p7.length ≤ 100) (l8 : p8.length ≤ 100) (l9 : p9.length ≤ 100)
    (H0 : Hid (decide (knE 0 p0 = 0) = true)) (H1 : Hid (stOk p1 = true)) (y : Int) (H2 : Hid (nrV p2 = y ∧ nrE p2 = 0)) (H3 : Hid (wantZ (findL (low p3) endsL) = (-1))) (t : Int) (H3n : Hid (nrV p3 = t ∧ nrE p3 = 0)) (hy : ¬ t < y) (h4 : (p4 == [45]) = true) (f5 : Int) (H5 : Hid (wantZ (findL (low p5) monthsL) = f5)) (h5 : ((f5 + 1 : Int) == 0) = false) (b5 : 0 ≤ f5 ∧ f5 ≤ 11) (dk dw dn : Int) (H6 : Hid (parsF p6 = (dk, dw, dn, 0))) (n7 k7 : Int) (H7 : Hid (parN p7 = n7 ∧ parK p7 = k7 ∧ parE p7 = 0)) (v8 : Int) (H8 : Hid (ofV p8 = v8 ∧ ofE p8 = 0)) (H9 : Hid (txOk lnP 1 8 p9 = true)) (h9 : (p9 == [45]) = true) :
    Calls Tryz.prog 20 #[.slice (some ⟨L, off, none⟩) 10 c] w fun e w' => e = .returned (.tuple #[rvV ⟨p1, y, t, f5 + 1, dk, dw, dn, n7, k7, v8, []⟩, .int .i64 0]) ∧ Below w.heap.size w w' := by
  have wc0 := (CC.out w (Below.refl _ _)).1
  have C0 : Hid (∀ W, Calls Tryz.prog 60 #[.string ⟨p0.toArray⟩, .int .i64 1] W fun e w' => e = .returned (.bool true) ∧ Below W.heap.size W w') := Lib.hid fun W => rkind_is p0 0 true W l0 (by omega) H0
  have C1 : Hid (∀ W, Calls Tryz.prog 15 #[.string ⟨p1.toArray⟩] W fun e w' => e = .returned (.bool true) ∧ W = w') := Lib.hid fun W => rset_is p1 true W (by omega) H1
  have C2 : Hid (∀ W, Calls Tryz.prog 61 #[.string ⟨p2.toArray⟩] W fun e w' => e = .returned (.tuple #[.int .i64 y, .int .i64 0]) ∧ W = w') := Lib.hid fun W => rnumber_is p2 _ _ W (by omega) H2
  have C3 : Hid (∀ L W, ListAt L endsL W → Calls Tryz.prog 62 #[.string ⟨p3.toArray⟩, .slice (some ⟨L, 0, none⟩) 2 2] W fun e w' => e = .returned (.int .i64 (-1)) ∧ Below W.heap.size W w') := Lib.hid fun L W hL => rfind_is p3 endsL L 2 (-1) W l3 rfl (by omega) ends_100 hL H3
  have C3n : Hid (∀ W, Calls Tryz.prog 61 #[.string ⟨p3.toArray⟩] W fun e w' => e = .returned (.tuple #[.int .i64 t, .int .i64 0]) ∧ W = w') := Lib.hid fun W => rnumber_is p3 _ _ W (by omega) H3n
  have C5 : Hid (∀ L W, ListAt L monthsL W → Calls Tryz.prog 62 #[.string ⟨p5.toArray⟩, .slice (some ⟨L, 0, none⟩) 12 12] W fun e w' => e = .returned (.int .i64 f5) ∧ Below W.heap.size W w') := Lib.hid fun L W hL => rfind_is p5 monthsL L 12 f5 W l5 rfl (by omega) months_100 hL H5
  have wr5 : IntKind.i64.wrap (f5 + 1 : Int) = f5 + 1 := w64 (by omega) (by omega)
  have C6 : Hid (∀ W, Calls Tryz.prog 64 #[.string ⟨p6.toArray⟩] W fun e w' => e = .returned (.tuple #[.agg #[.int .i64 dk, .int .i64 dw, .int .i64 dn], .int .i64 0]) ∧ Below W.heap.size W w') := Lib.hid fun W => rdparse_is p6 dk dw dn 0 W l6 H6
  have C7 : Hid (∀ W, Calls Tryz.prog 65 #[.string ⟨p7.toArray⟩] W fun e w' => e = .returned (.tuple #[.agg #[.int .i64 n7, .int .i64 k7], .int .i64 0]) ∧ Below W.heap.size W w') := Lib.hid fun W => rpars_is p7 n7 k7 0 W (by omega) H7
  have C8 : Hid (∀ W, Calls Tryz.prog 66 #[.string ⟨p8.toArray⟩] W fun e w' => e = .returned (.tuple #[.int .i64 v8, .int .i64 0]) ∧ Below W.heap.size W w') := Lib.hid fun W => roff_is p8 v8 0 W (by omega) H8
  have C9 : Hid (∀ W, Calls Tryz.prog 36 #[.string ⟨p9.toArray⟩, .int .i64 1, .int .i64 8] W fun e w' => e = .returned (.bool true) ∧ W = w') := Lib.hid fun W => rplain_is p9 1 8 true W (by omega) (by omega) (by omega) H9
  clear l0 l1 l2 l3 l5 l6 l7 l8 l9
  go_enter Tryz.func20, Tryz.ntmps20
  go_wp2_with (first
    | (go_at_call 60
       with_reducible refine (C0.out _).mono ?_
       rintro e w1 ⟨rfl, k1⟩
       have X := Lib.hid ((two_blk w _ _ _ _).1.next k1)
       have Y := Lib.hid ((two_blk w _ _ _ _).2.next k1)
       clear wc0
       clear k1
       have wc1 := (CC.out _ X.out.bel).2.1
       have wc2 := (CC.out _ X.out.bel).2.2.1
       have wc3 := (CC.out _ X.out.bel).2.2.2.1
       simp only [])
    | (go_at_call 15; with_reducible refine (C1.out _).mono ?_; rintro e wp1 ⟨rfl, rfl⟩; simp only [])
    | (go_at_call 61; with_reducible refine (C2.out _).mono ?_; rintro e wp2 ⟨rfl, rfl⟩; simp only [])
    | (go_at_call 62
       with_reducible refine (C3.out _ _ ?_).mono ?_
       · exact ListAt.newE _ endsL _ _ _ (by simp) rfl
       rintro e w2 ⟨rfl, k2⟩
       have X2 := Lib.hid ((X.out.more _).next k2)
       have Y2 := Lib.hid ((Y.out.more _).next k2)
       clear k2 X Y wc1 wc2 wc3
       have X := X2
       have Y := Y2
       clear X2 Y2
       have wc3 := (CC.out _ X.out.bel).2.2.2.1
       have wc4 := (CC.out _ X.out.bel).2.2.2.2.1
       have wc5 := (CC.out _ X.out.bel).2.2.2.2.2.1
       simp only [])
    | (go_at_call 61; with_reducible refine (C3n.out _).mono ?_; rintro e wp3 ⟨rfl, rfl⟩; simp only []))
  go_region_held3 (fun w' => w'.cell? ⟨L, off + 5, none⟩ = some (.string ⟨p5.toArray⟩)) (first | exact wc5 | go_keep | exact (CC.out _ (bthen (bdrew X.out.bel) k3)).2.2.2.2.2.1 | exact (CC.out _ (bthen (bthen (bdrew X.out.bel) k3) k4)).2.2.2.2.2.1) (first
    | (go_at_call 63; refine (rmonths_any _).mono ?_; rintro e w3 ⟨Lm, rfl, hL1, hL2, k3⟩)
    | (go_at_call 62; refine (C5.out Lm _ hL2).mono ?_; rintro e w4 ⟨rfl, k4⟩))
  have X4 := Lib.hid ((X.out.drew.next k3).next k4)
  have Y4 := Lib.hid ((Y.out.drew.next k3).next k4)
  clear k3 k4 X Y hL1 hL2 wc4 wc5 wc3
  have X := X4
  have Y := Y4
  clear X4 Y4
  have wc6 := (CC.out _ X.out.bel).2.2.2.2.2.2.1
  go_wp2_with (first
    | (go_at_call 64
       with_reducible refine (C6.out _).mono ?_
       rintro e w5 ⟨rfl, k5⟩
       have X5 := Lib.hid (X.out.next k5)
       have Y5 := Lib.hid (Y.out.next k5)
       clear X Y wc6
       have X := X5
       have Y := Y5
       clear X5 Y5
       clear k5
       have wc7 := (CC.out _ X.out.bel).2.2.2.2.2.2.2.1
       have lq7 := wcell_lt wc7
       simp only [])
    | (go_at_call 65
       with_reducible refine (C7.out _).mono ?_
       rintro e w6 ⟨rfl, k6⟩
       have D := Lib.hid ((BlkN.make X.out.bel _ _).next k6)
       have X6 := Lib.hid ((X.out.more _).next k6)
       have Y6 := Lib.hid ((Y.out.more _).next k6)
       clear X Y wc7 lq7
       have X := X6
       have Y := Y6
       clear X6 Y6
       clear k6
       have wc8 := (CC.out _ X.out.bel).2.2.2.2.2.2.2.2.1
       have lq8 := wcell_lt wc8
       simp only [])
    | (go_at_call 66
       with_reducible refine (C8.out _).mono ?_
       rintro e w7 ⟨rfl, k7⟩
       have E := Lib.hid ((BlkN.make X.out.bel _ _).next k7)
       have X7 := Lib.hid ((X.out.more _).next k7)
       have Y7 := Lib.hid ((Y.out.more _).next k7)
       have D7 := Lib.hid ((D.out.more _).next k7)
       clear X Y D wc8 lq8
       have X := X7
       have Y := Y7
       have D := D7
       clear X7 Y7 D7
       clear k7
       have wc9 := (CC.out _ X.out.bel).2.2.2.2.2.2.2.2.2
       have wc1 := (CC.out _ X.out.bel).2.1
       have hc0 := cell_of_row w7 w.heap.size 0 _ _ (0, 0) X.out.blk
       have hc1 := cell_of_row w7 w.heap.size 1 _ _ (0, 0) X.out.blk
       have hc2 := cell_of_row w7 w.heap.size 2 _ _ (0, 0) X.out.blk
       have hc3 := cell_of_row w7 w.heap.size 3 _ _ (0, 0) X.out.blk
       have hc4 := cell_of_row w7 w.heap.size 4 _ _ (0, 0) X.out.blk
       have hc5 := cell_of_row w7 w.heap.size 5 _ _ (0, 0) X.out.blk
       have hc6 := cell_of_row w7 w.heap.size 6 _ _ (0, 0) X.out.blk
       have hc7 := cell_of_row w7 w.heap.size 7 _ _ (0, 0) X.out.blk
       have hc8 := cell_of_row w7 w.heap.size 8 _ _ (0, 0) X.out.blk
       have hc9 := cell_of_row w7 w.heap.size 9 _ _ (0, 0) X.out.blk
       have hc10 := cell_of_row w7 w.heap.size 10 _ _ (0, 0) X.out.blk
       have hcf0 := row_frozen (o := 0) X.out.blk
       have hcf1 := row_frozen (o := 1) X.out.blk
       have hcf2 := row_frozen (o := 2) X.out.blk
       have hcf3 := row_frozen (o := 3) X.out.blk
       have hcf4 := row_frozen (o := 4) X.out.blk
       have hcf5 := row_frozen (o := 5) X.out.blk
       have hcf6 := row_frozen (o := 6) X.out.blk
       have hcf7 := row_frozen (o := 7) X.out.blk
       have hcf8 := row_frozen (o := 8) X.out.blk
       have hcf9 := row_frozen (o := 9) X.out.blk
       have hcf10 := row_frozen (o := 10) X.out.blk
       have hcq := row_lt X.out.blk
       have dc0 := cell_of_row w7 _ 0 _ _ (0, 0) D.out.blk
       have dc1 := cell_of_row w7 _ 1 _ _ (0, 0) D.out.blk
       have dc2 := cell_of_row w7 _ 2 _ _ (0, 0) D.out.blk
       have dcq := row_lt D.out.blk
       have ec0 := cell_of_row w7 _ 0 _ _ (0, 0) E.out.blk
       have ec1 := cell_of_row w7 _ 1 _ _ (0, 0) E.out.blk
       have ecq := row_lt E.out.blk
       simp only [])
    | (go_at_call 36; with_reducible refine (C9.out _).mono ?_; rintro e wp9 ⟨rfl, rfl⟩; simp only []))
  go_region
  go_wp2
  refine ret11d (BlkN.blk X.out) rfl _ _ _ _ _ _ _ _ _ _ _ (fun W' hrow hgr => ?_)
  have rc0 := cell_of_row W' w.heap.size 0 _ _ (0, 0) hrow
  have rc1 := cell_of_row W' w.heap.size 1 _ _ (0, 0) hrow
  have rc2 := cell_of_row W' w.heap.size 2 _ _ (0, 0) hrow
  have rc3 := cell_of_row W' w.heap.size 3 _ _ (0, 0) hrow
  have rc4 := cell_of_row W' w.heap.size 4 _ _ (0, 0) hrow
  have rc5 := cell_of_row W' w.heap.size 5 _ _ (0, 0) hrow
  have rc6 := cell_of_row W' w.heap.size 6 _ _ (0, 0) hrow
  have rc7 := cell_of_row W' w.heap.size 7 _ _ (0, 0) hrow
  have rc8 := cell_of_row W' w.heap.size 8 _ _ (0, 0) hrow
  have rc9 := cell_of_row W' w.heap.size 9 _ _ (0, 0) hrow
  have rc10 := cell_of_row W' w.heap.size 10 _ _ (0, 0) hrow
  refine bodyPost_ret (v := .tuple #[rvV ⟨p1, y, t, f5 + 1, dk, dw, dn, n7, k7, v8, []⟩, .int .i64 0]) (by simp [results, Tryz.results20, go_sem, rc0, rc1, rc2, rc3, rc4, rc5, rc6, rc7, rc8, rc9, rc10, rvV]) rfl ⟨rfl, ?_⟩
  refine Below.grown (BlkN.bel X.out) hgr ?_ (fun j e => by injection e with e; omega)
  exact Below.size (BlkN.bel X.out)

set_option maxRecDepth 20000 in
set_option maxHeartbeats 3200000 in
theorem rr_snp (L off c : Nat) (p0 p1 p2 p3 p4 p5 p6 p7 p8 p9 : List UInt8) (w : World) (hL : L < w.heap.size) (CC : Hid (∀ W, Below w.heap.size w W → W.cell? ⟨L, off, none⟩ = some (.string ⟨p0.toArray⟩) ∧ W.cell? ⟨L, off + 1, none⟩ = some (.string ⟨p1.toArray⟩) ∧ W.cell? ⟨L, off + 2, none⟩ = some (.string ⟨p2.toArray⟩) ∧ W.cell? ⟨L, off + 3, none⟩ = some (.string ⟨p3.toArray⟩) ∧ W.cell? ⟨L, off + 4, none⟩ = some (.string ⟨p4.toArray⟩) ∧ W.cell? ⟨L, off + 5, none⟩ = some (.string ⟨p5.toArray⟩) ∧ W.cell? ⟨L, off + 6, none⟩ = some (.string ⟨p6.toArray⟩) ∧ W.cell? ⟨L, off + 7, none⟩ = some (.string ⟨p7.toArray⟩) ∧ W.cell? ⟨L, off + 8, none⟩ = some (.string ⟨p8.toArray⟩) ∧ W.cell? ⟨L, off + 9, none⟩ = some (.string ⟨p9.toArray⟩)))
    (l0 : p0.length ≤ 100) (l1 : p1.length ≤ 100) (l2 : p2.length ≤ 100) (l3 : p3.length ≤ 100) (_ : p4.length ≤ 100) (l5 : p5.length ≤ 100) (l6 : p6.length ≤ 100) (l7 : p7.length ≤ 100) (l8 : p8.length ≤ 100) (l9 : p9.length ≤ 100)
    (H0 : Hid (decide (knE 0 p0 = 0) = true)) (H1 : Hid (stOk p1 = true)) (y : Int) (H2 : Hid (nrV p2 = y ∧ nrE p2 = 0)) (H3 : Hid (wantZ (findL (low p3) endsL) = (-1))) (t : Int) (H3n : Hid (nrV p3 = t ∧ nrE p3 = 0)) (hy : ¬ t < y) (h4 : (p4 == [45]) = true) (f5 : Int) (H5 : Hid (wantZ (findL (low p5) monthsL) = f5)) (h5 : ((f5 + 1 : Int) == 0) = false) (b5 : 0 ≤ f5 ∧ f5 ≤ 11) (dk dw dn : Int) (H6 : Hid (parsF p6 = (dk, dw, dn, 0))) (n7 k7 : Int) (H7 : Hid (parN p7 = n7 ∧ parK p7 = k7 ∧ parE p7 = 0)) (v8 : Int) (H8 : Hid (ofV p8 = v8 ∧ ofE p8 = 0)) (H9 : Hid (txOk lnP 1 8 p9 = true)) (h9 : (p9 == [45]) = false) :
    Calls Tryz.prog 20 #[.slice (some ⟨L, off, none⟩) 10 c] w fun e w' => e = .returned (.tuple #[rvV ⟨p1, y, t, f5 + 1, dk, dw, dn, n7, k7, v8, p9⟩, .int .i64 0]) ∧ Below w.heap.size w w' := by
  have wc0 := (CC.out w (Below.refl _ _)).1
  have C0 : Hid (∀ W, Calls Tryz.prog 60 #[.string ⟨p0.toArray⟩, .int .i64 1] W fun e w' => e = .returned (.bool true) ∧ Below W.heap.size W w') := Lib.hid fun W => rkind_is p0 0 true W l0 (by omega) H0
  have C1 : Hid (∀ W, Calls Tryz.prog 15 #[.string ⟨p1.toArray⟩] W fun e w' => e = .returned (.bool true) ∧ W = w') := Lib.hid fun W => rset_is p1 true W (by omega) H1
  have C2 : Hid (∀ W, Calls Tryz.prog 61 #[.string ⟨p2.toArray⟩] W fun e w' => e = .returned (.tuple #[.int .i64 y, .int .i64 0]) ∧ W = w') := Lib.hid fun W => rnumber_is p2 _ _ W (by omega) H2
  have C3 : Hid (∀ L W, ListAt L endsL W → Calls Tryz.prog 62 #[.string ⟨p3.toArray⟩, .slice (some ⟨L, 0, none⟩) 2 2] W fun e w' => e = .returned (.int .i64 (-1)) ∧ Below W.heap.size W w') := Lib.hid fun L W hL => rfind_is p3 endsL L 2 (-1) W l3 rfl (by omega) ends_100 hL H3
  have C3n : Hid (∀ W, Calls Tryz.prog 61 #[.string ⟨p3.toArray⟩] W fun e w' => e = .returned (.tuple #[.int .i64 t, .int .i64 0]) ∧ W = w') := Lib.hid fun W => rnumber_is p3 _ _ W (by omega) H3n
  have C5 : Hid (∀ L W, ListAt L monthsL W → Calls Tryz.prog 62 #[.string ⟨p5.toArray⟩, .slice (some ⟨L, 0, none⟩) 12 12] W fun e w' => e = .returned (.int .i64 f5) ∧ Below W.heap.size W w') := Lib.hid fun L W hL => rfind_is p5 monthsL L 12 f5 W l5 rfl (by omega) months_100 hL H5
  have wr5 : IntKind.i64.wrap (f5 + 1 : Int) = f5 + 1 := w64 (by omega) (by omega)
  have C6 : Hid (∀ W, Calls Tryz.prog 64 #[.string ⟨p6.toArray⟩] W fun e w' => e = .returned (.tuple #[.agg #[.int .i64 dk, .int .i64 dw, .int .i64 dn], .int .i64 0]) ∧ Below W.heap.size W w') := Lib.hid fun W => rdparse_is p6 dk dw dn 0 W l6 H6
  have C7 : Hid (∀ W, Calls Tryz.prog 65 #[.string ⟨p7.toArray⟩] W fun e w' => e = .returned (.tuple #[.agg #[.int .i64 n7, .int .i64 k7], .int .i64 0]) ∧ Below W.heap.size W w') := Lib.hid fun W => rpars_is p7 n7 k7 0 W (by omega) H7
  have C8 : Hid (∀ W, Calls Tryz.prog 66 #[.string ⟨p8.toArray⟩] W fun e w' => e = .returned (.tuple #[.int .i64 v8, .int .i64 0]) ∧ Below W.heap.size W w') := Lib.hid fun W => roff_is p8 v8 0 W (by omega) H8
  have C9 : Hid (∀ W, Calls Tryz.prog 36 #[.string ⟨p9.toArray⟩, .int .i64 1, .int .i64 8] W fun e w' => e = .returned (.bool true) ∧ W = w') := Lib.hid fun W => rplain_is p9 1 8 true W (by omega) (by omega) (by omega) H9
  clear l0 l1 l2 l3 l5 l6 l7 l8 l9
  go_enter Tryz.func20, Tryz.ntmps20
  go_wp2_with (first
    | (go_at_call 60
       with_reducible refine (C0.out _).mono ?_
       rintro e w1 ⟨rfl, k1⟩
       have X := Lib.hid ((two_blk w _ _ _ _).1.next k1)
       have Y := Lib.hid ((two_blk w _ _ _ _).2.next k1)
       clear wc0
       clear k1
       have wc1 := (CC.out _ X.out.bel).2.1
       have wc2 := (CC.out _ X.out.bel).2.2.1
       have wc3 := (CC.out _ X.out.bel).2.2.2.1
       simp only [])
    | (go_at_call 15; with_reducible refine (C1.out _).mono ?_; rintro e wp1 ⟨rfl, rfl⟩; simp only [])
    | (go_at_call 61; with_reducible refine (C2.out _).mono ?_; rintro e wp2 ⟨rfl, rfl⟩; simp only [])
    | (go_at_call 62
       with_reducible refine (C3.out _ _ ?_).mono ?_
       · exact ListAt.newE _ endsL _ _ _ (by simp) rfl
       rintro e w2 ⟨rfl, k2⟩
       have X2 := Lib.hid ((X.out.more _).next k2)
       have Y2 := Lib.hid ((Y.out.more _).next k2)
       clear k2 X Y wc1 wc2 wc3
       have X := X2
       have Y := Y2
       clear X2 Y2
       have wc3 := (CC.out _ X.out.bel).2.2.2.1
       have wc4 := (CC.out _ X.out.bel).2.2.2.2.1
       have wc5 := (CC.out _ X.out.bel).2.2.2.2.2.1
       simp only [])
    | (go_at_call 61; with_reducible refine (C3n.out _).mono ?_; rintro e wp3 ⟨rfl, rfl⟩; simp only []))
  go_region_held3 (fun w' => w'.cell? ⟨L, off + 5, none⟩ = some (.string ⟨p5.toArray⟩)) (first | exact wc5 | go_keep | exact (CC.out _ (bthen (bdrew X.out.bel) k3)).2.2.2.2.2.1 | exact (CC.out _ (bthen (bthen (bdrew X.out.bel) k3) k4)).2.2.2.2.2.1) (first
    | (go_at_call 63; refine (rmonths_any _).mono ?_; rintro e w3 ⟨Lm, rfl, hL1, hL2, k3⟩)
    | (go_at_call 62; refine (C5.out Lm _ hL2).mono ?_; rintro e w4 ⟨rfl, k4⟩))
  have X4 := Lib.hid ((X.out.drew.next k3).next k4)
  have Y4 := Lib.hid ((Y.out.drew.next k3).next k4)
  clear k3 k4 X Y hL1 hL2 wc4 wc5 wc3
  have X := X4
  have Y := Y4
  clear X4 Y4
  have wc6 := (CC.out _ X.out.bel).2.2.2.2.2.2.1
  go_wp2_with (first
    | (go_at_call 64
       with_reducible refine (C6.out _).mono ?_
       rintro e w5 ⟨rfl, k5⟩
       have X5 := Lib.hid (X.out.next k5)
       have Y5 := Lib.hid (Y.out.next k5)
       clear X Y wc6
       have X := X5
       have Y := Y5
       clear X5 Y5
       clear k5
       have wc7 := (CC.out _ X.out.bel).2.2.2.2.2.2.2.1
       have lq7 := wcell_lt wc7
       simp only [])
    | (go_at_call 65
       with_reducible refine (C7.out _).mono ?_
       rintro e w6 ⟨rfl, k6⟩
       have D := Lib.hid ((BlkN.make X.out.bel _ _).next k6)
       have X6 := Lib.hid ((X.out.more _).next k6)
       have Y6 := Lib.hid ((Y.out.more _).next k6)
       clear X Y wc7 lq7
       have X := X6
       have Y := Y6
       clear X6 Y6
       clear k6
       have wc8 := (CC.out _ X.out.bel).2.2.2.2.2.2.2.2.1
       have lq8 := wcell_lt wc8
       simp only [])
    | (go_at_call 66
       with_reducible refine (C8.out _).mono ?_
       rintro e w7 ⟨rfl, k7⟩
       have E := Lib.hid ((BlkN.make X.out.bel _ _).next k7)
       have X7 := Lib.hid ((X.out.more _).next k7)
       have Y7 := Lib.hid ((Y.out.more _).next k7)
       have D7 := Lib.hid ((D.out.more _).next k7)
       clear X Y D wc8 lq8
       have X := X7
       have Y := Y7
       have D := D7
       clear X7 Y7 D7
       clear k7
       have wc9 := (CC.out _ X.out.bel).2.2.2.2.2.2.2.2.2
       have wc1 := (CC.out _ X.out.bel).2.1
       have hc0 := cell_of_row w7 w.heap.size 0 _ _ (0, 0) X.out.blk
       have hc1 := cell_of_row w7 w.heap.size 1 _ _ (0, 0) X.out.blk
       have hc2 := cell_of_row w7 w.heap.size 2 _ _ (0, 0) X.out.blk
       have hc3 := cell_of_row w7 w.heap.size 3 _ _ (0, 0) X.out.blk
       have hc4 := cell_of_row w7 w.heap.size 4 _ _ (0, 0) X.out.blk
       have hc5 := cell_of_row w7 w.heap.size 5 _ _ (0, 0) X.out.blk
       have hc6 := cell_of_row w7 w.heap.size 6 _ _ (0, 0) X.out.blk
       have hc7 := cell_of_row w7 w.heap.size 7 _ _ (0, 0) X.out.blk
       have hc8 := cell_of_row w7 w.heap.size 8 _ _ (0, 0) X.out.blk
       have hc9 := cell_of_row w7 w.heap.size 9 _ _ (0, 0) X.out.blk
       have hc10 := cell_of_row w7 w.heap.size 10 _ _ (0, 0) X.out.blk
       have hcf0 := row_frozen (o := 0) X.out.blk
       have hcf1 := row_frozen (o := 1) X.out.blk
       have hcf2 := row_frozen (o := 2) X.out.blk
       have hcf3 := row_frozen (o := 3) X.out.blk
       have hcf4 := row_frozen (o := 4) X.out.blk
       have hcf5 := row_frozen (o := 5) X.out.blk
       have hcf6 := row_frozen (o := 6) X.out.blk
       have hcf7 := row_frozen (o := 7) X.out.blk
       have hcf8 := row_frozen (o := 8) X.out.blk
       have hcf9 := row_frozen (o := 9) X.out.blk
       have hcf10 := row_frozen (o := 10) X.out.blk
       have hcq := row_lt X.out.blk
       have dc0 := cell_of_row w7 _ 0 _ _ (0, 0) D.out.blk
       have dc1 := cell_of_row w7 _ 1 _ _ (0, 0) D.out.blk
       have dc2 := cell_of_row w7 _ 2 _ _ (0, 0) D.out.blk
       have dcq := row_lt D.out.blk
       have ec0 := cell_of_row w7 _ 0 _ _ (0, 0) E.out.blk
       have ec1 := cell_of_row w7 _ 1 _ _ (0, 0) E.out.blk
       have ecq := row_lt E.out.blk
       simp only [])
    | (go_at_call 36; with_reducible refine (C9.out _).mono ?_; rintro e wp9 ⟨rfl, rfl⟩; simp only []))
  go_region
  go_wp2
  refine ret11d (BlkN.blk X.out) rfl _ _ _ _ _ _ _ _ _ _ _ (fun W' hrow hgr => ?_)
  have rc0 := cell_of_row W' w.heap.size 0 _ _ (0, 0) hrow
  have rc1 := cell_of_row W' w.heap.size 1 _ _ (0, 0) hrow
  have rc2 := cell_of_row W' w.heap.size 2 _ _ (0, 0) hrow
  have rc3 := cell_of_row W' w.heap.size 3 _ _ (0, 0) hrow
  have rc4 := cell_of_row W' w.heap.size 4 _ _ (0, 0) hrow
  have rc5 := cell_of_row W' w.heap.size 5 _ _ (0, 0) hrow
  have rc6 := cell_of_row W' w.heap.size 6 _ _ (0, 0) hrow
  have rc7 := cell_of_row W' w.heap.size 7 _ _ (0, 0) hrow
  have rc8 := cell_of_row W' w.heap.size 8 _ _ (0, 0) hrow
  have rc9 := cell_of_row W' w.heap.size 9 _ _ (0, 0) hrow
  have rc10 := cell_of_row W' w.heap.size 10 _ _ (0, 0) hrow
  refine bodyPost_ret (v := .tuple #[rvV ⟨p1, y, t, f5 + 1, dk, dw, dn, n7, k7, v8, p9⟩, .int .i64 0]) (by simp [results, Tryz.results20, go_sem, rc0, rc1, rc2, rc3, rc4, rc5, rc6, rc7, rc8, rc9, rc10, rvV]) rfl ⟨rfl, ?_⟩
  refine Below.grown (BlkN.bel X.out) hgr ?_ (fun j e => by injection e with e; omega)
  exact Below.size (BlkN.bel X.out)

end Go.Proofs.YtfmehdophoejiaaGreatDoor
