/- The walks of the reference's Rule, all ways to tell its last year in one text; nothing that was in memory changes. Written by wip/tools/gencp.py. -/
import Derived.Test.YtfmehdophoejiaaGreatDoorLq0
namespace Go.Proofs.YtfmehdophoejiaaGreatDoor
open Go Go.RowKit

set_option maxRecDepth 20000 in
set_option linter.unusedSimpArgs false in
set_option maxHeartbeats 25600000 in
theorem rs_s (L off c : Nat) (p0 p1 p2 p3 p4 p5 p6 p7 p8 p9 : List UInt8) (w : World) (TT : Ten w L off p0 p1 p2 p3 p4 p5 p6 p7 p8 p9)
    (H0 : Hid (decide (knE 0 p0 = 0) = true)) (H1 : Hid (stOk p1 = true)) (y : Int) (H2 : Hid (nrV p2 = y ∧ nrE p2 = 0)) (t : Int) (V : ToOk p3 y t) (h4 : (p4 == [45]) = true) (f5 : Int) (H5 : Hid (wantZ (findL (low p5) monthsL) = f5)) (h5 : ((f5 + 1 : Int) == 0) = false) (b5 : 0 ≤ f5 ∧ f5 ≤ 11) (dk dw dn : Int) (H6 : Hid (parsF p6 = (dk, dw, dn, 0))) (n7 k7 : Int) (H7 : Hid (parN p7 = n7 ∧ parK p7 = k7 ∧ parE p7 = 0)) (v8 : Int) (H8 : Hid (ofV p8 = v8 ∧ ofE p8 = 0)) (H9 : Hid (txOk lnP 1 8 p9 = true)) (lt : List UInt8) (U : LtOk p9 lt) : RuleTo L off c w ⟨p1, y, t, f5 + 1, dk, dw, dn, n7, k7, v8, lt⟩ 0 := by
  obtain ⟨hL, CC, l0, l1, l2, l3, l4, l5, l6, l7, l8, l9⟩ := TT
  have wc0 := (CC.out w (Below.refl _ _)).1
  unfold RuleTo
  rcases V with ⟨H3, rfl⟩ | ⟨H3, hy, rfl⟩ | ⟨H3, H3n, hy⟩
  all_goals rcases U with ⟨h9, rfl⟩ | ⟨h9, rfl⟩
  all_goals
    have C0 := an_kind l0 H0
    have C1 := ap_set l1 H1
    have C2 := ap_num l2 H2
    have C3 := an_end l3 H3
    first | have C3n := ap_num l3 H3n | skip
    have C5 := an_mon l5 H5
    have wr5 : IntKind.i64.wrap (f5 + 1 : Int) = f5 + 1 := w64 (by omega) (by omega)
    have C6 := an_day l6 H6
    have C7 := an_clk l7 H7
    have C8 := an_off l8 H8
    have C9 := ap_pln l9 H9
    clear l0 l1 l2 l3 l4 l5 l6 l7 l8 l9
    go_enter Tryz.func20, Tryz.ntmps20
    go_wp2_with (first
     | (go_at_call 60
        with_reducible refine (C0.out _).mono ?_
        rintro e w1 ⟨rfl, k1⟩
        have T := Rr.mk k1
        clear wc0
        clear k1
        have wc1 := (CC.out _ T.bel).2.1
        have wc2 := (CC.out _ T.bel).2.2.1
        have wc3 := (CC.out _ T.bel).2.2.2.1
        simp only [])
     | (go_at_call 15; with_reducible refine (C1.out _).mono ?_; rintro e wp1 ⟨rfl, rfl⟩; simp only [])
     | (go_at_call 61; with_reducible refine (C2.out _).mono ?_; rintro e wp2 ⟨rfl, rfl⟩; simp only [])
     | (go_at_call 62
        with_reducible refine (C3.out _ _ ?_).mono ?_
        · exact ListAt.newE _ endsL _ _ _ (by simp) rfl
        rintro e w2 ⟨rfl, k2⟩
        replace T := (T.more _).next k2
        clear k2 wc1 wc2 wc3
        have wc3 := (CC.out _ T.bel).2.2.2.1
        have wc4 := (CC.out _ T.bel).2.2.2.2.1
        have wc5 := (CC.out _ T.bel).2.2.2.2.2.1
        simp only [])
     | (go_at_call 61; with_reducible refine (C3n.out _).mono ?_; rintro e wp3 ⟨rfl, rfl⟩; simp only []))
    go_region_held3 (fun w' => w'.cell? ⟨L, off + 5, none⟩ = some (.string ⟨p5.toArray⟩)) (first | exact wc5 | go_keep | exact (CC.out _ (bthen (bdrew T.bel) k3)).2.2.2.2.2.1 | exact (CC.out _ (bthen (bthen (bdrew T.bel) k3) k4)).2.2.2.2.2.1) (first
      | (go_at_call 63; refine (rmonths_any _).mono ?_; rintro e w3 ⟨Lm, rfl, hL1, hL2, k3⟩)
      | (go_at_call 62; refine (C5.out Lm _ hL2).mono ?_; rintro e w4 ⟨rfl, k4⟩))
    replace T := (T.drew.next k3).next k4
    clear k3 k4 hL1 hL2 wc4 wc5 wc3
    have wc6 := (CC.out _ T.bel).2.2.2.2.2.2.1
    go_wp2_with (first
     | (go_at_call 64
        with_reducible refine (C6.out _).mono ?_
        rintro e w5 ⟨rfl, k5⟩
        replace T := T.next k5
        clear wc6
        clear k5
        have wc7 := (CC.out _ T.bel).2.2.2.2.2.2.2.1
        have lq7 := wcell_lt wc7
        simp only [])
     | (go_at_call 65
        with_reducible refine (C7.out _).mono ?_
        rintro e w6 ⟨rfl, k6⟩
        have D := Lib.hid ((BlkN.make T.bel _ _).next k6)
        replace T := (T.more _).next k6
        clear wc7 lq7
        clear k6
        have wc8 := (CC.out _ T.bel).2.2.2.2.2.2.2.2.1
        have lq8 := wcell_lt wc8
        simp only [])
     | (go_at_call 66
        with_reducible refine (C8.out _).mono ?_
        rintro e w7 ⟨rfl, k7⟩
        have E := Lib.hid ((BlkN.make T.bel _ _).next k7)
        replace T := (T.more _).next k7
        replace D := Lib.hid ((D.out.more _).next k7)
        clear wc8 lq8
        clear k7
        have wc9 := (CC.out _ T.bel).2.2.2.2.2.2.2.2.2
        have wc1 := (CC.out _ T.bel).2.1
        obtain ⟨hc0, hc1, hc2, hc3, hc4, hc5, hc6, hc7, hc8, hc9, hc10⟩ := c11 T.x.blk
        have hf := no_frost T.x.blk
        have hq := row_lt T.x.blk
        have dc0 := cell_of_row _ _ 0 _ _ (0, 0) D.out.blk
        have dc1 := cell_of_row _ _ 1 _ _ (0, 0) D.out.blk
        have dc2 := cell_of_row _ _ 2 _ _ (0, 0) D.out.blk
        have dq := row_lt D.out.blk
        have ec0 := cell_of_row _ _ 0 _ _ (0, 0) E.out.blk
        have ec1 := cell_of_row _ _ 1 _ _ (0, 0) E.out.blk
        have eq := row_lt E.out.blk
        simp only [])
     | (go_at_call 36; with_reducible refine (C9.out _).mono ?_; rintro e wp9 ⟨rfl, rfl⟩; simp only []))
    go_region
    go_wp2
    refine ret11d (BlkN.blk T.x) rfl _ _ _ _ _ _ _ _ _ _ _ (fun W' hrow hgr => bodyPost_ret (by simp [results, Tryz.results20, go_sem, c11 hrow, rvV]) rfl ⟨rfl, own_low T.x hgr⟩)

end Go.Proofs.YtfmehdophoejiaaGreatDoor
