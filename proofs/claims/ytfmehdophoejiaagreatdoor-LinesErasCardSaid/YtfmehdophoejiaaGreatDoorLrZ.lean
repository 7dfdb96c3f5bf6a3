/- The contracts of the reference's Link and Zone: which link, and which zone, words are, or what is wrong with them; nothing that was in memory changes. Written by wip/tools/genlrz.py. -/
import Derived.Test.YtfmehdophoejiaaGreatDoorLeF
namespace Go.Proofs.YtfmehdophoejiaaGreatDoor
open Go Go.RowKit

theorem ret2d {W : World} {h : Nat} {C : Array Value} {t : TypeId} (row : W.heap[h]? = some (.cells C t (0, 0))) (hC : C.size = 2) {P : Program} {f : Func} {Q : Ending → World → Prop} {A : Act} (v0 v1 : Value)
    (k : ∀ W', W'.heap[h]? = some (.cells #[v0, v1] t (0, 0)) → W.grownBy W' (some h) → bodyPost P f Q Exit.ret A W') :
    bodyPost P f Q Exit.ret A (((W.setCell ⟨h, 0, none⟩ v0).setCell ⟨h, 1, none⟩ v1).drew) := by
  have gr : W.grownBy ((W.setCell ⟨h, 0, none⟩ v0).setCell ⟨h, 1, none⟩ v1) (some h) := grown_set (grown_set (grown_any (Below.refl _ _) _))
  refine ret_drew ?_ gr k
  have hh := blk_set (i := 1) (blk_set (i := 0) row v0) v1
  have e : (C.setIfInBounds 0 v0).setIfInBounds 1 v1 = #[v0, v1] := by
    obtain ⟨l⟩ := C
    rcases l with _ | ⟨a0, _ | ⟨a1, l⟩⟩ <;> simp at hC ⊢
    exact hC
  rw [e] at hh
  exact hh
set_option maxHeartbeats 800000 in
theorem row12 {W : World} {h : Nat} {C : Array Value} {t : TypeId} (row : W.heap[h]? = some (.cells C t (0, 0))) (hC : C.size = 12) (v0 v1 v2 v3 v4 v5 v6 v7 v8 v9 v10 v11 : Value) :
    ((((((((((((W.setCell ⟨h, 0, none⟩ v0).setCell ⟨h, 1, none⟩ v1).setCell ⟨h, 2, none⟩ v2).setCell ⟨h, 3, none⟩ v3).setCell ⟨h, 4, none⟩ v4).setCell ⟨h, 5, none⟩ v5).setCell ⟨h, 6, none⟩ v6).setCell ⟨h, 7, none⟩ v7).setCell ⟨h, 8, none⟩ v8).setCell ⟨h, 9, none⟩ v9).setCell ⟨h, 10, none⟩ v10).setCell ⟨h, 11, none⟩ v11).heap[h]? = some (.cells #[v0, v1, v2, v3, v4, v5, v6, v7, v8, v9, v10, v11] t (0, 0)) ∧ W.grownBy ((((((((((((W.setCell ⟨h, 0, none⟩ v0).setCell ⟨h, 1, none⟩ v1).setCell ⟨h, 2, none⟩ v2).setCell ⟨h, 3, none⟩ v3).setCell ⟨h, 4, none⟩ v4).setCell ⟨h, 5, none⟩ v5).setCell ⟨h, 6, none⟩ v6).setCell ⟨h, 7, none⟩ v7).setCell ⟨h, 8, none⟩ v8).setCell ⟨h, 9, none⟩ v9).setCell ⟨h, 10, none⟩ v10).setCell ⟨h, 11, none⟩ v11) (some h) := by
  have hh := (blk_set (i := 11) (blk_set (i := 10) (blk_set (i := 9) (blk_set (i := 8) (blk_set (i := 7) (blk_set (i := 6) (blk_set (i := 5) (blk_set (i := 4) (blk_set (i := 3) (blk_set (i := 2) (blk_set (i := 1) (blk_set (i := 0) row v0) v1) v2) v3) v4) v5) v6) v7) v8) v9) v10) v11)
  have e : ((((((((((((C.setIfInBounds 0 v0).setIfInBounds 1 v1).setIfInBounds 2 v2).setIfInBounds 3 v3).setIfInBounds 4 v4).setIfInBounds 5 v5).setIfInBounds 6 v6).setIfInBounds 7 v7).setIfInBounds 8 v8).setIfInBounds 9 v9).setIfInBounds 10 v10).setIfInBounds 11 v11) = #[v0, v1, v2, v3, v4, v5, v6, v7, v8, v9, v10, v11] := by
    obtain ⟨l⟩ := C
    rcases l with _ | ⟨a0, _ | ⟨a1, _ | ⟨a2, _ | ⟨a3, _ | ⟨a4, _ | ⟨a5, _ | ⟨a6, _ | ⟨a7, _ | ⟨a8, _ | ⟨a9, _ | ⟨a10, _ | ⟨a11, l⟩⟩⟩⟩⟩⟩⟩⟩⟩⟩⟩⟩ <;> simp at hC ⊢
    exact hC
  rw [e] at hh
  exact ⟨hh, (grown_set (o := 11) (v := v11) (grown_set (o := 10) (v := v10) (grown_set (o := 9) (v := v9) (grown_set (o := 8) (v := v8) (grown_set (o := 7) (v := v7) (grown_set (o := 6) (v := v6) (grown_set (o := 5) (v := v5) (grown_set (o := 4) (v := v4) (grown_set (o := 3) (v := v3) (grown_set (o := 2) (v := v2) (grown_set (o := 1) (v := v1) (grown_set (o := 0) (v := v0) (grown_any (Below.refl _ _) _)))))))))))))⟩
theorem ret12a {W : World} {h : Nat} {C : Array Value} {t : TypeId} {o : Obj} (row : W.heap[h]? = some (.cells C t (0, 0))) (hC : C.size = 12) {P : Program} {f : Func} {Q : Ending → World → Prop} {A : Act} (v0 v1 v2 v3 v4 v5 v6 v7 v8 v9 v10 v11 : Value)
    (k : ∀ W', W'.heap[h]? = some (.cells #[v0, v1, v2, v3, v4, v5, v6, v7, v8, v9, v10, v11] t (0, 0)) → W.grownBy W' (some h) → bodyPost P f Q Exit.ret A W') :
    bodyPost P f Q Exit.ret A (((((((((((((W.setCell ⟨h, 0, none⟩ v0).setCell ⟨h, 1, none⟩ v1).setCell ⟨h, 2, none⟩ v2).setCell ⟨h, 3, none⟩ v3).setCell ⟨h, 4, none⟩ v4).setCell ⟨h, 5, none⟩ v5).setCell ⟨h, 6, none⟩ v6).setCell ⟨h, 7, none⟩ v7).setCell ⟨h, 8, none⟩ v8).setCell ⟨h, 9, none⟩ v9).setCell ⟨h, 10, none⟩ v10).setCell ⟨h, 11, none⟩ v11).alloc o) := by
  obtain ⟨hh, gr⟩ := row12 row hC v0 v1 v2 v3 v4 v5 v6 v7 v8 v9 v10 v11
  refine ret_alloc ?_ gr k
  exact hh
theorem ret12ad {W : World} {h : Nat} {C : Array Value} {t : TypeId} {o : Obj} (row : W.heap[h]? = some (.cells C t (0, 0))) (hC : C.size = 12) {P : Program} {f : Func} {Q : Ending → World → Prop} {A : Act} (v0 v1 v2 v3 v4 v5 v6 v7 v8 v9 v10 v11 : Value)
    (k : ∀ W', W'.heap[h]? = some (.cells #[v0, v1, v2, v3, v4, v5, v6, v7, v8, v9, v10, v11] t (0, 0)) → W.grownBy W' (some h) → bodyPost P f Q Exit.ret A W') :
    bodyPost P f Q Exit.ret A ((((((((((((((W.setCell ⟨h, 0, none⟩ v0).setCell ⟨h, 1, none⟩ v1).setCell ⟨h, 2, none⟩ v2).setCell ⟨h, 3, none⟩ v3).setCell ⟨h, 4, none⟩ v4).setCell ⟨h, 5, none⟩ v5).setCell ⟨h, 6, none⟩ v6).setCell ⟨h, 7, none⟩ v7).setCell ⟨h, 8, none⟩ v8).setCell ⟨h, 9, none⟩ v9).setCell ⟨h, 10, none⟩ v10).setCell ⟨h, 11, none⟩ v11).alloc o).drew) := by
  obtain ⟨hh, gr⟩ := row12 row hC v0 v1 v2 v3 v4 v5 v6 v7 v8 v9 v10 v11
  refine ret_drew (X := ((((((((((((W.setCell ⟨h, 0, none⟩ v0).setCell ⟨h, 1, none⟩ v1).setCell ⟨h, 2, none⟩ v2).setCell ⟨h, 3, none⟩ v3).setCell ⟨h, 4, none⟩ v4).setCell ⟨h, 5, none⟩ v5).setCell ⟨h, 6, none⟩ v6).setCell ⟨h, 7, none⟩ v7).setCell ⟨h, 8, none⟩ v8).setCell ⟨h, 9, none⟩ v9).setCell ⟨h, 10, none⟩ v10).setCell ⟨h, 11, none⟩ v11).alloc o) (h := h) (W := W) ?_ (gr.trans (grown_any ((Below.refl _ _).alloc (Nat.le_refl _) o) _)) k
  refine ((((Below.refl _ _).alloc (Nat.le_refl _) o).block h (Nat.lt_of_lt_of_le (Array.getElem?_eq_some_iff.1 row).1 gr.size))).trans ?_
  exact hh
theorem kn_13 {k : Nat} {s : List UInt8} (h : ¬ knE k s = 0) : knE k s = 13 := by
  unfold knE at h ⊢
  split at h
  · exact absurd rfl h
  · rename_i c; rw [if_neg c]
theorem rlink_many (A : Option Addr) (n c : Nat) (w : World) (hn : n ≠ 3) :
    Calls Tryz.prog 26 #[.slice A n c] w fun e w' => e = .returned (.tuple #[lvV [] [], .int .i64 14]) ∧ Below w.heap.size w w' := by
  have hn' : ((n : Int) != 3) = true := by simp; omega
  clear hn
  go_enter Tryz.func26, Tryz.ntmps26
  go_wp2
  exact bodyPost_ret (v := .tuple #[lvV [] [], .int .i64 14]) (by simp [results, Tryz.results26, go_sem, lvV]) rfl ⟨rfl, (Below.refl _ _).alloc (Nat.le_refl _) _⟩

set_option maxHeartbeats 800000 in
theorem rl_f0 (L off c : Nat) (p0 p1 p2 : List UInt8) (w : World) (hL : L < w.heap.size) (HC0 : CellAt w ⟨L, off, none⟩ p0) (HC1 : CellAt w ⟨L, off + 1, none⟩ p1) (HC2 : CellAt w ⟨L, off + 2, none⟩ p2) (l0 : p0.length ≤ 100) (_ : p1.length ≤ 100) (_ : p2.length ≤ 100) (H0 : Hid (decide (knE 2 p0 = 0) = false)) :
    Calls Tryz.prog 26 #[.slice (some ⟨L, off, none⟩) 3 c] w fun e w' => e = .returned (.tuple #[lvV [] [], .int .i64 13]) ∧ Below w.heap.size w w' := by
  have wc0 := HC0.out (Below.refl _ _)
  have C0 : Hid (∀ W, Calls Tryz.prog 60 #[.string ⟨p0.toArray⟩, .int .i64 3] W fun e w' => e = .returned (.bool false) ∧ Below W.heap.size W w') := Lib.hid fun W => rkind_is p0 2 false W l0 (by omega) H0
  clear l0
  go_enter Tryz.func26, Tryz.ntmps26
  go_wp2_with (first
    | (go_at_call 60
       with_reducible refine (C0.out _).mono ?_
       rintro e w1 ⟨rfl, k1⟩
       have X := Lib.hid ((BlkN.make (Below.refl _ _) _ _).next k1)
       clear k1 wc0
       have wc1 := HC1.out X.out.bel
       have wc2 := HC2.out X.out.bel
       have hc0 := cell_of_row _ w.heap.size 0 _ _ (0, 0) X.out.blk
       have hc1 := cell_of_row _ w.heap.size 1 _ _ (0, 0) X.out.blk
       have hf0 := row_frozen (o := 0) X.out.blk
       have hf1 := row_frozen (o := 1) X.out.blk
       have hq := row_lt X.out.blk
       simp only []))
  refine ret2 X.out.blk rfl _ _ (fun W' hrow hgr => ?_)
  have rc0 := cell_of_row W' w.heap.size 0 _ _ (0, 0) hrow
  have rc1 := cell_of_row W' w.heap.size 1 _ _ (0, 0) hrow
  refine bodyPost_ret (v := .tuple #[lvV [] [], .int .i64 13]) (by simp [results, Tryz.results26, go_sem, rc0, rc1, lvV]) rfl ⟨rfl, ?_⟩
  exact X.out.bel.grown hgr X.out.bel.size (fun j e => by injection e with e; omega)

set_option maxHeartbeats 800000 in
theorem rl_f1 (L off c : Nat) (p0 p1 p2 : List UInt8) (w : World) (hL : L < w.heap.size) (HC0 : CellAt w ⟨L, off, none⟩ p0) (HC1 : CellAt w ⟨L, off + 1, none⟩ p1) (HC2 : CellAt w ⟨L, off + 2, none⟩ p2) (l0 : p0.length ≤ 100) (l1 : p1.length ≤ 100) (_ : p2.length ≤ 100) (H0 : Hid (decide (knE 2 p0 = 0) = true)) (H1 : Hid (nmOk p1 = false)) :
    Calls Tryz.prog 26 #[.slice (some ⟨L, off, none⟩) 3 c] w fun e w' => e = .returned (.tuple #[lvV [] [], .int .i64 23]) ∧ Below w.heap.size w w' := by
  have wc0 := HC0.out (Below.refl _ _)
  have C0 : Hid (∀ W, Calls Tryz.prog 60 #[.string ⟨p0.toArray⟩, .int .i64 3] W fun e w' => e = .returned (.bool true) ∧ Below W.heap.size W w') := Lib.hid fun W => rkind_is p0 2 true W l0 (by omega) H0
  have C1 : Hid (∀ W, Calls Tryz.prog 13 #[.string ⟨p1.toArray⟩] W fun e w' => e = .returned (.bool false) ∧ W = w') := Lib.hid fun W => rname_is p1 false W (by omega) H1
  clear l0 l1
  go_enter Tryz.func26, Tryz.ntmps26
  go_wp2_with (first
    | (go_at_call 60
       with_reducible refine (C0.out _).mono ?_
       rintro e w1 ⟨rfl, k1⟩
       have X := Lib.hid ((BlkN.make (Below.refl _ _) _ _).next k1)
       clear k1 wc0
       have wc1 := HC1.out X.out.bel
       have wc2 := HC2.out X.out.bel
       have hc0 := cell_of_row _ w.heap.size 0 _ _ (0, 0) X.out.blk
       have hc1 := cell_of_row _ w.heap.size 1 _ _ (0, 0) X.out.blk
       have hf0 := row_frozen (o := 0) X.out.blk
       have hf1 := row_frozen (o := 1) X.out.blk
       have hq := row_lt X.out.blk
       simp only [])
    | (go_at_call 13; with_reducible refine (C1.out _).mono ?_; rintro e wp1 ⟨rfl, rfl⟩; simp only []))
  refine ret2 X.out.blk rfl _ _ (fun W' hrow hgr => ?_)
  have rc0 := cell_of_row W' w.heap.size 0 _ _ (0, 0) hrow
  have rc1 := cell_of_row W' w.heap.size 1 _ _ (0, 0) hrow
  refine bodyPost_ret (v := .tuple #[lvV [] [], .int .i64 23]) (by simp [results, Tryz.results26, go_sem, rc0, rc1, lvV]) rfl ⟨rfl, ?_⟩
  exact X.out.bel.grown hgr X.out.bel.size (fun j e => by injection e with e; omega)

set_option maxHeartbeats 800000 in
theorem rl_f2 (L off c : Nat) (p0 p1 p2 : List UInt8) (w : World) (hL : L < w.heap.size) (HC0 : CellAt w ⟨L, off, none⟩ p0) (HC1 : CellAt w ⟨L, off + 1, none⟩ p1) (HC2 : CellAt w ⟨L, off + 2, none⟩ p2) (l0 : p0.length ≤ 100) (l1 : p1.length ≤ 100) (l2 : p2.length ≤ 100) (H0 : Hid (decide (knE 2 p0 = 0) = true)) (H1 : Hid (nmOk p1 = true)) (H2 : Hid (nmOk p2 = false)) :
    Calls Tryz.prog 26 #[.slice (some ⟨L, off, none⟩) 3 c] w fun e w' => e = .returned (.tuple #[lvV [] [], .int .i64 23]) ∧ Below w.heap.size w w' := by
  have wc0 := HC0.out (Below.refl _ _)
  have C0 : Hid (∀ W, Calls Tryz.prog 60 #[.string ⟨p0.toArray⟩, .int .i64 3] W fun e w' => e = .returned (.bool true) ∧ Below W.heap.size W w') := Lib.hid fun W => rkind_is p0 2 true W l0 (by omega) H0
  have C1 : Hid (∀ W, Calls Tryz.prog 13 #[.string ⟨p1.toArray⟩] W fun e w' => e = .returned (.bool true) ∧ W = w') := Lib.hid fun W => rname_is p1 true W (by omega) H1
  have C2 : Hid (∀ W, Calls Tryz.prog 13 #[.string ⟨p2.toArray⟩] W fun e w' => e = .returned (.bool false) ∧ W = w') := Lib.hid fun W => rname_is p2 false W (by omega) H2
  clear l0 l1 l2
  go_enter Tryz.func26, Tryz.ntmps26
  go_wp2_with (first
    | (go_at_call 60
       with_reducible refine (C0.out _).mono ?_
       rintro e w1 ⟨rfl, k1⟩
       have X := Lib.hid ((BlkN.make (Below.refl _ _) _ _).next k1)
       clear k1 wc0
       have wc1 := HC1.out X.out.bel
       have wc2 := HC2.out X.out.bel
       have hc0 := cell_of_row _ w.heap.size 0 _ _ (0, 0) X.out.blk
       have hc1 := cell_of_row _ w.heap.size 1 _ _ (0, 0) X.out.blk
       have hf0 := row_frozen (o := 0) X.out.blk
       have hf1 := row_frozen (o := 1) X.out.blk
       have hq := row_lt X.out.blk
       simp only [])
    | (go_at_call 13; with_reducible refine (C1.out _).mono ?_; rintro e wp1 ⟨rfl, rfl⟩; simp only [])
    | (go_at_call 13; with_reducible refine (C2.out _).mono ?_; rintro e wp2 ⟨rfl, rfl⟩; simp only []))
  refine ret2 X.out.blk rfl _ _ (fun W' hrow hgr => ?_)
  have rc0 := cell_of_row W' w.heap.size 0 _ _ (0, 0) hrow
  have rc1 := cell_of_row W' w.heap.size 1 _ _ (0, 0) hrow
  refine bodyPost_ret (v := .tuple #[lvV [] [], .int .i64 23]) (by simp [results, Tryz.results26, go_sem, rc0, rc1, lvV]) rfl ⟨rfl, ?_⟩
  exact X.out.bel.grown hgr X.out.bel.size (fun j e => by injection e with e; omega)

set_option maxHeartbeats 800000 in
theorem rl_s (L off c : Nat) (p0 p1 p2 : List UInt8) (w : World) (hL : L < w.heap.size) (HC0 : CellAt w ⟨L, off, none⟩ p0) (HC1 : CellAt w ⟨L, off + 1, none⟩ p1) (HC2 : CellAt w ⟨L, off + 2, none⟩ p2) (l0 : p0.length ≤ 100) (l1 : p1.length ≤ 100) (l2 : p2.length ≤ 100) (H0 : Hid (decide (knE 2 p0 = 0) = true)) (H1 : Hid (nmOk p1 = true)) (H2 : Hid (nmOk p2 = true)) :
    Calls Tryz.prog 26 #[.slice (some ⟨L, off, none⟩) 3 c] w fun e w' => e = .returned (.tuple #[lvV p1 p2, .int .i64 0]) ∧ Below w.heap.size w w' := by
  have wc0 := HC0.out (Below.refl _ _)
  have C0 : Hid (∀ W, Calls Tryz.prog 60 #[.string ⟨p0.toArray⟩, .int .i64 3] W fun e w' => e = .returned (.bool true) ∧ Below W.heap.size W w') := Lib.hid fun W => rkind_is p0 2 true W l0 (by omega) H0
  have C1 : Hid (∀ W, Calls Tryz.prog 13 #[.string ⟨p1.toArray⟩] W fun e w' => e = .returned (.bool true) ∧ W = w') := Lib.hid fun W => rname_is p1 true W (by omega) H1
  have C2 : Hid (∀ W, Calls Tryz.prog 13 #[.string ⟨p2.toArray⟩] W fun e w' => e = .returned (.bool true) ∧ W = w') := Lib.hid fun W => rname_is p2 true W (by omega) H2
  clear l0 l1 l2
  go_enter Tryz.func26, Tryz.ntmps26
  go_wp2_with (first
    | (go_at_call 60
       with_reducible refine (C0.out _).mono ?_
       rintro e w1 ⟨rfl, k1⟩
       have X := Lib.hid ((BlkN.make (Below.refl _ _) _ _).next k1)
       clear k1 wc0
       have wc1 := HC1.out X.out.bel
       have wc2 := HC2.out X.out.bel
       have hc0 := cell_of_row _ w.heap.size 0 _ _ (0, 0) X.out.blk
       have hc1 := cell_of_row _ w.heap.size 1 _ _ (0, 0) X.out.blk
       have hf0 := row_frozen (o := 0) X.out.blk
       have hf1 := row_frozen (o := 1) X.out.blk
       have hq := row_lt X.out.blk
       simp only [])
    | (go_at_call 13; with_reducible refine (C1.out _).mono ?_; rintro e wp1 ⟨rfl, rfl⟩; simp only [])
    | (go_at_call 13; with_reducible refine (C2.out _).mono ?_; rintro e wp2 ⟨rfl, rfl⟩; simp only []))
  go_region
  go_wp2
  refine ret2d X.out.blk rfl _ _ (fun W' hrow hgr => ?_)
  have rc0 := cell_of_row W' w.heap.size 0 _ _ (0, 0) hrow
  have rc1 := cell_of_row W' w.heap.size 1 _ _ (0, 0) hrow
  refine bodyPost_ret (v := .tuple #[lvV p1 p2, .int .i64 0]) (by simp [results, Tryz.results26, go_sem, rc0, rc1, lvV]) rfl ⟨rfl, ?_⟩
  exact X.out.bel.grown hgr X.out.bel.size (fun j e => by injection e with e; omega)

theorem rlink_is (A : Option Addr) (n c : Nat) (ws : List (List UInt8)) (w : World) (hn : ws.length = n) (hl : ∀ p ∈ ws, p.length ≤ 100) (hW : ArgW A ws w) (a b : List UInt8) (v : Int) (hr : Hid (lkT ws = a ∧ lkN ws = b ∧ lkX ws = v)) :
    Calls Tryz.prog 26 #[.slice A n c] w fun e w' => e = .returned (.tuple #[lvV a b, .int .i64 v]) ∧ Below w.heap.size w w' := by
  obtain ⟨rfl, rfl, rfl⟩ := hr.out
  by_cases h : n = 3
  · subst h
    obtain ⟨L, off, rfl, hW'⟩ := hW.some (by omega)
    obtain ⟨p0, p1, p2, rfl⟩ : ∃ p0 p1 p2, ws = [p0, p1, p2] := by
      match ws, hn with
      | [p0, p1, p2], _ => exact ⟨p0, p1, p2, rfl⟩
    have hLw : L < w.heap.size := wcell_lt (hW' 0 p0 rfl)
    have HC : ∀ i p, [p0, p1, p2][i]? = some p → Hid (∀ W, Below w.heap.size w W → W.cell? ⟨L, off + i, none⟩ = some (.string ⟨p.toArray⟩)) := fun i p hp => Lib.hid fun W k => by
      rw [k.cell (p := ⟨L, off + i, none⟩) hLw]; exact hW' i p hp
    have l0 := hl p0 (by simp)
    have l1 := hl p1 (by simp)
    have l2 := hl p2 (by simp)
    have ex : lkX [p0, p1, p2] = first [knE 2 p0, nmE p1, nmE p2] := rfl
    have bad : ∀ x : Int, lkX [p0, p1, p2] = x → x ≠ 0 → lkT [p0, p1, p2] = [] ∧ lkN [p0, p1, p2] = [] := fun x e hx => by
      unfold lkT lkN; rw [e, if_neg hx, if_neg hx]; exact ⟨rfl, rfl⟩
    by_cases z0 : knE 2 p0 = 0
    rotate_left
    · have e : lkX [p0, p1, p2] = 13 := by rw [ex, kn_13 z0]; rfl
      rw [e, (bad _ e (by decide)).1, (bad _ e (by decide)).2]
      exact rl_f0 L off c p0 p1 p2 w hLw (HC 0 p0 rfl) (HC 1 p1 rfl) (HC 2 p2 rfl) l0 l1 l2 (Lib.hid (decide_eq_false z0))
    have H0 : Hid (decide (knE 2 p0 = 0) = true) := Lib.hid (decide_eq_true z0)
    cases h1 : nmOk p1 with
    | false =>
      have e : lkX [p0, p1, p2] = 23 := by rw [ex, z0]; unfold nmE; rw [h1]; rfl
      rw [e, (bad _ e (by decide)).1, (bad _ e (by decide)).2]
      exact rl_f1 L off c p0 p1 p2 w hLw (HC 0 p0 rfl) (HC 1 p1 rfl) (HC 2 p2 rfl) l0 l1 l2 H0 (Lib.hid h1)
    | true =>
      cases h2 : nmOk p2 with
      | false =>
        have e : lkX [p0, p1, p2] = 23 := by rw [ex, z0]; unfold nmE; rw [h1, h2]; rfl
        rw [e, (bad _ e (by decide)).1, (bad _ e (by decide)).2]
        exact rl_f2 L off c p0 p1 p2 w hLw (HC 0 p0 rfl) (HC 1 p1 rfl) (HC 2 p2 rfl) l0 l1 l2 H0 (Lib.hid h1) (Lib.hid h2)
      | true =>
        have e : lkX [p0, p1, p2] = 0 := by rw [ex, z0]; unfold nmE; rw [h1, h2]; rfl
        have e1 : lkT [p0, p1, p2] = p1 := by unfold lkT; rw [e]; rfl
        have e2 : lkN [p0, p1, p2] = p2 := by unfold lkN; rw [e]; rfl
        rw [e, e1, e2]
        exact rl_s L off c p0 p1 p2 w hLw (HC 0 p0 rfl) (HC 1 p1 rfl) (HC 2 p2 rfl) l0 l1 l2 H0 (Lib.hid h1) (Lib.hid h2)
  · have e1 : lkX ws = 14 := by unfold lkX; rw [if_neg (by omega)]
    have e2 : lkT ws = [] ∧ lkN ws = [] := by unfold lkT lkN; rw [e1]; exact ⟨rfl, rfl⟩
    rw [e1, e2.1, e2.2]
    exact rlink_many A n c w h

theorem rzone_few (A : Option Addr) (n c : Nat) (w : World) (hn : n < 5) :
    Calls Tryz.prog 24 #[.slice A n c] w fun e w' => e = .returned (.tuple #[.string ⟨#[]⟩, evV e0V, .int .i64 14]) ∧ Below w.heap.size w w' := by
  have hn' : (n : Int) < 5 := by omega
  clear hn
  go_enter Tryz.func24, Tryz.ntmps24
  go_wp2
  exact bodyPost_ret (v := .tuple #[.string ⟨#[]⟩, evV e0V, .int .i64 14]) (by simp [results, Tryz.results24, go_sem, evV, e0V]) rfl ⟨rfl, (Below.refl _ _).alloc (Nat.le_refl _) _⟩

theorem rzone_many (A : Option Addr) (n c : Nat) (w : World) (hn : 9 < n) :
    Calls Tryz.prog 24 #[.slice A n c] w fun e w' => e = .returned (.tuple #[.string ⟨#[]⟩, evV e0V, .int .i64 14]) ∧ Below w.heap.size w w' := by
  have hn0 : ¬ (n : Int) < 5 := by omega
  have hn' : (9 : Int) < (n : Int) := by omega
  clear hn
  go_enter Tryz.func24, Tryz.ntmps24
  go_wp2
  exact bodyPost_ret (v := .tuple #[.string ⟨#[]⟩, evV e0V, .int .i64 14]) (by simp [results, Tryz.results24, go_sem, evV, e0V]) rfl ⟨rfl, (Below.refl _ _).alloc (Nat.le_refl _) _⟩

set_option maxRecDepth 20000 in
set_option maxHeartbeats 1600000 in
theorem rz_f0 (L off n c : Nat) (l5 : ¬ (n : Int) < 5) (l9 : ¬ (9 : Int) < (n : Int)) (p0 p1 : List UInt8) (w : World) (hL : L < w.heap.size) (HC0 : CellAt w ⟨L, off, none⟩ p0) (HC1 : CellAt w ⟨L, off + 1, none⟩ p1) (l0 : p0.length ≤ 100) (_ : p1.length ≤ 100) (H0 : Hid (decide (knE 1 p0 = 0) = false)) :
    Calls Tryz.prog 24 #[.slice (some ⟨L, off, none⟩) n c] w fun e w' => e = .returned (.tuple #[.string ⟨[].toArray⟩, evV e0V, .int .i64 13]) ∧ Below w.heap.size w w' := by
  have wc0 := HC0.out (Below.refl _ _)
  have C0 : Hid (∀ W, Calls Tryz.prog 60 #[.string ⟨p0.toArray⟩, .int .i64 2] W fun e w' => e = .returned (.bool false) ∧ Below W.heap.size W w') := Lib.hid fun W => rkind_is p0 1 false W l0 (by omega) H0
  clear l0
  go_enter Tryz.func24, Tryz.ntmps24
  go_wp2_with (first
    | (go_at_call 60
       with_reducible refine (C0.out _).mono ?_
       rintro e w1 ⟨rfl, k1⟩
       have X := Lib.hid ((BlkN.make (Below.refl _ _) _ _).next k1)
       clear k1 wc0
       have wc1 := HC1.out X.out.bel
       have hc0 := cell_of_row _ w.heap.size 0 _ _ (0, 0) X.out.blk
       have hc1 := cell_of_row _ w.heap.size 1 _ _ (0, 0) X.out.blk
       have hc2 := cell_of_row _ w.heap.size 2 _ _ (0, 0) X.out.blk
       have hc3 := cell_of_row _ w.heap.size 3 _ _ (0, 0) X.out.blk
       have hc4 := cell_of_row _ w.heap.size 4 _ _ (0, 0) X.out.blk
       have hc5 := cell_of_row _ w.heap.size 5 _ _ (0, 0) X.out.blk
       have hc6 := cell_of_row _ w.heap.size 6 _ _ (0, 0) X.out.blk
       have hc7 := cell_of_row _ w.heap.size 7 _ _ (0, 0) X.out.blk
       have hc8 := cell_of_row _ w.heap.size 8 _ _ (0, 0) X.out.blk
       have hc9 := cell_of_row _ w.heap.size 9 _ _ (0, 0) X.out.blk
       have hc10 := cell_of_row _ w.heap.size 10 _ _ (0, 0) X.out.blk
       have hc11 := cell_of_row _ w.heap.size 11 _ _ (0, 0) X.out.blk
       have hf0 := row_frozen (o := 0) X.out.blk
       have hf1 := row_frozen (o := 1) X.out.blk
       have hf2 := row_frozen (o := 2) X.out.blk
       have hf3 := row_frozen (o := 3) X.out.blk
       have hf4 := row_frozen (o := 4) X.out.blk
       have hf5 := row_frozen (o := 5) X.out.blk
       have hf6 := row_frozen (o := 6) X.out.blk
       have hf7 := row_frozen (o := 7) X.out.blk
       have hf8 := row_frozen (o := 8) X.out.blk
       have hf9 := row_frozen (o := 9) X.out.blk
       have hf10 := row_frozen (o := 10) X.out.blk
       have hf11 := row_frozen (o := 11) X.out.blk
       have hq := row_lt X.out.blk
       simp only []))
  refine ret12 X.out.blk rfl _ _ _ _ _ _ _ _ _ _ _ _ (fun W' hrow hgr => ?_)
  have rc0 := cell_of_row W' w.heap.size 0 _ _ (0, 0) hrow
  have rc1 := cell_of_row W' w.heap.size 1 _ _ (0, 0) hrow
  have rc2 := cell_of_row W' w.heap.size 2 _ _ (0, 0) hrow
  have rc3 := cell_of_row W' w.heap.size 3 _ _ (0, 0) hrow
  have rc4 := cell_of_row W' w.heap.size 4 _ _ (0, 0) hrow
  have rc5 := cell_of_row W' w.heap.size 5 _ _ (0, 0) hrow
  have rc6 := cell_of_row W' w.heap.size 6 _ _ (0, 0) hrow
  have rc7 := cell_of_row W' w.heap.size 7 _ _ (0, 0) hrow
  have rc8 := cell_of_row W' w.heap.size 8 _ _ (0, 0) hrow
  have rc9 := cell_of_row W' w.heap.size 9 _ _ (0, 0) hrow
  have rc10 := cell_of_row W' w.heap.size 10 _ _ (0, 0) hrow
  have rc11 := cell_of_row W' w.heap.size 11 _ _ (0, 0) hrow
  refine bodyPost_ret (v := .tuple #[.string ⟨[].toArray⟩, evV e0V, .int .i64 13]) (by simp [results, Tryz.results24, go_sem, rc0, rc1, rc2, rc3, rc4, rc5, rc6, rc7, rc8, rc9, rc10, rc11, evV, e0V]) rfl ⟨rfl, ?_⟩
  exact X.out.bel.grown hgr X.out.bel.size (fun j e => by injection e with e; omega)

set_option maxRecDepth 20000 in
set_option maxHeartbeats 1600000 in
theorem rz_f1 (L off n c : Nat) (l5 : ¬ (n : Int) < 5) (l9 : ¬ (9 : Int) < (n : Int)) (p0 p1 : List UInt8) (w : World) (hL : L < w.heap.size) (HC0 : CellAt w ⟨L, off, none⟩ p0) (HC1 : CellAt w ⟨L, off + 1, none⟩ p1) (l0 : p0.length ≤ 100) (l1 : p1.length ≤ 100) (H0 : Hid (decide (knE 1 p0 = 0) = true)) (H1 : Hid (nmOk p1 = false)) :
    Calls Tryz.prog 24 #[.slice (some ⟨L, off, none⟩) n c] w fun e w' => e = .returned (.tuple #[.string ⟨[].toArray⟩, evV e0V, .int .i64 23]) ∧ Below w.heap.size w w' := by
  have wc0 := HC0.out (Below.refl _ _)
  have C0 : Hid (∀ W, Calls Tryz.prog 60 #[.string ⟨p0.toArray⟩, .int .i64 2] W fun e w' => e = .returned (.bool true) ∧ Below W.heap.size W w') := Lib.hid fun W => rkind_is p0 1 true W l0 (by omega) H0
  have C1 : Hid (∀ W, Calls Tryz.prog 13 #[.string ⟨p1.toArray⟩] W fun e w' => e = .returned (.bool false) ∧ W = w') := Lib.hid fun W => rname_is p1 false W (by omega) H1
  clear l0 l1
  go_enter Tryz.func24, Tryz.ntmps24
  go_wp2_with (first
    | (go_at_call 60
       with_reducible refine (C0.out _).mono ?_
       rintro e w1 ⟨rfl, k1⟩
       have X := Lib.hid ((BlkN.make (Below.refl _ _) _ _).next k1)
       clear k1 wc0
       have wc1 := HC1.out X.out.bel
       have hc0 := cell_of_row _ w.heap.size 0 _ _ (0, 0) X.out.blk
       have hc1 := cell_of_row _ w.heap.size 1 _ _ (0, 0) X.out.blk
       have hc2 := cell_of_row _ w.heap.size 2 _ _ (0, 0) X.out.blk
       have hc3 := cell_of_row _ w.heap.size 3 _ _ (0, 0) X.out.blk
       have hc4 := cell_of_row _ w.heap.size 4 _ _ (0, 0) X.out.blk
       have hc5 := cell_of_row _ w.heap.size 5 _ _ (0, 0) X.out.blk
       have hc6 := cell_of_row _ w.heap.size 6 _ _ (0, 0) X.out.blk
       have hc7 := cell_of_row _ w.heap.size 7 _ _ (0, 0) X.out.blk
       have hc8 := cell_of_row _ w.heap.size 8 _ _ (0, 0) X.out.blk
       have hc9 := cell_of_row _ w.heap.size 9 _ _ (0, 0) X.out.blk
       have hc10 := cell_of_row _ w.heap.size 10 _ _ (0, 0) X.out.blk
       have hc11 := cell_of_row _ w.heap.size 11 _ _ (0, 0) X.out.blk
       have hf0 := row_frozen (o := 0) X.out.blk
       have hf1 := row_frozen (o := 1) X.out.blk
       have hf2 := row_frozen (o := 2) X.out.blk
       have hf3 := row_frozen (o := 3) X.out.blk
       have hf4 := row_frozen (o := 4) X.out.blk
       have hf5 := row_frozen (o := 5) X.out.blk
       have hf6 := row_frozen (o := 6) X.out.blk
       have hf7 := row_frozen (o := 7) X.out.blk
       have hf8 := row_frozen (o := 8) X.out.blk
       have hf9 := row_frozen (o := 9) X.out.blk
       have hf10 := row_frozen (o := 10) X.out.blk
       have hf11 := row_frozen (o := 11) X.out.blk
       have hq := row_lt X.out.blk
       simp only [])
    | (go_at_call 13; with_reducible refine (C1.out _).mono ?_; rintro e wp1 ⟨rfl, rfl⟩; simp only []))
  refine ret12 X.out.blk rfl _ _ _ _ _ _ _ _ _ _ _ _ (fun W' hrow hgr => ?_)
  have rc0 := cell_of_row W' w.heap.size 0 _ _ (0, 0) hrow
  have rc1 := cell_of_row W' w.heap.size 1 _ _ (0, 0) hrow
  have rc2 := cell_of_row W' w.heap.size 2 _ _ (0, 0) hrow
  have rc3 := cell_of_row W' w.heap.size 3 _ _ (0, 0) hrow
  have rc4 := cell_of_row W' w.heap.size 4 _ _ (0, 0) hrow
  have rc5 := cell_of_row W' w.heap.size 5 _ _ (0, 0) hrow
  have rc6 := cell_of_row W' w.heap.size 6 _ _ (0, 0) hrow
  have rc7 := cell_of_row W' w.heap.size 7 _ _ (0, 0) hrow
  have rc8 := cell_of_row W' w.heap.size 8 _ _ (0, 0) hrow
  have rc9 := cell_of_row W' w.heap.size 9 _ _ (0, 0) hrow
  have rc10 := cell_of_row W' w.heap.size 10 _ _ (0, 0) hrow
  have rc11 := cell_of_row W' w.heap.size 11 _ _ (0, 0) hrow
  refine bodyPost_ret (v := .tuple #[.string ⟨[].toArray⟩, evV e0V, .int .i64 23]) (by simp [results, Tryz.results24, go_sem, rc0, rc1, rc2, rc3, rc4, rc5, rc6, rc7, rc8, rc9, rc10, rc11, evV, e0V]) rfl ⟨rfl, ?_⟩
  exact X.out.bel.grown hgr X.out.bel.size (fun j e => by injection e with e; omega)

set_option maxRecDepth 20000 in
set_option maxHeartbeats 1600000 in
theorem rz_f2 (L off n c : Nat) (l5 : ¬ (n : Int) < 5) (l9 : ¬ (9 : Int) < (n : Int)) (p0 p1 : List UInt8) (w : World) (hL : L < w.heap.size) (HC0 : CellAt w ⟨L, off, none⟩ p0) (HC1 : CellAt w ⟨L, off + 1, none⟩ p1) (l0 : p0.length ≤ 100) (l1 : p1.length ≤ 100) (H0 : Hid (decide (knE 1 p0 = 0) = true)) (H1 : Hid (nmOk p1 = true)) (vs : List (List UInt8)) (z : EV) (x : Int) (hx : (x != 0) = true) (H2 : Hid (erS vs = z ∧ erX vs = x)) (LV : vs.length = n - 2) (LV2 : ∀ p ∈ vs, p.length ≤ 100) (AV : Hid (ArgW (some ⟨L, off + 2, none⟩) vs w)) (sd2 : ∀ W : World, (Instr.slice 27 (.slice (some ⟨L, off, none⟩) n c) (some (.int .i64 2)) none none).run Tryz.prog W = .ok (.slice (some ⟨L, off + 2, none⟩) (n - 2) (c - 2)) W) :
    Calls Tryz.prog 24 #[.slice (some ⟨L, off, none⟩) n c] w fun e w' => e = .returned (.tuple #[.string ⟨[].toArray⟩, evV e0V, .int .i64 x]) ∧ Below w.heap.size w w' := by
  have wc0 := HC0.out (Below.refl _ _)
  have C0 : Hid (∀ W, Calls Tryz.prog 60 #[.string ⟨p0.toArray⟩, .int .i64 2] W fun e w' => e = .returned (.bool true) ∧ Below W.heap.size W w') := Lib.hid fun W => rkind_is p0 1 true W l0 (by omega) H0
  have C1 : Hid (∀ W, Calls Tryz.prog 13 #[.string ⟨p1.toArray⟩] W fun e w' => e = .returned (.bool true) ∧ W = w') := Lib.hid fun W => rname_is p1 true W (by omega) H1
  have C2 : Hid (∀ W, ArgW (some ⟨L, off + 2, none⟩) vs W → Calls Tryz.prog 22 #[.slice (some ⟨L, off + 2, none⟩) (n - 2) (c - 2)] W fun e w' => e = .returned (.tuple #[evV z, .int .i64 x]) ∧ Below W.heap.size W w') := Lib.hid fun W h => rera_is _ (n - 2) (c - 2) vs W LV LV2 h z _ H2
  clear LV LV2
  clear l0 l1
  go_enter Tryz.func24, Tryz.ntmps24
  go_wp2_with (first
    | (go_at_call 60
       with_reducible refine (C0.out _).mono ?_
       rintro e w1 ⟨rfl, k1⟩
       have X := Lib.hid ((BlkN.make (Below.refl _ _) _ _).next k1)
       clear k1 wc0
       have wc1 := HC1.out X.out.bel
       simp only [])
    | (go_at_call 13; with_reducible refine (C1.out _).mono ?_; rintro e wp1 ⟨rfl, rfl⟩; simp only [])
    | (go_at_call 22
       with_reducible refine (C2.out _ (AV.out.next X.out.bel)).mono ?_
       rintro e w2 ⟨rfl, k2⟩
       have X2 := Lib.hid (X.out.next k2)
       clear X k2 wc1
       have X := X2
       clear X2
       have Q := Lib.hid (BlkN.make X.out.bel (cE z) 40)
       have wc1 := HC1.out X.out.bel
       have lq1 := wcell_lt wc1
       have hc0 := cell_of_row _ w.heap.size 0 _ _ (0, 0) X.out.blk
       have hc1 := cell_of_row _ w.heap.size 1 _ _ (0, 0) X.out.blk
       have hc2 := cell_of_row _ w.heap.size 2 _ _ (0, 0) X.out.blk
       have hc3 := cell_of_row _ w.heap.size 3 _ _ (0, 0) X.out.blk
       have hc4 := cell_of_row _ w.heap.size 4 _ _ (0, 0) X.out.blk
       have hc5 := cell_of_row _ w.heap.size 5 _ _ (0, 0) X.out.blk
       have hc6 := cell_of_row _ w.heap.size 6 _ _ (0, 0) X.out.blk
       have hc7 := cell_of_row _ w.heap.size 7 _ _ (0, 0) X.out.blk
       have hc8 := cell_of_row _ w.heap.size 8 _ _ (0, 0) X.out.blk
       have hc9 := cell_of_row _ w.heap.size 9 _ _ (0, 0) X.out.blk
       have hc10 := cell_of_row _ w.heap.size 10 _ _ (0, 0) X.out.blk
       have hc11 := cell_of_row _ w.heap.size 11 _ _ (0, 0) X.out.blk
       have hf0 := row_frozen (o := 0) X.out.blk
       have hf1 := row_frozen (o := 1) X.out.blk
       have hf2 := row_frozen (o := 2) X.out.blk
       have hf3 := row_frozen (o := 3) X.out.blk
       have hf4 := row_frozen (o := 4) X.out.blk
       have hf5 := row_frozen (o := 5) X.out.blk
       have hf6 := row_frozen (o := 6) X.out.blk
       have hf7 := row_frozen (o := 7) X.out.blk
       have hf8 := row_frozen (o := 8) X.out.blk
       have hf9 := row_frozen (o := 9) X.out.blk
       have hf10 := row_frozen (o := 10) X.out.blk
       have hf11 := row_frozen (o := 11) X.out.blk
       have hq := row_lt X.out.blk
       simp only [evV]))
  refine ret12a X.out.blk rfl _ _ _ _ _ _ _ _ _ _ _ _ (fun W' hrow hgr => ?_)
  have rc0 := cell_of_row W' w.heap.size 0 _ _ (0, 0) hrow
  have rc1 := cell_of_row W' w.heap.size 1 _ _ (0, 0) hrow
  have rc2 := cell_of_row W' w.heap.size 2 _ _ (0, 0) hrow
  have rc3 := cell_of_row W' w.heap.size 3 _ _ (0, 0) hrow
  have rc4 := cell_of_row W' w.heap.size 4 _ _ (0, 0) hrow
  have rc5 := cell_of_row W' w.heap.size 5 _ _ (0, 0) hrow
  have rc6 := cell_of_row W' w.heap.size 6 _ _ (0, 0) hrow
  have rc7 := cell_of_row W' w.heap.size 7 _ _ (0, 0) hrow
  have rc8 := cell_of_row W' w.heap.size 8 _ _ (0, 0) hrow
  have rc9 := cell_of_row W' w.heap.size 9 _ _ (0, 0) hrow
  have rc10 := cell_of_row W' w.heap.size 10 _ _ (0, 0) hrow
  have rc11 := cell_of_row W' w.heap.size 11 _ _ (0, 0) hrow
  refine bodyPost_ret (v := .tuple #[.string ⟨[].toArray⟩, evV e0V, .int .i64 x]) (by simp [results, Tryz.results24, go_sem, rc0, rc1, rc2, rc3, rc4, rc5, rc6, rc7, rc8, rc9, rc10, rc11, evV, e0V]) rfl ⟨rfl, ?_⟩
  exact X.out.bel.grown hgr X.out.bel.size (fun j e => by injection e with e; omega)

set_option maxRecDepth 20000 in
set_option maxHeartbeats 1600000 in
theorem rz_s (L off n c : Nat) (l5 : ¬ (n : Int) < 5) (l9 : ¬ (9 : Int) < (n : Int)) (p0 p1 : List UInt8) (w : World) (hL : L < w.heap.size) (HC0 : CellAt w ⟨L, off, none⟩ p0) (HC1 : CellAt w ⟨L, off + 1, none⟩ p1) (l0 : p0.length ≤ 100) (l1 : p1.length ≤ 100) (H0 : Hid (decide (knE 1 p0 = 0) = true)) (H1 : Hid (nmOk p1 = true)) (vs : List (List UInt8)) (z : EV) (H2 : Hid (erS vs = z ∧ erX vs = 0)) (LV : vs.length = n - 2) (LV2 : ∀ p ∈ vs, p.length ≤ 100) (AV : Hid (ArgW (some ⟨L, off + 2, none⟩) vs w)) (sd2 : ∀ W : World, (Instr.slice 27 (.slice (some ⟨L, off, none⟩) n c) (some (.int .i64 2)) none none).run Tryz.prog W = .ok (.slice (some ⟨L, off + 2, none⟩) (n - 2) (c - 2)) W) :
    Calls Tryz.prog 24 #[.slice (some ⟨L, off, none⟩) n c] w fun e w' => e = .returned (.tuple #[.string ⟨p1.toArray⟩, evV z, .int .i64 0]) ∧ Below w.heap.size w w' := by
  have wc0 := HC0.out (Below.refl _ _)
  have C0 : Hid (∀ W, Calls Tryz.prog 60 #[.string ⟨p0.toArray⟩, .int .i64 2] W fun e w' => e = .returned (.bool true) ∧ Below W.heap.size W w') := Lib.hid fun W => rkind_is p0 1 true W l0 (by omega) H0
  have C1 : Hid (∀ W, Calls Tryz.prog 13 #[.string ⟨p1.toArray⟩] W fun e w' => e = .returned (.bool true) ∧ W = w') := Lib.hid fun W => rname_is p1 true W (by omega) H1
  have C2 : Hid (∀ W, ArgW (some ⟨L, off + 2, none⟩) vs W → Calls Tryz.prog 22 #[.slice (some ⟨L, off + 2, none⟩) (n - 2) (c - 2)] W fun e w' => e = .returned (.tuple #[evV z, .int .i64 0]) ∧ Below W.heap.size W w') := Lib.hid fun W h => rera_is _ (n - 2) (c - 2) vs W LV LV2 h z _ H2
  clear LV LV2
  clear l0 l1
  go_enter Tryz.func24, Tryz.ntmps24
  go_wp2_with (first
    | (go_at_call 60
       with_reducible refine (C0.out _).mono ?_
       rintro e w1 ⟨rfl, k1⟩
       have X := Lib.hid ((BlkN.make (Below.refl _ _) _ _).next k1)
       clear k1 wc0
       have wc1 := HC1.out X.out.bel
       simp only [])
    | (go_at_call 13; with_reducible refine (C1.out _).mono ?_; rintro e wp1 ⟨rfl, rfl⟩; simp only [])
    | (go_at_call 22
       with_reducible refine (C2.out _ (AV.out.next X.out.bel)).mono ?_
       rintro e w2 ⟨rfl, k2⟩
       have X2 := Lib.hid (X.out.next k2)
       clear X k2 wc1
       have X := X2
       clear X2
       have Q := Lib.hid (BlkN.make X.out.bel (cE z) 40)
       have wc1 := HC1.out X.out.bel
       have lq1 := wcell_lt wc1
       have hc0 := cell_of_row _ w.heap.size 0 _ _ (0, 0) X.out.blk
       have hc1 := cell_of_row _ w.heap.size 1 _ _ (0, 0) X.out.blk
       have hc2 := cell_of_row _ w.heap.size 2 _ _ (0, 0) X.out.blk
       have hc3 := cell_of_row _ w.heap.size 3 _ _ (0, 0) X.out.blk
       have hc4 := cell_of_row _ w.heap.size 4 _ _ (0, 0) X.out.blk
       have hc5 := cell_of_row _ w.heap.size 5 _ _ (0, 0) X.out.blk
       have hc6 := cell_of_row _ w.heap.size 6 _ _ (0, 0) X.out.blk
       have hc7 := cell_of_row _ w.heap.size 7 _ _ (0, 0) X.out.blk
       have hc8 := cell_of_row _ w.heap.size 8 _ _ (0, 0) X.out.blk
       have hc9 := cell_of_row _ w.heap.size 9 _ _ (0, 0) X.out.blk
       have hc10 := cell_of_row _ w.heap.size 10 _ _ (0, 0) X.out.blk
       have hc11 := cell_of_row _ w.heap.size 11 _ _ (0, 0) X.out.blk
       have hf0 := row_frozen (o := 0) X.out.blk
       have hf1 := row_frozen (o := 1) X.out.blk
       have hf2 := row_frozen (o := 2) X.out.blk
       have hf3 := row_frozen (o := 3) X.out.blk
       have hf4 := row_frozen (o := 4) X.out.blk
       have hf5 := row_frozen (o := 5) X.out.blk
       have hf6 := row_frozen (o := 6) X.out.blk
       have hf7 := row_frozen (o := 7) X.out.blk
       have hf8 := row_frozen (o := 8) X.out.blk
       have hf9 := row_frozen (o := 9) X.out.blk
       have hf10 := row_frozen (o := 10) X.out.blk
       have hf11 := row_frozen (o := 11) X.out.blk
       have hq := row_lt X.out.blk
       simp only [evV]))
  go_region
  go_wp2
  refine ret12ad X.out.blk rfl _ _ _ _ _ _ _ _ _ _ _ _ (fun W' hrow hgr => ?_)
  have rc0 := cell_of_row W' w.heap.size 0 _ _ (0, 0) hrow
  have rc1 := cell_of_row W' w.heap.size 1 _ _ (0, 0) hrow
  have rc2 := cell_of_row W' w.heap.size 2 _ _ (0, 0) hrow
  have rc3 := cell_of_row W' w.heap.size 3 _ _ (0, 0) hrow
  have rc4 := cell_of_row W' w.heap.size 4 _ _ (0, 0) hrow
  have rc5 := cell_of_row W' w.heap.size 5 _ _ (0, 0) hrow
  have rc6 := cell_of_row W' w.heap.size 6 _ _ (0, 0) hrow
  have rc7 := cell_of_row W' w.heap.size 7 _ _ (0, 0) hrow
  have rc8 := cell_of_row W' w.heap.size 8 _ _ (0, 0) hrow
  have rc9 := cell_of_row W' w.heap.size 9 _ _ (0, 0) hrow
  have rc10 := cell_of_row W' w.heap.size 10 _ _ (0, 0) hrow
  have rc11 := cell_of_row W' w.heap.size 11 _ _ (0, 0) hrow
  refine bodyPost_ret (v := .tuple #[.string ⟨p1.toArray⟩, evV z, .int .i64 0]) (by simp [results, Tryz.results24, go_sem, rc0, rc1, rc2, rc3, rc4, rc5, rc6, rc7, rc8, rc9, rc10, rc11, evV]) rfl ⟨rfl, ?_⟩
  exact X.out.bel.grown hgr X.out.bel.size (fun j e => by injection e with e; omega)

theorem rzone_is (A : Option Addr) (n c : Nat) (ws : List (List UInt8)) (w : World) (hn : ws.length = n) (hc : n ≤ c) (hl : ∀ p ∈ ws, p.length ≤ 100) (hW : ArgW A ws w) (N : List UInt8) (r : EV) (v : Int) (hr : Hid (znN ws = N ∧ znS ws = r ∧ znX ws = v)) :
    Calls Tryz.prog 24 #[.slice A n c] w fun e w' => e = .returned (.tuple #[.string ⟨N.toArray⟩, evV r, .int .i64 v]) ∧ Below w.heap.size w w' := by
  obtain ⟨rfl, rfl, rfl⟩ := hr.out
  have bad : ∀ x : Int, znX ws = x → x ≠ 0 → znN ws = [] ∧ znS ws = e0V := fun x e hx => by
    unfold znN znS; rw [e, if_neg hx, if_neg hx]; exact ⟨rfl, rfl⟩
  by_cases h : 5 ≤ n ∧ n ≤ 9
  · obtain ⟨L, off, rfl, hW'⟩ := hW.some (by omega)
    have g : ∀ i, i < n → w.cell? ⟨L, off + i, none⟩ = some (.string ⟨(wd ws i).toArray⟩) := fun i hi => by
      obtain ⟨p, hp⟩ : ∃ p, ws[i]? = some p := ⟨_, List.getElem?_eq_getElem (by omega)⟩
      rw [wd_get hp]; exact hW' i p hp
    have hLw : L < w.heap.size := wcell_lt (g 0 (by omega))
    have HC : ∀ i, i < n → Hid (∀ W, Below w.heap.size w W → W.cell? ⟨L, off + i, none⟩ = some (.string ⟨(wd ws i).toArray⟩)) := fun i hi => Lib.hid fun W k => by
      rw [k.cell (p := ⟨L, off + i, none⟩) hLw]; exact g i hi
    have ex : znX ws = if zhE ws = 0 then erX (ws.drop 2) else zhE ws := by unfold znX; rw [if_pos (by omega)]
    have ez : zhE ws = first [knE 1 (wd ws 0), nmE (wd ws 1)] := rfl
    by_cases z0 : knE 1 (wd ws 0) = 0
    rotate_left
    · have e0 : zhE ws = 13 := by rw [ez, kn_13 z0]; rfl
      have e : znX ws = 13 := by rw [ex, e0]; rfl
      rw [e, (bad _ e (by decide)).1, (bad _ e (by decide)).2]
      exact rz_f0 L off n c (by omega) (by omega) (wd ws 0) (wd ws 1) w hLw (HC 0 (by omega)) (HC 1 (by omega)) (wd_len hl 0) (wd_len hl 1) (Lib.hid (decide_eq_false z0))
    have H0 : Hid (decide (knE 1 (wd ws 0) = 0) = true) := Lib.hid (decide_eq_true z0)
    cases h1 : nmOk (wd ws 1) with
    | false =>
      have e0 : zhE ws = 23 := by rw [ez, z0]; unfold nmE; rw [h1]; rfl
      have e : znX ws = 23 := by rw [ex, e0]; rfl
      rw [e, (bad _ e (by decide)).1, (bad _ e (by decide)).2]
      exact rz_f1 L off n c (by omega) (by omega) (wd ws 0) (wd ws 1) w hLw (HC 0 (by omega)) (HC 1 (by omega)) (wd_len hl 0) (wd_len hl 1) H0 (Lib.hid h1)
    | true =>
      have e0 : zhE ws = 0 := by rw [ez, z0]; unfold nmE; rw [h1]; rfl
      rw [e0, if_pos rfl] at ex
      have LV : (ws.drop 2).length = n - 2 := by rw [List.length_drop, hn]
      have LV2 : ∀ p ∈ ws.drop 2, p.length ≤ 100 := fun p hp => hl p (List.mem_of_mem_drop hp)
      have AV : Hid (ArgW (some ⟨L, off + 2, none⟩) (ws.drop 2) w) := Lib.hid fun i p hp => ⟨L, off + 2, rfl, by
        rw [List.getElem?_drop] at hp
        have := hW' (2 + i) p hp
        rwa [show off + (2 + i) = off + 2 + i by omega] at this⟩
      have sd2 := sdrop_run L off n c 2 (by omega) (by omega)
      by_cases zx : erX (ws.drop 2) = 0
      · have e : znX ws = 0 := by rw [ex, zx]
        have e1 : znN ws = wd ws 1 := by unfold znN; rw [if_pos e]
        have e2 : znS ws = erS (ws.drop 2) := by unfold znS; rw [if_pos e]
        rw [e, e1, e2]
        exact rz_s L off n c (by omega) (by omega) (wd ws 0) (wd ws 1) w hLw (HC 0 (by omega)) (HC 1 (by omega)) (wd_len hl 0) (wd_len hl 1) H0 (Lib.hid h1) (ws.drop 2) _ (Lib.hid ⟨rfl, zx⟩) LV LV2 AV sd2
      · have hb := bad _ ex zx
        rw [ex, hb.1, hb.2]
        exact rz_f2 L off n c (by omega) (by omega) (wd ws 0) (wd ws 1) w hLw (HC 0 (by omega)) (HC 1 (by omega)) (wd_len hl 0) (wd_len hl 1) H0 (Lib.hid h1) (ws.drop 2) _ _ (ne_not zx) (Lib.hid ⟨rfl, rfl⟩) LV LV2 AV sd2
  · have e : znX ws = 14 := by unfold znX; rw [if_neg (by omega)]
    rw [e, (bad _ e (by decide)).1, (bad _ e (by decide)).2]
    by_cases h3 : n < 5
    · exact rzone_few A n c w h3
    · exact rzone_many A n c w (by omega)

end Go.Proofs.YtfmehdophoejiaaGreatDoor
