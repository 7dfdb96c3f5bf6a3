/- What the walks of the reference's Rule share: blocks of the call's own, the first error. Written by wip/tools/genlrr.py. -/
import Derived.Test.YtfmehdophoejiaaGreatDoorLrK
import Derived.Test.YtfmehdophoejiaaGreatDoorMT
import Derived.BigRegionIn
import Derived.Stop.RegionWithIn
namespace Go.Proofs.YtfmehdophoejiaaGreatDoor
open Go Go.RowKit

theorem two_blk (w : World) (C D : Array Value) (t u : TypeId) : BlkN w w.heap.size C t ((w.alloc (.cells C t)).alloc (.cells D u)) ∧ BlkN w (w.heap.size + 1) D u ((w.alloc (.cells C t)).alloc (.cells D u)) := by
  refine ⟨(BlkN.make (Below.refl _ _) C t).more _, ?_⟩
  have := BlkN.make (bmk (Below.refl w.heap.size w) (.cells C t)) D u
  rwa [World.size_alloc] at this
set_option maxHeartbeats 800000 in
theorem ret11d {W : World} {h : Nat} {C : Array Value} {t : TypeId} (row : W.heap[h]? = some (.cells C t (0, 0))) (hC : C.size = 11) {P : Program} {f : Func} {Q : Ending → World → Prop} {A : Act} (v0 v1 v2 v3 v4 v5 v6 v7 v8 v9 v10 : Value)
    (k : ∀ W', W'.heap[h]? = some (.cells #[v0, v1, v2, v3, v4, v5, v6, v7, v8, v9, v10] t (0, 0)) → W.grownBy W' (some h) → bodyPost P f Q Exit.ret A W') :
    bodyPost P f Q Exit.ret A ((((((((((((W.setCell ⟨h, 0, none⟩ v0).setCell ⟨h, 1, none⟩ v1).setCell ⟨h, 2, none⟩ v2).setCell ⟨h, 3, none⟩ v3).setCell ⟨h, 4, none⟩ v4).setCell ⟨h, 5, none⟩ v5).setCell ⟨h, 6, none⟩ v6).setCell ⟨h, 7, none⟩ v7).setCell ⟨h, 8, none⟩ v8).setCell ⟨h, 9, none⟩ v9).setCell ⟨h, 10, none⟩ v10).drew) := by
  have gr : W.grownBy (((((((((((W.setCell ⟨h, 0, none⟩ v0).setCell ⟨h, 1, none⟩ v1).setCell ⟨h, 2, none⟩ v2).setCell ⟨h, 3, none⟩ v3).setCell ⟨h, 4, none⟩ v4).setCell ⟨h, 5, none⟩ v5).setCell ⟨h, 6, none⟩ v6).setCell ⟨h, 7, none⟩ v7).setCell ⟨h, 8, none⟩ v8).setCell ⟨h, 9, none⟩ v9).setCell ⟨h, 10, none⟩ v10) (some h) := (grown_set (o := 10) (v := v10) (grown_set (o := 9) (v := v9) (grown_set (o := 8) (v := v8) (grown_set (o := 7) (v := v7) (grown_set (o := 6) (v := v6) (grown_set (o := 5) (v := v5) (grown_set (o := 4) (v := v4) (grown_set (o := 3) (v := v3) (grown_set (o := 2) (v := v2) (grown_set (o := 1) (v := v1) (grown_set (o := 0) (v := v0) (grown_any (Below.refl _ _) _))))))))))))
  refine ret_drew ?_ gr k
  have hh := (blk_set (i := 10) (blk_set (i := 9) (blk_set (i := 8) (blk_set (i := 7) (blk_set (i := 6) (blk_set (i := 5) (blk_set (i := 4) (blk_set (i := 3) (blk_set (i := 2) (blk_set (i := 1) (blk_set (i := 0) row v0) v1) v2) v3) v4) v5) v6) v7) v8) v9) v10)
  have e : (((((((((((C.setIfInBounds 0 v0).setIfInBounds 1 v1).setIfInBounds 2 v2).setIfInBounds 3 v3).setIfInBounds 4 v4).setIfInBounds 5 v5).setIfInBounds 6 v6).setIfInBounds 7 v7).setIfInBounds 8 v8).setIfInBounds 9 v9).setIfInBounds 10 v10) = #[v0, v1, v2, v3, v4, v5, v6, v7, v8, v9, v10] := by
    obtain ⟨l⟩ := C
    rcases l with _ | ⟨a0, _ | ⟨a1, _ | ⟨a2, _ | ⟨a3, _ | ⟨a4, _ | ⟨a5, _ | ⟨a6, _ | ⟨a7, _ | ⟨a8, _ | ⟨a9, _ | ⟨a10, l⟩⟩⟩⟩⟩⟩⟩⟩⟩⟩⟩ <;> simp at hC ⊢
    exact hC
  rw [e] at hh
  exact hh

theorem ret_alloc {W X : World} {h : Nat} {r : Obj} {o : Obj} {P : Program} {f : Func} {Q : Ending → World → Prop} {A : Act} (hrow : X.heap[h]? = some r) (gr : W.grownBy X (some h)) (k : ∀ W', W'.heap[h]? = some r → W.grownBy W' (some h) → bodyPost P f Q Exit.ret A W') : bodyPost P f Q Exit.ret A (X.alloc o) :=
  k _ ((((Below.refl X.heap.size X).alloc (Nat.le_refl _) o).block h (Array.getElem?_eq_some_iff.1 hrow).1).trans hrow) (gr.trans (grown_any ((Below.refl _ _).alloc (Nat.le_refl _) o) _))
set_option maxHeartbeats 800000 in
theorem ret11a {W : World} {h : Nat} {C : Array Value} {t : TypeId} {o : Obj} (row : W.heap[h]? = some (.cells C t (0, 0))) (hC : C.size = 11) {P : Program} {f : Func} {Q : Ending → World → Prop} {A : Act} (v0 v1 v2 v3 v4 v5 v6 v7 v8 v9 v10 : Value)
    (k : ∀ W', W'.heap[h]? = some (.cells #[v0, v1, v2, v3, v4, v5, v6, v7, v8, v9, v10] t (0, 0)) → W.grownBy W' (some h) → bodyPost P f Q Exit.ret A W') :
    bodyPost P f Q Exit.ret A ((((((((((((W.setCell ⟨h, 0, none⟩ v0).setCell ⟨h, 1, none⟩ v1).setCell ⟨h, 2, none⟩ v2).setCell ⟨h, 3, none⟩ v3).setCell ⟨h, 4, none⟩ v4).setCell ⟨h, 5, none⟩ v5).setCell ⟨h, 6, none⟩ v6).setCell ⟨h, 7, none⟩ v7).setCell ⟨h, 8, none⟩ v8).setCell ⟨h, 9, none⟩ v9).setCell ⟨h, 10, none⟩ v10).alloc o) := by
  have gr : W.grownBy (((((((((((W.setCell ⟨h, 0, none⟩ v0).setCell ⟨h, 1, none⟩ v1).setCell ⟨h, 2, none⟩ v2).setCell ⟨h, 3, none⟩ v3).setCell ⟨h, 4, none⟩ v4).setCell ⟨h, 5, none⟩ v5).setCell ⟨h, 6, none⟩ v6).setCell ⟨h, 7, none⟩ v7).setCell ⟨h, 8, none⟩ v8).setCell ⟨h, 9, none⟩ v9).setCell ⟨h, 10, none⟩ v10) (some h) := (grown_set (o := 10) (v := v10) (grown_set (o := 9) (v := v9) (grown_set (o := 8) (v := v8) (grown_set (o := 7) (v := v7) (grown_set (o := 6) (v := v6) (grown_set (o := 5) (v := v5) (grown_set (o := 4) (v := v4) (grown_set (o := 3) (v := v3) (grown_set (o := 2) (v := v2) (grown_set (o := 1) (v := v1) (grown_set (o := 0) (v := v0) (grown_any (Below.refl _ _) _))))))))))))
  refine ret_alloc ?_ gr k
  have hh := (blk_set (i := 10) (blk_set (i := 9) (blk_set (i := 8) (blk_set (i := 7) (blk_set (i := 6) (blk_set (i := 5) (blk_set (i := 4) (blk_set (i := 3) (blk_set (i := 2) (blk_set (i := 1) (blk_set (i := 0) row v0) v1) v2) v3) v4) v5) v6) v7) v8) v9) v10)
  have e : (((((((((((C.setIfInBounds 0 v0).setIfInBounds 1 v1).setIfInBounds 2 v2).setIfInBounds 3 v3).setIfInBounds 4 v4).setIfInBounds 5 v5).setIfInBounds 6 v6).setIfInBounds 7 v7).setIfInBounds 8 v8).setIfInBounds 9 v9).setIfInBounds 10 v10) = #[v0, v1, v2, v3, v4, v5, v6, v7, v8, v9, v10] := by
    obtain ⟨l⟩ := C
    rcases l with _ | ⟨a0, _ | ⟨a1, _ | ⟨a2, _ | ⟨a3, _ | ⟨a4, _ | ⟨a5, _ | ⟨a6, _ | ⟨a7, _ | ⟨a8, _ | ⟨a9, _ | ⟨a10, l⟩⟩⟩⟩⟩⟩⟩⟩⟩⟩⟩ <;> simp at hC ⊢
    exact hC
  rw [e] at hh
  exact hh
theorem first_at : ∀ (es : List Int) (k : Nat) (x : Int), es[k]? = some x → x ≠ 0 → (∀ e ∈ es.take k, e = 0) → first es = x
  | [], k, x, h, _, _ => by simp at h
  | e :: r, 0, x, h, hx, _ => by
    simp only [List.getElem?_cons_zero, Option.some.injEq] at h
    subst h
    unfold first; rw [if_neg hx]
  | e :: r, k + 1, x, h, hx, hp => by
    have h0 : e = 0 := hp e (by simp)
    unfold first
    rw [if_pos h0]
    exact first_at r k x (by simpa using h) hx (fun y hy => hp y (by simp only [List.take_succ_cons, List.mem_cons]; exact .inr hy))
theorem rl_fail {ws : List (List UInt8)} {k : Nat} {x : Int} (hn : ws.length = 10) (hk : (rlE ws)[k]? = some x) (hx : x ≠ 0) (hp : ∀ e ∈ (rlE ws).take k, e = 0) : rlX ws = x ∧ rlS ws = r0 := by
  have e : rlX ws = x := by unfold rlX; rw [if_pos hn]; exact first_at _ k x hk hx hp
  refine ⟨e, ?_⟩
  unfold rlS
  rw [e, if_neg hx]
theorem ne_not {x : Int} (h : x ≠ 0) : (x != 0) = true := by simpa using h

end Go.Proofs.YtfmehdophoejiaaGreatDoor
