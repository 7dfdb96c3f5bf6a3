/- The contracts of fire.up, and of a course's part and has: which years of a rule are gone through. -/
import Derived.Test.YtblamffdlclomaaDoorFrO
import Derived.Lib.MinMax
import Derived.Shelf.RegionOpenPlain
import Derived.BigRegion
import Derived.Deep.LoopGhost
namespace Go.Proofs.YtblamffdlclomaaDoor
open Go Go.RowKit

theorem fmin3 (P : Program) (ty : TypeId) (x y z m : Int) (h : min (min x y) z = m) (W : World) : (Builtin.min_ #[ty, ty, ty] ty #[.int .i64 x, .int .i64 y, .int .i64 z]).run P W = .ok (.int .i64 m) W := by
  subst h
  have e1 : (if y < x then y else x) = min x y := by rw [Int.min_def]; split <;> split <;> omega
  have e2 : (if z < min x y then z else min x y) = min (min x y) z := by rw [Int.min_def (min x y) z]; split <;> split <;> omega
  simp [Builtin.min_, Builtin.min2, e1, e2]
theorem fmax3 (P : Program) (ty : TypeId) (x y z m : Int) (h : max (max x y) z = m) (W : World) : (Builtin.max_ #[ty, ty, ty] ty #[.int .i64 x, .int .i64 y, .int .i64 z]).run P W = .ok (.int .i64 m) W := by
  subst h
  have e1 : (if x < y then y else x) = max x y := by rw [Int.max_def]; split <;> split <;> omega
  have e2 : (if max x y < z then z else max x y) = max (max x y) z := by rw [Int.max_def (max x y) z]; split <;> split <;> omega
  simp [Builtin.max_, Builtin.max2, e1, e2]

def coV (a b s : Int) : Value := .agg #[.int .i64 a, .int .i64 b, .int .i64 s]
/-- A rule lies here. -/
def RulAt (L o : Nat) (r : RV) (w : World) : Prop := L < w.heap.size ∧ ∀ (j : Nat) (v : Value), (cR r)[j]? = some v → w.cell? ⟨L, o + j, none⟩ = some v
theorem RulAt.next {L o : Nat} {r : RV} {w w' : World} (h : RulAt L o r w) (k : Below w.heap.size w w') : RulAt L o r w' :=
  ⟨Nat.lt_of_lt_of_le h.1 k.size, fun j v hj => (k.cell (p := ⟨L, o + j, none⟩) h.1).trans (h.2 j v hj)⟩
theorem RulAt.below {L o B : Nat} {r : RV} {w w' : World} (h : RulAt L o r w) (hB : L < B) (k : Below B w w') : RulAt L o r w' :=
  ⟨Nat.lt_of_lt_of_le h.1 k.size, fun j v hj => (k.cell (p := ⟨L, o + j, none⟩) hB).trans (h.2 j v hj)⟩
theorem rul_at {A : Option Addr} {rs : List RV} {w : World} {i : Nat} {r : RV} (h : RowsAt 11 cR A rs w) (hr : rs[i]? = some r) : ∃ L off, A = some ⟨L, off, none⟩ ∧ RulAt L (off + i * 11) r w := by
  obtain ⟨L, off, e, hl, hc⟩ := h i r hr
  exact ⟨L, off, e, hl, fun j v hj => hc j v (by
    have := (Array.getElem?_eq_some_iff.1 hj).1
    simpa [cR] using this) hj⟩
theorem RulAt.cells {L o : Nat} {r : RV} {w : World} (h : RulAt L o r w) :
    w.cell? ⟨L, o, none⟩ = some (.string ⟨r.nm.toArray⟩) ∧ w.cell? ⟨L, o + 1, none⟩ = some (.int .i64 r.fr) ∧ w.cell? ⟨L, o + 2, none⟩ = some (.int .i64 r.tl) ∧ w.cell? ⟨L, o + 3, none⟩ = some (.int .i64 r.mo) ∧ w.cell? ⟨L, o + 4, none⟩ = some (.int .i64 r.dk) ∧ w.cell? ⟨L, o + 5, none⟩ = some (.int .i64 r.dw) ∧ w.cell? ⟨L, o + 6, none⟩ = some (.int .i64 r.dn) ∧ w.cell? ⟨L, o + 7, none⟩ = some (.int .i64 r.sc) ∧ w.cell? ⟨L, o + 8, none⟩ = some (.int .i64 r.ck) ∧ w.cell? ⟨L, o + 9, none⟩ = some (.int .i64 r.sv) ∧ w.cell? ⟨L, o + 10, none⟩ = some (.string ⟨r.lt.toArray⟩) :=
  ⟨h.2 0 _ rfl, h.2 1 _ rfl, h.2 2 _ rfl, h.2 3 _ rfl, h.2 4 _ rfl, h.2 5 _ rfl, h.2 6 _ rfl, h.2 7 _ rfl, h.2 8 _ rfl, h.2 9 _ rfl, h.2 10 _ rfl⟩

theorem fup_is (a b : Int) (w : World) : Calls Tryd.prog 23 #[.int .i64 a, .int .i64 b] w fun e w' => e = .returned (coV a b 1) ∧ Below w.heap.size w w' := by
  have X := Lib.hid (BlkN.make (Below.refl w.heap.size w) #[.int .i64 a, .int .i64 b, .int .i64 1] 68)
  go_enter Tryd.func23, Tryd.ntmps23
  repeat (first | go_values | go_skip | go_guarded | go_step | go_upon | go_back)
  refine X.out.ret fun W' B => ?_
  obtain ⟨c0, c1, c2⟩ := cel3 B.blk
  exact bodyPost_ret (by simp [results, Tryd.results23, go_sem, c0, c1, c2]; rfl) rfl ⟨rfl, B.bel⟩

theorem fhas_is (a b y : Int) (v : Bool) (w : World) (hv : v = decide (y ≤ b)) : Calls Tryd.prog 37 #[coV a b 1, .int .i64 y] w fun e w' => e = .returned (.bool v) ∧ Below w.heap.size w w' := by
  subst hv
  have X := Lib.hid (BlkN.make (Below.refl w.heap.size w) #[.int .i64 a, .int .i64 b, .int .i64 1] 68)
  unfold coV
  go_enter Tryd.func37, Tryd.ntmps37
  repeat (first | go_values | go_skip | go_guarded | go_step | go_upon | go_back)
  go_ret
  exact ⟨rfl, X.out.bel⟩

set_option maxRecDepth 20000 in
set_option maxHeartbeats 2000000 in
theorem fpart_is (L o : Nat) (r : RV) (a b F T : Int) (w : World) (hr : RulAt L o r w) (hF : max (max a r.fr) (-100000) = F) (hT : min (min b r.tl) 100000 = T) :
    Calls Tryd.prog 36 #[coV a b 1, .pointer (some ⟨L, o, none⟩)] w fun e w' => e = .returned (coV F T 1) ∧ Below w.heap.size w w' := by
  have mixed : Tryd.prog.follows .mixedOrders = true := by kernel_rfl
  have X : Hid (TwoB w w.heap.size #[.int .i64 a, .int .i64 b, .int .i64 1] 68 (w.heap.size + 1) #[.int .i64 0, .int .i64 0, .int .i64 0] 68 ((w.alloc (.cells #[.int .i64 a, .int .i64 b, .int .i64 1] 68)).alloc (.cells #[.int .i64 0, .int .i64 0, .int .i64 0] 68))) :=
    ⟨BlkN.fst (w := w) _ 68 _, BlkN.two w _ _ _⟩
  have q1 := fmax3 Tryd.prog 3 a r.fr (-100000) F hF
  have q2 := fmin3 Tryd.prog 3 b r.tl 100000 T hT
  have R := Lib.hid (hr.next X.out.a.bel)
  have hL := hr.1
  have hne : L ≠ w.heap.size + 1 := by omega
  clear hr hF hT
  unfold coV
  go_enter Tryd.func36, Tryd.ntmps36
  generalize hW : ((w.alloc (.cells #[.int .i64 a, .int .i64 b, .int .i64 1] 68)).alloc (.cells #[.int .i64 0, .int .i64 0, .int .i64 0] 68)) = W2 at X R
  obtain ⟨c0, c1, c2⟩ := cel3 X.out.a.blk
  obtain ⟨z0, z1, z2⟩ := cel3 X.out.b.blk
  have f0 := frz (j := 0) X.out.b.blk
  have f1 := frz (j := 1) X.out.b.blk
  have f2 := frz (j := 2) X.out.b.blk
  obtain ⟨-, r1, r2, -⟩ := R.out.cells
  go_wp2_with fail
  clear hW R
  go_region
  all_goals repeat (first | go_values | go_skip | go_guarded | go_step | go_upon | go_back)
  refine (X.out.b.drew.set3).ret fun W' B => ?_
  obtain ⟨c0, c1, c2⟩ := cel3 B.blk
  exact bodyPost_ret (by simp [results, Tryd.results36, go_sem, c0, c1, c2]) rfl ⟨rfl, B.bel⟩
end Go.Proofs.YtblamffdlclomaaDoor
