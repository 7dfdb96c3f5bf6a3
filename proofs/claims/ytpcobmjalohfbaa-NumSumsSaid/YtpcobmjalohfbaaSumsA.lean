/- For every two numbers and every slice of numbers the law NumSums returns true, and nothing that was in memory changes: there are no other conditions. -/
import Derived.Test.YtpcobmjalohfbaaRows
import Derived.WalkKit
import Derived.ProofKit
import Derived.OpenShut
import Derived.Below
import Derived.Deep.RegionHeld3
import Derived.Test.YtpcobmjalohfbaaLsum
import Derived.Test.YtpcobmjalohfbaaProd
import Derived.Test.YtpcobmjalohfbaaDiv
import Derived.Test.YtpcobmjalohfbaaOpen
namespace Go.Proofs.Ytpcobmjalohfbaa
open Go.RowKit

/-- The two boxes, and all that was there, are as they were. -/
structure Two (w : World) (gx gy : Nat) (x y : Nat → Int) (wc : World) : Prop where
  bel : Below w.heap.size w wc
  hx : LongAt LT wc gx x
  hy : LongAt LT wc gy y
theorem Two.next {w wc w' : World} {gx gy : Nat} {x y : Nat → Int} (h : Two w gx gy x y wc) (k : Below wc.heap.size wc w') : Two w gx gy x y w' :=
  ⟨below_after h.bel k h.bel.size, h.hx.below k h.hx.lt, h.hy.below k h.hy.lt⟩
theorem Two.drew {w wc : World} {gx gy : Nat} {x y : Nat → Int} (h : Two w gx gy x y wc) : Two w gx gy x y wc.drew := ⟨h.bel.drew, h.hx.drew, h.hy.drew⟩

theorem sixteen {w : World} {gx gy : Nat} {x y : Nat → Int} (hx : LongAt LT w gx x) (hy : LongAt LT w gy y) :
    w.cell? ⟨gx, 0, none⟩ = some (.int .i64 (x 0)) ∧ w.cell? ⟨gx, 1, none⟩ = some (.int .i64 (x 1)) ∧ w.cell? ⟨gx, 2, none⟩ = some (.int .i64 (x 2)) ∧ w.cell? ⟨gx, 3, none⟩ = some (.int .i64 (x 3)) ∧
    w.cell? ⟨gx, 4, none⟩ = some (.int .i64 (x 4)) ∧ w.cell? ⟨gx, 5, none⟩ = some (.int .i64 (x 5)) ∧ w.cell? ⟨gx, 6, none⟩ = some (.int .i64 (x 6)) ∧ w.cell? ⟨gx, 7, none⟩ = some (.int .i64 (x 7)) ∧
    w.cell? ⟨gy, 0, none⟩ = some (.int .i64 (y 0)) ∧ w.cell? ⟨gy, 1, none⟩ = some (.int .i64 (y 1)) ∧ w.cell? ⟨gy, 2, none⟩ = some (.int .i64 (y 2)) ∧ w.cell? ⟨gy, 3, none⟩ = some (.int .i64 (y 3)) ∧
    w.cell? ⟨gy, 4, none⟩ = some (.int .i64 (y 4)) ∧ w.cell? ⟨gy, 5, none⟩ = some (.int .i64 (y 5)) ∧ w.cell? ⟨gy, 6, none⟩ = some (.int .i64 (y 6)) ∧ w.cell? ⟨gy, 7, none⟩ = some (.int .i64 (y 7)) :=
  ⟨hx.cell 0 (by omega), hx.cell 1 (by omega), hx.cell 2 (by omega), hx.cell 3 (by omega), hx.cell 4 (by omega), hx.cell 5 (by omega), hx.cell 6 (by omega), hx.cell 7 (by omega),
   hy.cell 0 (by omega), hy.cell 1 (by omega), hy.cell 2 (by omega), hy.cell 3 (by omega), hy.cell 4 (by omega), hy.cell 5 (by omega), hy.cell 6 (by omega), hy.cell 7 (by omega)⟩

namespace numSums
theorem own : ownKnob Try.prog.godebug = none := by kernel_rfl

theorem walk_many (p q : Int) (a : Option Addr) (len cap : Nat) (w : World) (h : 40 < len) (hl : len ≤ maxLen) :
    Calls Try.prog 3 #[.int .i64 p, .int .i64 q, .slice a len cap] w fun e w' => e = .returned (.bool true) ∧ Below w.heap.size w w' := by
  unfold maxLen at hl
  go_enter Try.func3, Try.ntmps3
  go_wp2_with (go_at_call 8; refine (awake_yes _).mono ?_; rintro e w1 ⟨rfl, rfl⟩)
  go_ret
  exact ⟨rfl, Below.refl _ _⟩

set_option maxHeartbeats 4000000 in
theorem walk_few (p q : Int) (a : Option Addr) (cap : Nat) (zs : List Int) (w : World) (h : Ints w a zs) (hl : zs.length ≤ 40)
    (hp1 : -9223372036854775808 ≤ p) (hp2 : p ≤ 9223372036854775807) (hq1 : -9223372036854775808 ≤ q) (hq2 : q ≤ 9223372036854775807) :
    Calls Try.prog 3 #[.int .i64 p, .int .i64 q, .slice a zs.length cap] w fun e w' => e = .returned (.bool true) ∧ Below w.heap.size w w' := by
  have HI := Lib.hid h
  clear h
  have hd : decide ((40 : Int) < (zs.length : Int)) = false := by simp; omega
  go_enter Try.func3, Try.ntmps3
  go_wp2_with fail
  refine (of_any p _ hp1 hp2).mono ?_
  rintro e w1 ⟨⟨x, rfl, nx, vx⟩, k1⟩
  unfold cellsL
  go_wp2_with fail
  refine (of_any q _ hq1 hq2).mono ?_
  rintro e w2 ⟨⟨y, rfl, ny, vy⟩, k2⟩
  unfold cellsL
  have T0 : Hid (Two w w1.heap.size w2.heap.size x y (w2.alloc (.cells (cellsL y) LT))) := by
    have hb : Below w.heap.size w w2 := below_after (k1.alloc k1.size _) k2 (by simp; exact Nat.le_succ_of_le k1.size)
    exact ⟨hb.alloc hb.size _, ((LongAt.new w1 LT x).below k2 (by simp)).alloc _, LongAt.new w2 LT y⟩
  have NX := Lib.hid nx
  have VX := Lib.hid vx
  have NY := Lib.hid ny
  have VY := Lib.hid vy
  clear k1 k2 nx vx ny vy
  go_wp2_with fail
  refine (add_any p q _ hp1 hp2 hq1 hq2).mono ?_
  rintro e w3 ⟨rfl, k3⟩
  have T3 := Lib.hid (T0.out.next k3)
  clear k3 T0
  go_wp2_with fail
  refine (sub_any p q _ hp1 hp2 hq1 hq2).mono ?_
  rintro e w4 ⟨rfl, k4⟩
  have T4 := Lib.hid (T3.out.next k4)
  clear k4 T3
  go_wp2_with fail
  refine (mul_any p q _ hp1 hp2 hq1 hq2).mono ?_
  rintro e w5 ⟨rfl, k5⟩
  have T5 := Lib.hid (T4.out.next k5)
  clear k5 T4
  go_wp2_with fail
  refine (sum_any a cap zs _ (Ints.below HI.out T5.out.bel) (by omega)).mono ?_
  rintro e w6 ⟨rfl, k6⟩
  have T := Lib.hid (T5.out.next k6)
  clear k6 T5
  go_wp2_with fail
  have BX := Lib.hid (norm_bd NX.out (by rw [VX.out]; omega) (by rw [VX.out]; omega))
  have BY := Lib.hid (norm_bd NY.out (by rw [VY.out]; omega) (by rw [VY.out]; omega))
  have hfx : (#[.int .i64 (x 0), .int .i64 (x 1), .int .i64 (x 2), .int .i64 (x 3), .int .i64 (x 4), .int .i64 (x 5), .int .i64 (x 6), .int .i64 (x 7)] : Array Value) = cellsL x := rfl
  have hfy : (#[.int .i64 (y 0), .int .i64 (y 1), .int .i64 (y 2), .int .i64 (y 3), .int .i64 (y 4), .int .i64 (y 5), .int .i64 (y 6), .int .i64 (y 7)] : Array Value) = cellsL y := rfl
  go_region_held3 (fun w' => w'.cell? ⟨w1.heap.size, 0, none⟩ = some (.int .i64 (x 0)) ∧ w'.cell? ⟨w1.heap.size, 1, none⟩ = some (.int .i64 (x 1)) ∧ w'.cell? ⟨w1.heap.size, 2, none⟩ = some (.int .i64 (x 2)) ∧ w'.cell? ⟨w1.heap.size, 3, none⟩ = some (.int .i64 (x 3)) ∧ w'.cell? ⟨w1.heap.size, 4, none⟩ = some (.int .i64 (x 4)) ∧ w'.cell? ⟨w1.heap.size, 5, none⟩ = some (.int .i64 (x 5)) ∧ w'.cell? ⟨w1.heap.size, 6, none⟩ = some (.int .i64 (x 6)) ∧ w'.cell? ⟨w1.heap.size, 7, none⟩ = some (.int .i64 (x 7)) ∧ w'.cell? ⟨w2.heap.size, 0, none⟩ = some (.int .i64 (y 0)) ∧ w'.cell? ⟨w2.heap.size, 1, none⟩ = some (.int .i64 (y 1)) ∧ w'.cell? ⟨w2.heap.size, 2, none⟩ = some (.int .i64 (y 2)) ∧ w'.cell? ⟨w2.heap.size, 3, none⟩ = some (.int .i64 (y 3)) ∧ w'.cell? ⟨w2.heap.size, 4, none⟩ = some (.int .i64 (y 4)) ∧ w'.cell? ⟨w2.heap.size, 5, none⟩ = some (.int .i64 (y 5)) ∧ w'.cell? ⟨w2.heap.size, 6, none⟩ = some (.int .i64 (y 6)) ∧ w'.cell? ⟨w2.heap.size, 7, none⟩ = some (.int .i64 (y 7)))
    (first | exact sixteen T.out.hx T.out.hy | exact sixteen T.out.drew.hx T.out.drew.hy)
    (first
        | (go_at_call 15; (with_reducible refine (ladd_any x y _ BX.out BY.out).mono ?_); rintro e w7 ⟨⟨z1, rfl, n1, v1⟩, k7⟩
           have T' : Hid (Two w w1.heap.size w2.heap.size x y w7) := by first | exact T.out.next k7 | exact T.out.drew.next k7
           clear T k7
           have T := T'
           clear T'
           have N1 := Lib.hid n1
           have V1 : Hid (valL z1 = p + q) := by show _ = _; rw [v1, VX.out, VY.out]
           clear n1 v1)
        | (go_at_call 14; (with_reducible refine (fits_yes z1 (p + q) _ N1.out V1.out).mono ?_); rintro e w8 ⟨rfl, k8⟩
           have T' : Hid (Two w w1.heap.size w2.heap.size x y w8) := by first | exact T.out.next k8 | exact T.out.drew.next k8
           clear T k8
           have T := T'
           clear T')
        | (go_at_call 16; (with_reducible refine (lneg_any y _ BY.out).mono ?_); rintro e w9 ⟨⟨z2, rfl, n2, v2⟩, k9⟩
           have T' : Hid (Two w w1.heap.size w2.heap.size x y w9) := by first | exact T.out.next k9 | exact T.out.drew.next k9
           clear T k9
           have T := T'
           clear T'
           have V2 : Hid (valL z2 = -q) := by show _ = _; rw [v2, VY.out]
           have B2 := Lib.hid (norm_bd n2 (by rw [v2, VY.out]; omega) (by rw [v2, VY.out]; omega))
           clear n2 v2)
        | (go_at_call 15; (with_reducible refine (ladd_any x z2 _ BX.out B2.out).mono ?_); rintro e w10 ⟨⟨z3, rfl, n3, v3⟩, k10⟩
           have T' : Hid (Two w w1.heap.size w2.heap.size x y w10) := by first | exact T.out.next k10 | exact T.out.drew.next k10
           clear T k10
           have T := T'
           clear T'
           have N3 := Lib.hid n3
           have V3 : Hid (valL z3 = p - q) := by show _ = _; rw [v3, VX.out, V2.out]; omega
           clear n3 v3)
        | (go_at_call 14; (with_reducible refine (fits_yes z3 (p - q) _ N3.out V3.out).mono ?_); rintro e w11 ⟨rfl, k11⟩
           have T' : Hid (Two w w1.heap.size w2.heap.size x y w11) := by first | exact T.out.next k11 | exact T.out.drew.next k11
           clear T k11
           have T := T'
           clear T')
        | (go_at_call 17; (with_reducible refine (lmul_any p q _ hp1 hp2 hq1 hq2).mono ?_); rintro e w12 ⟨⟨z4, rfl, n4, v4⟩, k12⟩
           have T' : Hid (Two w w1.heap.size w2.heap.size x y w12) := by first | exact T.out.next k12 | exact T.out.drew.next k12
           clear T k12
           have T := T'
           clear T'
           have N4 := Lib.hid n4
           have V4 := Lib.hid v4
           clear n4 v4)
        | (go_at_call 14; (with_reducible refine (fits_yes z4 (p * q) _ N4.out V4.out).mono ?_); rintro e w13 ⟨rfl, k13⟩
           have T' : Hid (Two w w1.heap.size w2.heap.size x y w13) := by first | exact T.out.next k13 | exact T.out.drew.next k13
           clear T k13
           have T := T'
           clear T')
        | (go_at_call 18; (with_reducible refine (lsum_any a cap zs _ (by first | exact Ints.below HI.out T.out.bel | exact Ints.below HI.out T.out.drew.bel) (by omega)).mono ?_); rintro e w14 ⟨⟨z5, rfl, n5, v5⟩, k14⟩
           have T' : Hid (Two w w1.heap.size w2.heap.size x y w14) := by first | exact T.out.next k14 | exact T.out.drew.next k14
           clear T k14
           have T := T'
           clear T'
           have N5 := Lib.hid n5
           have V5 := Lib.hid v5
           clear n5 v5)
        | (go_at_call 14; (with_reducible refine (fits_yes z5 zs.sum _ N5.out V5.out).mono ?_); rintro e w15 ⟨rfl, k15⟩
           have T' : Hid (Two w w1.heap.size w2.heap.size x y w15) := by first | exact T.out.next k15 | exact T.out.drew.next k15
           clear T k15
           have T := T'
           clear T')
        | (go_at_call 8; refine (awake_yes _).mono ?_; rintro e w16 ⟨rfl, rfl⟩))
  go_wp2
  go_ret
  exact ⟨rfl, by first | exact T.out.bel | exact T.out.drew.bel⟩
end numSums
end Go.Proofs.Ytpcobmjalohfbaa
