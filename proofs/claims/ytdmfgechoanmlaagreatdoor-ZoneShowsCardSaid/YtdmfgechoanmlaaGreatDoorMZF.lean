/- When rules fire: plain facts; no program is named.
The contract of fire.Of: a rule's firing in a year, or that there is none; nothing that was in memory changes.
The contracts of fire.up, and of a course's part and has: which years of a rule are gone through.
All firings of a rule in years, one after the other; a rule that is silent for eight years never fires: plain facts; no program is named. -/
import Derived.Test.YtdmfgechoanmlaaGreatDoorMZD
import Derived.Test.YtdmfgechoanmlaaGreatDoorMZE
import Derived.Lib.MinMax
import Derived.Shelf.RegionOpenPlain
import Derived.BigRegion
import Derived.Deep.LoopGhost
namespace Go.Proofs.YtdmfgechoanmlaaGreatDoor
open Go Go.RowKit

structure FV where
  nm : Int
  kd : Int
  sv : Int
  lt : List UInt8
  deriving DecidableEq, Inhabited
def cF (f : FV) : List Value := [.int .i64 f.nm, .int .i64 f.kd, .int .i64 f.sv, .string ⟨f.lt.toArray⟩]
def fvV (f : FV) : Value := .agg #[.int .i64 f.nm, .int .i64 f.kd, .int .i64 f.sv, .string ⟨f.lt.toArray⟩]
/-- A rule whose day, month and time there are. -/
def okR (r : RV) : Prop := dfD r.dk r.dw r.dn ∧ 1 ≤ r.mo ∧ r.mo ≤ 12 ∧ -604800 < r.sc ∧ r.sc < 604800
/-- Years far from the ends of the calendar. -/
def nrY (y : Int) : Prop := -99000 ≤ y ∧ y ≤ 99000
/-- It fires in a year. -/
def frY (r : RV) (y : Int) : Prop := r.fr ≤ y ∧ y ≤ r.tl ∧ r.dn ≤ dim y r.mo
instance (r : RV) (y : Int) : Decidable (frY r y) := by unfold frY; infer_instance
def frF (r : RV) (y : Int) : FV := ⟨tgtD r.dk r.dw r.dn y r.mo * 86400 + r.sc, r.ck, r.sv, r.lt⟩

theorem ny_near {y : Int} (h : nrY y) : -37200000 ≤ ny y ∧ ny y ≤ 35780000 := by
  unfold nrY at h
  unfold ny
  omega
theorem tgt_near {k wk n y m : Int} (hd : dfD k wk n) (hy : nrY y) (hm : 1 ≤ m) (hm2 : m ≤ 12) (hn : n ≤ dim y m) : -37230000 ≤ tgtD k wk n y m ∧ tgtD k wk n y m ≤ 35800000 := by
  have h1 := ny_near hy
  have h2 := cum_bd y m
  have h3 := dim_bd y m hm hm2
  have ha : -37200001 ≤ atD k n y m ∧ atD k n y m ≤ 35790000 := by
    unfold atD dayN
    unfold dfD at hd
    split <;> omega
  unfold tgtD hitD upD dnD
  generalize atD k n y m = a at ha
  split
  · omega
  · split <;> omega
theorem tgt_in {k wk n y m : Int} (hd : dfD k wk n) (hy : nrY y) (hm : 1 ≤ m) (hm2 : m ≤ 12) (hn : n ≤ dim y m) : inR (tgtD k wk n y m) := by
  have := tgt_near (wk := wk) hd hy hm hm2 hn
  unfold inR; omega
theorem in_yes {r : RV} {y : Int} (hr : okR r) (hy : nrY y) (hn : r.dn ≤ dim y r.mo) : inW r.dk r.dw r.dn y r.mo :=
  ⟨hr.1, ⟨by have := hy.1; omega, by have := hy.2; omega, hr.2.1, hr.2.2.1, hn⟩, tgt_in hr.1 hy hr.2.1 hr.2.2.1 hn⟩
theorem in_no {r : RV} {y : Int} (hn : ¬ r.dn ≤ dim y r.mo) : ¬ inW r.dk r.dw r.dn y r.mo := fun h => hn h.2.1.2.2.2.2
end Go.Proofs.YtdmfgechoanmlaaGreatDoor

namespace Go.Proofs.YtdmfgechoanmlaaGreatDoor
open Go Go.RowKit

def rV (r : RV) : Value := .agg (cR r)
def noF : FV := ⟨0, 0, 0, []⟩

set_option maxRecDepth 20000 in
theorem fof_out (r : RV) (y : Int) (w : World) (h : ¬ (r.fr ≤ y ∧ y ≤ r.tl)) :
    Calls Tryz.prog 156 #[rV r, .int .i64 y] w fun e w' => e = .returned (.tuple #[fvV noF, .bool false]) ∧ Below w.heap.size w w' := by
  have X := Lib.hid (BlkN.fst (w := w) (cR r) 112 (.cells #[.int .i64 0, .int .i64 0, .int .i64 0, .string ⟨#[]⟩] 145))
  have Z := Lib.hid (BlkN.two w (.cells (cR r) 112) #[.int .i64 0, .int .i64 0, .int .i64 0, .string ⟨#[]⟩] 145)
  obtain ⟨x0, x1, x2, x3, x4, x5, x6, x7, x8, x9, x10⟩ := cells11 X.out.blk
  unfold rV cR
  by_cases h1 : y < r.fr
  · clear h
    go_enter Tryz.func156, Tryz.ntmps156
    repeat (first | go_values | go_skip | go_guarded | go_step | go_upon | go_back)
    refine Z.out.ret fun W' B => ?_
    obtain ⟨c0, c1, c2, c3⟩ := cel4 B.blk
    refine bodyPost_ret (by simp [results, Tryz.results156, go_sem, c0, c1, c2, c3]; rfl) rfl ⟨rfl, B.bel⟩
  · have h2 : y > r.tl := by omega
    clear h
    go_enter Tryz.func156, Tryz.ntmps156
    repeat (first | go_values | go_skip | go_guarded | go_step | go_upon | go_back)
    refine Z.out.ret fun W' B => ?_
    obtain ⟨c0, c1, c2, c3⟩ := cel4 B.blk
    refine bodyPost_ret (by simp [results, Tryz.results156, go_sem, c0, c1, c2, c3]; rfl) rfl ⟨rfl, B.bel⟩

set_option maxRecDepth 20000 in
theorem fof_no (r : RV) (y : Int) (w : World) (hA : LaidF w) (h1 : r.fr ≤ y) (h2 : y ≤ r.tl) (hn : ¬ inW r.dk r.dw r.dn y r.mo) :
    Calls Tryz.prog 156 #[rV r, .int .i64 y] w fun e w' => e = .returned (.tuple #[fvV noF, .bool false]) ∧ Below w.heap.size w w' := by
  have X := Lib.hid (BlkN.fst (w := w) (cR r) 112 (.cells #[.int .i64 0, .int .i64 0, .int .i64 0, .string ⟨#[]⟩] 145))
  have Z := Lib.hid (BlkN.two w (.cells (cR r) 112) #[.int .i64 0, .int .i64 0, .int .i64 0, .string ⟨#[]⟩] 145)
  obtain ⟨x0, x1, x2, x3, x4, x5, x6, x7, x8, x9, x10⟩ := cells11 X.out.blk
  have HA := Lib.hid hA
  have IN := Lib.hid fun W (hW : LaidF W) => din_is r.dk r.dw r.dn y r.mo 0 0 0 10 W hW (.inr ⟨rfl, rfl, rfl, rfl, hn⟩)
  have d1 : ¬ y < r.fr := by omega
  have d2 : ¬ y > r.tl := by omega
  clear hA hn h1 h2
  unfold rV cR
  go_enter Tryz.func156, Tryz.ntmps156
  repeat (first
    | (go_at_call 92; refine (IN.out _ (HA.out.next X.out.bel)).mono ?_; (rintro e w1 ⟨rfl, k1⟩)
       have Z1 := Lib.hid (Z.out.next k1)
       have Z2 := Lib.hid (Z1.out.more (.cells #[.int .i64 0, .int .i64 0, .int .i64 0] 167))
       obtain ⟨c0, c1, c2, c3⟩ := cel4 Z2.out.blk
       have f0 := frz (j := 0) Z2.out.blk
       have f1 := frz (j := 1) Z2.out.blk
       have f2 := frz (j := 2) Z2.out.blk
       have f3 := frz (j := 3) Z2.out.blk
       clear k1 x0 x1 x2 x3 x4 x5 x6 x7 x8 x9 x10
       simp only [])
    | go_values | go_skip | go_guarded | go_step | go_upon | go_back)
  refine (Z2.out.set4).ret fun W' B => ?_
  obtain ⟨c0, c1, c2, c3⟩ := cel4 B.blk
  refine bodyPost_ret (by simp [results, Tryz.results156, go_sem, c0, c1, c2, c3]; rfl) rfl ⟨rfl, B.bel⟩

set_option maxRecDepth 20000 in
theorem fof_yes (r : RV) (y a b c T : Int) (w : World) (hA : LaidF w) (h1 : r.fr ≤ y) (h2 : y ≤ r.tl) (hs1 : -604800 < r.sc) (hs2 : r.sc < 604800) (hn : inW r.dk r.dw r.dn y r.mo) (hd : okD a b c ∧ dayN a b c = tgtD r.dk r.dw r.dn y r.mo) (hT : dayN a b c * 86400 + r.sc = T) :
    Calls Tryz.prog 156 #[rV r, .int .i64 y] w fun e w' => e = .returned (.tuple #[fvV ⟨T, r.ck, r.sv, r.lt⟩, .bool true]) ∧ Below w.heap.size w w' := by
  have X : Hid (TwoB w w.heap.size (cR r) 112 (w.heap.size + 1) #[.int .i64 0, .int .i64 0, .int .i64 0, .string ⟨#[]⟩] 145 ((w.alloc (.cells (cR r) 112)).alloc (.cells #[.int .i64 0, .int .i64 0, .int .i64 0, .string ⟨#[]⟩] 145))) :=
    ⟨BlkN.fst (w := w) (cR r) 112 _, BlkN.two w _ _ _⟩
  obtain ⟨x0, x1, x2, x3, x4, x5, x6, x7, x8, x9, x10⟩ := cells11 X.out.a.blk
  have HA := Lib.hid hA
  have IN := Lib.hid fun W (hW : LaidF W) => din_is r.dk r.dw r.dn y r.mo a b c 0 W hW (.inl ⟨rfl, hn, hd.1, hd.2⟩)
  have JN : Hid (∀ W, LaidF W → Calls Tryz.prog 93 #[.agg #[.int .i64 a, .int .i64 b, .int .i64 c], .int .i64 r.sc] W fun e w' => e = .returned (.tuple #[.int .i64 T, .int .i64 0]) ∧ Below W.heap.size W w') := fun W hW => by
    rw [← hT]; exact Join_yes a b c r.sc W hW.ah hd.1 hs1 hs2
  have d1 : ¬ y < r.fr := by omega
  have d2 : ¬ y > r.tl := by omega
  clear hA hn h1 h2 hs1 hs2 hd hT
  unfold rV cR
  go_enter Tryz.func156, Tryz.ntmps156
  repeat (first
    | (go_at_call 92; refine (IN.out _ (HA.out.next X.out.a.bel)).mono ?_; (rintro e w1 ⟨rfl, k1⟩)
       have X1 := Lib.hid ((X.out.next k1).more (.cells #[.int .i64 a, .int .i64 b, .int .i64 c] 167))
       have A1 := Lib.hid (HA.out.next X1.out.a.bel)
       clear k1 x0 x1 x2 x3 x4 x5 x6 x7 x8 x9 x10
       obtain ⟨x0, x1, x2, x3, x4, x5, x6, x7, x8, x9, x10⟩ := cells11 X1.out.a.blk
       simp only [])
    | (go_at_call 93; refine (JN.out _ A1.out).mono ?_; (rintro e w2 ⟨rfl, k2⟩)
       have X2 := Lib.hid (X1.out.next k2)
       clear k2 x0 x1 x2 x3 x4 x5 x6 x7 x8 x9 x10
       obtain ⟨x0, x1, x2, x3, x4, x5, x6, x7, x8, x9, x10⟩ := cells11 X2.out.a.blk
       obtain ⟨c0, c1, c2, c3⟩ := cel4 X2.out.b.blk
       have f0 := frz (j := 0) X2.out.b.blk
       have f1 := frz (j := 1) X2.out.b.blk
       have f2 := frz (j := 2) X2.out.b.blk
       have f3 := frz (j := 3) X2.out.b.blk
       simp only [])
    | go_values | go_skip | go_guarded | go_step | go_upon | go_back)
  refine (X2.out.b.set4).ret fun W' B => ?_
  obtain ⟨c0, c1, c2, c3⟩ := cel4 B.blk
  refine bodyPost_ret (by simp [results, Tryz.results156, go_sem, c0, c1, c2, c3]; rfl) rfl ⟨rfl, B.bel⟩

/-- What Of answers of a rule that is right, in a year that is near. -/
def OfA (r : RV) (y : Int) (f : FV) (b : Bool) : Prop := (b = true ∧ frY r y ∧ f = frF r y) ∨ (b = false ∧ ¬ frY r y ∧ f = noF)
theorem ofA_ex (r : RV) (y : Int) : ∃ f b, OfA r y f b := by
  by_cases h : frY r y
  · exact ⟨_, _, .inl ⟨rfl, h, rfl⟩⟩
  · exact ⟨_, _, .inr ⟨rfl, h, rfl⟩⟩
theorem fof_is (r : RV) (y : Int) (f : FV) (b : Bool) (w : World) (hA : LaidF w) (hr : okR r) (hy : nrY y) (h : OfA r y f b) :
    Calls Tryz.prog 156 #[rV r, .int .i64 y] w fun e w' => e = .returned (.tuple #[fvV f, .bool b]) ∧ Below w.heap.size w w' := by
  rcases h with ⟨rfl, ⟨h1, h2, h3⟩, rfl⟩ | ⟨rfl, h1, rfl⟩
  · have hw := in_yes hr hy h3
    obtain ⟨a, b, c, e0, hd⟩ := dateis_ex r.dk r.dw r.dn y r.mo
    rcases hd with ⟨rfl, -, d1, d2⟩ | ⟨-, -, -, -, d1⟩
    · exact fof_yes r y a b c _ w hA h1 h2 hr.2.2.2.1 hr.2.2.2.2 hw ⟨d1, d2⟩ (by rw [d2])
    · exact absurd hw d1
  · by_cases h2 : r.fr ≤ y ∧ y ≤ r.tl
    · exact fof_no r y w hA h2.1 h2.2 (in_no fun h => h1 ⟨h2.1, h2.2, h⟩)
    · exact fof_out r y w h2
end Go.Proofs.YtdmfgechoanmlaaGreatDoor

namespace Go.Proofs.YtdmfgechoanmlaaGreatDoor
open Go Go.RowKit

theorem fmin3 (P : Program) (ty : TypeId) (x y z m : Int) (h : min (min x y) z = m) (W : World) : (Builtin.min_ #[ty, ty, ty] ty #[.int .i64 x, .int .i64 y, .int .i64 z]).run P W = .ok (.int .i64 m) W := by
  subst h
  have e1 : (if y < x then y else x) = min x y := by rw [Int.min_def]; split <;> split <;> omega
  have e2 : (if z < min x y then z else min x y) = min (min x y) z := by rw [Int.min_def (min x y) z]; split <;> split <;> omega
  simp [Builtin.min_, Builtin.min2, e1, e2]
theorem fmax3 (P : Program) (ty : TypeId) (x y z m : Int) (h : max (max x y) z = m) (W : World) : (Builtin.max_ #[ty, ty, ty] ty #[.int .i64 x, .int .i64 y, .int .i64 z]).run P W = .ok (.int .i64 m) W := by
  subst h
  have e1 : (if x < y then y else x) = max x y := by rw [Int.max_def]; split <;> split <;> omega
  have e2 : (if max x y < z then z else max x y) = max (max x y) z := by rw [Int.max_def (max x y) z]; split <;> split <;> omega
  simp [Builtin.max_, Builtin.max2, e1, e2]

def coV (a b s : Int) : Value := .agg #[.int .i64 a, .int .i64 b, .int .i64 s]
/-- A rule lies here. -/
def RulAt (L o : Nat) (r : RV) (w : World) : Prop := L < w.heap.size ∧ ∀ (j : Nat) (v : Value), (cR r)[j]? = some v → w.cell? ⟨L, o + j, none⟩ = some v
theorem RulAt.next {L o : Nat} {r : RV} {w w' : World} (h : RulAt L o r w) (k : Below w.heap.size w w') : RulAt L o r w' :=
  ⟨Nat.lt_of_lt_of_le h.1 k.size, fun j v hj => (k.cell (p := ⟨L, o + j, none⟩) h.1).trans (h.2 j v hj)⟩
theorem RulAt.below {L o B : Nat} {r : RV} {w w' : World} (h : RulAt L o r w) (hB : L < B) (k : Below B w w') : RulAt L o r w' :=
  ⟨Nat.lt_of_lt_of_le h.1 k.size, fun j v hj => (k.cell (p := ⟨L, o + j, none⟩) hB).trans (h.2 j v hj)⟩
theorem rul_at {A : Option Addr} {rs : List RV} {w : World} {i : Nat} {r : RV} (h : RowsAt 11 cR A rs w) (hr : rs[i]? = some r) : ∃ L off, A = some ⟨L, off, none⟩ ∧ RulAt L (off + i * 11) r w := by
  obtain ⟨L, off, e, hl, hc⟩ := h i r hr
  exact ⟨L, off, e, hl, fun j v hj => hc j v (by
    have := (Array.getElem?_eq_some_iff.1 hj).1
    simpa [cR] using this) hj⟩
theorem RulAt.cells {L o : Nat} {r : RV} {w : World} (h : RulAt L o r w) :
    w.cell? ⟨L, o, none⟩ = some (.string ⟨r.nm.toArray⟩) ∧ w.cell? ⟨L, o + 1, none⟩ = some (.int .i64 r.fr) ∧ w.cell? ⟨L, o + 2, none⟩ = some (.int .i64 r.tl) ∧ w.cell? ⟨L, o + 3, none⟩ = some (.int .i64 r.mo) ∧ w.cell? ⟨L, o + 4, none⟩ = some (.int .i64 r.dk) ∧ w.cell? ⟨L, o + 5, none⟩ = some (.int .i64 r.dw) ∧ w.cell? ⟨L, o + 6, none⟩ = some (.int .i64 r.dn) ∧ w.cell? ⟨L, o + 7, none⟩ = some (.int .i64 r.sc) ∧ w.cell? ⟨L, o + 8, none⟩ = some (.int .i64 r.ck) ∧ w.cell? ⟨L, o + 9, none⟩ = some (.int .i64 r.sv) ∧ w.cell? ⟨L, o + 10, none⟩ = some (.string ⟨r.lt.toArray⟩) :=
  ⟨h.2 0 _ rfl, h.2 1 _ rfl, h.2 2 _ rfl, h.2 3 _ rfl, h.2 4 _ rfl, h.2 5 _ rfl, h.2 6 _ rfl, h.2 7 _ rfl, h.2 8 _ rfl, h.2 9 _ rfl, h.2 10 _ rfl⟩

theorem fup_is (a b : Int) (w : World) : Calls Tryz.prog 159 #[.int .i64 a, .int .i64 b] w fun e w' => e = .returned (coV a b 1) ∧ Below w.heap.size w w' := by
  have X := Lib.hid (BlkN.make (Below.refl w.heap.size w) #[.int .i64 a, .int .i64 b, .int .i64 1] 192)
  go_enter Tryz.func159, Tryz.ntmps159
  repeat (first | go_values | go_skip | go_guarded | go_step | go_upon | go_back)
  refine X.out.ret fun W' B => ?_
  obtain ⟨c0, c1, c2⟩ := cel3 B.blk
  exact bodyPost_ret (by simp [results, Tryz.results159, go_sem, c0, c1, c2]; rfl) rfl ⟨rfl, B.bel⟩

theorem fhas_is (a b y : Int) (v : Bool) (w : World) (hv : v = decide (y ≤ b)) : Calls Tryz.prog 138 #[coV a b 1, .int .i64 y] w fun e w' => e = .returned (.bool v) ∧ Below w.heap.size w w' := by
  subst hv
  have X := Lib.hid (BlkN.make (Below.refl w.heap.size w) #[.int .i64 a, .int .i64 b, .int .i64 1] 192)
  unfold coV
  go_enter Tryz.func138, Tryz.ntmps138
  repeat (first | go_values | go_skip | go_guarded | go_step | go_upon | go_back)
  go_ret
  exact ⟨rfl, X.out.bel⟩

set_option maxRecDepth 20000 in
set_option maxHeartbeats 2000000 in
theorem fpart_is (L o : Nat) (r : RV) (a b F T : Int) (w : World) (hr : RulAt L o r w) (hF : max (max a r.fr) (-100000) = F) (hT : min (min b r.tl) 100000 = T) :
    Calls Tryz.prog 137 #[coV a b 1, .pointer (some ⟨L, o, none⟩)] w fun e w' => e = .returned (coV F T 1) ∧ Below w.heap.size w w' := by
  have mixed : Tryz.prog.follows .mixedOrders = true := by kernel_rfl
  have X : Hid (TwoB w w.heap.size #[.int .i64 a, .int .i64 b, .int .i64 1] 192 (w.heap.size + 1) #[.int .i64 0, .int .i64 0, .int .i64 0] 192 ((w.alloc (.cells #[.int .i64 a, .int .i64 b, .int .i64 1] 192)).alloc (.cells #[.int .i64 0, .int .i64 0, .int .i64 0] 192))) :=
    ⟨BlkN.fst (w := w) _ 192 _, BlkN.two w _ _ _⟩
  have q1 := fmax3 Tryz.prog 3 a r.fr (-100000) F hF
  have q2 := fmin3 Tryz.prog 3 b r.tl 100000 T hT
  have R := Lib.hid (hr.next X.out.a.bel)
  have hL := hr.1
  have hne : L ≠ w.heap.size + 1 := by omega
  clear hr hF hT
  unfold coV
  go_enter Tryz.func137, Tryz.ntmps137
  generalize hW : ((w.alloc (.cells #[.int .i64 a, .int .i64 b, .int .i64 1] 192)).alloc (.cells #[.int .i64 0, .int .i64 0, .int .i64 0] 192)) = W2 at X R
  obtain ⟨c0, c1, c2⟩ := cel3 X.out.a.blk
  obtain ⟨z0, z1, z2⟩ := cel3 X.out.b.blk
  have f0 := frz (j := 0) X.out.b.blk
  have f1 := frz (j := 1) X.out.b.blk
  have f2 := frz (j := 2) X.out.b.blk
  obtain ⟨-, r1, r2, -⟩ := R.out.cells
  go_wp2_with fail
  clear hW R
  go_region
  all_goals repeat (first | go_values | go_skip | go_guarded | go_step | go_upon | go_back)
  refine (X.out.b.drew.set3).ret fun W' B => ?_
  obtain ⟨c0, c1, c2⟩ := cel3 B.blk
  exact bodyPost_ret (by simp [results, Tryz.results137, go_sem, c0, c1, c2]) rfl ⟨rfl, B.bel⟩
end Go.Proofs.YtdmfgechoanmlaaGreatDoor

namespace Go.Proofs.YtdmfgechoanmlaaGreatDoor
open Go Go.RowKit

/-- A rule's firings in n years from F on, with these. -/
def frL (r : RV) (F : Int) : Nat → List (Int × FV)
  | 0 => []
  | n + 1 => frL r F n ++ if frY r (F + n) then [(F + n, frF r (F + n))] else []
theorem frL_yes {r : RV} {F : Int} {n : Nat} (h : frY r (F + n)) : frL r F (n + 1) = frL r F n ++ [(F + n, frF r (F + n))] := by rw [frL, if_pos h]
theorem frL_no {r : RV} {F : Int} {n : Nat} (h : ¬ frY r (F + n)) : frL r F (n + 1) = frL r F n := by rw [frL, if_neg h, List.append_nil]
theorem frL_pre (r : RV) (F : Int) {m n : Nat} (h : m ≤ n) : frL r F m <+: frL r F n := by
  induction n with
  | zero => obtain rfl : m = 0 := by omega
            exact List.prefix_refl _
  | succ n ih =>
    by_cases hm : m ≤ n
    · exact (ih hm).trans (by rw [frL]; exact List.prefix_append _ _)
    · obtain rfl : m = n + 1 := by omega
      exact List.prefix_refl _
theorem frL_still {r : RV} {F : Int} {m n : Nat} (h : m ≤ n) (hs : ∀ k, m ≤ k → k < n → ¬ frY r (F + (k : Nat))) : frL r F n = frL r F m := by
  induction n with
  | zero => obtain rfl : m = 0 := by omega
            rfl
  | succ n ih =>
    by_cases hm : m ≤ n
    · rw [frL_no (hs n hm (by omega)), ih hm fun k h1 h2 => hs k h1 (by omega)]
    · obtain rfl : m = n + 1 := by omega
      rfl
/-- Years ahead of the rule's, or of none. -/
theorem frL_from {r : RV} {F G : Int} {d n : Nat} (hG : G = F + d) (hs : ∀ y, F ≤ y → y < G → ¬ frY r y) : frL r F (d + n) = frL r G n := by
  induction n with
  | zero => rw [Nat.add_zero, frL_still (Nat.zero_le d) fun k _ h2 => hs _ (by omega) (by omega)]; rfl
  | succ n ih =>
    rw [← Nat.add_assoc, frL, frL, ih, show F + ((d + n : Nat) : Int) = G + (n : Int) by omega]

theorem dim_two (y : Int) : dim y 2 = 28 + lp y := by
  have h3 : cum y 3 = ah 3 + lp y := by unfold cum; rw [if_pos (by omega)]
  have h2 : cum y 2 = ah 2 + 0 := by unfold cum; rw [if_neg (by omega)]
  unfold dim
  rw [show (2 : Int) + 1 = 3 by omega, h3, h2]
  have : ah 3 = 59 := by decide
  have : ah 2 = 31 := by decide
  omega
theorem dim_same {m : Int} (hm : m ≠ 2) (y z : Int) : dim y m = dim z m := by
  unfold dim cum
  by_cases h : 2 < m
  · rw [if_pos h, if_pos h, if_pos (by omega), if_pos (by omega)]; omega
  · rw [if_neg h, if_neg h, if_neg (by omega), if_neg (by omega)]
theorem leap_eight (z : Int) : ∃ y, z ≤ y ∧ y < z + 8 ∧ lp y = 1 := by
  have key : ∀ p : Int, p % 4 = 0 → lp p = 1 ∨ lp (p + 4) = 1 := by
    intro p hp
    by_cases h : p % 100 = 0
    · right; unfold lp; rw [if_pos (by omega)]
    · left; unfold lp; rw [if_pos (by omega)]
  obtain ⟨p, h1, h2, h3⟩ : ∃ p : Int, z ≤ p ∧ p < z + 4 ∧ p % 4 = 0 := ⟨z + (-z) % 4, by omega, by omega, by omega⟩
  rcases key p h3 with h | h
  · exact ⟨p, h1, by omega, h⟩
  · exact ⟨p + 4, by omega, by omega, h⟩
theorem lp_le (y : Int) : lp y ≤ 1 := by unfold lp; split <;> omega
theorem silent_ever {r : RV} {z : Int} (h1 : r.fr ≤ z) (h2 : z + 7 ≤ r.tl) (hs : ∀ y, z ≤ y → y < z + 8 → ¬ frY r y) (y : Int) : ¬ frY r y := by
  intro hf
  have hd := hf.2.2
  by_cases hm : r.mo = 2
  · obtain ⟨q, q1, q2, q3⟩ := leap_eight z
    refine hs q q1 q2 ⟨by omega, by omega, ?_⟩
    rw [hm, dim_two] at hd ⊢
    have := lp_le y
    omega
  · exact hs z (Int.le_refl _) (by omega) ⟨h1, by omega, by rw [dim_same hm z y]; exact hd⟩
theorem frL_mem {r : RV} {F : Int} {n : Nat} {x : Int × FV} (h : x ∈ frL r F n) : F ≤ x.1 ∧ x.1 < F + n ∧ frY r x.1 ∧ x.2 = frF r x.1 := by
  induction n with
  | zero => simp [frL] at h
  | succ n ih =>
    rw [frL] at h
    rcases List.mem_append.1 h with h | h
    · obtain ⟨a, b, c, d⟩ := ih h
      exact ⟨a, by omega, c, d⟩
    · by_cases hy : frY r (F + n)
      · rw [if_pos hy] at h
        rw [List.mem_singleton.1 h]
        exact ⟨by omega, by omega, hy, rfl⟩
      · rw [if_neg hy] at h; simp at h
theorem frL_len (r : RV) (F : Int) (n : Nat) : (frL r F n).length ≤ n := by
  induction n with
  | zero => simp [frL]
  | succ n ih => rw [frL, List.length_append]; split <;> simp <;> omega
end Go.Proofs.YtdmfgechoanmlaaGreatDoor
