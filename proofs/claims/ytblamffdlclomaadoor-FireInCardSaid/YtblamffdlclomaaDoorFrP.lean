/- When rules fire: plain facts; no program is named. -/
import Derived.Test.YtblamffdlclomaaDoorFiI
import Derived.Test.YtblamffdlclomaaDoorRvD
namespace Go.Proofs.YtblamffdlclomaaDoor
open Go Go.RowKit

structure FV where
  nm : Int
  kd : Int
  sv : Int
  lt : List UInt8
  deriving DecidableEq, Inhabited
def cF (f : FV) : List Value := [.int .i64 f.nm, .int .i64 f.kd, .int .i64 f.sv, .string ⟨f.lt.toArray⟩]
def fvV (f : FV) : Value := .agg #[.int .i64 f.nm, .int .i64 f.kd, .int .i64 f.sv, .string ⟨f.lt.toArray⟩]
/-- A rule whose day, month and time there are. -/
def okR (r : RV) : Prop := dfD r.dk r.dw r.dn ∧ 1 ≤ r.mo ∧ r.mo ≤ 12 ∧ -604800 < r.sc ∧ r.sc < 604800
/-- Years far from the ends of the calendar. -/
def nrY (y : Int) : Prop := -99000 ≤ y ∧ y ≤ 99000
/-- It fires in a year. -/
def frY (r : RV) (y : Int) : Prop := r.fr ≤ y ∧ y ≤ r.tl ∧ r.dn ≤ dim y r.mo
instance (r : RV) (y : Int) : Decidable (frY r y) := by unfold frY; infer_instance
def frF (r : RV) (y : Int) : FV := ⟨tgtD r.dk r.dw r.dn y r.mo * 86400 + r.sc, r.ck, r.sv, r.lt⟩

theorem ny_near {y : Int} (h : nrY y) : -37200000 ≤ ny y ∧ ny y ≤ 35780000 := by
  unfold nrY at h
  unfold ny
  omega
theorem tgt_near {k wk n y m : Int} (hd : dfD k wk n) (hy : nrY y) (hm : 1 ≤ m) (hm2 : m ≤ 12) (hn : n ≤ dim y m) : -37230000 ≤ tgtD k wk n y m ∧ tgtD k wk n y m ≤ 35800000 := by
  have h1 := ny_near hy
  have h2 := cum_bd y m
  have h3 := dim_bd y m hm hm2
  have ha : -37200001 ≤ atD k n y m ∧ atD k n y m ≤ 35790000 := by
    unfold atD dayN
    unfold dfD at hd
    split <;> omega
  unfold tgtD hitD upD dnD
  generalize atD k n y m = a at ha
  split
  · omega
  · split <;> omega
theorem tgt_in {k wk n y m : Int} (hd : dfD k wk n) (hy : nrY y) (hm : 1 ≤ m) (hm2 : m ≤ 12) (hn : n ≤ dim y m) : inR (tgtD k wk n y m) := by
  have := tgt_near (wk := wk) hd hy hm hm2 hn
  unfold inR; omega
theorem in_yes {r : RV} {y : Int} (hr : okR r) (hy : nrY y) (hn : r.dn ≤ dim y r.mo) : inW r.dk r.dw r.dn y r.mo :=
  ⟨hr.1, ⟨by have := hy.1; omega, by have := hy.2; omega, hr.2.1, hr.2.2.1, hn⟩, tgt_in hr.1 hy hr.2.1 hr.2.2.1 hn⟩
theorem in_no {r : RV} {y : Int} (hn : ¬ r.dn ≤ dim y r.mo) : ¬ inW r.dk r.dw r.dn y r.mo := fun h => hn h.2.1.2.2.2.2
end Go.Proofs.YtblamffdlclomaaDoor
