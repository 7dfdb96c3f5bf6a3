/- A rule, and rules in memory. -/
import Derived.Test.YtjpppffgebecdaaGreatDoorBlN
namespace Go.Proofs.YtjpppffgebecdaaGreatDoor
open Go Go.RowKit

structure RV where
  nm : List UInt8
  fr : Int
  tl : Int
  mo : Int
  dk : Int
  dw : Int
  dn : Int
  sc : Int
  ck : Int
  sv : Int
  lt : List UInt8
  deriving DecidableEq
def cR (r : RV) : Array Value := #[.string ⟨r.nm.toArray⟩, .int .i64 r.fr, .int .i64 r.tl, .int .i64 r.mo, .int .i64 r.dk, .int .i64 r.dw, .int .i64 r.dn, .int .i64 r.sc, .int .i64 r.ck, .int .i64 r.sv, .string ⟨r.lt.toArray⟩]
/-- The things xs, of c cells each, lie at the address. -/
def RowsAt {α : Type} (c : Nat) (f : α → Array Value) (A : Option Addr) (xs : List α) (w : World) : Prop :=
  ∀ i x, xs[i]? = some x → ∃ L off, A = some ⟨L, off, none⟩ ∧ L < w.heap.size ∧ ∀ j v, j < c → (f x)[j]? = some v → w.cell? ⟨L, off + i * c + j, none⟩ = some v
theorem RowsAt.next {α : Type} {c : Nat} {f : α → Array Value} {A : Option Addr} {xs : List α} {w w' : World} (h : RowsAt c f A xs w) (k : Below w.heap.size w w') : RowsAt c f A xs w' := fun i x hx => by
  obtain ⟨L, off, e, hl, hc⟩ := h i x hx
  exact ⟨L, off, e, Nat.lt_of_lt_of_le hl k.size, fun j v hj hv => (k.cell (p := ⟨L, off + i * c + j, none⟩) hl).trans (hc j v hj hv)⟩
/-- The cells of a rule, an era, a link, one by one. -/
theorem rule_cells {A : Option Addr} {rs : List RV} {w : World} {i : Nat} {r : RV} (h : RowsAt 11 cR A rs w) (hr : rs[i]? = some r) : ∃ L off, A = some ⟨L, off, none⟩ ∧ L < w.heap.size ∧
    (w.cell? ⟨L, off + i * 11, none⟩ = some (.string ⟨r.nm.toArray⟩) ∧ w.cell? ⟨L, off + i * 11 + 1, none⟩ = some (.int .i64 r.fr) ∧ w.cell? ⟨L, off + i * 11 + 2, none⟩ = some (.int .i64 r.tl) ∧ w.cell? ⟨L, off + i * 11 + 3, none⟩ = some (.int .i64 r.mo) ∧ w.cell? ⟨L, off + i * 11 + 4, none⟩ = some (.int .i64 r.dk) ∧ w.cell? ⟨L, off + i * 11 + 5, none⟩ = some (.int .i64 r.dw) ∧ w.cell? ⟨L, off + i * 11 + 6, none⟩ = some (.int .i64 r.dn) ∧ w.cell? ⟨L, off + i * 11 + 7, none⟩ = some (.int .i64 r.sc) ∧ w.cell? ⟨L, off + i * 11 + 8, none⟩ = some (.int .i64 r.ck) ∧ w.cell? ⟨L, off + i * 11 + 9, none⟩ = some (.int .i64 r.sv) ∧ w.cell? ⟨L, off + i * 11 + 10, none⟩ = some (.string ⟨r.lt.toArray⟩)) := by
  obtain ⟨L, off, e, hl, hc⟩ := h i r hr
  exact ⟨L, off, e, hl, hc 0 _ (by omega) rfl, hc 1 _ (by omega) rfl, hc 2 _ (by omega) rfl, hc 3 _ (by omega) rfl, hc 4 _ (by omega) rfl, hc 5 _ (by omega) rfl, hc 6 _ (by omega) rfl, hc 7 _ (by omega) rfl, hc 8 _ (by omega) rfl, hc 9 _ (by omega) rfl, hc 10 _ (by omega) rfl⟩
end Go.Proofs.YtjpppffgebecdaaGreatDoor
