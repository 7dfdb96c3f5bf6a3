/- How many firings rules have in years, and in parts of them: plain facts; no program is named. -/
import Derived.Test.YtblamffdlclomaaDoorFrV
namespace Go.Proofs.YtblamffdlclomaaDoor
open Go Go.RowKit

theorem frL_add (r : RV) (a : Int) (m n : Nat) : frL r a (m + n) = frL r a m ++ frL r (a + m) n := by
  induction n with
  | zero => simp [frL]
  | succ n ih => rw [← Nat.add_assoc, frL, frL, ih, List.append_assoc, show a + ((m + n : Nat) : Int) = a + m + (n : Int) by omega]
theorem frA_eq (r : RV) {a b : Int} (ha : -99000 ≤ a) (hb : b ≤ 99000) : frA r a b = frL r a (b + 1 - a).toNat := by
  unfold frA
  have e1 : max (max a r.fr) (-100000) = max a r.fr := by omega
  have e2 : min (min b r.tl) 100000 = min b r.tl := by omega
  rw [e1, e2]
  by_cases h : max a r.fr ≤ min b r.tl
  · have e3 : (b + 1 - a).toNat = ((max a r.fr - a).toNat + (min b r.tl + 1 - max a r.fr).toNat) + (b - min b r.tl).toNat := by omega
    rw [e3, frL_still (r := r) (F := a) (m := (max a r.fr - a).toNat + (min b r.tl + 1 - max a r.fr).toNat) (by omega) (fun k h1 h2 hf => by
      have := hf.2.1
      omega)]
    exact (frL_from (by omega) fun y h1 h2 hf => by have := hf.1; omega).symm
  · have e := frL_still (r := r) (F := a) (m := 0) (n := (b + 1 - a).toNat) (Nat.zero_le _) fun k h1 h2 hf => by
      have := hf.1
      have := hf.2.1
      omega
    rw [show (min b r.tl + 1 - max a r.fr).toNat = 0 by omega, e]
    rfl
theorem frA_split (r : RV) {a b c : Int} (ha : -99000 ≤ a) (hc : c ≤ 99000) (h1 : a ≤ b) (h2 : b < c) : frA r a c = frA r a b ++ frA r (b + 1) c := by
  rw [frA_eq r ha hc, frA_eq r ha (by omega), frA_eq r (by omega) hc, show (c + 1 - a).toNat = (b + 1 - a).toNat + (c + 1 - (b + 1)).toNat by omega, frL_add, show a + (((b + 1 - a).toNat : Nat) : Int) = b + 1 by omega]
theorem allF_split (rs : List RV) {a b c : Int} (ha : -99000 ≤ a) (hc : c ≤ 99000) (h1 : a ≤ b) (h2 : b < c) : (allF rs a c).length = (allF rs a b).length + (allF rs (b + 1) c).length := by
  induction rs with
  | nil => rfl
  | cons r rs ih =>
    show ((frA r a c).map Prod.snd ++ allF rs a c).length = ((frA r a b).map Prod.snd ++ allF rs a b).length + ((frA r (b + 1) c).map Prod.snd ++ allF rs (b + 1) c).length
    rw [List.length_append, List.length_append, List.length_append, ih, frA_split r ha hc h1 h2]
    simp
    omega
theorem allF_one (r : RV) (a b : Int) : allF [r] a b = (frA r a b).map Prod.snd := by simp [allF]
theorem rows_one {A0 : Option Addr} {rs : List RV} {w : World} {i : Nat} {r : RV} (h : RowsAt 11 cR A0 rs w) (hr : rs[i]? = some r) {L off : Nat} (hA : A0 = some ⟨L, off, none⟩) : RowsAt 11 cR (some ⟨L, off + i * 11, none⟩) [r] w := by
  obtain ⟨L', off', e, hl, hc⟩ := h i r hr
  rw [hA] at e
  cases e
  intro j x hx
  cases j with
  | zero =>
    simp at hx; subst hx
    exact ⟨L, off + i * 11, rfl, hl, fun k v hk hv => by rw [Nat.zero_mul, Nat.add_zero]; exact hc k v hk hv⟩
  | succ j => simp at hx
theorem srt_at {fs : List FV} (h : Srt (Go.Proofs.ltOf cfF) fs) {i : Nat} {x y : FV} (hx : fs[i]? = some x) (hy : fs[i + 1]? = some y) : x.nm ≤ y.nm := by
  have := Srt.at wordF h (Nat.le_succ i) (List.getElem?_eq_some_iff.1 hy).1 hx hy
  rw [lt_cfF] at this
  simpa using this
theorem fir_cells {A : Option Addr} {fs : List FV} {w : World} {i : Nat} {f : FV} (h : FirsAt A fs w) (hf : fs[i]? = some f) : ∃ L off, A = some ⟨L, off, none⟩ ∧ L < w.heap.size ∧
    w.cell? ⟨L, off + i * 4, none⟩ = some (.int .i64 f.nm) ∧ w.cell? ⟨L, off + i * 4 + 1, none⟩ = some (.int .i64 f.kd) ∧ w.cell? ⟨L, off + i * 4 + 2, none⟩ = some (.int .i64 f.sv) ∧ w.cell? ⟨L, off + i * 4 + 3, none⟩ = some (.string ⟨f.lt.toArray⟩) := by
  obtain ⟨L, off, e, hl, hc⟩ := h i f hf
  exact ⟨L, off, e, hl, hc 0 _ (by omega) rfl, hc 1 _ (by omega) rfl, hc 2 _ (by omega) rfl, hc 3 _ (by omega) rfl⟩
end Go.Proofs.YtblamffdlclomaaDoor
