/- The contract of clock.Print: what it returns, for every time; nothing that was in memory changes. The tables of powers of ten and of marks read as they are laid. -/
import Derived.Test.YtjafbopmedbhcaaDoorTxt
import Derived.Test.YtjafbopmedbhcaaDoorSpa
namespace Go.Proofs.YtjafbopmedbhcaaDoor
open Go.RowKit

structure MarkAt (w : World) : Prop where
  m0 : w.cell? ⟨0, 0, none⟩ = some (.string ⟨#[]⟩)
  m1 : w.cell? ⟨0, 1, none⟩ = some (.string ⟨#[115]⟩)
  m2 : w.cell? ⟨0, 2, none⟩ = some (.string ⟨#[117]⟩)
theorem MarkAt.lt {w : World} (h : MarkAt w) : 0 < w.heap.size := cell_lt h.m0
theorem MarkAt.next {w w' : World} (h : MarkAt w) (k : Below w.heap.size w w') : MarkAt w' :=
  ⟨by rw [k.cell h.lt]; exact h.m0, by rw [k.cell h.lt]; exact h.m1, by rw [k.cell h.lt]; exact h.m2⟩

/-- May a time of a day be? -/
def okT (n k : Int) : Prop := (-604800 < n ∧ n < 604800) ∧ (k = 0 ∨ k = 1 ∨ k = 2)
def markL (k : Int) : List UInt8 := if k = 1 then [115] else if k = 2 then [117] else []
def timeL (n k : Int) : List UInt8 := textL n ++ markL k

theorem print_kind (n k : Int) (w : World) (h : k < 0 ∨ 2 < k) :
    Calls Tryd.prog 21 #[.agg #[.int .i64 n, .int .i64 k]] w fun e w' => e = .returned (.tuple #[.string ⟨#[]⟩, .int .i64 10]) ∧ Below w.heap.size w w' := by
  rcases h with h | h
  · go_enter Tryd.func21, Tryd.ntmps21
    go_wp2
    go_ret2
    exact ⟨rfl, (Below.refl _ _).alloc (Nat.le_refl _) _⟩
  · have h3 : 3 ≤ k := by omega
    have h0 : 0 ≤ k := by omega
    go_enter Tryd.func21, Tryd.ntmps21
    go_wp2
    go_ret2
    exact ⟨rfl, (Below.refl _ _).alloc (Nat.le_refl _) _⟩

theorem print_sec (n k : Int) (w : World) (h : ¬ (-604800 < n ∧ n < 604800)) (h0 : 0 ≤ k) (h1 : k ≤ 2) :
    Calls Tryd.prog 21 #[.agg #[.int .i64 n, .int .i64 k]] w fun e w' => e = .returned (.tuple #[.string ⟨#[]⟩, .int .i64 10]) ∧ Below w.heap.size w w' := by
  have H := Lib.hid h
  have h2 : k < 3 := by omega
  have B := Lib.hid (Blk2.new w n k 44)
  clear h
  go_enter Tryd.func21, Tryd.ntmps21
  go_wp2_with (go_at_call 17; refine (text_no _ _ H.out).mono ?_; rintro e w2 ⟨rfl, k2⟩; simp only [])
  go_ret2
  exact ⟨rfl, (B.out.next k2).bel⟩

theorem cat_lists (x y : List UInt8) : (⟨x.toArray⟩ ++ ⟨y.toArray⟩ : ByteArray) = ⟨(x ++ y).toArray⟩ := by rw [ByteArray.mk_append_mk]

theorem print_yes (n k : Int) (T S M : List UInt8) (w : World) (h1 : -604800 < n) (h2 : n < 604800) (hk : k = 0 ∨ k = 1 ∨ k = 2) (hp : PowAt w) (hm : MarkAt w) (hT : Hid (textL n = T)) (hM : Hid (markL k = M)) (hS : Hid (T ++ M = S)) :
    Calls Tryd.prog 21 #[.agg #[.int .i64 n, .int .i64 k]] w fun e w' => e = .returned (.tuple #[.string ⟨S.toArray⟩, .int .i64 0]) ∧ Below w.heap.size w w' := by
  have H1 := Lib.hid h1
  have H2 := Lib.hid h2
  have tl := textL_len h1 h2
  rw [hT.out] at tl
  have B := Lib.hid (Blk2.new w n k 44)
  have HP := Lib.hid (hp.next B.out.bel)
  have HM := Lib.hid (hm.next B.out.bel)
  clear h1 h2 hp hm
  rcases hk with rfl | rfl | rfl
  all_goals
    go_enter Tryd.func21, Tryd.ntmps21
    go_wp2_with (go_at_call 17; refine (text_yes n _ HP.out H1.out H2.out).mono ?_; rintro e w2 ⟨rfl, k2⟩; rw [hT.out]; simp only []
                 have B2 := Lib.hid (B.out.next k2)
                 have HM2 := Lib.hid (HM.out.next k2)
                 clear k2 B
                 have c1 := B2.out.c1
                 have m0 := HM2.out.m0
                 have m1 := HM2.out.m1
                 have m2 := HM2.out.m2)
    go_ret2
    have eM := hM.out
    simp [markL] at eM
    refine ⟨?_, B2.out.bel⟩
    rw [← hS.out, ← cat_lists, ← eM]
    rfl
end Go.Proofs.YtjafbopmedbhcaaDoor
