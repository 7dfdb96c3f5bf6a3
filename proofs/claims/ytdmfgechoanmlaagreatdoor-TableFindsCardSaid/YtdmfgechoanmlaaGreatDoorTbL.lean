/- The law TableFinds. -/
import Derived.Test.YtdmfgechoanmlaaGreatDoorMYF
import Derived.Test.YtdmfgechoanmlaaGreatDoorTbF
import Derived.Test.YtdmfgechoanmlaaGreatDoorMYI
namespace Go.Proofs.YtdmfgechoanmlaaGreatDoor
open Go Go.RowKit Go.Shelf
attribute [local go_sem] Oper.semAt_some

theorem chC_some (x : CV) : chC (some x) = .tuple #[.agg #[.int .i64 x.t, .int .i64 x.of, .bool x.ds, .string ⟨x.ab.toArray⟩], .bool true] := rfl
/-- What is known of an instant: how many changes are not behind it. -/
inductive FdW (l : List CV) (t : Int) : Prop
  | none0 (h0 : lasN l t l.length = -1) (hl : l.length = 0) (a : lasO l t = none) (b : nexO l t = none) (c : preO l t = none)
  | none1 (z : CV) (h0 : lasN l t l.length = -1) (hz : l[0]? = some z) (a : lasO l t = none) (b : nexO l t = some z) (c : preO l t = none)
  | zero0 (x : CV) (h0 : lasN l t l.length = 0) (hl : l.length = 1) (hx : l[0]? = some x) (a : lasO l t = some x) (b : nexO l t = none) (c : preO l t = none)
  | zero1 (x z : CV) (h0 : lasN l t l.length = 0) (hx : l[0]? = some x) (hz : l[1]? = some z) (a : lasO l t = some x) (b : nexO l t = some z) (c : preO l t = none)
  | some0 (k : Nat) (x : CV) (h0 : lasN l t l.length = (k : Int)) (hk : 0 < k) (hl : l.length = k + 1) (hx : l[k]? = some x) (a : lasO l t = some x) (b : nexO l t = none) (c : preO l t = some x)
  | some1 (k : Nat) (x z : CV) (h0 : lasN l t l.length = (k : Int)) (hk : 0 < k) (hx : l[k]? = some x) (hz : l[k + 1]? = some z) (a : lasO l t = some x) (b : nexO l t = some z) (c : preO l t = some x)
theorem fdW (l : List CV) (t : Int) : FdW l t := by
  have hb := lasN_bd l t l.length
  obtain ⟨q, hq⟩ : ∃ q, lasN l t l.length = q := ⟨_, rfl⟩
  rw [hq] at hb
  have NX : nexO l t = if q + 1 < l.length then l[(q + 1).toNat]? else none := by
    unfold nexO nexN
    rw [hq]
    by_cases h : q + 1 < l.length
    · rw [if_pos h, if_pos h, if_neg (by omega)]
    · rw [if_neg h, if_neg h, if_pos (by omega)]
  have PX : preO l t = if q < 1 then none else l[q.toNat]? := by unfold preO; rw [hq]
  have LX : lasO l t = if q < 0 then none else l[q.toNat]? := by rw [lasN_lasO, hq]
  by_cases h0 : q < 0
  · have hq1 : q = -1 := by omega
    subst hq1
    rw [if_pos (by omega)] at LX PX
    by_cases hl : l.length = 0
    · rw [if_neg (by omega)] at NX
      exact .none0 hq hl LX NX PX
    · obtain ⟨z, hz⟩ : ∃ z, l[0]? = some z := ⟨_, List.getElem?_eq_getElem (by omega)⟩
      rw [if_pos (by omega), show ((-1 : Int) + 1).toNat = 0 from rfl, hz] at NX
      exact .none1 z hq hz LX NX PX
  · obtain ⟨k, rfl⟩ : ∃ k : Nat, q = (k : Int) := ⟨q.toNat, by omega⟩
    obtain ⟨x, hx⟩ : ∃ x, l[k]? = some x := ⟨_, List.getElem?_eq_getElem (by omega)⟩
    rw [if_neg (by omega), Int.toNat_natCast, hx] at LX
    have e1 : ((k : Int) + 1).toNat = k + 1 := by omega
    rw [e1] at NX
    by_cases hk : k = 0
    · subst hk
      rw [if_pos (by omega)] at PX
      by_cases hl : l.length = 1
      · rw [if_neg (by omega)] at NX
        exact .zero0 x (by simpa using hq) hl hx LX NX PX
      · obtain ⟨z, hz⟩ : ∃ z, l[0 + 1]? = some z := ⟨_, List.getElem?_eq_getElem (by omega)⟩
        rw [if_pos (by omega), hz] at NX
        exact .zero1 x z (by simpa using hq) hx hz LX NX PX
    · rw [if_neg (by omega), Int.toNat_natCast, hx] at PX
      by_cases hl : l.length = k + 1
      · rw [if_neg (by omega)] at NX
        exact .some0 k x hq (by omega) hl hx LX NX PX
      · obtain ⟨z, hz⟩ : ∃ z, l[k + 1]? = some z := ⟨_, List.getElem?_eq_getElem (by omega)⟩
        rw [if_pos (by omega), hz] at NX
        exact .some1 k x z hq (by omega) hx hz LX NX PX
end Go.Proofs.YtdmfgechoanmlaaGreatDoor
