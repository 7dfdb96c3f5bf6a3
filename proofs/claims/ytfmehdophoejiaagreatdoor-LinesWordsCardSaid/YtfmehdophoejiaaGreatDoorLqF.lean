/- The contract of the reference's Era, of three or seven words; nothing that was in memory changes. Written by wip/tools/gencp.py. -/
import Derived.Test.YtfmehdophoejiaaGreatDoorLqC
import Derived.Test.YtfmehdophoejiaaGreatDoorLqE
import Derived.Test.YtfmehdophoejiaaGreatDoorLqG
namespace Go.Proofs.YtfmehdophoejiaaGreatDoor
open Go Go.RowKit

set_option maxHeartbeats 1600000 in
theorem reraq_in (L off n c : Nat) (ws : List (List UInt8)) (w : World) (hn : ws.length = n) (h37 : n = 3 ∨ n = 7) (hL : L < w.heap.size)
    (AT : ∀ i, i < n → At w L (off + i) (wd ws i)) (AT0 : At w L off (wd ws 0)) (r : EV) (v : Int) (hr : erS ws = r) (hv : erX ws = v) : EraTo L off n c w r v := by
  have FAIL : ∀ (k : Nat) (x : Int), (erA ws)[k]? = some x → x ≠ 0 → k < n → (∀ e ∈ (erA ws).take k, e = 0) → v = x ∧ r = e0V := fun k x h hx hk hp => by
    have := er_fail (by omega) h (by omega) hx hp
    exact ⟨by rw [← hv, this.1], by rw [← hr, this.2]⟩
  by_cases z0 : ofE (wd ws 0) = 0
  rotate_left
  · obtain ⟨rfl, rfl⟩ := FAIL 0 (ofE (wd ws 0)) rfl z0 (by omega) (by show ∀ e ∈ [], e = 0; exact fun e he => by cases he)
    exact rq_f0 L off c n (by omega) (by omega) (wd ws 0) (wd ws 2) w hL ⟨AT0, AT 2 (by omega)⟩ _ _ (ne_not z0) (Lib.hid ⟨rfl, rfl⟩)
  have H0 : Hid (ofV (wd ws 0) = ofV (wd ws 0) ∧ ofE (wd ws 0) = 0) := Lib.hid ⟨rfl, z0⟩
  rcases ru_all (wd ws 1) with ⟨z1, V⟩ | ⟨y1, V⟩
  rotate_left
  · obtain ⟨rfl, rfl⟩ := FAIL 1 (ruE (wd ws 1)) rfl y1 (by omega) (by show ∀ e ∈ [ofE (wd ws 0)], e = 0; exact zz1 z0)
    exact rq_f1 L off c n (by omega) (by omega) (wd ws 0) (wd ws 1) (wd ws 2) w hL ⟨AT0, AT 1 (by omega), AT 2 (by omega)⟩ _ H0 _ V
  cases h2 : fmOk (wd ws 2) with
  | false =>
    have e : fmE (wd ws 2) = 12 := by unfold fmE; rw [h2]; rfl
    obtain ⟨rfl, rfl⟩ := FAIL 2 (12) (by show some (fmE (wd ws 2)) = some 12; rw [e]) (by decide) (by omega) (by show ∀ e ∈ [ofE (wd ws 0), ruE (wd ws 1)], e = 0; exact zz2 z0 z1)
    exact rq_f2 L off c n (by omega) (by omega) (wd ws 0) (wd ws 1) (wd ws 2) w hL ⟨AT0, AT 1 (by omega), AT 2 (by omega)⟩ _ H0 _ _ V (Lib.hid h2)
  | true =>
  have H2 := Lib.hid h2
  have z2 : fmE (wd ws 2) = 0 := by unfold fmE; rw [h2]; rfl
  by_cases n3 : n = 3
  · subst n3
    have hx : erX ws = 0 := era_of (by omega) fun i x hi hlt => by
      have : ∀ e ∈ [ofE (wd ws 0), ruE (wd ws 1), fmE (wd ws 2)], e = 0 := zz3 z0 z1 z2
      refine this x ?_
      have h2 : ((erA ws).take 3)[i]? = some x := by rw [List.getElem?_take_of_lt (by omega)]; exact hi
      exact List.mem_of_getElem? h2
    have hs : erS ws = ⟨ofV (wd ws 0), ruR (wd ws 1), ruV (wd ws 1), (wd ws 2), false, 0, 0, 0, 0, 0, 0, 0⟩ := by unfold erS; rw [if_pos hx]; unfold erV; rw [hn]; rfl
    obtain rfl : v = 0 := by rw [← hv, hx]
    rw [← hr, hs]
    exact rq_s3 L off c (wd ws 0) (wd ws 1) (wd ws 2) w hL ⟨AT0, AT 1 (by omega), AT 2 (by omega)⟩ _ H0 _ _ V H2
  have yn := yr_nr (wd ws 3)
  by_cases z3 : yrE (wd ws 3) = 0
  rotate_left
  · obtain ⟨rfl, rfl⟩ := FAIL 3 (yrE (wd ws 3)) rfl z3 (by omega) (by show ∀ e ∈ [ofE (wd ws 0), ruE (wd ws 1), fmE (wd ws 2)], e = 0; exact zz3 z0 z1 z2)
    exact rq_f3 L off c n (by omega) (by omega) (by simp; omega) (by omega) (wd ws 0) (wd ws 1) (wd ws 2) (wd ws 3) w hL ⟨AT0, AT 1 (by omega), AT 2 (by omega), AT 3 (by omega)⟩ _ H0 _ _ V H2 _ _ (ne_not z3) (Lib.hid ⟨rfl, yn.2.symm⟩)
  rcases mo_cases (wd ws 4) with ⟨h4, e4⟩ | ⟨f4, h4, b4, z4, v4⟩
  · obtain ⟨rfl, rfl⟩ := FAIL 4 (13) (by show some (moE (wd ws 4)) = some 13; rw [e4]) (by decide) (by omega) (by show ∀ e ∈ [ofE (wd ws 0), ruE (wd ws 1), fmE (wd ws 2), yrE (wd ws 3)], e = 0; exact zz4 z0 z1 z2 z3)
    exact rq_f4 L off c n (by omega) (by omega) (by simp; omega) (by omega) (by omega) (wd ws 0) (wd ws 1) (wd ws 2) (wd ws 3) (wd ws 4) w hL ⟨AT0, AT 1 (by omega), AT 2 (by omega), AT 3 (by omega), AT 4 (by omega)⟩ _ H0 _ _ V H2 _ (Lib.hid ⟨rfl, yn.2.symm.trans z3⟩) (Lib.hid h4)
  by_cases z5 : dyE (wd ws 5) = 0
  rotate_left
  · obtain ⟨rfl, rfl⟩ := FAIL 5 (dyE (wd ws 5)) rfl z5 (by omega) (by show ∀ e ∈ [ofE (wd ws 0), ruE (wd ws 1), fmE (wd ws 2), yrE (wd ws 3), moE (wd ws 4)], e = 0; exact zz5 z0 z1 z2 z3 z4)
    exact rq_f5 L off c n (by omega) (by omega) (by simp; omega) (by omega) (by omega) (by omega) (wd ws 0) (wd ws 1) (wd ws 2) (wd ws 3) (wd ws 4) (wd ws 5) w hL ⟨AT0, AT 1 (by omega), AT 2 (by omega), AT 3 (by omega), AT 4 (by omega), AT 5 (by omega)⟩ _ H0 _ _ V H2 _ (Lib.hid ⟨rfl, yn.2.symm.trans z3⟩) f4 (Lib.hid h4) (z_false (by omega)) b4 _ _ _ _ (ne_not z5) (Lib.hid (day_is (wd ws 5)))
  by_cases z6 : parE (wd ws 6) = 0
  rotate_left
  · obtain ⟨rfl, rfl⟩ := FAIL 6 (parE (wd ws 6)) rfl z6 (by omega) (by show ∀ e ∈ [ofE (wd ws 0), ruE (wd ws 1), fmE (wd ws 2), yrE (wd ws 3), moE (wd ws 4), dyE (wd ws 5)], e = 0; exact zz6 z0 z1 z2 z3 z4 z5)
    exact rq_f6 L off c n (by omega) (by omega) (by simp; omega) (by omega) (by omega) (by omega) (by omega) (wd ws 0) (wd ws 1) (wd ws 2) (wd ws 3) (wd ws 4) (wd ws 5) (wd ws 6) w hL ⟨AT0, AT 1 (by omega), AT 2 (by omega), AT 3 (by omega), AT 4 (by omega), AT 5 (by omega), AT 6 (by omega)⟩ _ H0 _ _ V H2 _ (Lib.hid ⟨rfl, yn.2.symm.trans z3⟩) f4 (Lib.hid h4) (z_false (by omega)) b4 _ _ _ (Lib.hid (by rw [day_is, z5])) _ _ _ (ne_not z6) (Lib.hid ⟨rfl, rfl, rfl⟩)
  obtain rfl : n = 7 := by omega
  have hx : erX ws = 0 := era_of (by omega) fun i x hi hlt => by
    have : ∀ e ∈ [ofE (wd ws 0), ruE (wd ws 1), fmE (wd ws 2), yrE (wd ws 3), moE (wd ws 4), dyE (wd ws 5), parE (wd ws 6)], e = 0 := zz7 z0 z1 z2 z3 z4 z5 z6
    refine this x ?_
    have h2 : ((erA ws).take 7)[i]? = some x := by rw [List.getElem?_take_of_lt (by omega)]; exact hi
    exact List.mem_of_getElem? h2
  have hs : erS ws = ⟨ofV (wd ws 0), ruR (wd ws 1), ruV (wd ws 1), (wd ws 2), true, yrV (wd ws 3), moV (wd ws 4), dyK (wd ws 5), dyW (wd ws 5), dyN (wd ws 5), parN (wd ws 6), parK (wd ws 6)⟩ := by unfold erS; rw [if_pos hx]; unfold erV; rw [hn]; rfl
  rw [v4, yn.1] at hs
  obtain rfl : v = 0 := by rw [← hv, hx]
  rw [← hr, hs]
  exact rq_s7 L off c (wd ws 0) (wd ws 1) (wd ws 2) (wd ws 3) (wd ws 4) (wd ws 5) (wd ws 6) w hL ⟨AT0, AT 1 (by omega), AT 2 (by omega), AT 3 (by omega), AT 4 (by omega), AT 5 (by omega), AT 6 (by omega)⟩ _ H0 _ _ V H2 _ (Lib.hid ⟨rfl, yn.2.symm.trans z3⟩) f4 (Lib.hid h4) (z_false (by omega)) b4 _ _ _ (Lib.hid (by rw [day_is, z5])) _ _ (Lib.hid ⟨rfl, rfl, z6⟩)
theorem reraq_is (A : Option Addr) (n c : Nat) (ws : List (List UInt8)) (w : World) (hn : ws.length = n) (h37 : n = 3 ∨ n = 7) (hl : ∀ p ∈ ws, p.length ≤ 100) (hW : ArgW A ws w) (r : EV) (v : Int) (hr : Hid (erS ws = r ∧ erX ws = v)) :
    Calls Tryz.prog 22 #[.slice A n c] w fun e w' => e = .returned (.tuple #[evV r, .int .i64 v]) ∧ Below w.heap.size w w' := by
  obtain ⟨L, off, rfl, hW'⟩ := hW.some (by omega)
  have g : ∀ i, i < n → w.cell? ⟨L, off + i, none⟩ = some (.string ⟨(wd ws i).toArray⟩) := fun i hi => by
    obtain ⟨p, hp⟩ : ∃ p, ws[i]? = some p := ⟨_, List.getElem?_eq_getElem (by omega)⟩
    rw [wd_get hp]; exact hW' i p hp
  have hLw : L < w.heap.size := wcell_lt (g 0 (by omega))
  have k : ∀ i, i < n → At w L (off + i) (wd ws i) := fun i hi => ⟨Lib.hid fun W k => by
    rw [k.cell (p := ⟨L, off + i, none⟩) hLw]; exact g i hi, wd_len hl i⟩
  exact reraq_in L off n c ws w hn h37 hLw k (k 0 (by omega)) r v hr.out.1 hr.out.2

end Go.Proofs.YtfmehdophoejiaaGreatDoor
