/- The contract of the reference's Rule, of ten words; nothing that was in memory changes. Written by wip/tools/gencp.py. -/
import Derived.Test.YtfmehdophoejiaaGreatDoorLqC
import Derived.Test.YtfmehdophoejiaaGreatDoorLqR
import Derived.Test.YtfmehdophoejiaaGreatDoorLqT
import Derived.Test.YtfmehdophoejiaaGreatDoorLqU
namespace Go.Proofs.YtfmehdophoejiaaGreatDoor
open Go Go.RowKit

theorem rruleq_ten (L off c : Nat) (p0 p1 p2 p3 p4 p5 p6 p7 p8 p9 : List UInt8) (w : World) (TT : Ten w L off p0 p1 p2 p3 p4 p5 p6 p7 p8 p9) (r : RV) (v : Int) (hr : rlS [p0, p1, p2, p3, p4, p5, p6, p7, p8, p9] = r) (hv : rlX [p0, p1, p2, p3, p4, p5, p6, p7, p8, p9] = v) : RuleTo L off c w r v := by
  have FAIL : ∀ (pre post : List Int) (x : Int), [knE 0 p0, stE p1, yrE p2, toE p3 (yrV p2), dsE p4, moE p5, dyE p6, parE p7, ofE p8, ltE p9] = pre ++ x :: post → x ≠ 0 → (∀ e ∈ pre, e = 0) → v = x ∧ r = r0 := fun pre post x h hx hp => by
    have e : rlE [p0, p1, p2, p3, p4, p5, p6, p7, p8, p9] = pre ++ x :: post := h
    have := rl_fail (ws := [p0, p1, p2, p3, p4, p5, p6, p7, p8, p9]) (k := pre.length) (x := x) rfl (by rw [e]; simp) hx (by rw [e, List.take_left]; exact hp)
    exact ⟨by rw [← hv, this.1], by rw [← hr, this.2]⟩
  have yn := yr_nr p2
  by_cases z0 : knE 0 p0 = 0
  rotate_left
  · have e : knE 0 p0 = 13 := by unfold knE at z0 ⊢; split at z0 <;> first | exact absurd rfl z0 | (rename_i c; rw [if_neg c])
    obtain ⟨rfl, rfl⟩ := FAIL [] [stE p1, yrE p2, toE p3 (yrV p2), dsE p4, moE p5, dyE p6, parE p7, ofE p8, ltE p9] (13) (by rw [e]; rfl) (by decide) (fun e he => by cases he)
    exact rs_f0 L off c p0 p1 p2 p3 p4 p5 p6 p7 p8 p9 w TT (Lib.hid (decide_eq_false z0))
  have H0 : Hid (decide (knE 0 p0 = 0) = true) := Lib.hid (decide_eq_true z0)
  cases h1 : stOk p1 with
  | false =>
    have e : stE p1 = 23 := by unfold stE; rw [h1]; rfl
    obtain ⟨rfl, rfl⟩ := FAIL [knE 0 p0] [yrE p2, toE p3 (yrV p2), dsE p4, moE p5, dyE p6, parE p7, ofE p8, ltE p9] (23) (by rw [e]; rfl) (by decide) (zc z0 (fun e he => by cases he))
    exact rs_f1 L off c p0 p1 p2 p3 p4 p5 p6 p7 p8 p9 w TT H0 (Lib.hid h1)
  | true =>
  have H1 := Lib.hid h1
  have z1 : stE p1 = 0 := by unfold stE; rw [h1]; rfl
  by_cases z2 : yrE p2 = 0
  rotate_left
  · obtain ⟨rfl, rfl⟩ := FAIL [knE 0 p0, stE p1] [toE p3 (yrV p2), dsE p4, moE p5, dyE p6, parE p7, ofE p8, ltE p9] (yrE p2) rfl z2 (zc z0 (zc z1 (fun e he => by cases he)))
    exact rs_f2 L off c p0 p1 p2 p3 p4 p5 p6 p7 p8 p9 w TT H0 H1 _ _ (ne_not z2) (Lib.hid ⟨rfl, yn.2.symm⟩)
  have H2 : Hid (nrV p2 = yrV p2 ∧ nrE p2 = 0) := Lib.hid ⟨yn.1.symm, yn.2.symm.trans z2⟩
  rcases to_all p3 (yrV p2) (yr_dom z2).2 with ⟨z3, V⟩ | ⟨h3, n3, x3⟩ | ⟨h3, n3, y3, x3⟩
  rotate_left
  · obtain ⟨rfl, rfl⟩ := FAIL [knE 0 p0, stE p1, yrE p2] [dsE p4, moE p5, dyE p6, parE p7, ofE p8, ltE p9] (nrE p3) (by rw [x3]; rfl) n3 (zc z0 (zc z1 (zc z2 (fun e he => by cases he))))
    exact rs_f3 L off c p0 p1 p2 p3 p4 p5 p6 p7 p8 p9 w TT H0 H1 _ H2 _ _ (Lib.hid h3) (Lib.hid ⟨rfl, rfl⟩) (ne_not n3)
  · obtain ⟨rfl, rfl⟩ := FAIL [knE 0 p0, stE p1, yrE p2] [dsE p4, moE p5, dyE p6, parE p7, ofE p8, ltE p9] (17) (by rw [x3]; rfl) (by decide) (zc z0 (zc z1 (zc z2 (fun e he => by cases he))))
    exact rs_f3o L off c p0 p1 p2 p3 p4 p5 p6 p7 p8 p9 w TT H0 H1 _ H2 _ (Lib.hid h3) (Lib.hid ⟨rfl, n3⟩) y3
  by_cases h4 : p4 = [45]
  rotate_left
  · have e : dsE p4 = 12 := by unfold dsE; rw [if_neg h4]
    obtain ⟨rfl, rfl⟩ := FAIL [knE 0 p0, stE p1, yrE p2, toE p3 (yrV p2)] [moE p5, dyE p6, parE p7, ofE p8, ltE p9] (12) (by rw [e]; rfl) (by decide) (zc z0 (zc z1 (zc z2 (zc z3 (fun e he => by cases he)))))
    exact rs_f4 L off c p0 p1 p2 p3 p4 p5 p6 p7 p8 p9 w TT H0 H1 _ H2 _ V (by simpa using h4)
  have z4 : dsE p4 = 0 := by unfold dsE; rw [if_pos h4]
  have H4 : (p4 == [45]) = true := by simpa using h4
  rcases mo_cases p5 with ⟨h5, e5⟩ | ⟨f5, h5, b5, z5, v5⟩
  · obtain ⟨rfl, rfl⟩ := FAIL [knE 0 p0, stE p1, yrE p2, toE p3 (yrV p2), dsE p4] [dyE p6, parE p7, ofE p8, ltE p9] (13) (by rw [e5]; rfl) (by decide) (zc z0 (zc z1 (zc z2 (zc z3 (zc z4 (fun e he => by cases he))))))
    exact rs_f5 L off c p0 p1 p2 p3 p4 p5 p6 p7 p8 p9 w TT H0 H1 _ H2 _ V H4 (Lib.hid h5)
  by_cases z6 : dyE p6 = 0
  rotate_left
  · obtain ⟨rfl, rfl⟩ := FAIL [knE 0 p0, stE p1, yrE p2, toE p3 (yrV p2), dsE p4, moE p5] [parE p7, ofE p8, ltE p9] (dyE p6) rfl z6 (zc z0 (zc z1 (zc z2 (zc z3 (zc z4 (zc z5 (fun e he => by cases he)))))))
    exact rs_f6 L off c p0 p1 p2 p3 p4 p5 p6 p7 p8 p9 w TT H0 H1 _ H2 _ V H4 f5 (Lib.hid h5) (z_false (by omega)) b5 _ _ _ _ (ne_not z6) (Lib.hid (day_is p6))
  have H6 : Hid (parsF p6 = (dyK p6, dyW p6, dyN p6, 0)) := Lib.hid (by rw [day_is p6, z6])
  by_cases z7 : parE p7 = 0
  rotate_left
  · obtain ⟨rfl, rfl⟩ := FAIL [knE 0 p0, stE p1, yrE p2, toE p3 (yrV p2), dsE p4, moE p5, dyE p6] [ofE p8, ltE p9] (parE p7) rfl z7 (zc z0 (zc z1 (zc z2 (zc z3 (zc z4 (zc z5 (zc z6 (fun e he => by cases he))))))))
    exact rs_f7 L off c p0 p1 p2 p3 p4 p5 p6 p7 p8 p9 w TT H0 H1 _ H2 _ V H4 f5 (Lib.hid h5) (z_false (by omega)) b5 _ _ _ H6 _ _ _ (ne_not z7) (Lib.hid ⟨rfl, rfl, rfl⟩)
  have H7 : Hid (parN p7 = parN p7 ∧ parK p7 = parK p7 ∧ parE p7 = 0) := Lib.hid ⟨rfl, rfl, z7⟩
  by_cases z8 : ofE p8 = 0
  rotate_left
  · obtain ⟨rfl, rfl⟩ := FAIL [knE 0 p0, stE p1, yrE p2, toE p3 (yrV p2), dsE p4, moE p5, dyE p6, parE p7] [ltE p9] (ofE p8) rfl z8 (zc z0 (zc z1 (zc z2 (zc z3 (zc z4 (zc z5 (zc z6 (zc z7 (fun e he => by cases he)))))))))
    exact rs_f8 L off c p0 p1 p2 p3 p4 p5 p6 p7 p8 p9 w TT H0 H1 _ H2 _ V H4 f5 (Lib.hid h5) (z_false (by omega)) b5 _ _ _ H6 _ _ H7 _ _ (ne_not z8) (Lib.hid ⟨rfl, rfl⟩)
  have H8 : Hid (ofV p8 = ofV p8 ∧ ofE p8 = 0) := Lib.hid ⟨rfl, z8⟩
  rcases lt_all p9 with ⟨h9, e9⟩ | ⟨h9, z9, U⟩
  · obtain ⟨rfl, rfl⟩ := FAIL [knE 0 p0, stE p1, yrE p2, toE p3 (yrV p2), dsE p4, moE p5, dyE p6, parE p7, ofE p8] [] (23) (by rw [e9]; rfl) (by decide) (zc z0 (zc z1 (zc z2 (zc z3 (zc z4 (zc z5 (zc z6 (zc z7 (zc z8 (fun e he => by cases he))))))))))
    exact rs_f9 L off c p0 p1 p2 p3 p4 p5 p6 p7 p8 p9 w TT H0 H1 _ H2 _ V H4 f5 (Lib.hid h5) (z_false (by omega)) b5 _ _ _ H6 _ _ H7 _ H8 (Lib.hid h9)
  have hx : rlX [p0, p1, p2, p3, p4, p5, p6, p7, p8, p9] = 0 := rule_of rfl (zc z0 (zc z1 (zc z2 (zc z3 (zc z4 (zc z5 (zc z6 (zc z7 (zc z8 (zc z9 (fun e he => by cases he)))))))))))
  have hs : rlS [p0, p1, p2, p3, p4, p5, p6, p7, p8, p9] = ⟨p1, yrV p2, toV p3 (yrV p2), moV p5, dyK p6, dyW p6, dyN p6, parN p7, parK p7, ofV p8, ltV p9⟩ := by unfold rlS; rw [if_pos hx]; rfl
  obtain rfl : v = 0 := by rw [← hv, hx]
  rw [v5] at hs
  rw [← hr, hs]
  exact rs_s L off c p0 p1 p2 p3 p4 p5 p6 p7 p8 p9 w TT H0 H1 _ H2 _ V H4 f5 (Lib.hid h5) (z_false (by omega)) b5 _ _ _ H6 _ _ H7 _ H8 (Lib.hid h9) _ U
theorem rruleq_is (A : Option Addr) (c : Nat) (ws : List (List UInt8)) (w : World) (hn : ws.length = 10) (hl : ∀ p ∈ ws, p.length ≤ 100) (hW : ArgW A ws w) (r : RV) (v : Int) (hr : Hid (rlS ws = r ∧ rlX ws = v)) :
    Calls Tryz.prog 20 #[.slice A 10 c] w fun e w' => e = .returned (.tuple #[rvV r, .int .i64 v]) ∧ Below w.heap.size w w' := by
  obtain ⟨L, off, rfl, hW'⟩ := hW.some (by omega)
  obtain ⟨p0, p1, p2, p3, p4, p5, p6, p7, p8, p9, rfl⟩ : ∃ p0 p1 p2 p3 p4 p5 p6 p7 p8 p9, ws = [p0, p1, p2, p3, p4, p5, p6, p7, p8, p9] := by
    match ws, hn with
    | [p0, p1, p2, p3, p4, p5, p6, p7, p8, p9], _ => exact ⟨p0, p1, p2, p3, p4, p5, p6, p7, p8, p9, rfl⟩
  have hLw : L < w.heap.size := wcell_lt (hW' 0 p0 rfl)
  refine rruleq_ten L off c p0 p1 p2 p3 p4 p5 p6 p7 p8 p9 w ⟨hLw, Lib.hid fun W k => ?_, hl p0 (by simp), hl p1 (by simp), hl p2 (by simp), hl p3 (by simp), hl p4 (by simp), hl p5 (by simp), hl p6 (by simp), hl p7 (by simp), hl p8 (by simp), hl p9 (by simp)⟩ r v hr.out.1 hr.out.2
  have g : ∀ i p, [p0, p1, p2, p3, p4, p5, p6, p7, p8, p9][i]? = some p → W.cell? ⟨L, off + i, none⟩ = some (.string ⟨p.toArray⟩) := fun i p hp => by
    rw [k.cell (p := ⟨L, off + i, none⟩) hLw]; exact hW' i p hp
  exact ⟨g 0 p0 rfl, g 1 p1 rfl, g 2 p2 rfl, g 3 p3 rfl, g 4 p4 rfl, g 5 p5 rfl, g 6 p6 rfl, g 7 p7 rfl, g 8 p8 rfl, g 9 p9 rfl⟩

end Go.Proofs.YtfmehdophoejiaaGreatDoor
