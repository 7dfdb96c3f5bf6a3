/- The contract of the reference's Rule: which rule words are, or what is wrong with them; nothing that was in memory changes. Written by wip/tools/genlrr.py. -/
import Derived.Test.YtfmehdophoejiaaGreatDoorLrR
import Derived.Test.YtfmehdophoejiaaGreatDoorLrS
import Derived.Test.YtfmehdophoejiaaGreatDoorLrT
namespace Go.Proofs.YtfmehdophoejiaaGreatDoor
open Go Go.RowKit

theorem to_cases (s : List UInt8) (f : Int) (hf : f ≤ 4000) :
    (wantZ (findL (low s) endsL) = 0 ∧ toE s f = 0 ∧ toV s f = f) ∨ (wantZ (findL (low s) endsL) = 1 ∧ toE s f = 0 ∧ toV s f = 1048576) ∨
    (wantZ (findL (low s) endsL) = -1 ∧ ((nrE s ≠ 0 ∧ toE s f = nrE s) ∨ (nrE s = 0 ∧ nrV s < f ∧ toE s f = 17) ∨ (nrE s = 0 ∧ ¬ nrV s < f ∧ toE s f = 0 ∧ toV s f = nrV s))) := by
  cases h : findL (low s) endsL with
  | some p =>
    have hlt := findL_lt h
    have e2 : endsL.length = 2 := rfl
    have hy : yearE s = 0 := by unfold yearE; rw [h]
    rcases p with _ | _ | p
    · left
      have hv : yearV s f = f := by unfold yearV; rw [h]; rfl
      have := to_of hv hy (Int.le_refl f)
      exact ⟨rfl, this.1, this.2⟩
    · right; left
      have hv : yearV s f = 1048576 := by unfold yearV; rw [h]; rfl
      have := to_of hv hy (by omega)
      exact ⟨rfl, this.1, this.2⟩
    · omega
  | none =>
    right; right
    refine ⟨rfl, ?_⟩
    have hv : yearV s f = nrV s := by unfold yearV nrV; rw [h]
    have he : yearE s = nrE s := by unfold yearE nrE; rw [h]
    by_cases h0 : nrE s = 0
    · by_cases h1 : nrV s < f
      · refine .inr (.inl ⟨h0, h1, ?_⟩)
        unfold toE; rw [he, if_pos h0, hv, if_pos h1]
      · have := to_of hv (he.trans h0) (by omega)
        exact .inr (.inr ⟨h0, h1, this.1, this.2⟩)
    · refine .inl ⟨h0, ?_⟩
      unfold toE; rw [he, if_neg h0]
theorem mo_cases (s : List UInt8) : (wantZ (findL (low s) monthsL) = -1 ∧ moE s = 13) ∨ (∃ f : Int, wantZ (findL (low s) monthsL) = f ∧ (0 ≤ f ∧ f ≤ 11) ∧ moE s = 0 ∧ moV s = f + 1) := by
  unfold moE moV
  cases h : findL (low s) monthsL with
  | none => left; exact ⟨rfl, rfl⟩
  | some p =>
    right
    have hlt := findL_lt h
    have e12 : monthsL.length = 12 := rfl
    exact ⟨(p : Int), rfl, by omega, rfl, by show ((p + 1 : Nat) : Int) = _; omega⟩
theorem lt_cases (s : List UInt8) : (txOk lnP 1 8 s = false ∧ ltE s = 23) ∨ (txOk lnP 1 8 s = true ∧ ltE s = 0 ∧ ((s = [45] ∧ ltV s = []) ∨ (s ≠ [45] ∧ ltV s = s))) := by
  unfold ltE ltOk ltV
  by_cases h : s = [45]
  · subst h; right; decide
  · cases ht : txOk lnP 1 8 s with
    | false => left; refine ⟨rfl, ?_⟩; rw [decide_eq_false h]; rfl
    | true => right; refine ⟨rfl, by rw [Bool.or_true]; rfl, .inr ⟨h, by rw [if_neg h, if_pos rfl]⟩⟩
theorem day_is (s : List UInt8) : parsF s = (dyK s, dyW s, dyN s, dyE s) := Prod.ext rfl (Prod.ext rfl (Prod.ext rfl rfl))
theorem z_false {x : Int} (h : ¬ x + 1 = 0) : ((x + 1 : Int) == 0) = false := by simpa using h
set_option maxHeartbeats 800000 in
theorem rrule_many (A : Option Addr) (n c : Nat) (w : World) (hn : n ≠ 10) :
    Calls Tryz.prog 20 #[.slice A n c] w fun e w' => e = .returned (.tuple #[rvV r0, .int .i64 14]) ∧ Below w.heap.size w w' := by
  have hn' : ((n : Int) != 10) = true := by simp; omega
  clear hn
  go_enter Tryz.func20, Tryz.ntmps20
  go_wp2
  exact bodyPost_ret (v := .tuple #[rvV r0, .int .i64 14]) (by simp [results, Tryz.results20, go_sem, rvV, r0]) rfl ⟨rfl, ((Below.refl _ _).alloc (Nat.le_refl _) _).alloc (by simp) _⟩

set_option maxHeartbeats 800000 in
theorem rrule_ten (L off c : Nat) (p0 p1 p2 p3 p4 p5 p6 p7 p8 p9 : List UInt8) (w : World) (hL : L < w.heap.size) (CC : Hid (∀ W, Below w.heap.size w W → W.cell? ⟨L, off, none⟩ = some (.string ⟨p0.toArray⟩) ∧ W.cell? ⟨L, off + 1, none⟩ = some (.string ⟨p1.toArray⟩) ∧ W.cell? ⟨L, off + 2, none⟩ = some (.string ⟨p2.toArray⟩) ∧ W.cell? ⟨L, off + 3, none⟩ = some (.string ⟨p3.toArray⟩) ∧ W.cell? ⟨L, off + 4, none⟩ = some (.string ⟨p4.toArray⟩) ∧ W.cell? ⟨L, off + 5, none⟩ = some (.string ⟨p5.toArray⟩) ∧ W.cell? ⟨L, off + 6, none⟩ = some (.string ⟨p6.toArray⟩) ∧ W.cell? ⟨L, off + 7, none⟩ = some (.string ⟨p7.toArray⟩) ∧ W.cell? ⟨L, off + 8, none⟩ = some (.string ⟨p8.toArray⟩) ∧ W.cell? ⟨L, off + 9, none⟩ = some (.string ⟨p9.toArray⟩)))
    (l0 : p0.length ≤ 100) (l1 : p1.length ≤ 100) (l2 : p2.length ≤ 100) (l3 : p3.length ≤ 100) (l4 : p4.length ≤ 100) (l5 : p5.length ≤ 100) (l6 : p6.length ≤ 100) (l7 : p7.length ≤ 100) (l8 : p8.length ≤ 100) (l9 : p9.length ≤ 100) (r : RV) (v : Int) (hr : rlS [p0, p1, p2, p3, p4, p5, p6, p7, p8, p9] = r) (hv : rlX [p0, p1, p2, p3, p4, p5, p6, p7, p8, p9] = v) :
    Calls Tryz.prog 20 #[.slice (some ⟨L, off, none⟩) 10 c] w fun e w' => e = .returned (.tuple #[rvV r, .int .i64 v]) ∧ Below w.heap.size w w' := by
  have FAIL : ∀ (pre post : List Int) (x : Int), [knE 0 p0, stE p1, yrE p2, toE p3 (yrV p2), dsE p4, moE p5, dyE p6, parE p7, ofE p8, ltE p9] = pre ++ x :: post → x ≠ 0 → (∀ e ∈ pre, e = 0) → v = x ∧ r = r0 := fun pre post x h hx hp => by
    have e : rlE [p0, p1, p2, p3, p4, p5, p6, p7, p8, p9] = pre ++ x :: post := h
    have := rl_fail (ws := [p0, p1, p2, p3, p4, p5, p6, p7, p8, p9]) (k := pre.length) (x := x) rfl (by rw [e]; simp) hx (by rw [e, List.take_left]; exact hp)
    exact ⟨by rw [← hv, this.1], by rw [← hr, this.2]⟩
  have yn := yr_nr p2
  by_cases z0 : knE 0 p0 = 0
  rotate_left
  · have e : knE 0 p0 = 13 := by unfold knE at z0 ⊢; split at z0 <;> first | exact absurd rfl z0 | (rename_i c; rw [if_neg c])
    obtain ⟨rfl, rfl⟩ := FAIL [] [stE p1, yrE p2, toE p3 (yrV p2), dsE p4, moE p5, dyE p6, parE p7, ofE p8, ltE p9] (13) (by rw [e]; rfl) (by decide) (fun e he => by cases he)
    exact rr_f0 L off c p0 p1 p2 p3 p4 p5 p6 p7 p8 p9 w hL CC l0 (Lib.hid (decide_eq_false z0))
  have H0 : Hid (decide (knE 0 p0 = 0) = true) := Lib.hid (decide_eq_true z0)
  cases h1 : stOk p1 with
  | false =>
    have e : stE p1 = 23 := by unfold stE; rw [h1]; rfl
    obtain ⟨rfl, rfl⟩ := FAIL [knE 0 p0] [yrE p2, toE p3 (yrV p2), dsE p4, moE p5, dyE p6, parE p7, ofE p8, ltE p9] (23) (by rw [e]; rfl) (by decide) (List.forall_mem_cons.2 ⟨z0, fun e he => by cases he⟩)
    exact rr_f1 L off c p0 p1 p2 p3 p4 p5 p6 p7 p8 p9 w hL CC l0 l1 H0 (Lib.hid h1)
  | true =>
  have H1 := Lib.hid h1
  have z1 : stE p1 = 0 := by unfold stE; rw [h1]; rfl
  by_cases z2 : yrE p2 = 0
  rotate_left
  · obtain ⟨rfl, rfl⟩ := FAIL [knE 0 p0, stE p1] [toE p3 (yrV p2), dsE p4, moE p5, dyE p6, parE p7, ofE p8, ltE p9] (yrE p2) rfl z2 (List.forall_mem_cons.2 ⟨z0, List.forall_mem_cons.2 ⟨z1, fun e he => by cases he⟩⟩)
    exact rr_f2 L off c p0 p1 p2 p3 p4 p5 p6 p7 p8 p9 w hL CC l0 l1 l2 H0 H1 _ _ (Lib.hid ⟨rfl, yn.2.symm⟩) (ne_not z2)
  have hy := yr_dom z2
  have H2 : Hid (nrV p2 = yrV p2 ∧ nrE p2 = 0) := Lib.hid ⟨yn.1.symm, yn.2.symm.trans z2⟩
  rcases to_cases p3 (yrV p2) hy.2 with ⟨h3, z3, t3⟩ | ⟨h3, z3, t3⟩ | ⟨h3, ⟨n3, x3⟩ | ⟨n3, y3, x3⟩ | ⟨n3, y3, z3, t3⟩⟩
  · by_cases h4 : p4 = [45]
    rotate_left
    · have e : dsE p4 = 12 := by unfold dsE; rw [if_neg h4]
      obtain ⟨rfl, rfl⟩ := FAIL [knE 0 p0, stE p1, yrE p2, toE p3 (yrV p2)] [moE p5, dyE p6, parE p7, ofE p8, ltE p9] (12) (by rw [e]; rfl) (by decide) (List.forall_mem_cons.2 ⟨z0, List.forall_mem_cons.2 ⟨z1, List.forall_mem_cons.2 ⟨z2, List.forall_mem_cons.2 ⟨z3, fun e he => by cases he⟩⟩⟩⟩)
      exact rr_f4o L off c p0 p1 p2 p3 p4 p5 p6 p7 p8 p9 w hL CC l0 l1 l2 l3 l4 H0 H1 _ H2 (Lib.hid h3) (by simpa using h4)
    have z4 : dsE p4 = 0 := by unfold dsE; rw [if_pos h4]
    have H4 : (p4 == [45]) = true := by simpa using h4
    rcases mo_cases p5 with ⟨h5, e5⟩ | ⟨f5, h5, b5, z5, v5⟩
    · obtain ⟨rfl, rfl⟩ := FAIL [knE 0 p0, stE p1, yrE p2, toE p3 (yrV p2), dsE p4] [dyE p6, parE p7, ofE p8, ltE p9] (13) (by rw [e5]; rfl) (by decide) (List.forall_mem_cons.2 ⟨z0, List.forall_mem_cons.2 ⟨z1, List.forall_mem_cons.2 ⟨z2, List.forall_mem_cons.2 ⟨z3, List.forall_mem_cons.2 ⟨z4, fun e he => by cases he⟩⟩⟩⟩⟩)
      exact rr_f5o L off c p0 p1 p2 p3 p4 p5 p6 p7 p8 p9 w hL CC l0 l1 l2 l3 l4 l5 H0 H1 _ H2 (Lib.hid h3) H4 (Lib.hid h5)
    by_cases z6 : dyE p6 = 0
    rotate_left
    · obtain ⟨rfl, rfl⟩ := FAIL [knE 0 p0, stE p1, yrE p2, toE p3 (yrV p2), dsE p4, moE p5] [parE p7, ofE p8, ltE p9] (dyE p6) rfl z6 (List.forall_mem_cons.2 ⟨z0, List.forall_mem_cons.2 ⟨z1, List.forall_mem_cons.2 ⟨z2, List.forall_mem_cons.2 ⟨z3, List.forall_mem_cons.2 ⟨z4, List.forall_mem_cons.2 ⟨z5, fun e he => by cases he⟩⟩⟩⟩⟩⟩)
      exact rr_f6o L off c p0 p1 p2 p3 p4 p5 p6 p7 p8 p9 w hL CC l0 l1 l2 l3 l4 l5 l6 H0 H1 _ H2 (Lib.hid h3) H4 f5 (Lib.hid h5) (z_false (by omega)) b5 _ _ _ _ (ne_not z6) (Lib.hid (day_is p6))
    have H6 : Hid (parsF p6 = (dyK p6, dyW p6, dyN p6, 0)) := Lib.hid (by rw [day_is p6, z6])
    by_cases z7 : parE p7 = 0
    rotate_left
    · obtain ⟨rfl, rfl⟩ := FAIL [knE 0 p0, stE p1, yrE p2, toE p3 (yrV p2), dsE p4, moE p5, dyE p6] [ofE p8, ltE p9] (parE p7) rfl z7 (List.forall_mem_cons.2 ⟨z0, List.forall_mem_cons.2 ⟨z1, List.forall_mem_cons.2 ⟨z2, List.forall_mem_cons.2 ⟨z3, List.forall_mem_cons.2 ⟨z4, List.forall_mem_cons.2 ⟨z5, List.forall_mem_cons.2 ⟨z6, fun e he => by cases he⟩⟩⟩⟩⟩⟩⟩)
      exact rr_f7o L off c p0 p1 p2 p3 p4 p5 p6 p7 p8 p9 w hL CC l0 l1 l2 l3 l4 l5 l6 l7 H0 H1 _ H2 (Lib.hid h3) H4 f5 (Lib.hid h5) (z_false (by omega)) b5 _ _ _ H6 _ _ _ (ne_not z7) (Lib.hid ⟨rfl, rfl, rfl⟩)
    have H7 : Hid (parN p7 = parN p7 ∧ parK p7 = parK p7 ∧ parE p7 = 0) := Lib.hid ⟨rfl, rfl, z7⟩
    by_cases z8 : ofE p8 = 0
    rotate_left
    · obtain ⟨rfl, rfl⟩ := FAIL [knE 0 p0, stE p1, yrE p2, toE p3 (yrV p2), dsE p4, moE p5, dyE p6, parE p7] [ltE p9] (ofE p8) rfl z8 (List.forall_mem_cons.2 ⟨z0, List.forall_mem_cons.2 ⟨z1, List.forall_mem_cons.2 ⟨z2, List.forall_mem_cons.2 ⟨z3, List.forall_mem_cons.2 ⟨z4, List.forall_mem_cons.2 ⟨z5, List.forall_mem_cons.2 ⟨z6, List.forall_mem_cons.2 ⟨z7, fun e he => by cases he⟩⟩⟩⟩⟩⟩⟩⟩)
      exact rr_f8o L off c p0 p1 p2 p3 p4 p5 p6 p7 p8 p9 w hL CC l0 l1 l2 l3 l4 l5 l6 l7 l8 H0 H1 _ H2 (Lib.hid h3) H4 f5 (Lib.hid h5) (z_false (by omega)) b5 _ _ _ H6 _ _ H7 _ _ (ne_not z8) (Lib.hid ⟨rfl, rfl⟩)
    have H8 : Hid (ofV p8 = ofV p8 ∧ ofE p8 = 0) := Lib.hid ⟨rfl, z8⟩
    rcases lt_cases p9 with ⟨h9, e9⟩ | ⟨h9, z9, hd⟩
    · obtain ⟨rfl, rfl⟩ := FAIL [knE 0 p0, stE p1, yrE p2, toE p3 (yrV p2), dsE p4, moE p5, dyE p6, parE p7, ofE p8] [] (23) (by rw [e9]; rfl) (by decide) (List.forall_mem_cons.2 ⟨z0, List.forall_mem_cons.2 ⟨z1, List.forall_mem_cons.2 ⟨z2, List.forall_mem_cons.2 ⟨z3, List.forall_mem_cons.2 ⟨z4, List.forall_mem_cons.2 ⟨z5, List.forall_mem_cons.2 ⟨z6, List.forall_mem_cons.2 ⟨z7, List.forall_mem_cons.2 ⟨z8, fun e he => by cases he⟩⟩⟩⟩⟩⟩⟩⟩⟩)
      exact rr_f9o L off c p0 p1 p2 p3 p4 p5 p6 p7 p8 p9 w hL CC l0 l1 l2 l3 l4 l5 l6 l7 l8 l9 H0 H1 _ H2 (Lib.hid h3) H4 f5 (Lib.hid h5) (z_false (by omega)) b5 _ _ _ H6 _ _ H7 _ H8 (Lib.hid h9)
    have hx : rlX [p0, p1, p2, p3, p4, p5, p6, p7, p8, p9] = 0 := rule_of rfl (List.forall_mem_cons.2 ⟨z0, List.forall_mem_cons.2 ⟨z1, List.forall_mem_cons.2 ⟨z2, List.forall_mem_cons.2 ⟨z3, List.forall_mem_cons.2 ⟨z4, List.forall_mem_cons.2 ⟨z5, List.forall_mem_cons.2 ⟨z6, List.forall_mem_cons.2 ⟨z7, List.forall_mem_cons.2 ⟨z8, List.forall_mem_cons.2 ⟨z9, fun e he => by cases he⟩⟩⟩⟩⟩⟩⟩⟩⟩⟩)
    have hs : rlS [p0, p1, p2, p3, p4, p5, p6, p7, p8, p9] = ⟨p1, yrV p2, toV p3 (yrV p2), moV p5, dyK p6, dyW p6, dyN p6, parN p7, parK p7, ofV p8, ltV p9⟩ := by unfold rlS; rw [if_pos hx]; rfl
    obtain rfl : v = 0 := by rw [← hv, hx]
    rw [t3, v5] at hs
    rcases hd with ⟨d1, d2⟩ | ⟨d1, d2⟩
    · rw [d2] at hs
      rw [← hr, hs]
      exact rr_sod L off c p0 p1 p2 p3 p4 p5 p6 p7 p8 p9 w hL CC l0 l1 l2 l3 l4 l5 l6 l7 l8 l9 H0 H1 _ H2 (Lib.hid h3) H4 f5 (Lib.hid h5) (z_false (by omega)) b5 _ _ _ H6 _ _ H7 _ H8 (Lib.hid h9) (by simpa using d1)
    · rw [d2] at hs
      rw [← hr, hs]
      exact rr_sop L off c p0 p1 p2 p3 p4 p5 p6 p7 p8 p9 w hL CC l0 l1 l2 l3 l4 l5 l6 l7 l8 l9 H0 H1 _ H2 (Lib.hid h3) H4 f5 (Lib.hid h5) (z_false (by omega)) b5 _ _ _ H6 _ _ H7 _ H8 (Lib.hid h9) (by simpa using d1)
  · by_cases h4 : p4 = [45]
    rotate_left
    · have e : dsE p4 = 12 := by unfold dsE; rw [if_neg h4]
      obtain ⟨rfl, rfl⟩ := FAIL [knE 0 p0, stE p1, yrE p2, toE p3 (yrV p2)] [moE p5, dyE p6, parE p7, ofE p8, ltE p9] (12) (by rw [e]; rfl) (by decide) (List.forall_mem_cons.2 ⟨z0, List.forall_mem_cons.2 ⟨z1, List.forall_mem_cons.2 ⟨z2, List.forall_mem_cons.2 ⟨z3, fun e he => by cases he⟩⟩⟩⟩)
      exact rr_f4m L off c p0 p1 p2 p3 p4 p5 p6 p7 p8 p9 w hL CC l0 l1 l2 l3 l4 H0 H1 _ H2 (Lib.hid h3) (by omega) (by simpa using h4)
    have z4 : dsE p4 = 0 := by unfold dsE; rw [if_pos h4]
    have H4 : (p4 == [45]) = true := by simpa using h4
    rcases mo_cases p5 with ⟨h5, e5⟩ | ⟨f5, h5, b5, z5, v5⟩
    · obtain ⟨rfl, rfl⟩ := FAIL [knE 0 p0, stE p1, yrE p2, toE p3 (yrV p2), dsE p4] [dyE p6, parE p7, ofE p8, ltE p9] (13) (by rw [e5]; rfl) (by decide) (List.forall_mem_cons.2 ⟨z0, List.forall_mem_cons.2 ⟨z1, List.forall_mem_cons.2 ⟨z2, List.forall_mem_cons.2 ⟨z3, List.forall_mem_cons.2 ⟨z4, fun e he => by cases he⟩⟩⟩⟩⟩)
      exact rr_f5m L off c p0 p1 p2 p3 p4 p5 p6 p7 p8 p9 w hL CC l0 l1 l2 l3 l4 l5 H0 H1 _ H2 (Lib.hid h3) (by omega) H4 (Lib.hid h5)
    by_cases z6 : dyE p6 = 0
    rotate_left
    · obtain ⟨rfl, rfl⟩ := FAIL [knE 0 p0, stE p1, yrE p2, toE p3 (yrV p2), dsE p4, moE p5] [parE p7, ofE p8, ltE p9] (dyE p6) rfl z6 (List.forall_mem_cons.2 ⟨z0, List.forall_mem_cons.2 ⟨z1, List.forall_mem_cons.2 ⟨z2, List.forall_mem_cons.2 ⟨z3, List.forall_mem_cons.2 ⟨z4, List.forall_mem_cons.2 ⟨z5, fun e he => by cases he⟩⟩⟩⟩⟩⟩)
      exact rr_f6m L off c p0 p1 p2 p3 p4 p5 p6 p7 p8 p9 w hL CC l0 l1 l2 l3 l4 l5 l6 H0 H1 _ H2 (Lib.hid h3) (by omega) H4 f5 (Lib.hid h5) (z_false (by omega)) b5 _ _ _ _ (ne_not z6) (Lib.hid (day_is p6))
    have H6 : Hid (parsF p6 = (dyK p6, dyW p6, dyN p6, 0)) := Lib.hid (by rw [day_is p6, z6])
    by_cases z7 : parE p7 = 0
    rotate_left
    · obtain ⟨rfl, rfl⟩ := FAIL [knE 0 p0, stE p1, yrE p2, toE p3 (yrV p2), dsE p4, moE p5, dyE p6] [ofE p8, ltE p9] (parE p7) rfl z7 (List.forall_mem_cons.2 ⟨z0, List.forall_mem_cons.2 ⟨z1, List.forall_mem_cons.2 ⟨z2, List.forall_mem_cons.2 ⟨z3, List.forall_mem_cons.2 ⟨z4, List.forall_mem_cons.2 ⟨z5, List.forall_mem_cons.2 ⟨z6, fun e he => by cases he⟩⟩⟩⟩⟩⟩⟩)
      exact rr_f7m L off c p0 p1 p2 p3 p4 p5 p6 p7 p8 p9 w hL CC l0 l1 l2 l3 l4 l5 l6 l7 H0 H1 _ H2 (Lib.hid h3) (by omega) H4 f5 (Lib.hid h5) (z_false (by omega)) b5 _ _ _ H6 _ _ _ (ne_not z7) (Lib.hid ⟨rfl, rfl, rfl⟩)
    have H7 : Hid (parN p7 = parN p7 ∧ parK p7 = parK p7 ∧ parE p7 = 0) := Lib.hid ⟨rfl, rfl, z7⟩
    by_cases z8 : ofE p8 = 0
    rotate_left
    · obtain ⟨rfl, rfl⟩ := FAIL [knE 0 p0, stE p1, yrE p2, toE p3 (yrV p2), dsE p4, moE p5, dyE p6, parE p7] [ltE p9] (ofE p8) rfl z8 (List.forall_mem_cons.2 ⟨z0, List.forall_mem_cons.2 ⟨z1, List.forall_mem_cons.2 ⟨z2, List.forall_mem_cons.2 ⟨z3, List.forall_mem_cons.2 ⟨z4, List.forall_mem_cons.2 ⟨z5, List.forall_mem_cons.2 ⟨z6, List.forall_mem_cons.2 ⟨z7, fun e he => by cases he⟩⟩⟩⟩⟩⟩⟩⟩)
      exact rr_f8m L off c p0 p1 p2 p3 p4 p5 p6 p7 p8 p9 w hL CC l0 l1 l2 l3 l4 l5 l6 l7 l8 H0 H1 _ H2 (Lib.hid h3) (by omega) H4 f5 (Lib.hid h5) (z_false (by omega)) b5 _ _ _ H6 _ _ H7 _ _ (ne_not z8) (Lib.hid ⟨rfl, rfl⟩)
    have H8 : Hid (ofV p8 = ofV p8 ∧ ofE p8 = 0) := Lib.hid ⟨rfl, z8⟩
    rcases lt_cases p9 with ⟨h9, e9⟩ | ⟨h9, z9, hd⟩
    · obtain ⟨rfl, rfl⟩ := FAIL [knE 0 p0, stE p1, yrE p2, toE p3 (yrV p2), dsE p4, moE p5, dyE p6, parE p7, ofE p8] [] (23) (by rw [e9]; rfl) (by decide) (List.forall_mem_cons.2 ⟨z0, List.forall_mem_cons.2 ⟨z1, List.forall_mem_cons.2 ⟨z2, List.forall_mem_cons.2 ⟨z3, List.forall_mem_cons.2 ⟨z4, List.forall_mem_cons.2 ⟨z5, List.forall_mem_cons.2 ⟨z6, List.forall_mem_cons.2 ⟨z7, List.forall_mem_cons.2 ⟨z8, fun e he => by cases he⟩⟩⟩⟩⟩⟩⟩⟩⟩)
      exact rr_f9m L off c p0 p1 p2 p3 p4 p5 p6 p7 p8 p9 w hL CC l0 l1 l2 l3 l4 l5 l6 l7 l8 l9 H0 H1 _ H2 (Lib.hid h3) (by omega) H4 f5 (Lib.hid h5) (z_false (by omega)) b5 _ _ _ H6 _ _ H7 _ H8 (Lib.hid h9)
    have hx : rlX [p0, p1, p2, p3, p4, p5, p6, p7, p8, p9] = 0 := rule_of rfl (List.forall_mem_cons.2 ⟨z0, List.forall_mem_cons.2 ⟨z1, List.forall_mem_cons.2 ⟨z2, List.forall_mem_cons.2 ⟨z3, List.forall_mem_cons.2 ⟨z4, List.forall_mem_cons.2 ⟨z5, List.forall_mem_cons.2 ⟨z6, List.forall_mem_cons.2 ⟨z7, List.forall_mem_cons.2 ⟨z8, List.forall_mem_cons.2 ⟨z9, fun e he => by cases he⟩⟩⟩⟩⟩⟩⟩⟩⟩⟩)
    have hs : rlS [p0, p1, p2, p3, p4, p5, p6, p7, p8, p9] = ⟨p1, yrV p2, toV p3 (yrV p2), moV p5, dyK p6, dyW p6, dyN p6, parN p7, parK p7, ofV p8, ltV p9⟩ := by unfold rlS; rw [if_pos hx]; rfl
    obtain rfl : v = 0 := by rw [← hv, hx]
    rw [t3, v5] at hs
    rcases hd with ⟨d1, d2⟩ | ⟨d1, d2⟩
    · rw [d2] at hs
      rw [← hr, hs]
      exact rr_smd L off c p0 p1 p2 p3 p4 p5 p6 p7 p8 p9 w hL CC l0 l1 l2 l3 l4 l5 l6 l7 l8 l9 H0 H1 _ H2 (Lib.hid h3) (by omega) H4 f5 (Lib.hid h5) (z_false (by omega)) b5 _ _ _ H6 _ _ H7 _ H8 (Lib.hid h9) (by simpa using d1)
    · rw [d2] at hs
      rw [← hr, hs]
      exact rr_smp L off c p0 p1 p2 p3 p4 p5 p6 p7 p8 p9 w hL CC l0 l1 l2 l3 l4 l5 l6 l7 l8 l9 H0 H1 _ H2 (Lib.hid h3) (by omega) H4 f5 (Lib.hid h5) (z_false (by omega)) b5 _ _ _ H6 _ _ H7 _ H8 (Lib.hid h9) (by simpa using d1)
  · obtain ⟨rfl, rfl⟩ := FAIL [knE 0 p0, stE p1, yrE p2] [dsE p4, moE p5, dyE p6, parE p7, ofE p8, ltE p9] (nrE p3) (by rw [x3]; rfl) n3 (List.forall_mem_cons.2 ⟨z0, List.forall_mem_cons.2 ⟨z1, List.forall_mem_cons.2 ⟨z2, fun e he => by cases he⟩⟩⟩)
    exact rr_f3 L off c p0 p1 p2 p3 p4 p5 p6 p7 p8 p9 w hL CC l0 l1 l2 l3 H0 H1 _ H2 (Lib.hid h3) _ _ (Lib.hid ⟨rfl, rfl⟩) (ne_not n3)
  · obtain ⟨rfl, rfl⟩ := FAIL [knE 0 p0, stE p1, yrE p2] [dsE p4, moE p5, dyE p6, parE p7, ofE p8, ltE p9] (17) (by rw [x3]; rfl) (by decide) (List.forall_mem_cons.2 ⟨z0, List.forall_mem_cons.2 ⟨z1, List.forall_mem_cons.2 ⟨z2, fun e he => by cases he⟩⟩⟩)
    exact rr_f3o L off c p0 p1 p2 p3 p4 p5 p6 p7 p8 p9 w hL CC l0 l1 l2 l3 H0 H1 _ H2 (Lib.hid h3) _ (Lib.hid ⟨rfl, n3⟩) y3
  · by_cases h4 : p4 = [45]
    rotate_left
    · have e : dsE p4 = 12 := by unfold dsE; rw [if_neg h4]
      obtain ⟨rfl, rfl⟩ := FAIL [knE 0 p0, stE p1, yrE p2, toE p3 (yrV p2)] [moE p5, dyE p6, parE p7, ofE p8, ltE p9] (12) (by rw [e]; rfl) (by decide) (List.forall_mem_cons.2 ⟨z0, List.forall_mem_cons.2 ⟨z1, List.forall_mem_cons.2 ⟨z2, List.forall_mem_cons.2 ⟨z3, fun e he => by cases he⟩⟩⟩⟩)
      exact rr_f4n L off c p0 p1 p2 p3 p4 p5 p6 p7 p8 p9 w hL CC l0 l1 l2 l3 l4 H0 H1 _ H2 (Lib.hid h3) _ (Lib.hid ⟨rfl, n3⟩) y3 (by simpa using h4)
    have z4 : dsE p4 = 0 := by unfold dsE; rw [if_pos h4]
    have H4 : (p4 == [45]) = true := by simpa using h4
    rcases mo_cases p5 with ⟨h5, e5⟩ | ⟨f5, h5, b5, z5, v5⟩
    · obtain ⟨rfl, rfl⟩ := FAIL [knE 0 p0, stE p1, yrE p2, toE p3 (yrV p2), dsE p4] [dyE p6, parE p7, ofE p8, ltE p9] (13) (by rw [e5]; rfl) (by decide) (List.forall_mem_cons.2 ⟨z0, List.forall_mem_cons.2 ⟨z1, List.forall_mem_cons.2 ⟨z2, List.forall_mem_cons.2 ⟨z3, List.forall_mem_cons.2 ⟨z4, fun e he => by cases he⟩⟩⟩⟩⟩)
      exact rr_f5n L off c p0 p1 p2 p3 p4 p5 p6 p7 p8 p9 w hL CC l0 l1 l2 l3 l4 l5 H0 H1 _ H2 (Lib.hid h3) _ (Lib.hid ⟨rfl, n3⟩) y3 H4 (Lib.hid h5)
    by_cases z6 : dyE p6 = 0
    rotate_left
    · obtain ⟨rfl, rfl⟩ := FAIL [knE 0 p0, stE p1, yrE p2, toE p3 (yrV p2), dsE p4, moE p5] [parE p7, ofE p8, ltE p9] (dyE p6) rfl z6 (List.forall_mem_cons.2 ⟨z0, List.forall_mem_cons.2 ⟨z1, List.forall_mem_cons.2 ⟨z2, List.forall_mem_cons.2 ⟨z3, List.forall_mem_cons.2 ⟨z4, List.forall_mem_cons.2 ⟨z5, fun e he => by cases he⟩⟩⟩⟩⟩⟩)
      exact rr_f6n L off c p0 p1 p2 p3 p4 p5 p6 p7 p8 p9 w hL CC l0 l1 l2 l3 l4 l5 l6 H0 H1 _ H2 (Lib.hid h3) _ (Lib.hid ⟨rfl, n3⟩) y3 H4 f5 (Lib.hid h5) (z_false (by omega)) b5 _ _ _ _ (ne_not z6) (Lib.hid (day_is p6))
    have H6 : Hid (parsF p6 = (dyK p6, dyW p6, dyN p6, 0)) := Lib.hid (by rw [day_is p6, z6])
    by_cases z7 : parE p7 = 0
    rotate_left
    · obtain ⟨rfl, rfl⟩ := FAIL [knE 0 p0, stE p1, yrE p2, toE p3 (yrV p2), dsE p4, moE p5, dyE p6] [ofE p8, ltE p9] (parE p7) rfl z7 (List.forall_mem_cons.2 ⟨z0, List.forall_mem_cons.2 ⟨z1, List.forall_mem_cons.2 ⟨z2, List.forall_mem_cons.2 ⟨z3, List.forall_mem_cons.2 ⟨z4, List.forall_mem_cons.2 ⟨z5, List.forall_mem_cons.2 ⟨z6, fun e he => by cases he⟩⟩⟩⟩⟩⟩⟩)
      exact rr_f7n L off c p0 p1 p2 p3 p4 p5 p6 p7 p8 p9 w hL CC l0 l1 l2 l3 l4 l5 l6 l7 H0 H1 _ H2 (Lib.hid h3) _ (Lib.hid ⟨rfl, n3⟩) y3 H4 f5 (Lib.hid h5) (z_false (by omega)) b5 _ _ _ H6 _ _ _ (ne_not z7) (Lib.hid ⟨rfl, rfl, rfl⟩)
    have H7 : Hid (parN p7 = parN p7 ∧ parK p7 = parK p7 ∧ parE p7 = 0) := Lib.hid ⟨rfl, rfl, z7⟩
    by_cases z8 : ofE p8 = 0
    rotate_left
    · obtain ⟨rfl, rfl⟩ := FAIL [knE 0 p0, stE p1, yrE p2, toE p3 (yrV p2), dsE p4, moE p5, dyE p6, parE p7] [ltE p9] (ofE p8) rfl z8 (List.forall_mem_cons.2 ⟨z0, List.forall_mem_cons.2 ⟨z1, List.forall_mem_cons.2 ⟨z2, List.forall_mem_cons.2 ⟨z3, List.forall_mem_cons.2 ⟨z4, List.forall_mem_cons.2 ⟨z5, List.forall_mem_cons.2 ⟨z6, List.forall_mem_cons.2 ⟨z7, fun e he => by cases he⟩⟩⟩⟩⟩⟩⟩⟩)
      exact rr_f8n L off c p0 p1 p2 p3 p4 p5 p6 p7 p8 p9 w hL CC l0 l1 l2 l3 l4 l5 l6 l7 l8 H0 H1 _ H2 (Lib.hid h3) _ (Lib.hid ⟨rfl, n3⟩) y3 H4 f5 (Lib.hid h5) (z_false (by omega)) b5 _ _ _ H6 _ _ H7 _ _ (ne_not z8) (Lib.hid ⟨rfl, rfl⟩)
    have H8 : Hid (ofV p8 = ofV p8 ∧ ofE p8 = 0) := Lib.hid ⟨rfl, z8⟩
    rcases lt_cases p9 with ⟨h9, e9⟩ | ⟨h9, z9, hd⟩
    · obtain ⟨rfl, rfl⟩ := FAIL [knE 0 p0, stE p1, yrE p2, toE p3 (yrV p2), dsE p4, moE p5, dyE p6, parE p7, ofE p8] [] (23) (by rw [e9]; rfl) (by decide) (List.forall_mem_cons.2 ⟨z0, List.forall_mem_cons.2 ⟨z1, List.forall_mem_cons.2 ⟨z2, List.forall_mem_cons.2 ⟨z3, List.forall_mem_cons.2 ⟨z4, List.forall_mem_cons.2 ⟨z5, List.forall_mem_cons.2 ⟨z6, List.forall_mem_cons.2 ⟨z7, List.forall_mem_cons.2 ⟨z8, fun e he => by cases he⟩⟩⟩⟩⟩⟩⟩⟩⟩)
      exact rr_f9n L off c p0 p1 p2 p3 p4 p5 p6 p7 p8 p9 w hL CC l0 l1 l2 l3 l4 l5 l6 l7 l8 l9 H0 H1 _ H2 (Lib.hid h3) _ (Lib.hid ⟨rfl, n3⟩) y3 H4 f5 (Lib.hid h5) (z_false (by omega)) b5 _ _ _ H6 _ _ H7 _ H8 (Lib.hid h9)
    have hx : rlX [p0, p1, p2, p3, p4, p5, p6, p7, p8, p9] = 0 := rule_of rfl (List.forall_mem_cons.2 ⟨z0, List.forall_mem_cons.2 ⟨z1, List.forall_mem_cons.2 ⟨z2, List.forall_mem_cons.2 ⟨z3, List.forall_mem_cons.2 ⟨z4, List.forall_mem_cons.2 ⟨z5, List.forall_mem_cons.2 ⟨z6, List.forall_mem_cons.2 ⟨z7, List.forall_mem_cons.2 ⟨z8, List.forall_mem_cons.2 ⟨z9, fun e he => by cases he⟩⟩⟩⟩⟩⟩⟩⟩⟩⟩)
    have hs : rlS [p0, p1, p2, p3, p4, p5, p6, p7, p8, p9] = ⟨p1, yrV p2, toV p3 (yrV p2), moV p5, dyK p6, dyW p6, dyN p6, parN p7, parK p7, ofV p8, ltV p9⟩ := by unfold rlS; rw [if_pos hx]; rfl
    obtain rfl : v = 0 := by rw [← hv, hx]
    rw [t3, v5] at hs
    rcases hd with ⟨d1, d2⟩ | ⟨d1, d2⟩
    · rw [d2] at hs
      rw [← hr, hs]
      exact rr_snd L off c p0 p1 p2 p3 p4 p5 p6 p7 p8 p9 w hL CC l0 l1 l2 l3 l4 l5 l6 l7 l8 l9 H0 H1 _ H2 (Lib.hid h3) _ (Lib.hid ⟨rfl, n3⟩) y3 H4 f5 (Lib.hid h5) (z_false (by omega)) b5 _ _ _ H6 _ _ H7 _ H8 (Lib.hid h9) (by simpa using d1)
    · rw [d2] at hs
      rw [← hr, hs]
      exact rr_snp L off c p0 p1 p2 p3 p4 p5 p6 p7 p8 p9 w hL CC l0 l1 l2 l3 l4 l5 l6 l7 l8 l9 H0 H1 _ H2 (Lib.hid h3) _ (Lib.hid ⟨rfl, n3⟩) y3 H4 f5 (Lib.hid h5) (z_false (by omega)) b5 _ _ _ H6 _ _ H7 _ H8 (Lib.hid h9) (by simpa using d1)

theorem rrule_is (A : Option Addr) (n c : Nat) (ws : List (List UInt8)) (w : World) (hn : ws.length = n) (hl : ∀ p ∈ ws, p.length ≤ 100) (hW : ArgW A ws w) (r : RV) (v : Int) (hr : Hid (rlS ws = r ∧ rlX ws = v)) :
    Calls Tryz.prog 20 #[.slice A n c] w fun e w' => e = .returned (.tuple #[rvV r, .int .i64 v]) ∧ Below w.heap.size w w' := by
  by_cases h : n = 10
  · subst h
    obtain ⟨L, off, rfl, hW'⟩ := hW.some (by omega)
    obtain ⟨p0, p1, p2, p3, p4, p5, p6, p7, p8, p9, rfl⟩ : ∃ p0 p1 p2 p3 p4 p5 p6 p7 p8 p9, ws = [p0, p1, p2, p3, p4, p5, p6, p7, p8, p9] := by
      match ws, hn with
      | [p0, p1, p2, p3, p4, p5, p6, p7, p8, p9], _ => exact ⟨p0, p1, p2, p3, p4, p5, p6, p7, p8, p9, rfl⟩
    have hLw : L < w.heap.size := wcell_lt (hW' 0 p0 rfl)
    refine rrule_ten L off c p0 p1 p2 p3 p4 p5 p6 p7 p8 p9 w hLw (Lib.hid fun W k => ?_) (hl p0 (by simp)) (hl p1 (by simp)) (hl p2 (by simp)) (hl p3 (by simp)) (hl p4 (by simp)) (hl p5 (by simp)) (hl p6 (by simp)) (hl p7 (by simp)) (hl p8 (by simp)) (hl p9 (by simp)) r v hr.out.1 hr.out.2
    have g : ∀ i p, [p0, p1, p2, p3, p4, p5, p6, p7, p8, p9][i]? = some p → W.cell? ⟨L, off + i, none⟩ = some (.string ⟨p.toArray⟩) := fun i p hp => by
      rw [k.cell (p := ⟨L, off + i, none⟩) hLw]; exact hW' i p hp
    exact ⟨g 0 p0 rfl, g 1 p1 rfl, g 2 p2 rfl, g 3 p3 rfl, g 4 p4 rfl, g 5 p5 rfl, g 6 p6 rfl, g 7 p7 rfl, g 8 p8 rfl, g 9 p9 rfl⟩
  · have e1 : rlX ws = 14 := by unfold rlX; rw [if_neg (by omega)]
    have e2 : rlS ws = r0 := by unfold rlS; rw [e1]; rfl
    obtain ⟨rfl, rfl⟩ := hr.out
    rw [e1, e2]
    exact rrule_many A n c w h

end Go.Proofs.YtfmehdophoejiaaGreatDoor
