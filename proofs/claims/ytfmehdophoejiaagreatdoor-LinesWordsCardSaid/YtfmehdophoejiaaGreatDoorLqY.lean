/- The contract of the reference's RuleWords: which words a rule has, or that it has none; nothing that was in memory changes. Written by wip/tools/gency.py. -/
import Derived.Test.YtfmehdophoejiaaGreatDoorLqV
import Derived.Test.YtfmehdophoejiaaGreatDoorLqS
import Derived.Test.YtfmehdophoejiaaGreatDoorLoB
import Derived.Deep.Cut
import Derived.Deep.RegionHeld3
namespace Go.Proofs.YtfmehdophoejiaaGreatDoor
open Go Go.RowKit

set_option maxRecDepth 20000 in
set_option maxHeartbeats 25600000 in
theorem rrw_all (nm : List UInt8) (fr tl mo dk dw dn sc ck sv : Int) (lt : List UInt8) (w : World) (HLN : Hid (∀ p ∈ rwR ⟨nm, fr, tl, mo, dk, dw, dn, sc, ck, sv, lt⟩, p.length ≤ 100)) (ok : Bool) (r' : RV) (v : Int)
    (V : ((v != 0) = true ∧ false = ok) ∨ (0 = v ∧ r' = ⟨nm, fr, tl, mo, dk, dw, dn, sc, ck, sv, []⟩ ∧ [45] = lt ∧ false = ok) ∨ (0 = v ∧ r' = ⟨nm, fr, tl, mo, dk, dw, dn, sc, ck, sv, lt⟩ ∧ true = ok)) (HR : Hid (rlS (rwR ⟨nm, fr, tl, mo, dk, dw, dn, sc, ck, sv, lt⟩) = r' ∧ rlX (rwR ⟨nm, fr, tl, mo, dk, dw, dn, sc, ck, sv, lt⟩) = v)) :
    Calls Tryz.prog 28 #[rvV ⟨nm, fr, tl, mo, dk, dw, dn, sc, ck, sv, lt⟩] w (WordsR (rwR ⟨nm, fr, tl, mo, dk, dw, dn, sc, ck, sv, lt⟩) ok w) := by
  obtain ⟨D, hD⟩ : ∃ D, yrR fr = D := ⟨_, rfl⟩
  obtain ⟨Y, hY⟩ : ∃ D, yrR tl = D := ⟨_, rfl⟩
  obtain ⟨U, hU⟩ : ∃ U, (if tl = fr then onlyL else Y) = U := ⟨_, rfl⟩
  obtain ⟨T3, h3⟩ : ∃ T, toR fr tl = T := ⟨_, rfl⟩
  obtain ⟨T5, h5⟩ : ∃ T, mnameL mo = T := ⟨_, rfl⟩
  obtain ⟨T6, h6⟩ : ∃ T, dyT dk dw dn = T := ⟨_, rfl⟩
  obtain ⟨T7, h7⟩ : ∃ T, ckT sc ck = T := ⟨_, rfl⟩
  obtain ⟨T8, h8⟩ : ∃ T, svT sv = T := ⟨_, rfl⟩
  obtain ⟨T9, h9⟩ : ∃ T, orN lt = T := ⟨_, rfl⟩
  have EW : rwR ⟨nm, fr, tl, mo, dk, dw, dn, sc, ck, sv, lt⟩ = [ruleL, nm, D, T3, [45], T5, T6, T7, T8, T9] := by show [ruleL, nm, yrR fr, toR fr tl, [45], mnameL mo, dyT dk dw dn, ckT sc ck, svT sv, orN lt] = _; rw [hD, h3, h5, h6, h7, h8, h9]
  rw [EW] at HR HLN ⊢
  have h3' : (if tl = 1048576 then maxL else U) = T3 := by rw [← h3, ← hU, ← hY]; rfl
  have HU := Lib.hid hU
  have H3 := Lib.hid h3'
  have H9 := Lib.hid h9
  have CY : Hid (∀ W, Calls Tryz.prog 75 #[.int .i64 tl] W fun e w' => e = .returned (.string ⟨Y.toArray⟩) ∧ Below W.heap.size W w') := Lib.hid fun W => ryear_is tl Y W (Lib.hid hY)
  have C2 : Hid (∀ W, Calls Tryz.prog 75 #[.int .i64 fr] W fun e w' => e = .returned (.string ⟨D.toArray⟩) ∧ Below W.heap.size W w') := Lib.hid fun W => ryear_is fr D W (Lib.hid hD)
  have C5 : Hid (∀ W, Calls Tryz.prog 76 #[.int .i64 mo] W fun e w' => e = .returned (.string ⟨T5.toArray⟩) ∧ Below W.heap.size W w') := Lib.hid fun W => rmonth_is mo T5 W (Lib.hid h5)
  have C6 : Hid (∀ W, Calls Tryz.prog 77 #[.agg #[.int .i64 dk, .int .i64 dw, .int .i64 dn]] W fun e w' => e = .returned (.string ⟨T6.toArray⟩) ∧ Below W.heap.size W w') := Lib.hid fun W => rday_is dk dw dn T6 W (Lib.hid h6)
  have C7 : Hid (∀ W, Calls Tryz.prog 78 #[.agg #[.int .i64 sc, .int .i64 ck]] W fun e w' => e = .returned (.string ⟨T7.toArray⟩) ∧ Below W.heap.size W w') := Lib.hid fun W => rclock_is sc ck T7 W (Lib.hid h7)
  have C8 : Hid (∀ W, Calls Tryz.prog 79 #[.int .i64 sv] W fun e w' => e = .returned (.string ⟨T8.toArray⟩) ∧ Below W.heap.size W w') := Lib.hid fun W => rspt_is sv T8 W (Lib.hid h8)
  clear hD hY hU h3 h3' h5 h6 h7 h8 h9 EW
  simp only [rvV]
  go_enter Tryz.func28, Tryz.ntmps28
  go_upto_if 16 with (go_at_call 75
                      refine (CY.out _).mono ?_
                      rintro e w1 ⟨rfl, k1⟩
                      have X := Lib.hid ((BlkN.make (Below.refl _ _) _ _).next k1)
                      obtain ⟨xa0, xa1, xa2, xa3, xa4, xa5, xa6, xa7, xa8, xa9, xa10⟩ := cells11 X.out.blk
                      have xaq := X.out.lt
                      clear k1
                      simp only [])
  go_cut [4] from 9 (fun t wx => t = .string ⟨U.toArray⟩ ∧ w1 = wx)
  case first =>
    by_cases c : tl = fr
    · have c1 : (tl == fr) = true := by simpa using c
      have e : onlyL = U := by rw [← HU.out, if_pos c]
      clear c
      go_wp2
      go_meet
      case rel => exact ⟨by rw [← e]; rfl, rfl⟩
    · have c1 : (tl == fr) = false := by simpa using c
      have e : Y = U := by rw [← HU.out, if_neg c]
      clear c
      go_wp2
      go_meet
      case rel => exact ⟨by rw [← e], rfl⟩
  case rest =>
  obtain ⟨rfl, rfl⟩ := hcut
  go_upto_if 19 with fail
  go_cut [4] from 9 (fun t wx => t = .string ⟨T3.toArray⟩ ∧ w1 = wx)
  case first =>
    by_cases c : tl = 1048576
    · have c1 : (tl == 1048576) = true := by simpa using c
      have e : maxL = T3 := by rw [← H3.out, if_pos c]
      clear c
      go_wp2
      go_meet
      case rel => exact ⟨by rw [← e]; rfl, rfl⟩
    · have c1 : (tl == 1048576) = false := by simpa using c
      have e : U = T3 := by rw [← H3.out, if_neg c]
      clear c
      go_wp2
      go_meet
      case rel => exact ⟨by rw [← e], rfl⟩
  case rest =>
  obtain ⟨rfl, rfl⟩ := hcut
  go_upto_if 23 with fail
  go_cut [5] from 9 (fun t wx => t = .string ⟨T9.toArray⟩ ∧ w1 = wx)
  case first =>
    by_cases c : lt = []
    · have c1 : lt.isEmpty = true := by rw [c]; rfl
      have e : [45] = T9 := by rw [← H9.out, c]; rfl
      clear c
      rw [c1]
      go_wp2
      go_meet
      case rel => exact ⟨by rw [← e], rfl⟩
    · have c1 : lt.isEmpty = false := by cases lt <;> simp_all
      have e : lt = T9 := by rw [← H9.out]; unfold orN; rw [if_neg c]
      clear c
      rw [c1]
      go_wp2
      go_meet
      case rel => exact ⟨by rw [← e], rfl⟩
  case rest =>
  obtain ⟨rfl, rfl⟩ := hcut
  clear HU H3 H9
  go_upto_region 9 with fail
  have SD : w1.drew.cell? ⟨w.heap.size, 0, none⟩ = some (.string ⟨nm.toArray⟩) ∧ w1.drew.cell? ⟨w.heap.size, 1, none⟩ = some (.int .i64 fr) ∧ w1.drew.cell? ⟨w.heap.size, 2, none⟩ = some (.int .i64 tl) ∧ w1.drew.cell? ⟨w.heap.size, 3, none⟩ = some (.int .i64 mo) ∧ w1.drew.cell? ⟨w.heap.size, 4, none⟩ = some (.int .i64 dk) ∧ w1.drew.cell? ⟨w.heap.size, 5, none⟩ = some (.int .i64 dw) ∧ w1.drew.cell? ⟨w.heap.size, 6, none⟩ = some (.int .i64 dn) ∧ w1.drew.cell? ⟨w.heap.size, 7, none⟩ = some (.int .i64 sc) ∧ w1.drew.cell? ⟨w.heap.size, 8, none⟩ = some (.int .i64 ck) ∧ w1.drew.cell? ⟨w.heap.size, 9, none⟩ = some (.int .i64 sv) ∧ w1.drew.cell? ⟨w.heap.size, 10, none⟩ = some (.string ⟨lt.toArray⟩) := cells11 X.out.drew.blk
  go_region_held3 (fun w' => w'.cell? ⟨w.heap.size, 0, none⟩ = some (.string ⟨nm.toArray⟩) ∧ w'.cell? ⟨w.heap.size, 1, none⟩ = some (.int .i64 fr) ∧ w'.cell? ⟨w.heap.size, 2, none⟩ = some (.int .i64 tl) ∧ w'.cell? ⟨w.heap.size, 3, none⟩ = some (.int .i64 mo) ∧ w'.cell? ⟨w.heap.size, 4, none⟩ = some (.int .i64 dk) ∧ w'.cell? ⟨w.heap.size, 5, none⟩ = some (.int .i64 dw) ∧ w'.cell? ⟨w.heap.size, 6, none⟩ = some (.int .i64 dn) ∧ w'.cell? ⟨w.heap.size, 7, none⟩ = some (.int .i64 sc) ∧ w'.cell? ⟨w.heap.size, 8, none⟩ = some (.int .i64 ck) ∧ w'.cell? ⟨w.heap.size, 9, none⟩ = some (.int .i64 sv) ∧ w'.cell? ⟨w.heap.size, 10, none⟩ = some (.string ⟨lt.toArray⟩)) (first | exact SD | exact cells11 X.out.blk | go_keep | exact cells11 (X.out.drew.next k5).blk | exact cells11 ((X.out.drew.next k5).next k6).blk | exact cells11 (((X.out.drew.next k5).next k6).next k7).blk | exact cells11 ((((X.out.drew.next k5).next k6).next k7).next k8).blk | exact cells11 (((((X.out.drew.next k5).next k6).next k7).next k8).next k9).blk) (first
    | (go_at_call 75; refine (C2.out _).mono ?_; rintro e w5 ⟨rfl, k5⟩; simp only [])
    | (go_at_call 76; refine (C5.out _).mono ?_; rintro e w6 ⟨rfl, k6⟩; simp only [])
    | (go_at_call 77; refine (C6.out _).mono ?_; rintro e w7 ⟨rfl, k7⟩; simp only [])
    | (go_at_call 78; refine (C7.out _).mono ?_; rintro e w8 ⟨rfl, k8⟩; simp only [])
    | (go_at_call 79; refine (C8.out _).mono ?_; rintro e w9 ⟨rfl, k9⟩; simp only []))
  have X9 := Lib.hid (((((X.out.drew.next k5).next k6).next k7).next k8).next k9)
  clear SD k5 k6 k7 k8 k9 xa0 xa1 xa2 xa3 xa4 xa5 xa6 xa7 xa8 xa9 xa10 xaq X
  rcases V with ⟨hv, rfl⟩ | ⟨rfl, rfl, rfl, rfl⟩ | ⟨rfl, rfl, rfl⟩
  all_goals
    go_wp2_with (go_at_call 20
                 refine (rruleq_is _ 10 [ruleL, nm, D, T3, [45], T5, T6, T7, T8, T9] _ rfl HLN.out ?_ _ _ HR).mono ?_
                 · exact (ListAt.newE _ [ruleL, nm, D, T3, [45], T5, T6, T7, T8, T9] _ _ _ (by simp) rfl).arg
                 rintro e wa ⟨rfl, ka⟩
                 have XA := Lib.hid ((X9.out.more _).next ka)
                 have LA : Hid (ListAt w9.heap.size [ruleL, nm, D, T3, [45], T5, T6, T7, T8, T9] wa) := Lib.hid ((ListAt.newE _ [ruleL, nm, D, T3, [45], T5, T6, T7, T8, T9] _ _ _ (by simp) rfl).next ka)
                 clear ka X9
                 obtain ⟨xe0, xe1, xe2, xe3, xe4, xe5, xe6, xe7, xe8, xe9, xe10⟩ := cells11 XA.out.blk
                 have xeq := XA.out.lt
                 simp only [rvV])
    go_ret2
    first | exact .inr ⟨rfl, rfl, (XA.out.more _).bel⟩ | exact .inl ⟨rfl, _, _, rfl, ((LA.out.next ((Below.refl _ _).alloc (Nat.le_refl _) _))).arg, (XA.out.more _).bel⟩
/-- RuleWords of the reference. -/
theorem rrwords_is (r : RV) (w : World) (h1 : r.nm.length ≤ 80) (h2 : r.lt.length ≤ 80) :
    Calls Tryz.prog 28 #[rvV r] w (WordsR (rwR r) (rwB r) w) := by
  have V := rule_readR r _ rfl
  have HLN := Lib.hid (rwR_len r h1 h2)
  obtain ⟨nm, fr, tl, mo, dk, dw, dn, sc, ck, sv, lt⟩ := r
  exact rrw_all nm fr tl mo dk dw dn sc ck sv lt w HLN _ _ _ V (Lib.hid ⟨rfl, rfl⟩)
end Go.Proofs.YtfmehdophoejiaaGreatDoor
