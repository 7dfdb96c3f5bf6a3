/- For every two numbers a and b of 64 bits the law NumRound returns true, and nothing that was in memory changes: there are no other conditions. -/
import Derived.Test.YtpcobmjalohfbaaRoundA
namespace Go.Proofs.Ytpcobmjalohfbaa.numRound
open Go.ChangeShapes Go.WideShapes Go.ChangeAt Go.RowKit

theorem fdiv_bd (a b : Int) (ha1 : -9223372036854775808 ≤ a) (ha2 : a ≤ 9223372036854775807) (hb : b ≠ 0) (ho : ¬ (a = -9223372036854775808 ∧ b = -1)) :
    -9223372036854775808 ≤ a.fdiv b ∧ a.fdiv b ≤ 9223372036854775807 := by
  by_cases hc : a.tmod b ≠ 0 ∧ ¬ (a.tmod b < 0 ↔ b < 0)
  · have h1 := tdiv_bd2 a b ha1 ha2 hb hc.1
    have h2 := (cross_yes a b hb hc.1 hc.2).1
    omega
  · have h1 := tdiv_bd a b ha1 ha2 hb ho
    have h2 := (cross_no a b (by omega)).1
    omega

theorem divV_of {a b : Int} (hb : b ≠ 0) (ho : ¬ (a = -9223372036854775808 ∧ b = -1)) : divV a b = a.fdiv b := by unfold divV; rw [if_neg hb, if_neg ho]
theorem divE_of {a b : Int} (hb : b ≠ 0) (ho : ¬ (a = -9223372036854775808 ∧ b = -1)) : divE a b = 0 := by unfold divE; rw [if_neg hb, if_neg ho]
theorem modV_of {a b : Int} (hb : b ≠ 0) : modV a b = a.fmod b := by unfold modV; rw [if_neg hb]

theorem walk (a b : Int) (w : World) (ha1 : -9223372036854775808 ≤ a) (ha2 : a ≤ 9223372036854775807) (hb1 : -9223372036854775808 ≤ b) (hb2 : b ≤ 9223372036854775807) :
    Calls Try.prog 6 #[.int .i64 a, .int .i64 b] w fun e w' => e = .returned (.bool true) ∧ Below w.heap.size w w' := by
  by_cases hb : b = 0
  · subst hb; exact walk_zero a w ha1 ha2
  · have hb0 : (b == 0) = false := by simp [hb]
    have m1e : modE b = 0 := by unfold modE; rw [if_neg hb]
    have hmul : (-9223372036854775808 ≤ a * b ∧ a * b ≤ 9223372036854775807) → divV (a * b) b = a ∧ divE (a * b) b = 0 ∧ modV (a * b) b = 0 := by
      intro hm
      have ho : ¬ (a * b = -9223372036854775808 ∧ b = -1) := by
        rintro ⟨h1, rfl⟩
        omega
      exact ⟨by rw [divV_of hb ho, Int.mul_fdiv_cancel a hb], divE_of hb ho, by rw [modV_of hb, Int.mul_fmod_left]⟩
    by_cases hs : -9223372036854775808 ≤ a + b ∧ a + b ≤ 9223372036854775807
    · have ho : ¬ (a = -9223372036854775808 ∧ b = -1) := by omega
      have m2 : modV (a + b) b = modV a b := by rw [modV_of hb, modV_of hb, Int.add_fmod_right]
      have hq : (a + b).fdiv b = a.fdiv b + 1 := by
        have := Int.add_mul_fdiv_right a 1 hb
        rw [Int.one_mul] at this
        exact this
      by_cases hz : a + b = -9223372036854775808 ∧ b = -1
      · have d2e : divE (a + b) b = 11 := by unfold divE; rw [if_neg hb, if_pos hz]
        by_cases hm : -9223372036854775808 ≤ a * b ∧ a * b ≤ 9223372036854775807
        · obtain ⟨k1, k2, k3⟩ := hmul hm
          exact walk_zy a b _ 0 _ _ _ w ha1 ha2 hb1 hb2 hb0 m1e (fitE_in hs.1 hs.2) (fitE_in hm.1 hm.2) rfl (fitV_in hs.1 hs.2) hs.1 hs.2 rfl (divE_of hb ho) d2e m2 (fitV_in hm.1 hm.2) hm.1 hm.2 k1 k2 k3
        · exact walk_zn a b _ 0 _ _ 0 w ha1 ha2 hb1 hb2 hb0 m1e (fitE_in hs.1 hs.2) (fitE_out hm) rfl (fitV_in hs.1 hs.2) hs.1 hs.2 rfl (divE_of hb ho) d2e m2
      · have hbd := fdiv_bd (a + b) b hs.1 hs.2 hb hz
        have d2 : divV (a + b) b = a.fdiv b + 1 := by rw [divV_of hb hz, hq]
        have hw : wrap64 (divV a b + 1) = a.fdiv b + 1 := by rw [divV_of hb ho, wrap64_in _ (by omega) (by omega)]
        by_cases hm : -9223372036854775808 ≤ a * b ∧ a * b ≤ 9223372036854775807
        · obtain ⟨k1, k2, k3⟩ := hmul hm
          exact walk_yy a b _ _ _ _ _ w ha1 ha2 hb1 hb2 hb0 m1e (fitE_in hs.1 hs.2) (fitE_in hm.1 hm.2) rfl (fitV_in hs.1 hs.2) hs.1 hs.2 rfl (divE_of hb ho) (divE_of hb hz) m2 d2 hw (fitV_in hm.1 hm.2) hm.1 hm.2 k1 k2 k3
        · exact walk_yn a b _ _ _ _ 0 w ha1 ha2 hb1 hb2 hb0 m1e (fitE_in hs.1 hs.2) (fitE_out hm) rfl (fitV_in hs.1 hs.2) hs.1 hs.2 rfl (divE_of hb ho) (divE_of hb hz) m2 d2 hw
    · by_cases hm : -9223372036854775808 ≤ a * b ∧ a * b ≤ 9223372036854775807
      · obtain ⟨k1, k2, k3⟩ := hmul hm
        exact walk_ny a b 0 0 _ 0 _ w ha1 ha2 hb1 hb2 hb0 m1e (fitE_out hs) (fitE_in hm.1 hm.2) rfl (fitV_in hm.1 hm.2) hm.1 hm.2 k1 k2 k3
      · exact walk_nn a b 0 0 _ 0 0 w ha1 ha2 hb1 hb2 hb0 m1e (fitE_out hs) (fitE_out hm) rfl

theorem wf_bd {n : Int} (h : (Lit.int .i64 n).wf = true) : -9223372036854775808 ≤ n ∧ n ≤ 9223372036854775807 := by
  simpa [Lit.wf, IntKind.min, IntKind.max, IntKind.bits, IntKind.signed] using h

set_option maxRecDepth 100000 in
theorem lifted (os : Os) (started : os.Started) (H : Type) (enc : TypeId × Value → H) :
    ReturnsInHanded {} Try.checked os 6 .any (Rows.numRoundSpec.pre6 enc Try.prog Try.f6 Rows.numRoundRow.domain false) (Rows.numRoundSpec.post enc Try.prog Try.f6 false true false false) := by
  refine returnsInHanded_of_change (C := Try.checked) own started (by kernel_rfl) Try.func6
    (ChangeSpec.witness6 (enc := enc) (C := Try.checked) false ⟨#[], #[.int .i64 0, .int .i64 0], []⟩ 8 (by kernel_rfl) (by kernel_rfl) (by kernel_rfl) (by kernel_rfl)) ?_
  intro W base args ds gs before hval0 hW hcnd _
  have hval : ∀ (j : Nat) t v, Try.f6.params[j]? = some t → args[j]? = some v → Value.okWide Try.prog W .any base t v := hval0
  have hW' := hW
  obtain ⟨p, q, hA0, hV, rfl, hfz, hnd⟩ := hW
  have hA : DataW.TrodAll enc Try.prog W 0 (fun _ => true) true Try.f6.params.toList args.toList ds p := hA0
  rw [Try.params6] at hA hval
  obtain ⟨v0, vs0, d0, ds0, p0, q0, hargs, rfl, rfl, h0, r0⟩ := trodAll_cons hA
  obtain ⟨v1, vs1, d1, ds1, p1, q1, rfl, rfl, rfl, h1, r1⟩ := trodAll_cons r0
  obtain ⟨rfl, rfl, rfl⟩ := trodAll_nil r1
  obtain rfl : args = #[v0, v1] := by cases args; simp_all
  obtain ⟨rfl, rfl⟩ := trodVars_none hV
  obtain ⟨a0, rfl, rfl, rfl, w0⟩ := open_int Try.underlying3 (hval 0 3 v0 rfl rfl) h0
  obtain ⟨a1, rfl, rfl, rfl, w1⟩ := open_int Try.underlying3 (hval 1 3 v1 rfl rfl) h1
  clear hA0 hval0
  refine (walk a0 a1 W (wf_bd w0).1 (wf_bd w0).2 (wf_bd w1).1 (wf_bd w1).2).mono fun e W' ⟨he, bel⟩ => ?_
  subst he
  exact ⟨_, rfl, _, _, _, [], _, [], hW', trodAll_mk1 (shut_bool Try.underlying4 _), (trodAll_cons_mk (shut_int Try.underlying3 w0) (trodAll_cons_mk (shut_int Try.underlying3 w1) trodAll_mk0)), rfl, bel.frame _, fun h => by cases h⟩

theorem proved : Rows.NumRoundSaid :=
  OpenClaim.holds_of_wide 6 Try.f6 rfl rfl rfl rfl rfl rfl rfl ⟨rfl, rfl, rfl, rfl, rfl⟩ rfl rfl rfl rfl rfl (by kernel_rfl) Try.func6 (by kernel_rfl)
    (of_decide_eq_true (by kernel_rfl)) (by unfold Func.isWrapper; first | (rw [if_pos (by decide +kernel)]; kernel_rfl) | (rw [if_neg (by decide +kernel)]; exact ⟨rfl, rfl⟩))
    (fun os started H enc _ => lifted os started H enc)
#print axioms proved
end Go.Proofs.Ytpcobmjalohfbaa.numRound
