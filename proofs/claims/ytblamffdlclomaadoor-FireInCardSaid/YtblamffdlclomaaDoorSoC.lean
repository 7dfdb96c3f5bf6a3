/- The contract of slices.insertionSortCmpFunc at a row of structs: things one after the other, each behind all that are no greater. -/
import Derived.Test.YtblamffdlclomaaDoorSoB
namespace Go.Proofs.YtblamffdlclomaaDoor
open Go Go.RowKit Go.Sort Go.Lib
section
variable {α : Type} [Inhabited α]

set_option maxHeartbeats 4000000 in
set_option maxRecDepth 100000 in
theorem sins_is (k : Nat) (zE : ∀ w, (Go.sizeOf 36).run Tryd.prog w = .ok k w) (enc : α → List Value) (cf : α → α → Int) (O : WOrd (ltOf cf)) (g : Nat) (cb : Array Value) (eg : ∀ args w, (callFunc g args).run Tryd.prog w = .ok (.enter g args) w) (blk off cap N a b : Nat) (d0 : Array α) (w0 w : World) (X D Y : List α)
    (R : RowK enc k w0 blk off d0) (C : CmpLays Tryd.prog g cb enc k cf blk off d0.size w0) (S : SWK enc k w0 blk off (X ++ (D ++ Y)).toArray w) (hs : (X ++ (D ++ Y)).length = d0.size) (ha : X.length = a) (hb : a + D.length = b) (hN : N = d0.size) (hsz : N < 4611686018427387904) :
    Calls Tryd.prog 45 #[.slice (some ⟨blk, off, none⟩) N cap, .int .i64 a, .int .i64 b, .func (.func g) #[] cb] w fun e w' => e = .returned (.tuple #[]) ∧ SWK enc k w0 blk off (X ++ (iso (ltOf cf) D ++ Y)).toArray w' := by
  have mixed : Tryd.prog.follows .mixedOrders = true := by kernel_rfl
  have S0 : Aside (SWK enc k w0 blk off (X ++ (D ++ Y)).toArray w) := S
  have CC : Aside (CmpLays Tryd.prog g cb enc k cf blk off d0.size w0) := C
  have hlen : X.length + D.length + Y.length = N := by rw [hN, ← hs]; simp only [List.length_append]; omega
  have HN := Lib.hid hN
  clear S hN C
  go_enter Tryd.func45, Tryd.ntmps45
  go_wp2
  go_loopg [8] D.length (fun g1 vi wr => ∃ (i : Nat) (D1 D2 : List α), vi = .int .i64 i ∧ a < i ∧ i ≤ b + 1 ∧ b + 1 - i ≤ g1 ∧ D = D1 ++ D2 ∧ D1.length = min (i - a) D.length ∧ Aside (SWK enc k w0 blk off (X ++ (iso (ltOf cf) D1 ++ (D2 ++ Y))).toArray wr))
  case atStart =>
    refine ⟨a + 1, D.take 1, D.drop 1, by go_num, by omega, by omega, by omega, (List.take_append_drop 1 D).symm, by rw [List.length_take, show a + 1 - a = 1 by omega], ?_⟩
    have : X ++ (iso (ltOf cf) (D.take 1) ++ (D.drop 1 ++ Y)) = X ++ (D ++ Y) := by
      cases D with
      | nil => rfl
      | cons x r => simp [iso, mrg, ins]
    rw [this]; exact S0
  case round =>
    clear S0 hs
    obtain ⟨i, D1, D2, rfl, hai, hib, hg1, hD, hl1, S1⟩ := hrel
    by_cases hlt : i < b
    · have hltz : (i : Int) < (b : Int) := by omega
      have hl : D1.length = i - a := by omega
      obtain ⟨x, D3, rfl⟩ : ∃ x r, D2 = x :: r := by
        cases D2 with
        | nil => exfalso; rw [List.append_nil] at hD; rw [hD] at hb; omega
        | cons u r => exact ⟨u, r, rfl⟩
      have hld : D1.length + 1 + D3.length = D.length := by rw [hD]; simp; omega
      go_wp2
      go_loopg [9] i (fun g2 vj wr2 => ∃ (j : Nat) (S1 S2 : List α), vj = .int .i64 j ∧ a ≤ j ∧ j ≤ i ∧ j ≤ g2 ∧ S1.length = j - a ∧ Hid (S1 ++ S2 = iso (ltOf cf) D1) ∧ Hid (∀ s, S2[0]? = some s → ltOf cf x s = true) ∧ Aside (SWK enc k w0 blk off (X ++ ((S1 ++ x :: S2) ++ (D3 ++ Y))).toArray wr2))
      case atStart => exact ⟨i, iso (ltOf cf) D1, [], rfl, by omega, Nat.le_refl _, Nat.le_refl _, by rw [iso_len]; omega, (show Hid _ from by show _ = _; simp), fun s hs => by simp at hs, by
        have : X ++ ((iso (ltOf cf) D1 ++ x :: []) ++ (D3 ++ Y)) = X ++ (iso (ltOf cf) D1 ++ (x :: D3 ++ Y)) := by simp
        rw [this]; exact S1⟩
      case round =>
        clear S1
        obtain ⟨j, S1, S2, rfl, haj, hji, hg2, hlS, HE, HL, SS⟩ := hrel
        have hlS2 : S1.length + S2.length = i - a := by have := congrArg List.length HE.out; rw [List.length_append, iso_len] at this; omega
        have hsz1 : (X ++ ((S1 ++ x :: S2) ++ (D3 ++ Y))).length = d0.size := by rw [← HN.out]; simp only [List.length_append, List.length_cons]; omega
        have OUT : Aside ((∀ s ∈ S1, ltOf cf x s = false) → ∃ D1' D2', D = D1' ++ D2' ∧ D1'.length = min (i + 1 - a) D.length ∧ ∀ W, SWK enc k w0 blk off (X ++ ((S1 ++ x :: S2) ++ (D3 ++ Y))).toArray W → Aside (SWK enc k w0 blk off (X ++ (iso (ltOf cf) D1' ++ (D2' ++ Y))).toArray W)) := by
          intro hall
          refine ⟨D1 ++ [x], D3, by rw [hD]; simp, by rw [List.length_append, List.length_singleton]; omega, fun W hW => ?_⟩
          rw [iso_snoc, ← HE.out, ins_at hall HL.out]
          exact hW
        by_cases hja : a < j
        · obtain ⟨jp, rfl⟩ : ∃ jp, j = jp + 1 := ⟨j - 1, by omega⟩
          obtain ⟨S3, z, rfl⟩ : ∃ S3 z, S1 = S3 ++ [z] := by
            rcases List.eq_nil_or_concat S1 with h | ⟨l, z, h⟩
            · rw [h] at hlS; simp at hlS; omega
            · exact ⟨l, z, by simpa using h⟩
          have hl3 : X.length + S3.length = jp := by simp at hlS; omega
          have hrow : X ++ (((S3 ++ [z]) ++ x :: S2) ++ (D3 ++ Y)) = (X ++ S3) ++ z :: ([] ++ x :: (S2 ++ (D3 ++ Y))) := by simp
          have gx : (X ++ (((S3 ++ [z]) ++ x :: S2) ++ (D3 ++ Y)))[jp + 1]? = some x := by
            rw [hrow, List.getElem?_append_right (by simp; omega)]; simp [← hl3]
          have gz : (X ++ (((S3 ++ [z]) ++ x :: S2) ++ (D3 ++ Y)))[jp]? = some z := by
            rw [hrow, List.getElem?_append_right (by simp; omega)]; simp [← hl3]
          have hjaz : (a : Int) < (jp : Int) + 1 := by omega
          have hjaz2 : (a : Int) < ((jp + 1 : Nat) : Int) := by omega
          have hwp : IntKind.i64.wrap (jp : Int) = (jp : Int) := by rw [IntKind.wrap_i64]; omega
          have jz : (jp : Int) + 1 < (N : Int) := by omega
          have jz1 : (jp : Int) < (N : Int) := by omega
          have p0 : (0 : Int) ≤ (jp : Int) + 1 := by omega
          have e0 : ((jp : Int) + 1).toNat = jp + 1 := by omega
          obtain ⟨q1, q2, q3, q4, q5⟩ := cmpd_any SS.out R CC.out hsz1 gx gz
          have HM := Lib.hid hrow
          clear gx gz hrow
          generalize hcv : cf x z = cv at q5
          have HV := Lib.hid hcv
          clear hcv
          by_cases hlv : cv < 0
          · have XC : Aside (∀ W, SWK enc k w0 blk off (X ++ (((S3 ++ [z]) ++ x :: S2) ++ (D3 ++ Y))).toArray W → Xch enc k w0 blk off (jp + 1) jp x z ((X ++ S3) ++ x :: ([] ++ z :: (S2 ++ (D3 ++ Y)))) W) := fun W hW =>
              xch_down hW R hsz1 HM.out (by simp; omega) (by simp; omega)
            have GR : Aside (∀ n os, SWK enc k w0 blk off (X ++ (((S3 ++ [z]) ++ x :: S2) ++ (D3 ++ Y))).toArray (grow (wr.drewN n) os)) := fun n os => SS.out.grown n os
            clear SS
            generalize enc x = cX at q1 q3 q5
            generalize enc z = cZ at q2 q4 q5
            go_wp2_with fail
            go_quiet_grown (first | (go_at_fn g; refine Calls.grown_of (q5 _ _)))
            go_wp2_with fail
            have hw2 := GR.out nq osq
            clear q1 q2 q3 q4 q5 GR
            generalize grow (wr.drewN nq) osq = wq2 at hw2 ⊢
            obtain ⟨q1, q2, q3, q4, q5, q6, q7⟩ := XC.out wq2 hw2
            have S2' : Aside _ := q7
            clear q7 hw2 XC
            generalize enc x = cX at q1 q3 q4 q5 S2'
            generalize enc z = cZ at q2 q3 q4 q6 S2'
            go_big_region_o
            clear q1 q2 q3 q4
            generalize (wq2.drew.setCells blk (off + (jp + 1) * k) cZ).setCells blk (off + jp * k) cX = w3 at S2' ⊢
            go_wp2
            go_roundg jp
            case measure => omega
            case rel =>
              refine ⟨jp, S3, z :: S2, by first | rfl | go_num | exact congrArg (Value.int .i64) (by omega), by omega, by omega, Nat.le_refl _, by omega, (show Hid _ from ?_), (show Hid _ from ?_), ?_⟩
              · show _ = _; rw [← HE.out]; simp
              · intro s hs; simp at hs; subst hs; exact decide_eq_true (by rw [HV.out]; exact hlv)
              · have : X ++ ((S3 ++ x :: (z :: S2)) ++ (D3 ++ Y)) = (X ++ S3) ++ x :: ([] ++ z :: (S2 ++ (D3 ++ Y))) := by simp
                rw [this]; exact S2'
          · have GR : Aside (∀ n os, SWK enc k w0 blk off (X ++ (((S3 ++ [z]) ++ x :: S2) ++ (D3 ++ Y))).toArray (grow (wr.drewN n) os)) := fun n os => SS.out.grown n os
            clear SS
            generalize enc x = cX at q1 q3 q5
            generalize enc z = cZ at q2 q4 q5
            go_wp2_with fail
            go_quiet_grown (first | (go_at_fn g; refine Calls.grown_of (q5 _ _)))
            go_wp2
            go_roundg (b + 1 - (i + 1))
            case measure => omega
            case rel =>
              obtain ⟨D1', D2', t1, t2, t3⟩ := OUT.out (srt_last O (by
                have := iso_srt O D1
                rw [← HE.out] at this
                exact (List.pairwise_append.1 this).1) (decide_eq_false (by rw [HV.out]; omega)))
              exact ⟨i + 1, D1', D2', by go_num, by omega, by omega, by omega, t1, t2, t3 _ (GR.out nq osq)⟩
        · have hjaz : decide ((j : Int) > (a : Int)) = false := decide_eq_false (by omega)
          have hjaz' : ¬ (a : Int) < (j : Int) := by omega
          have hS1 : S1 = [] := List.length_eq_zero_iff.1 (by omega)
          have DR : Aside (SWK enc k w0 blk off (X ++ ((S1 ++ x :: S2) ++ (D3 ++ Y))).toArray wr.drew) := SS.out.drew
          clear SS
          go_wp2_with fail
          go_big_region_o
          all_goals go_wp2
          go_roundg (b + 1 - (i + 1))
          case measure => omega
          case rel =>
            obtain ⟨D1', D2', t1, t2, t3⟩ := OUT.out (by rw [hS1]; simp)
            exact ⟨i + 1, D1', D2', by go_num, by omega, by omega, by omega, t1, t2, t3 _ DR.out⟩
    · have hltz : ¬ (i : Int) < (b : Int) := by omega
      have hD2 : D2 = [] := List.length_eq_zero_iff.1 (by have := congrArg List.length hD; rw [List.length_append] at this; omega)
      subst hD2
      rw [List.append_nil] at hD
      subst hD
      go_wp2
      go_end0
      exact ⟨rfl, by simpa using S1.out⟩
end
end Go.Proofs.YtblamffdlclomaaDoor
