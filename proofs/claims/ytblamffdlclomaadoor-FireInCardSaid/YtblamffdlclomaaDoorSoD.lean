/- The contract of slices.symMergeCmpFunc at a row of structs, where one of the two parts is a single thing. -/
import Derived.Test.YtblamffdlclomaaDoorSoC
namespace Go.Proofs.YtblamffdlclomaaDoor
open Go Go.RowKit Go.Sort Go.Lib
section
variable {α : Type} [Inhabited α]

set_option maxHeartbeats 4000000 in
set_option maxRecDepth 100000 in
theorem smrg_left (k : Nat) (zE : ∀ w, (Go.sizeOf 36).run Tryd.prog w = .ok k w) (enc : α → List Value) (cf : α → α → Int) (O : WOrd (ltOf cf)) (g : Nat) (cb : Array Value) (eg : ∀ args w, (callFunc g args).run Tryd.prog w = .ok (.enter g args) w) (blk off cap N a m b : Nat) (d0 : Array α) (w0 w : World) (x : α) (X B Y : List α)
    (R : RowK enc k w0 blk off d0) (C : CmpLays Tryd.prog g cb enc k cf blk off d0.size w0) (S : SWK enc k w0 blk off (X ++ ([x] ++ (B ++ Y))).toArray w) (hs : (X ++ ([x] ++ (B ++ Y))).length = d0.size) (ha : X.length = a) (hm : a + 1 = m) (hb : m + B.length = b) (hB : Srt (ltOf cf) B) (hN : N = d0.size) (hsz : N < 4611686018427387904) :
    Calls Tryd.prog 46 #[.slice (some ⟨blk, off, none⟩) N cap, .int .i64 a, .int .i64 m, .int .i64 b, .func (.func g) #[] cb] w fun e w' => e = .returned (.tuple #[]) ∧ SWK enc k w0 blk off (X ++ (mrg (ltOf cf) [x] B ++ Y)).toArray w' := by
  have mixed : Tryd.prog.follows .mixedOrders = true := by kernel_rfl
  have S0 : Aside (SWK enc k w0 blk off (X ++ ([x] ++ (B ++ Y))).toArray w) := S
  have CC : Aside (CmpLays Tryd.prog g cb enc k cf blk off d0.size w0) := C
  have hlen : X.length + 1 + B.length + Y.length = N := by rw [hN, ← hs]; simp only [List.length_append, List.length_singleton]; omega
  have HN := Lib.hid hN
  have w1 : IntKind.i64.wrap ((m : Int) - (a : Int)) = 1 := by rw [IntKind.wrap_i64]; omega
  clear S hN C
  go_enter Tryd.func46, Tryd.ntmps46
  go_wp2
  go_loopg [10, 11] (B.length + 1) (fun kx s10 s11 wr => ∃ (i j : Nat), s10 = .int .i64 i ∧ s11 = .int .i64 j ∧ m ≤ i ∧ i ≤ j ∧ j ≤ b ∧ j - i ≤ kx ∧ Hid (i = m ∨ ∃ y, B[i - m - 1]? = some y ∧ ltOf cf y x = true) ∧ Hid (j = b ∨ ∃ y, B[j - m]? = some y ∧ ltOf cf y x = false) ∧ Aside (SWK enc k w0 blk off (X ++ ([x] ++ (B ++ Y))).toArray wr))
  case atStart => exact ⟨m, b, rfl, rfl, Nat.le_refl _, by omega, Nat.le_refl _, by omega, .inl rfl, .inl rfl, S0⟩
  case round =>
    clear S0
    obtain ⟨i, j, rfl, rfl, him, hij, hjb, hkx, HL, HR, S1⟩ := hrel
    by_cases hlt : i < j
    · have hltz : (i : Int) < (j : Int) := by omega
      have wa : IntKind.i64.wrap ((i : Int) + (j : Int)) = ((i + j : Nat) : Int) := by rw [IntKind.wrap_i64]; omega
      go_wp2_with fail
      obtain ⟨h, hh⟩ : ∃ h, h = (i + j) / 2 := ⟨_, rfl⟩
      have hz : ((i : Int) + (j : Int)) / 2 = (h : Int) := by omega
      have h1 : i ≤ h := by omega
      have h2 : h < j := by omega
      rw [hz]
      have HH : Hid (h = (i + j) / 2) := hh
      clear hh hz wa hltz
      obtain ⟨y, hy⟩ : ∃ y, B[h - m]? = some y := ⟨_, List.getElem?_eq_getElem (by omega)⟩
      have gx : (X ++ ([x] ++ (B ++ Y)))[a]? = some x := by rw [List.getElem?_append_right (by omega), ha, Nat.sub_self]; rfl
      have gy : (X ++ ([x] ++ (B ++ Y)))[h]? = some y := by
        rw [List.getElem?_append_right (by omega), List.getElem?_append_right (by simp; omega), List.getElem?_append_left (by simp; omega), List.length_singleton, show h - X.length - 1 = h - m by omega]; exact hy
      obtain ⟨q1, q2, q3, q4, q5⟩ := cmpd_any S1.out R CC.out hs gy gx
      have GR : Aside (∀ n os, SWK enc k w0 blk off (X ++ ([x] ++ (B ++ Y))).toArray (grow (wr.drewN n) os)) := fun n os => S1.out.grown n os
      clear S1 gx gy
      generalize hcv : cf y x = cv at q5
      have HV := Lib.hid hcv
      clear hcv
      have HY := Lib.hid hy
      clear hy
      generalize enc y = cX at q1 q3 q5
      generalize enc x = cZ at q2 q4 q5
      have j1 : (h : Int) < (N : Int) := by omega
      have j2 : (a : Int) < (N : Int) := by omega
      have j3 : IntKind.i64.wrap ((h : Int) + 1) = ((h + 1 : Nat) : Int) := by rw [IntKind.wrap_i64]; omega
      by_cases hlv : cv < 0
      · go_quiet_grown (first | (go_at_fn g; refine Calls.grown_of (q5 _ _)))
        go_wp2
        go_roundg (j - (h + 1))
        case measure => omega
        case rel =>
          refine ⟨h + 1, j, by go_num, rfl, by omega, by omega, hjb, Nat.le_refl _, .inr ⟨y, ?_, decide_eq_true (by rw [HV.out]; exact hlv)⟩, HR, GR.out nq osq⟩
          rw [show h + 1 - m - 1 = h - m by omega]; exact HY.out
      · go_quiet_grown (first | (go_at_fn g; refine Calls.grown_of (q5 _ _)))
        go_wp2
        go_roundg (h - i)
        case measure => omega
        case rel =>
          exact ⟨i, h, rfl, rfl, him, by omega, by omega, Nat.le_refl _, HL, .inr ⟨y, HY.out, decide_eq_false (by rw [HV.out]; omega)⟩, GR.out nq osq⟩
    · obtain rfl : i = j := by omega
      have hltz : ¬ (i : Int) < (i : Int) := by omega
      have HQ : Hid (mrg (ltOf cf) [x] B = B.take (i - m) ++ x :: B.drop (i - m)) := mrg_one_left O hB (by omega)
        (by rcases HL.out with h | ⟨y, hy, hl⟩
            · exact .inl (by omega)
            · exact .inr ⟨y, hy, hl⟩)
        (by rcases HR.out with h | ⟨y, hy, hl⟩
            · exact .inl (by omega)
            · exact .inr ⟨y, hy, hl⟩)
      have HB1 : Hid (B = B.take (i - m) ++ B.drop (i - m)) := (List.take_append_drop _ _).symm
      have lb1 : (B.take (i - m)).length = i - m := by rw [List.length_take]; omega
      have wq : IntKind.i64.wrap ((i : Int) - 1) = (i : Int) - 1 := by rw [IntKind.wrap_i64]; omega
      generalize B.take (i - m) = B1 at HQ HB1 lb1
      generalize B.drop (i - m) = B2 at HQ HB1
      have hbl : B1.length + B2.length = B.length := by rw [HB1.out]; simp
      clear HL HR hB
      go_wp2
      go_loopg [13] (B1.length + 1) (fun kx s13 wr => ∃ (p : Nat) (C1 C2 : List α), s13 = .int .i64 p ∧ B1 = C1 ++ C2 ∧ C1.length + a = p ∧ p + 1 ≤ i ∧ i - p ≤ kx ∧ Aside (SWK enc k w0 blk off (X ++ (C1 ++ x :: (C2 ++ (B2 ++ Y)))).toArray wr))
      case atStart => exact ⟨a, [], B1, rfl, rfl, by simp, by omega, by omega, by
        have : X ++ ([] ++ x :: (B1 ++ (B2 ++ Y))) = X ++ ([x] ++ (B ++ Y)) := by rw [HB1.out]; simp
        rw [this]; exact S1.out⟩
      case round =>
        clear S1
        obtain ⟨p, C1, C2, rfl, hC, hlC, hpi, hkp, S2⟩ := hrel
        have hlc : C1.length + C2.length = i - m := by have := congrArg List.length hC; rw [List.length_append] at this; omega
        have hsz1 : (X ++ (C1 ++ x :: (C2 ++ (B2 ++ Y)))).length = d0.size := by rw [← HN.out]; simp only [List.length_append, List.length_cons]; omega
        by_cases hp : p + 1 < i
        · have hpz : (p : Int) < (i : Int) - 1 := by omega
          obtain ⟨c, C3, rfl⟩ : ∃ c r, C2 = c :: r := by
            cases C2 with
            | nil => exfalso; simp at hlc; omega
            | cons c r => exact ⟨c, r, rfl⟩
          have hrow : X ++ (C1 ++ x :: ((c :: C3) ++ (B2 ++ Y))) = (X ++ C1) ++ x :: ([] ++ c :: (C3 ++ (B2 ++ Y))) := by simp
          have hrow2 : (X ++ C1) ++ c :: ([] ++ x :: (C3 ++ (B2 ++ Y))) = X ++ ((C1 ++ [c]) ++ x :: (C3 ++ (B2 ++ Y))) := by simp
          obtain ⟨q1, q2, q3, q4, q5, q6, q7⟩ := xch_up (i := p) (j := p + 1) S2.out R hsz1 hrow (by simp; omega) (by simp; omega)
          rw [hrow2] at q7
          have S3 : Aside _ := q7
          clear q7 S2 hrow hrow2
          generalize enc x = cU at q1 q3 q4 q5 S3
          generalize enc c = cV at q2 q3 q4 q6 S3
          have b1 : (p : Int) < (N : Int) := by omega
          have b2 : (p : Int) + 1 < (N : Int) := by omega
          have p2 : (0 : Int) ≤ (p : Int) + 1 := by omega
          have wp1 : IntKind.i64.wrap ((p : Int) + 1) = (p : Int) + 1 := by rw [IntKind.wrap_i64]; omega
          have e0 : ((p : Int) + 1).toNat = p + 1 := by omega
          go_wp2_with fail
          go_big_region_o
          clear q1 q2 q3 q4
          generalize (wr.drew.setCells blk (off + p * k) cV).setCells blk (off + (p + 1) * k) cU = w2 at S3 ⊢
          go_wp2
          go_roundg (i - (p + 1))
          case measure => omega
          case rel => exact ⟨p + 1, C1 ++ [c], C3, by go_num, by rw [hC]; simp, by simp; omega, by omega, Nat.le_refl _, S3⟩
        · have hpz : ¬ (p : Int) < (i : Int) - 1 := by omega
          have hC2 : C2 = [] := List.length_eq_zero_iff.1 (by omega)
          subst hC2
          rw [List.append_nil] at hC
          subst hC
          go_wp2
          refine bodyPost_ret (results_none rfl _ _ _) rfl ?_
          refine ⟨rfl, ?_⟩
          rw [HQ.out]
          simpa using S2.out
set_option maxHeartbeats 4000000 in
set_option maxRecDepth 100000 in
theorem smrg_right (k : Nat) (zE : ∀ w, (Go.sizeOf 36).run Tryd.prog w = .ok k w) (enc : α → List Value) (cf : α → α → Int) (O : WOrd (ltOf cf)) (g : Nat) (cb : Array Value) (eg : ∀ args w, (callFunc g args).run Tryd.prog w = .ok (.enter g args) w) (blk off cap N a m b : Nat) (d0 : Array α) (w0 w : World) (x : α) (X A Y : List α)
    (R : RowK enc k w0 blk off d0) (C : CmpLays Tryd.prog g cb enc k cf blk off d0.size w0) (S : SWK enc k w0 blk off (X ++ (A ++ ([x] ++ Y))).toArray w) (hs : (X ++ (A ++ ([x] ++ Y))).length = d0.size) (ha : X.length = a) (hm : a + A.length = m) (hb : m + 1 = b) (hA : Srt (ltOf cf) A) (hA1 : A.length ≠ 1) (hN : N = d0.size) (hsz : N < 4611686018427387904) :
    Calls Tryd.prog 46 #[.slice (some ⟨blk, off, none⟩) N cap, .int .i64 a, .int .i64 m, .int .i64 b, .func (.func g) #[] cb] w fun e w' => e = .returned (.tuple #[]) ∧ SWK enc k w0 blk off (X ++ (mrg (ltOf cf) A [x] ++ Y)).toArray w' := by
  have mixed : Tryd.prog.follows .mixedOrders = true := by kernel_rfl
  have S0 : Aside (SWK enc k w0 blk off (X ++ (A ++ ([x] ++ Y))).toArray w) := S
  have CC : Aside (CmpLays Tryd.prog g cb enc k cf blk off d0.size w0) := C
  have hlen : X.length + A.length + 1 + Y.length = N := by rw [hN, ← hs]; simp only [List.length_append, List.length_singleton]; omega
  have HN := Lib.hid hN
  have w1 : IntKind.i64.wrap ((m : Int) - (a : Int)) = (A.length : Int) := by rw [IntKind.wrap_i64]; omega
  have w2 : IntKind.i64.wrap ((b : Int) - (m : Int)) = 1 := by rw [IntKind.wrap_i64]; omega
  have e1 : ((A.length : Int) == 1) = false := by simp; omega
  clear S hN C
  go_enter Tryd.func46, Tryd.ntmps46
  go_wp2
  go_loopg [14, 15] (A.length + 1) (fun kx s10 s11 wr => ∃ (i j : Nat), s10 = .int .i64 i ∧ s11 = .int .i64 j ∧ a ≤ i ∧ i ≤ j ∧ j ≤ m ∧ j - i ≤ kx ∧ Hid (i = a ∨ ∃ y, A[i - a - 1]? = some y ∧ ltOf cf x y = false) ∧ Hid (j = m ∨ ∃ y, A[j - a]? = some y ∧ ltOf cf x y = true) ∧ Aside (SWK enc k w0 blk off (X ++ (A ++ ([x] ++ Y))).toArray wr))
  case atStart => exact ⟨a, m, rfl, rfl, Nat.le_refl _, by omega, Nat.le_refl _, by omega, .inl rfl, .inl rfl, S0⟩
  case round =>
    clear S0
    obtain ⟨i, j, rfl, rfl, him, hij, hjb, hkx, HL, HR, S1⟩ := hrel
    by_cases hlt : i < j
    · have hltz : (i : Int) < (j : Int) := by omega
      have wa : IntKind.i64.wrap ((i : Int) + (j : Int)) = ((i + j : Nat) : Int) := by rw [IntKind.wrap_i64]; omega
      go_wp2_with fail
      obtain ⟨h, hh⟩ : ∃ h, h = (i + j) / 2 := ⟨_, rfl⟩
      have hz : ((i : Int) + (j : Int)) / 2 = (h : Int) := by omega
      have h1 : i ≤ h := by omega
      have h2 : h < j := by omega
      rw [hz]
      clear hh hz wa hltz
      obtain ⟨y, hy⟩ : ∃ y, A[h - a]? = some y := ⟨_, List.getElem?_eq_getElem (by omega)⟩
      have gx : (X ++ (A ++ ([x] ++ Y)))[m]? = some x := by rw [List.getElem?_append_right (by omega), List.getElem?_append_right (by omega), show m - X.length - A.length = 0 by omega]; rfl
      have gy : (X ++ (A ++ ([x] ++ Y)))[h]? = some y := by
        rw [List.getElem?_append_right (by omega), List.getElem?_append_left (by omega), ha]; exact hy
      obtain ⟨q1, q2, q3, q4, q5⟩ := cmpd_any S1.out R CC.out hs gx gy
      have GR : Aside (∀ n os, SWK enc k w0 blk off (X ++ (A ++ ([x] ++ Y))).toArray (grow (wr.drewN n) os)) := fun n os => S1.out.grown n os
      clear S1 gx gy
      generalize hcv : cf x y = cv at q5
      have HV := Lib.hid hcv
      clear hcv
      have HY := Lib.hid hy
      clear hy
      generalize enc x = cX at q1 q3 q5
      generalize enc y = cZ at q2 q4 q5
      have j1 : (h : Int) < (N : Int) := by omega
      have j2 : (m : Int) < (N : Int) := by omega
      have j3 : IntKind.i64.wrap ((h : Int) + 1) = ((h + 1 : Nat) : Int) := by rw [IntKind.wrap_i64]; omega
      by_cases hlv : cv < 0
      · go_quiet_grown (first | (go_at_fn g; refine Calls.grown_of (q5 _ _)))
        go_wp2
        go_roundg (h - i)
        case measure => omega
        case rel =>
          exact ⟨i, h, rfl, rfl, him, by omega, by omega, Nat.le_refl _, HL, .inr ⟨y, HY.out, decide_eq_true (by rw [HV.out]; exact hlv)⟩, GR.out nq osq⟩
      · go_quiet_grown (first | (go_at_fn g; refine Calls.grown_of (q5 _ _)))
        go_wp2
        go_roundg (j - (h + 1))
        case measure => omega
        case rel =>
          refine ⟨h + 1, j, by go_num, rfl, by omega, by omega, hjb, Nat.le_refl _, .inr ⟨y, ?_, decide_eq_false (by rw [HV.out]; omega)⟩, HR, GR.out nq osq⟩
          rw [show h + 1 - a - 1 = h - a by omega]; exact HY.out
    · obtain rfl : i = j := by omega
      have hltz : ¬ (i : Int) < (i : Int) := by omega
      have HQ : Hid (mrg (ltOf cf) A [x] = A.take (i - a) ++ x :: A.drop (i - a)) := mrg_one_right O hA (by omega)
        (by rcases HL.out with h | ⟨y, hy, hl⟩
            · exact .inl (by omega)
            · exact .inr ⟨y, hy, hl⟩)
        (by rcases HR.out with h | ⟨y, hy, hl⟩
            · exact .inl (by omega)
            · exact .inr ⟨y, hy, hl⟩)
      have HB1 : Hid (A = A.take (i - a) ++ A.drop (i - a)) := (List.take_append_drop _ _).symm
      have lb1 : (A.take (i - a)).length = i - a := by rw [List.length_take]; omega
      generalize A.take (i - a) = A1 at HQ HB1 lb1
      generalize A.drop (i - a) = A2 at HQ HB1
      have hbl : A1.length + A2.length = A.length := by rw [HB1.out]; simp
      clear HL HR hA
      go_wp2
      go_loopg [17] (A2.length + 1) (fun kx s13 wr => ∃ (p : Nat) (C1 C2 : List α), s13 = .int .i64 p ∧ Hid (A2 = C1 ++ C2) ∧ C1.length + C2.length = A2.length ∧ C1.length + i = p ∧ i ≤ p ∧ p - i ≤ kx ∧ Aside (SWK enc k w0 blk off (X ++ (A1 ++ (C1 ++ x :: (C2 ++ Y)))).toArray wr))
      case atStart => exact ⟨m, A2, [], rfl, (show Hid _ from by show _ = _; simp), by simp, by omega, by omega, by omega, by
        have : X ++ (A1 ++ (A2 ++ x :: ([] ++ Y))) = X ++ (A ++ ([x] ++ Y)) := by rw [HB1.out]; simp
        rw [this]; exact S1.out⟩
      case round =>
        clear S1
        obtain ⟨p, C1, C2, rfl, HC, hlc, hlC, hpi, hkp, S2⟩ := hrel
        have hsz1 : (X ++ (A1 ++ (C1 ++ x :: (C2 ++ Y)))).length = d0.size := by rw [← HN.out]; simp only [List.length_append, List.length_cons]; omega
        by_cases hp : i < p
        · obtain ⟨q, rfl⟩ : ∃ q, p = q + 1 := ⟨p - 1, by omega⟩
          have hpz : (i : Int) < (q : Int) + 1 := by omega
          obtain ⟨C3, c, rfl⟩ : ∃ C3 c, C1 = C3 ++ [c] := by
            rcases List.eq_nil_or_concat C1 with h | ⟨l, z, h⟩
            · rw [h] at hlC; simp at hlC; omega
            · exact ⟨l, z, by simpa using h⟩
          have hl3 : C3.length + i = q := by simp at hlC; omega
          have hrow : X ++ (A1 ++ ((C3 ++ [c]) ++ x :: (C2 ++ Y))) = (X ++ (A1 ++ C3)) ++ c :: ([] ++ x :: (C2 ++ Y)) := by simp
          have hrow2 : (X ++ (A1 ++ C3)) ++ x :: ([] ++ c :: (C2 ++ Y)) = X ++ (A1 ++ (C3 ++ x :: ((c :: C2) ++ Y))) := by simp
          obtain ⟨q1, q2, q3, q4, q5, q6, q7⟩ := xch_down (i := q) (j := q + 1) S2.out R hsz1 hrow (by simp; omega) (by simp; omega)
          rw [hrow2] at q7
          have S3 : Aside _ := q7
          clear q7 S2 hrow hrow2
          generalize enc x = cU at q1 q3 q4 q5 S3
          generalize enc c = cV at q2 q3 q4 q6 S3
          have b1 : (q : Int) < (N : Int) := by omega
          have b2 : (q : Int) + 1 < (N : Int) := by omega
          have p2 : (0 : Int) ≤ (q : Int) + 1 := by omega
          have wp1 : IntKind.i64.wrap (q : Int) = (q : Int) := by rw [IntKind.wrap_i64]; omega
          have e0 : ((q : Int) + 1).toNat = q + 1 := by omega
          go_wp2_with fail
          go_big_region_o
          clear q1 q2 q3 q4
          generalize (wr.drew.setCells blk (off + (q + 1) * k) cV).setCells blk (off + q * k) cU = w2 at S3 ⊢
          go_wp2
          go_roundg (q - i)
          case measure => omega
          case rel => exact ⟨q, C3, c :: C2, by first | rfl | go_num | exact congrArg (Value.int .i64) (by omega), (show Hid _ from by show _ = _; rw [HC.out]; simp), by simp at hlc ⊢; omega, hl3, by omega, Nat.le_refl _, S3⟩
        · have hpz : ¬ (i : Int) < (p : Int) := by omega
          have hC1 : C1 = [] := List.length_eq_zero_iff.1 (by omega)
          subst hC1
          have HC2 : Hid (A2 = C2) := HC.out
          go_wp2
          refine bodyPost_ret (results_none rfl _ _ _) rfl ?_
          refine ⟨rfl, ?_⟩
          rw [HQ.out, HC2.out]
          simpa using S2.out
end
end Go.Proofs.YtblamffdlclomaaDoor
