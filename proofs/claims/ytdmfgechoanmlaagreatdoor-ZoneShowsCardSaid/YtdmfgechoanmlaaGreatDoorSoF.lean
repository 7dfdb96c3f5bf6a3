/- The contract of slices.symMergeCmpFunc at a row of structs: two sorted parts, one behind the other, merged in place. -/
import Derived.Test.YtdmfgechoanmlaaGreatDoorMZJ
namespace Go.Proofs.YtdmfgechoanmlaaGreatDoor
open Go Go.RowKit Go.Sort Go.Lib
section
variable {α : Type} [Inhabited α]

/-- What a merge of two sorted parts of a row does, where both together are no more than M things. -/
def MrgIs (k : Nat) (enc : α → List Value) (cf : α → α → Int) (g : Nat) (cb : Array Value) (blk off cap N M : Nat) (d0 : Array α) (w0 : World) : Prop :=
  ∀ (W : World) (X A B Y : List α) (a m b : Nat), SWK enc k w0 blk off (X ++ (A ++ (B ++ Y))).toArray W → (X ++ (A ++ (B ++ Y))).length = d0.size → X.length = a → a + A.length = m → m + B.length = b → 0 < A.length → 0 < B.length → b - a ≤ M → Srt (ltOf cf) A → Srt (ltOf cf) B →
    Calls Tryz.prog 170 #[.slice (some ⟨blk, off, none⟩) N cap, .int .i64 a, .int .i64 m, .int .i64 b, .func (.func g) #[] cb] W fun e w' => e = .returned (.tuple #[]) ∧ SWK enc k w0 blk off (X ++ (mrg (ltOf cf) A B ++ Y)).toArray w'
def RotIs (k : Nat) (enc : α → List Value) (g : Nat) (cb : Array Value) (blk off cap N : Nat) (d0 : Array α) (w0 : World) : Prop :=
  ∀ (W : World) (X U V Y : List α) (a m b : Nat), SWK enc k w0 blk off (X ++ (U ++ (V ++ Y))).toArray W → (X ++ (U ++ (V ++ Y))).length = d0.size → X.length = a → a + U.length = m → m + V.length = b → 0 < U.length → 0 < V.length →
    Calls Tryz.prog 171 #[.slice (some ⟨blk, off, none⟩) N cap, .int .i64 a, .int .i64 m, .int .i64 b, .func (.func g) #[] cb] W fun e w' => e = .returned (.tuple #[]) ∧ SWK enc k w0 blk off (X ++ (V ++ (U ++ Y))).toArray w'

set_option maxHeartbeats 8000000 in
set_option maxRecDepth 100000 in
theorem smrg_hi (k : Nat) (zE : ∀ w, (Go.sizeOf 145).run Tryz.prog w = .ok k w) (enc : α → List Value) (cf : α → α → Int) (O : WOrd (ltOf cf)) (g : Nat) (cb : Array Value) (eg : ∀ args w, (callFunc g args).run Tryz.prog w = .ok (.enter g args) w) (blk off cap N M a m b d n : Nat) (d0 : Array α) (w0 w : World) (X A B Y : List α)
    (R : RowK enc k w0 blk off d0) (C : CmpLays Tryz.prog g cb enc k cf blk off d0.size w0) (S : SWK enc k w0 blk off (X ++ (A ++ (B ++ Y))).toArray w) (hs : (X ++ (A ++ (B ++ Y))).length = d0.size) (ha : X.length = a) (hm : a + A.length = m) (hb : m + B.length = b) (hA1 : 2 ≤ A.length) (hB1 : 2 ≤ B.length) (hd : 2 * d ≤ a + b) (hd' : a + b ≤ 2 * d + 1) (hn : d + m = n) (hc : d < m) (hA : Srt (ltOf cf) A) (hB : Srt (ltOf cf) B) (hN : N = d0.size) (hsz : N < 4611686018427387904)
    (IH : Hid (MrgIs k enc cf g cb blk off cap N M d0 w0)) (RT : Hid (RotIs k enc g cb blk off cap N d0 w0)) (hM : b - a ≤ M + 1) :
    Calls Tryz.prog 170 #[.slice (some ⟨blk, off, none⟩) N cap, .int .i64 a, .int .i64 m, .int .i64 b, .func (.func g) #[] cb] w fun e w' => e = .returned (.tuple #[]) ∧ SWK enc k w0 blk off (X ++ (mrg (ltOf cf) A B ++ Y)).toArray w' := by
  have mixed : Tryz.prog.follows .mixedOrders = true := by kernel_rfl
  have S0 : Aside (SWK enc k w0 blk off (X ++ (A ++ (B ++ Y))).toArray w) := S
  have CC : Aside (CmpLays Tryz.prog g cb enc k cf blk off d0.size w0) := C
  have hlen : X.length + A.length + B.length + Y.length = N := by rw [hN, ← hs]; simp only [List.length_append]; omega
  have HN := Lib.hid hN
  have w1 : IntKind.i64.wrap ((m : Int) - (a : Int)) = (A.length : Int) := by rw [IntKind.wrap_i64]; omega
  have w2 : IntKind.i64.wrap ((b : Int) - (m : Int)) = (B.length : Int) := by rw [IntKind.wrap_i64]; omega
  have e1 : ((A.length : Int) == 1) = false := by simp; omega
  have e2 : ((B.length : Int) == 1) = false := by simp; omega
  have w3 : IntKind.i64.wrap ((a : Int) + (b : Int)) = ((a + b : Nat) : Int) := by rw [IntKind.wrap_i64]; omega
  have w4 : IntKind.i64.wrap (((a : Int) + (b : Int)) / 2 + (m : Int)) = ((a : Int) + (b : Int)) / 2 + (m : Int) := by rw [IntKind.wrap_i64]; omega
  have hcz : (m : Int) > ((a : Int) + (b : Int)) / 2 := by omega
  have w5 : IntKind.i64.wrap (((a : Int) + (b : Int)) / 2 + (m : Int) - (b : Int)) = ((a : Int) + (b : Int)) / 2 + (m : Int) - (b : Int) := by rw [IntKind.wrap_i64]; omega
  have w6 : IntKind.i64.wrap (((a : Int) + (b : Int)) / 2 + (m : Int) - 1) = ((a : Int) + (b : Int)) / 2 + (m : Int) - 1 := by rw [IntKind.wrap_i64]; omega
  clear S hN C
  go_enter Tryz.func170, Tryz.ntmps170
  go_wp2
  rw [show ((a : Int) + (b : Int)) / 2 = (d : Int) by omega]
  clear w3 w1 w2 e1 e2 w4 w6 hcz w5
  go_loopg [20, 21] (b + 1) (fun kx s10 s11 wr => ∃ (i j : Nat), s10 = .int .i64 i ∧ s11 = .int .i64 j ∧ (n - b) ≤ i ∧ i ≤ j ∧ j ≤ d ∧ j - i ≤ kx ∧ Hid (i = (n - b) ∨ ∃ y x, B[n - i - m]? = some y ∧ A[i - 1 - a]? = some x ∧ ltOf cf y x = false) ∧ Hid (j = d ∨ ∃ y x, B[n - 1 - j - m]? = some y ∧ A[j - a]? = some x ∧ ltOf cf y x = true) ∧ Aside (SWK enc k w0 blk off (X ++ (A ++ (B ++ Y))).toArray wr))
  case atStart => exact ⟨(n - b), d, congrArg (Value.int .i64) (by omega), rfl, Nat.le_refl _, by omega, Nat.le_refl _, by omega, .inl rfl, .inl rfl, S0⟩
  case round =>
    clear S0
    obtain ⟨i, j, rfl, rfl, him, hij, hjb, hkx, HL, HR, S1⟩ := hrel
    by_cases hlt : i < j
    · have hltz : (i : Int) < (j : Int) := by omega
      have wa : IntKind.i64.wrap ((i : Int) + (j : Int)) = ((i + j : Nat) : Int) := by rw [IntKind.wrap_i64]; omega
      go_wp2_with fail
      obtain ⟨h, hh⟩ : ∃ h, h = (i + j) / 2 := ⟨_, rfl⟩
      have hz : ((i : Int) + (j : Int)) / 2 = (h : Int) := by omega
      have h1 : i ≤ h := by omega
      have h2 : h < j := by omega
      rw [hz]
      clear hh hz wa hltz
      obtain ⟨p, hp⟩ : ∃ p, p + h + 1 = n := ⟨n - 1 - h, by omega⟩
      have hp1 : m ≤ p := by omega
      have hp2 : p < b := by omega
      have hpz : IntKind.i64.wrap ((d : Int) + (m : Int) - 1 - (h : Int)) = (p : Int) := by rw [IntKind.wrap_i64]; omega
      obtain ⟨x, hx⟩ : ∃ y, A[h - a]? = some y := ⟨_, List.getElem?_eq_getElem (by omega)⟩
      obtain ⟨y, hy⟩ : ∃ y, B[p - m]? = some y := ⟨_, List.getElem?_eq_getElem (by omega)⟩
      have gx : (X ++ (A ++ (B ++ Y)))[h]? = some x := by rw [List.getElem?_append_right (by omega), List.getElem?_append_left (by omega), ha]; exact hx
      have gy : (X ++ (A ++ (B ++ Y)))[p]? = some y := by
        rw [List.getElem?_append_right (by omega), List.getElem?_append_right (by omega), List.getElem?_append_left (by omega), show p - X.length - A.length = p - m by omega]; exact hy
      obtain ⟨q1, q2, q3, q4, q5⟩ := cmpd_any S1.out R CC.out hs gy gx
      have GR : Aside (∀ n os, SWK enc k w0 blk off (X ++ (A ++ (B ++ Y))).toArray (grow (wr.drewN n) os)) := fun n os => S1.out.grown n os
      clear S1 gx gy
      generalize hcv : cf y x = cv at q5
      have HV := Lib.hid hcv
      clear hcv
      have HY := Lib.hid hy
      have HX := Lib.hid hx
      clear hy hx
      generalize enc y = cX at q1 q3 q5
      generalize enc x = cZ at q2 q4 q5
      have j1 : (h : Int) < (N : Int) := by omega
      have j2 : (p : Int) < (N : Int) := by omega
      have j3 : IntKind.i64.wrap ((h : Int) + 1) = ((h + 1 : Nat) : Int) := by rw [IntKind.wrap_i64]; omega
      have j4 : (0 : Int) ≤ (p : Int) := by omega
      by_cases hlv : cv < 0
      · go_quiet_grown (first | (go_at_fn g; refine Calls.grown_of (q5 _ _)))
        go_wp2
        go_roundg (h - i)
        case measure => omega
        case rel =>
          refine ⟨i, h, rfl, rfl, him, by omega, by omega, Nat.le_refl _, HL, .inr ⟨y, x, ?_, HX.out, decide_eq_true (by rw [HV.out]; exact hlv)⟩, GR.out nq osq⟩
          rw [show n - 1 - h - m = p - m by omega]; exact HY.out
      · go_quiet_grown (first | (go_at_fn g; refine Calls.grown_of (q5 _ _)))
        go_wp2
        go_roundg (j - (h + 1))
        case measure => omega
        case rel =>
          refine ⟨h + 1, j, by go_num, rfl, by omega, by omega, hjb, Nat.le_refl _, .inr ⟨y, x, ?_, ?_, decide_eq_false (by rw [HV.out]; omega)⟩, HR, GR.out nq osq⟩
          · rw [show n - (h + 1) - m = p - m by omega]; exact HY.out
          · rw [show h + 1 - 1 - a = h - a by omega]; exact HX.out
    · obtain rfl : i = j := by omega
      have hltz : ¬ (i : Int) < (i : Int) := by omega
      obtain ⟨e, he⟩ : ∃ e, e + i = n := ⟨n - i, by omega⟩
      have hem : m ≤ e := by omega
      have heb : e ≤ b := by omega
      have HQ : Hid (mrg (ltOf cf) A B = mrg (ltOf cf) (A.take (i - a)) (B.take (e - m)) ++ mrg (ltOf cf) (A.drop (i - a)) (B.drop (e - m))) := mrg_split O hA hB (by omega) (by omega)
        (by rcases HR.out with h | ⟨y, x, hy, hx, hl⟩
            · exact .inr (.inl (by omega))
            · exact .inr (.inr ⟨y, x, by rw [show e - m - 1 = n - 1 - i - m by omega]; exact hy, hx, hl⟩))
        (by rcases HL.out with h | ⟨y, x, hy, hx, hl⟩
            · exact .inr (.inl (by omega))
            · exact .inr (.inr ⟨y, x, by rw [show e - m = n - i - m by omega]; exact hy, by rw [show i - a - 1 = i - 1 - a by omega]; exact hx, hl⟩))
      have HAe : Hid (A = A.take (i - a) ++ A.drop (i - a)) := (List.take_append_drop _ _).symm
      have HBe : Hid (B = B.take (e - m) ++ B.drop (e - m)) := (List.take_append_drop _ _).symm
      have la1 : (A.take (i - a)).length = i - a := by rw [List.length_take]; omega
      have lb1 : (B.take (e - m)).length = e - m := by rw [List.length_take]; omega
      generalize A.take (i - a) = A1 at HQ HAe la1
      generalize A.drop (i - a) = A2 at HQ HAe
      generalize B.take (e - m) = B1 at HQ HBe lb1
      generalize B.drop (e - m) = B2 at HQ HBe
      have la2 : A2.length = m - i := by have := congrArg List.length HAe.out; rw [List.length_append] at this; omega
      have lb2 : B2.length = b - e := by have := congrArg List.length HBe.out; rw [List.length_append] at this; omega
      have HSA : Hid (Srt (ltOf cf) A1 ∧ Srt (ltOf cf) A2) := by have := hA; rw [HAe.out] at this; exact ⟨(List.pairwise_append.1 this).1, (List.pairwise_append.1 this).2.1⟩
      have HSB : Hid (Srt (ltOf cf) B1 ∧ Srt (ltOf cf) B2) := by have := hB; rw [HBe.out] at this; exact ⟨(List.pairwise_append.1 this).1, (List.pairwise_append.1 this).2.1⟩
      have S2 : Aside (SWK enc k w0 blk off (X ++ (A1 ++ (A2 ++ (B1 ++ (B2 ++ Y))))).toArray wr) := by
        have := S1.out
        rw [HAe.out, HBe.out] at this
        show SWK _ _ _ _ _ _ _
        simpa using this
      have hs2 : (X ++ (A1 ++ (A2 ++ (B1 ++ (B2 ++ Y))))).length = d0.size := by rw [← HN.out]; simp only [List.length_append]; omega
      have hez : IntKind.i64.wrap ((d : Int) + (m : Int) - (i : Int)) = (e : Int) := by rw [IntKind.wrap_i64]; omega
      clear HL HR hA hB S1 hs
      rcases Nat.lt_or_ge i m with him2 | him2
      · rcases Nat.lt_or_ge m e with hme | hme
        · -- both parts are parted: rotated
          have t1 : (i : Int) < (m : Int) := by omega
          have t2 : (m : Int) < (e : Int) := by omega
          have t3 : (i : Int) < (d : Int) := by omega
          have t4 : (d : Int) < (e : Int) := by omega
          have CR := RT.out wr (X ++ A1) A2 B1 (B2 ++ Y) i m e (by simpa using S2.out) (by simpa using hs2) (by rw [List.length_append]; omega) (by omega) (by omega) (by omega) (by omega)
          rcases Nat.lt_or_ge a i with hai | hai
          · have t5 : (a : Int) < (i : Int) := by omega
            rcases Nat.lt_or_ge e b with heb2 | heb2
            · have t6 : (e : Int) < (b : Int) := by omega
              go_wp2_with (first | (go_at_call 171; (with_reducible refine CR.mono ?_); (rintro x3 w3 ⟨rfl, S3⟩); have C1 := IH.out w3 X A1 B1 (A2 ++ (B2 ++ Y)) a i d (by simpa using S3) (by rw [← HN.out]; simp only [List.length_append]; omega) ha (by omega) (by omega) (by omega) (by omega) (by omega) HSA.out.1 HSB.out.1; clear S3; simp only []) | (go_at_call 170; (with_reducible refine C1.mono ?_); (rintro x4 w4 ⟨rfl, S4⟩); have C2 := IH.out w4 (X ++ mrg (ltOf cf) A1 B1) A2 B2 Y d e b (by simpa using S4) (by rw [← HN.out]; simp only [List.length_append, mrg_len]; omega) (by simp only [List.length_append, mrg_len]; omega) (by omega) (by omega) (by omega) (by omega) (by omega) HSA.out.2 HSB.out.2; clear S4 C1; simp only []) | (go_at_call 170; (with_reducible refine C2.mono ?_); (rintro x5 w5 ⟨rfl, S5⟩); simp only []))
              go_end0
              refine ⟨rfl, ?_⟩
              rw [HQ.out]; simpa using S5
            · have t6 : ¬ (e : Int) < (b : Int) := by omega
              have hB2 : B2 = [] := List.length_eq_zero_iff.1 (by omega)
              go_wp2_with (first | (go_at_call 171; (with_reducible refine CR.mono ?_); (rintro x3 w3 ⟨rfl, S3⟩); have C1 := IH.out w3 X A1 B1 (A2 ++ (B2 ++ Y)) a i d (by simpa using S3) (by rw [← HN.out]; simp only [List.length_append]; omega) ha (by omega) (by omega) (by omega) (by omega) (by omega) HSA.out.1 HSB.out.1; clear S3; simp only []) | (go_at_call 170; (with_reducible refine C1.mono ?_); (rintro x4 w4 ⟨rfl, S4⟩); simp only []))
              go_end0
              refine ⟨rfl, ?_⟩
              rw [HQ.out]; rw [hB2] at S4 ⊢; rw [mrg_nil]; simpa using S4
          · have t5 : ¬ (a : Int) < (i : Int) := by omega
            have hA1' : A1 = [] := List.length_eq_zero_iff.1 (by omega)
            rcases Nat.lt_or_ge e b with heb2 | heb2
            · have t6 : (e : Int) < (b : Int) := by omega
              go_wp2_with (first | (go_at_call 171; (with_reducible refine CR.mono ?_); (rintro x3 w3 ⟨rfl, S3⟩); have C2 := IH.out w3 (X ++ (A1 ++ B1)) A2 B2 Y d e b (by simpa using S3) (by rw [← HN.out]; simp only [List.length_append]; omega) (by simp only [List.length_append]; omega) (by omega) (by omega) (by omega) (by omega) (by omega) HSA.out.2 HSB.out.2; clear S3; simp only []) | (go_at_call 170; (with_reducible refine C2.mono ?_); (rintro x5 w5 ⟨rfl, S5⟩); simp only []))
              go_end0
              refine ⟨rfl, ?_⟩
              rw [HQ.out]; rw [hA1'] at S5 ⊢; rw [mrg_none HSB.out.1]; simpa using S5
            · have t6 : ¬ (e : Int) < (b : Int) := by omega
              have hB2 : B2 = [] := List.length_eq_zero_iff.1 (by omega)
              go_wp2_with (go_at_call 171; (with_reducible refine CR.mono ?_); (rintro x3 w3 ⟨rfl, S3⟩); simp only [])
              go_end0
              refine ⟨rfl, ?_⟩
              rw [HQ.out]; rw [hA1', hB2] at S3 ⊢; rw [mrg_none HSB.out.1, mrg_nil]; simpa using S3
        · -- nothing of the second part comes ahead
          obtain rfl : m = e := by omega
          have t1 : (i : Int) < (m : Int) := by omega
          have t2 : ¬ (m : Int) < (m : Int) := by omega
          have hB1' : B1 = [] := List.length_eq_zero_iff.1 (by omega)
          obtain rfl : i = d := by omega
          have t3 : ¬ (i : Int) < (i : Int) := by omega
          have t6 : (m : Int) < (b : Int) := by omega
          have C2 := IH.out wr (X ++ A1) A2 B2 Y i m b (by have := S2.out; rw [hB1'] at this; simpa using this) (by rw [← HN.out]; simp only [List.length_append]; omega) (by rw [List.length_append]; omega) (by omega) (by omega) (by omega) (by omega) (by omega) HSA.out.2 HSB.out.2
          have FIN : Hid (mrg (ltOf cf) A1 B1 = A1) := by show _ = _; rw [hB1', mrg_nil]
          rcases Nat.lt_or_ge a i with hai | hai
          · have t5 : (a : Int) < (i : Int) := by omega
            go_wp2_with (go_at_call 170; (with_reducible refine C2.mono ?_); (rintro x5 w5 ⟨rfl, S5⟩); simp only [])
            go_end0
            refine ⟨rfl, ?_⟩
            rw [HQ.out, FIN.out]; simpa using S5
          · have t5 : ¬ (a : Int) < (i : Int) := by omega
            go_wp2_with (go_at_call 170; (with_reducible refine C2.mono ?_); (rintro x5 w5 ⟨rfl, S5⟩); simp only [])
            go_end0
            refine ⟨rfl, ?_⟩
            rw [HQ.out, FIN.out]; simpa using S5
      · -- nothing of the first part comes behind
        obtain rfl : m = i := by omega
        have hA2 : A2 = [] := List.length_eq_zero_iff.1 (by omega)
        obtain rfl : d = e := by omega
        have t1 : ¬ (m : Int) < (m : Int) := by omega
        have t4 : ¬ (d : Int) < (d : Int) := by omega
        have t5 : (a : Int) < (m : Int) := by omega
        have FIN : Hid (mrg (ltOf cf) A2 B2 = B2) := by show _ = _; rw [hA2, mrg_none HSB.out.2]
        have S3 : Aside (SWK enc k w0 blk off (X ++ (A1 ++ (B1 ++ (B2 ++ Y)))).toArray wr) := by have := S2.out; rw [hA2] at this; exact this
        rcases Nat.lt_or_ge m d with hmd | hmd
        · have t3 : (m : Int) < (d : Int) := by omega
          have C1 := IH.out wr X A1 B1 (B2 ++ Y) a m d S3.out (by rw [← HN.out]; simp only [List.length_append]; omega) ha (by omega) (by omega) (by omega) (by omega) (by omega) HSA.out.1 HSB.out.1
          go_wp2_with (go_at_call 170; (with_reducible refine C1.mono ?_); (rintro x5 w5 ⟨rfl, S5⟩); simp only [])
          go_end0
          refine ⟨rfl, ?_⟩
          rw [HQ.out, FIN.out]; simpa using S5
        · have t3 : ¬ (m : Int) < (d : Int) := by omega
          have hB1' : B1 = [] := List.length_eq_zero_iff.1 (by omega)
          go_wp2
          go_end0
          refine ⟨rfl, ?_⟩
          have := S3.out
          rw [HQ.out, FIN.out, hB1', mrg_nil]
          rw [hB1'] at this
          simpa using this

set_option maxHeartbeats 8000000 in
set_option maxRecDepth 100000 in
theorem smrg_lo (k : Nat) (zE : ∀ w, (Go.sizeOf 145).run Tryz.prog w = .ok k w) (enc : α → List Value) (cf : α → α → Int) (O : WOrd (ltOf cf)) (g : Nat) (cb : Array Value) (eg : ∀ args w, (callFunc g args).run Tryz.prog w = .ok (.enter g args) w) (blk off cap N M a m b d n : Nat) (d0 : Array α) (w0 w : World) (X A B Y : List α)
    (R : RowK enc k w0 blk off d0) (C : CmpLays Tryz.prog g cb enc k cf blk off d0.size w0) (S : SWK enc k w0 blk off (X ++ (A ++ (B ++ Y))).toArray w) (hs : (X ++ (A ++ (B ++ Y))).length = d0.size) (ha : X.length = a) (hm : a + A.length = m) (hb : m + B.length = b) (hA1 : 2 ≤ A.length) (hB1 : 2 ≤ B.length) (hd : 2 * d ≤ a + b) (hd' : a + b ≤ 2 * d + 1) (hn : d + m = n) (hc : m ≤ d) (hA : Srt (ltOf cf) A) (hB : Srt (ltOf cf) B) (hN : N = d0.size) (hsz : N < 4611686018427387904)
    (IH : Hid (MrgIs k enc cf g cb blk off cap N M d0 w0)) (RT : Hid (RotIs k enc g cb blk off cap N d0 w0)) (hM : b - a ≤ M + 1) :
    Calls Tryz.prog 170 #[.slice (some ⟨blk, off, none⟩) N cap, .int .i64 a, .int .i64 m, .int .i64 b, .func (.func g) #[] cb] w fun e w' => e = .returned (.tuple #[]) ∧ SWK enc k w0 blk off (X ++ (mrg (ltOf cf) A B ++ Y)).toArray w' := by
  have mixed : Tryz.prog.follows .mixedOrders = true := by kernel_rfl
  have S0 : Aside (SWK enc k w0 blk off (X ++ (A ++ (B ++ Y))).toArray w) := S
  have CC : Aside (CmpLays Tryz.prog g cb enc k cf blk off d0.size w0) := C
  have hlen : X.length + A.length + B.length + Y.length = N := by rw [hN, ← hs]; simp only [List.length_append]; omega
  have HN := Lib.hid hN
  have w1 : IntKind.i64.wrap ((m : Int) - (a : Int)) = (A.length : Int) := by rw [IntKind.wrap_i64]; omega
  have w2 : IntKind.i64.wrap ((b : Int) - (m : Int)) = (B.length : Int) := by rw [IntKind.wrap_i64]; omega
  have e1 : ((A.length : Int) == 1) = false := by simp; omega
  have e2 : ((B.length : Int) == 1) = false := by simp; omega
  have w3 : IntKind.i64.wrap ((a : Int) + (b : Int)) = ((a + b : Nat) : Int) := by rw [IntKind.wrap_i64]; omega
  have w4 : IntKind.i64.wrap (((a : Int) + (b : Int)) / 2 + (m : Int)) = ((a : Int) + (b : Int)) / 2 + (m : Int) := by rw [IntKind.wrap_i64]; omega
  have hcz : ¬ (m : Int) > ((a : Int) + (b : Int)) / 2 := by omega
  have w6 : IntKind.i64.wrap (((a : Int) + (b : Int)) / 2 + (m : Int) - 1) = ((a : Int) + (b : Int)) / 2 + (m : Int) - 1 := by rw [IntKind.wrap_i64]; omega
  clear S hN C
  go_enter Tryz.func170, Tryz.ntmps170
  go_wp2
  rw [show ((a : Int) + (b : Int)) / 2 = (d : Int) by omega]
  clear w3 w1 w2 e1 e2 w4 w6 hcz 
  go_loopg [20, 21] (b + 1) (fun kx s10 s11 wr => ∃ (i j : Nat), s10 = .int .i64 i ∧ s11 = .int .i64 j ∧ a ≤ i ∧ i ≤ j ∧ j ≤ m ∧ j - i ≤ kx ∧ Hid (i = a ∨ ∃ y x, B[n - i - m]? = some y ∧ A[i - 1 - a]? = some x ∧ ltOf cf y x = false) ∧ Hid (j = m ∨ ∃ y x, B[n - 1 - j - m]? = some y ∧ A[j - a]? = some x ∧ ltOf cf y x = true) ∧ Aside (SWK enc k w0 blk off (X ++ (A ++ (B ++ Y))).toArray wr))
  case atStart => exact ⟨a, m, rfl, rfl, Nat.le_refl _, by omega, Nat.le_refl _, by omega, .inl rfl, .inl rfl, S0⟩
  case round =>
    clear S0
    obtain ⟨i, j, rfl, rfl, him, hij, hjb, hkx, HL, HR, S1⟩ := hrel
    by_cases hlt : i < j
    · have hltz : (i : Int) < (j : Int) := by omega
      have wa : IntKind.i64.wrap ((i : Int) + (j : Int)) = ((i + j : Nat) : Int) := by rw [IntKind.wrap_i64]; omega
      go_wp2_with fail
      obtain ⟨h, hh⟩ : ∃ h, h = (i + j) / 2 := ⟨_, rfl⟩
      have hz : ((i : Int) + (j : Int)) / 2 = (h : Int) := by omega
      have h1 : i ≤ h := by omega
      have h2 : h < j := by omega
      rw [hz]
      clear hh hz wa hltz
      obtain ⟨p, hp⟩ : ∃ p, p + h + 1 = n := ⟨n - 1 - h, by omega⟩
      have hp1 : m ≤ p := by omega
      have hp2 : p < b := by omega
      have hpz : IntKind.i64.wrap ((d : Int) + (m : Int) - 1 - (h : Int)) = (p : Int) := by rw [IntKind.wrap_i64]; omega
      obtain ⟨x, hx⟩ : ∃ y, A[h - a]? = some y := ⟨_, List.getElem?_eq_getElem (by omega)⟩
      obtain ⟨y, hy⟩ : ∃ y, B[p - m]? = some y := ⟨_, List.getElem?_eq_getElem (by omega)⟩
      have gx : (X ++ (A ++ (B ++ Y)))[h]? = some x := by rw [List.getElem?_append_right (by omega), List.getElem?_append_left (by omega), ha]; exact hx
      have gy : (X ++ (A ++ (B ++ Y)))[p]? = some y := by
        rw [List.getElem?_append_right (by omega), List.getElem?_append_right (by omega), List.getElem?_append_left (by omega), show p - X.length - A.length = p - m by omega]; exact hy
      obtain ⟨q1, q2, q3, q4, q5⟩ := cmpd_any S1.out R CC.out hs gy gx
      have GR : Aside (∀ n os, SWK enc k w0 blk off (X ++ (A ++ (B ++ Y))).toArray (grow (wr.drewN n) os)) := fun n os => S1.out.grown n os
      clear S1 gx gy
      generalize hcv : cf y x = cv at q5
      have HV := Lib.hid hcv
      clear hcv
      have HY := Lib.hid hy
      have HX := Lib.hid hx
      clear hy hx
      generalize enc y = cX at q1 q3 q5
      generalize enc x = cZ at q2 q4 q5
      have j1 : (h : Int) < (N : Int) := by omega
      have j2 : (p : Int) < (N : Int) := by omega
      have j3 : IntKind.i64.wrap ((h : Int) + 1) = ((h + 1 : Nat) : Int) := by rw [IntKind.wrap_i64]; omega
      have j4 : (0 : Int) ≤ (p : Int) := by omega
      by_cases hlv : cv < 0
      · go_quiet_grown (first | (go_at_fn g; refine Calls.grown_of (q5 _ _)))
        go_wp2
        go_roundg (h - i)
        case measure => omega
        case rel =>
          refine ⟨i, h, rfl, rfl, him, by omega, by omega, Nat.le_refl _, HL, .inr ⟨y, x, ?_, HX.out, decide_eq_true (by rw [HV.out]; exact hlv)⟩, GR.out nq osq⟩
          rw [show n - 1 - h - m = p - m by omega]; exact HY.out
      · go_quiet_grown (first | (go_at_fn g; refine Calls.grown_of (q5 _ _)))
        go_wp2
        go_roundg (j - (h + 1))
        case measure => omega
        case rel =>
          refine ⟨h + 1, j, by go_num, rfl, by omega, by omega, hjb, Nat.le_refl _, .inr ⟨y, x, ?_, ?_, decide_eq_false (by rw [HV.out]; omega)⟩, HR, GR.out nq osq⟩
          · rw [show n - (h + 1) - m = p - m by omega]; exact HY.out
          · rw [show h + 1 - 1 - a = h - a by omega]; exact HX.out
    · obtain rfl : i = j := by omega
      have hltz : ¬ (i : Int) < (i : Int) := by omega
      obtain ⟨e, he⟩ : ∃ e, e + i = n := ⟨n - i, by omega⟩
      have hem : m ≤ e := by omega
      have heb : e ≤ b := by omega
      have HQ : Hid (mrg (ltOf cf) A B = mrg (ltOf cf) (A.take (i - a)) (B.take (e - m)) ++ mrg (ltOf cf) (A.drop (i - a)) (B.drop (e - m))) := mrg_split O hA hB (by omega) (by omega)
        (by rcases HR.out with h | ⟨y, x, hy, hx, hl⟩
            · exact .inl (by omega)
            · exact .inr (.inr ⟨y, x, by rw [show e - m - 1 = n - 1 - i - m by omega]; exact hy, hx, hl⟩))
        (by rcases HL.out with h | ⟨y, x, hy, hx, hl⟩
            · exact .inl (by omega)
            · exact .inr (.inr ⟨y, x, by rw [show e - m = n - i - m by omega]; exact hy, by rw [show i - a - 1 = i - 1 - a by omega]; exact hx, hl⟩))
      have HAe : Hid (A = A.take (i - a) ++ A.drop (i - a)) := (List.take_append_drop _ _).symm
      have HBe : Hid (B = B.take (e - m) ++ B.drop (e - m)) := (List.take_append_drop _ _).symm
      have la1 : (A.take (i - a)).length = i - a := by rw [List.length_take]; omega
      have lb1 : (B.take (e - m)).length = e - m := by rw [List.length_take]; omega
      generalize A.take (i - a) = A1 at HQ HAe la1
      generalize A.drop (i - a) = A2 at HQ HAe
      generalize B.take (e - m) = B1 at HQ HBe lb1
      generalize B.drop (e - m) = B2 at HQ HBe
      have la2 : A2.length = m - i := by have := congrArg List.length HAe.out; rw [List.length_append] at this; omega
      have lb2 : B2.length = b - e := by have := congrArg List.length HBe.out; rw [List.length_append] at this; omega
      have HSA : Hid (Srt (ltOf cf) A1 ∧ Srt (ltOf cf) A2) := by have := hA; rw [HAe.out] at this; exact ⟨(List.pairwise_append.1 this).1, (List.pairwise_append.1 this).2.1⟩
      have HSB : Hid (Srt (ltOf cf) B1 ∧ Srt (ltOf cf) B2) := by have := hB; rw [HBe.out] at this; exact ⟨(List.pairwise_append.1 this).1, (List.pairwise_append.1 this).2.1⟩
      have S2 : Aside (SWK enc k w0 blk off (X ++ (A1 ++ (A2 ++ (B1 ++ (B2 ++ Y))))).toArray wr) := by
        have := S1.out
        rw [HAe.out, HBe.out] at this
        show SWK _ _ _ _ _ _ _
        simpa using this
      have hs2 : (X ++ (A1 ++ (A2 ++ (B1 ++ (B2 ++ Y))))).length = d0.size := by rw [← HN.out]; simp only [List.length_append]; omega
      have hez : IntKind.i64.wrap ((d : Int) + (m : Int) - (i : Int)) = (e : Int) := by rw [IntKind.wrap_i64]; omega
      clear HL HR hA hB S1 hs
      rcases Nat.lt_or_ge i m with him2 | him2
      · rcases Nat.lt_or_ge m e with hme | hme
        · -- both parts are parted: rotated
          have t1 : (i : Int) < (m : Int) := by omega
          have t2 : (m : Int) < (e : Int) := by omega
          have t3 : (i : Int) < (d : Int) := by omega
          have t4 : (d : Int) < (e : Int) := by omega
          have CR := RT.out wr (X ++ A1) A2 B1 (B2 ++ Y) i m e (by simpa using S2.out) (by simpa using hs2) (by rw [List.length_append]; omega) (by omega) (by omega) (by omega) (by omega)
          rcases Nat.lt_or_ge a i with hai | hai
          · have t5 : (a : Int) < (i : Int) := by omega
            rcases Nat.lt_or_ge e b with heb2 | heb2
            · have t6 : (e : Int) < (b : Int) := by omega
              go_wp2_with (first | (go_at_call 171; (with_reducible refine CR.mono ?_); (rintro x3 w3 ⟨rfl, S3⟩); have C1 := IH.out w3 X A1 B1 (A2 ++ (B2 ++ Y)) a i d (by simpa using S3) (by rw [← HN.out]; simp only [List.length_append]; omega) ha (by omega) (by omega) (by omega) (by omega) (by omega) HSA.out.1 HSB.out.1; clear S3; simp only []) | (go_at_call 170; (with_reducible refine C1.mono ?_); (rintro x4 w4 ⟨rfl, S4⟩); have C2 := IH.out w4 (X ++ mrg (ltOf cf) A1 B1) A2 B2 Y d e b (by simpa using S4) (by rw [← HN.out]; simp only [List.length_append, mrg_len]; omega) (by simp only [List.length_append, mrg_len]; omega) (by omega) (by omega) (by omega) (by omega) (by omega) HSA.out.2 HSB.out.2; clear S4 C1; simp only []) | (go_at_call 170; (with_reducible refine C2.mono ?_); (rintro x5 w5 ⟨rfl, S5⟩); simp only []))
              go_end0
              refine ⟨rfl, ?_⟩
              rw [HQ.out]; simpa using S5
            · have t6 : ¬ (e : Int) < (b : Int) := by omega
              have hB2 : B2 = [] := List.length_eq_zero_iff.1 (by omega)
              go_wp2_with (first | (go_at_call 171; (with_reducible refine CR.mono ?_); (rintro x3 w3 ⟨rfl, S3⟩); have C1 := IH.out w3 X A1 B1 (A2 ++ (B2 ++ Y)) a i d (by simpa using S3) (by rw [← HN.out]; simp only [List.length_append]; omega) ha (by omega) (by omega) (by omega) (by omega) (by omega) HSA.out.1 HSB.out.1; clear S3; simp only []) | (go_at_call 170; (with_reducible refine C1.mono ?_); (rintro x4 w4 ⟨rfl, S4⟩); simp only []))
              go_end0
              refine ⟨rfl, ?_⟩
              rw [HQ.out]; rw [hB2] at S4 ⊢; rw [mrg_nil]; simpa using S4
          · have t5 : ¬ (a : Int) < (i : Int) := by omega
            have hA1' : A1 = [] := List.length_eq_zero_iff.1 (by omega)
            rcases Nat.lt_or_ge e b with heb2 | heb2
            · have t6 : (e : Int) < (b : Int) := by omega
              go_wp2_with (first | (go_at_call 171; (with_reducible refine CR.mono ?_); (rintro x3 w3 ⟨rfl, S3⟩); have C2 := IH.out w3 (X ++ (A1 ++ B1)) A2 B2 Y d e b (by simpa using S3) (by rw [← HN.out]; simp only [List.length_append]; omega) (by simp only [List.length_append]; omega) (by omega) (by omega) (by omega) (by omega) (by omega) HSA.out.2 HSB.out.2; clear S3; simp only []) | (go_at_call 170; (with_reducible refine C2.mono ?_); (rintro x5 w5 ⟨rfl, S5⟩); simp only []))
              go_end0
              refine ⟨rfl, ?_⟩
              rw [HQ.out]; rw [hA1'] at S5 ⊢; rw [mrg_none HSB.out.1]; simpa using S5
            · have t6 : ¬ (e : Int) < (b : Int) := by omega
              have hB2 : B2 = [] := List.length_eq_zero_iff.1 (by omega)
              go_wp2_with (go_at_call 171; (with_reducible refine CR.mono ?_); (rintro x3 w3 ⟨rfl, S3⟩); simp only [])
              go_end0
              refine ⟨rfl, ?_⟩
              rw [HQ.out]; rw [hA1', hB2] at S3 ⊢; rw [mrg_none HSB.out.1, mrg_nil]; simpa using S3
        · -- nothing of the second part comes ahead
          obtain rfl : m = e := by omega
          have t1 : (i : Int) < (m : Int) := by omega
          have t2 : ¬ (m : Int) < (m : Int) := by omega
          have hB1' : B1 = [] := List.length_eq_zero_iff.1 (by omega)
          obtain rfl : i = d := by omega
          have t3 : ¬ (i : Int) < (i : Int) := by omega
          have t6 : (m : Int) < (b : Int) := by omega
          have C2 := IH.out wr (X ++ A1) A2 B2 Y i m b (by have := S2.out; rw [hB1'] at this; simpa using this) (by rw [← HN.out]; simp only [List.length_append]; omega) (by rw [List.length_append]; omega) (by omega) (by omega) (by omega) (by omega) (by omega) HSA.out.2 HSB.out.2
          have FIN : Hid (mrg (ltOf cf) A1 B1 = A1) := by show _ = _; rw [hB1', mrg_nil]
          rcases Nat.lt_or_ge a i with hai | hai
          · have t5 : (a : Int) < (i : Int) := by omega
            go_wp2_with (go_at_call 170; (with_reducible refine C2.mono ?_); (rintro x5 w5 ⟨rfl, S5⟩); simp only [])
            go_end0
            refine ⟨rfl, ?_⟩
            rw [HQ.out, FIN.out]; simpa using S5
          · have t5 : ¬ (a : Int) < (i : Int) := by omega
            go_wp2_with (go_at_call 170; (with_reducible refine C2.mono ?_); (rintro x5 w5 ⟨rfl, S5⟩); simp only [])
            go_end0
            refine ⟨rfl, ?_⟩
            rw [HQ.out, FIN.out]; simpa using S5
      · -- nothing of the first part comes behind
        obtain rfl : m = i := by omega
        have hA2 : A2 = [] := List.length_eq_zero_iff.1 (by omega)
        obtain rfl : d = e := by omega
        have t1 : ¬ (m : Int) < (m : Int) := by omega
        have t4 : ¬ (d : Int) < (d : Int) := by omega
        have t5 : (a : Int) < (m : Int) := by omega
        have FIN : Hid (mrg (ltOf cf) A2 B2 = B2) := by show _ = _; rw [hA2, mrg_none HSB.out.2]
        have S3 : Aside (SWK enc k w0 blk off (X ++ (A1 ++ (B1 ++ (B2 ++ Y)))).toArray wr) := by have := S2.out; rw [hA2] at this; exact this
        rcases Nat.lt_or_ge m d with hmd | hmd
        · have t3 : (m : Int) < (d : Int) := by omega
          have C1 := IH.out wr X A1 B1 (B2 ++ Y) a m d S3.out (by rw [← HN.out]; simp only [List.length_append]; omega) ha (by omega) (by omega) (by omega) (by omega) (by omega) HSA.out.1 HSB.out.1
          go_wp2_with (go_at_call 170; (with_reducible refine C1.mono ?_); (rintro x5 w5 ⟨rfl, S5⟩); simp only [])
          go_end0
          refine ⟨rfl, ?_⟩
          rw [HQ.out, FIN.out]; simpa using S5
        · have t3 : ¬ (m : Int) < (d : Int) := by omega
          have hB1' : B1 = [] := List.length_eq_zero_iff.1 (by omega)
          go_wp2
          go_end0
          refine ⟨rfl, ?_⟩
          have := S3.out
          rw [HQ.out, FIN.out, hB1', mrg_nil]
          rw [hB1'] at this
          simpa using this

end
end Go.Proofs.YtdmfgechoanmlaaGreatDoor
