/- For every numbers and every bytes behind them the law WireBack returns true, and nothing that was in memory changes. -/
import Derived.Test.YtdepbhikkjfcjaaWrZ
import Derived.Test.YtdepbhikkjfcjaaWrW
namespace Go.Proofs.Ytdepbhikkjfcjaa
open Go.RowKit Go.Shelf
attribute [local go_sem] Oper.semAt_some

/-- A number, as the law writes the i-th one. -/
def enc (i : Nat) (z : Int) : List UInt8 := if i % 3 = 0 then pc (tz z) else if i % 3 = 1 then uL z else fL z 8
def enp (zs : List Int) : Nat → List UInt8
  | 0 => []
  | i + 1 => enp zs i ++ enc i (zs.getD i 0)
theorem uL_len {z : Int} (h : z ≤ 9223372036854775807) : (uL z).length ≤ 9 := by
  unfold uL
  split
  · simp
  · exact pc_len9 (by omega)
theorem enc_len {i : Nat} {z : Int} (h : in64 z) : (enc i z).length ≤ 10 := by
  unfold enc
  split
  · exact pc_len10 (tz_lt h.1 h.2)
  · split
    · have := uL_len h.2; omega
    · have := fL_len z 8; omega
theorem enp_len {zs : List Int} (h : ∀ i, i < zs.length → in64 (zs.getD i 0)) : ∀ i, i ≤ zs.length → (enp zs i).length ≤ 10 * i
  | 0, _ => by simp [enp]
  | i + 1, hi => by
    have h1 := enp_len h i (by omega)
    have h2 := enc_len (i := i) (h i (by omega))
    rw [enp, List.length_append]
    omega
theorem enp_pre (zs : List Int) (i : Nat) : ∀ k, enp zs i <+: enp zs (i + k)
  | 0 => ⟨[], by rw [List.append_nil]; rfl⟩
  | k + 1 => (enp_pre zs i k).trans ⟨enc (i + k) (zs.getD (i + k) 0), rfl⟩
/-- What is ahead of the cursor, where it stands at the i-th number. -/
theorem enp_drop {zs : List Int} {more : List UInt8} {i n : Nat} (h : i < n) : ∃ r, (enp zs n ++ more).drop (enp zs i).length = enc i (zs.getD i 0) ++ r := by
  obtain ⟨q, hq⟩ := enp_pre zs (i + 1) (n - (i + 1))
  rw [show i + 1 + (n - (i + 1)) = n by omega] at hq
  refine ⟨q ++ more, ?_⟩
  rw [← hq, enp, List.append_assoc, List.append_assoc, List.drop_left']
  rfl
theorem rd_I {z : Int} (h : in64 z) (r : List UInt8) : rdV (pc (tz z) ++ r) = tz z ∧ rdN (pc (tz z) ++ r) = (pc (tz z)).length ∧ rdE (pc (tz z) ++ r) = 0 := by
  obtain ⟨h1, h2, h3⟩ := rd_pc (tz_lt h.1 h.2) r
  exact ⟨h3, h2, h1⟩
theorem rd_U {k : Nat} (h : k < 9223372036854775808) (r : List UInt8) : uV (uL (k : Int) ++ r) = k ∧ uN (uL (k : Int) ++ r) = (uL (k : Int)).length ∧ uE (uL (k : Int) ++ r) = 0 := by
  have e : uL (k : Int) = pc k := by rw [uL, if_neg (by omega), Int.toNat_natCast]
  rw [e]
  obtain ⟨h1, h2, h3⟩ := rd_pc (n := k) (by omega) r
  have n : ¬ ftB k 0 := fun h => by have := h.2; omega
  rw [uV, uN, uE, h1, h2, h3, ftV, ftV, ftE, if_neg n, if_neg n, if_neg n]
  exact ⟨rfl, rfl, rfl⟩
theorem rd_F {k : Nat} (h : k < 9223372036854775808) (r : List UInt8) : xR (fL (k : Int) 8 ++ r) 8 = k ∧ xN (fL (k : Int) 8 ++ r) 8 = (fL (k : Int) 8).length ∧ xE (fL (k : Int) 8 ++ r) 8 = 0 := by
  have hi : (k : Int) < 256 ^ (8 : Int).toNat := by
    show (k : Int) < 256 ^ 8
    omega
  have e : fL (k : Int) 8 = fx 8 k := by
    rw [fL, if_pos ⟨by omega, by omega, by omega, hi⟩]
    rfl
  rw [e]
  have hl := fx_len 8 k
  have h0 : byE (fx 8 k ++ r) 8 = 0 := by rw [byE, if_neg (by omega), if_neg (by rw [List.length_append, hl]; omega)]
  have ht : (fx 8 k ++ r).take (8 : Int).toNat = fx 8 k := by rw [show (8 : Int).toNat = 8 from rfl, List.take_left' hl]
  have hv : fv (fx 8 k) = k := by rw [fv_fx, Nat.mod_eq_of_lt (by omega)]
  have n : ¬ ftB k 0 := fun h => by have := h.2; omega
  have x : xV (fx 8 k ++ r) 8 = k := by rw [xV, byX, if_pos h0, ht, hv]
  rw [xR, xN, xE, x, h0, ftV, ftV, ftE, if_neg n, if_neg n, if_neg n, byX, if_pos h0, hl]
  exact ⟨rfl, rfl, rfl⟩
theorem enc_0 {i : Nat} {z : Int} (h : i % 3 = 0) : enc i z = pc (tz z) := if_pos h
theorem enc_1 {i : Nat} {z : Int} (h : i % 3 = 1) : enc i z = uL z := by rw [enc, if_neg (by omega), if_pos h]
theorem enc_2 {i : Nat} {z : Int} (h : i % 3 = 2) : enc i z = fL z 8 := by rw [enc, if_neg (by omega), if_neg (by omega)]
theorem enc_neg {i : Nat} {z : Int} (h : i % 3 ≠ 0) (hz : z < 0) : enc i z = [] := by
  unfold enc
  rw [if_neg h]
  split
  · exact if_pos hz
  · exact if_neg (fun hh => by omega)

namespace wireBack
set_option maxRecDepth 20000 in
theorem walk_out (a a2 : Option Addr) (c c2 : Nat) (zs : List Int) (more : List UInt8) (w : World) (h : 40 < zs.length ∨ 100 < more.length) :
    Calls Try.prog 5 #[.slice a zs.length c, .slice a2 more.length c2] w fun e w' => e = .returned (.bool true) ∧ Below w.heap.size w w' := by
  by_cases h1 : (zs.length : Int) > 40
  · clear h
    go_enter Try.func5, Try.ntmps5
    go_wp2_with (go_at_call 17; refine (awake_yes _).mono ?_; rintro e w9 ⟨rfl, k9⟩; simp only [])
    go_ret
    exact ⟨rfl, k9⟩
  · have h2 : (more.length : Int) > 100 := by rcases h with h | h <;> omega
    clear h
    go_enter Try.func5, Try.ntmps5
    go_wp2_with (go_at_call 17; refine (awake_yes _).mono ?_; rintro e w9 ⟨rfl, k9⟩; simp only [])
    go_ret
    exact ⟨rfl, k9⟩

set_option maxRecDepth 20000 in
set_option maxHeartbeats 8000000 in
theorem walk_few (a a2 : Option Addr) (c c2 : Nat) (zs : List Int) (more : List UInt8) (w : World) (hl : zs.length ≤ 40) (hm : more.length ≤ 100) (hz : Is w a zs) (hb : By w a2 more) (hc2 : a2 = none → c2 = 0) :
    Calls Try.prog 5 #[.slice a zs.length c, .slice a2 more.length c2] w fun e w' => e = .returned (.bool true) ∧ Below w.heap.size w w' := by
  have HZ := Lib.hid hz
  have HB := Lib.hid hb
  have HC := Lib.hid hc2
  have h64 : ∀ i, i < zs.length → in64 (zs.getD i 0) := fun i hi => by obtain ⟨_, _, _, _, _, h⟩ := hz i hi; exact h
  have EL := Lib.hid (enp_len h64)
  have H64 := Lib.hid h64
  obtain ⟨n, hn⟩ : ∃ n, zs.length = n := ⟨_, rfl⟩
  obtain ⟨q, hq⟩ : ∃ q, more.length = q := ⟨_, rfl⟩
  have HN := Lib.hid hn
  have HQ := Lib.hid hq
  rw [hn] at hl EL H64 ⊢
  rw [hq] at hm ⊢
  have n1 : ¬ ((n : Int) > 40) := by omega
  have n2 : ¬ ((q : Int) > 100) := by omega
  clear hz hb hc2 h64 hn hq
  go_enter Try.func5, Try.ntmps5
  go_wp2
  clear n1 n2
  go_loopw [5, 6] (fun vo vi wr => ∃ (i k : Nat) (A : Option Addr) (cc : Nat), vo = .slice A k cc ∧ vi = .int .i64 i ∧ i ≤ n ∧ (enp zs i).length = k ∧ wr.ownsRow w.heap.size 5 1 (.slice A k cc) k (bcl (enp zs i)) ∧ Below w.heap.size w wr) (fun _ vi _ => n - (intOf vi).toNat)
  case atStart => exact ⟨0, 0, none, 0, rfl, rfl, Nat.zero_le _, rfl, World.ownsRow_nil _ _ _ _, Below.refl _ _⟩
  case round =>
    obtain ⟨i, k, A, cc, rfl, rfl, hi, hk, hO, hbw⟩ := hrel
    have HO := Lib.hid hO
    have B0 := Lib.hid hbw
    have HK := Lib.hid hk
    have hkb : k ≤ 400 := by have := EL.out i hi; omega
    clear hO hbw hk
    by_cases hlt : i < n
    · obtain ⟨b1, o1, rfl, hb1, hc1, hin⟩ := HZ.out i (by rw [HN.out]; exact hlt)
      have hc3 : wr.cell? ⟨b1, o1 + i, none⟩ = some (.int .i64 (zs.getD i 0)) := by rw [B0.out.cell (p := ⟨b1, o1 + i, none⟩) hb1]; exact hc1
      obtain ⟨z, hzz⟩ : ∃ z, zs.getD i 0 = z := ⟨_, rfl⟩
      have EN := Lib.hid (show enp zs (i + 1) = enp zs i ++ enc i z by rw [enp, hzz])
      rw [hzz] at hc3 hin
      have HIN := Lib.hid hin
      have hel := enc_len (i := i) hin
      obtain ⟨R, hR⟩ : ∃ R, enc i z = R := ⟨_, rfl⟩
      rw [hR] at EN hel
      clear hc1 hin hzz hb1
      rcases (show i % 3 = 0 ∨ i % 3 = 1 ∨ i % 3 = 2 by omega) with h3 | h3 | h3
      · have hr3 : (i : Int) % 3 = 0 := by omega
        have hR2 : pc (tz z) = R := by rw [← hR, enc_0 h3]
        have CR := Lib.hid (fun w => hR2 ▸ int_any z w HIN.out.1 HIN.out.2)
        clear h3 hR hR2
        go_wp2_with (first
          | (go_at_call 13; refine (CR.out _).mono ?_; rintro e w2 ⟨A2, c3, rfl, o2, k2⟩
             have Y2 := Lib.hid (By.of_own o2)
             have N2 := Lib.hid (own_none o2)
             have B2 := Lib.hid (B0.out.trans (k2.mono B0.out.size))
             have O2 := Lib.hid (own_keep HO.out k2)
             clear o2 k2
             simp only [])
          | (at_builtin
             refine wpList_bapp (l := enp zs i) (l2 := R) (m := k + R.length) (by rfl) (.tmp 37) (.tmp 42) (by rfl) rfl rfl O2.out (by rfl) (by rfl) Y2.out (fun h => (N2.out h).2) (by omega) B2.out.size ?_
             intro A4 c4 w4 o4 k4
             have O4 := Lib.hid o4
             have B4 := Lib.hid (B2.out.trans k4)
             clear o4 k4))
        go_roundw
        case rel => exact ⟨i + 1, k + R.length, A4, c4, rfl, by go_num, by omega, by rw [EN.out, List.length_append, HK.out], by rw [EN.out]; exact O4.out, B4.out⟩
        case measure => simp [intOf]; omega
      · have hr3 : (i : Int) % 3 = 1 := by omega
        have hR2 : uL z = R := by rw [← hR, enc_1 h3]
        have CR := Lib.hid (fun w => hR2 ▸ uint_any z w HIN.out.2)
        clear h3 hR hR2
        go_wp2_with (first
          | (go_at_call 12; refine (CR.out _).mono ?_; rintro e w2 ⟨A2, c3, rfl, o2, k2⟩
             have Y2 := Lib.hid (By.of_own o2)
             have N2 := Lib.hid (own_none o2)
             have B2 := Lib.hid (B0.out.trans (k2.mono B0.out.size))
             have O2 := Lib.hid (own_keep HO.out k2)
             clear o2 k2
             simp only [])
          | (at_builtin
             refine wpList_bapp (l := enp zs i) (l2 := R) (m := k + R.length) (by rfl) (.tmp 46) (.tmp 51) (by rfl) rfl rfl O2.out (by rfl) (by rfl) Y2.out (fun h => (N2.out h).2) (by omega) B2.out.size ?_
             intro A4 c4 w4 o4 k4
             have O4 := Lib.hid o4
             have B4 := Lib.hid (B2.out.trans k4)
             clear o4 k4))
        go_roundw
        case rel => exact ⟨i + 1, k + R.length, A4, c4, rfl, by go_num, by omega, by rw [EN.out, List.length_append, HK.out], by rw [EN.out]; exact O4.out, B4.out⟩
        case measure => simp [intOf]; omega
      · have hr3 : (i : Int) % 3 = 2 := by omega
        have hR2 : fL z 8 = R := by rw [← hR, enc_2 h3]
        have CR := Lib.hid (fun w => hR2 ▸ fixed_any z 8 w)
        clear h3 hR hR2
        go_wp2_with (first
          | (go_at_call 15; refine (CR.out _).mono ?_; rintro e w2 ⟨A2, c3, rfl, o2, k2⟩
             have Y2 := Lib.hid (By.of_own o2)
             have N2 := Lib.hid (own_none o2)
             have B2 := Lib.hid (B0.out.trans (k2.mono B0.out.size))
             have O2 := Lib.hid (own_keep HO.out k2)
             clear o2 k2
             simp only [])
          | (at_builtin
             refine wpList_bapp (l := enp zs i) (l2 := R) (m := k + R.length) (by rfl) (.tmp 28) (.tmp 33) (by rfl) rfl rfl O2.out (by rfl) (by rfl) Y2.out (fun h => (N2.out h).2) (by omega) B2.out.size ?_
             intro A4 c4 w4 o4 k4
             have O4 := Lib.hid o4
             have B4 := Lib.hid (B2.out.trans k4)
             clear o4 k4))
        go_roundw
        case rel => exact ⟨i + 1, k + R.length, A4, c4, rfl, by go_num, by omega, by rw [EN.out, List.length_append, HK.out], by rw [EN.out]; exact O4.out, B4.out⟩
        case measure => simp [intOf]; omega
    · obtain rfl : i = n := by omega
      obtain ⟨P, hP⟩ : ∃ P, enp zs i = P := ⟨_, rfl⟩
      have DR : Hid (∀ j, j < i → ∃ r, (P ++ more).drop (enp zs j).length = enc j (zs.getD j 0) ++ r) := Lib.hid fun j hj => by rw [← hP]; exact enp_drop hj
      have PL : Hid ((enp zs i).length = k) := HK
      rw [hP] at HO HK
      have ML : Hid ((P ++ more).length = k + q) := Lib.hid (by rw [List.length_append, HK.out, HQ.out])
      clear hP hi hlt
      go_wp2_with (first
        | (at_builtin
           refine wpList_bapp (l := P) (l2 := more) (m := k + q) (by rfl) (.tmp 55) (.tmp 56) (by rfl) HQ.out rfl HO.out (by rfl) (by rfl) (HB.out.next B0.out) HC.out (by omega) B0.out.size ?_
           intro A2 c3 w2 o2 k2
           have Y2 := Lib.hid (By.of_own o2)
           have L2 := Lib.hid (own_le o2)
           have B2 := Lib.hid (B0.out.trans k2)
           clear o2 k2)
        | (go_at_call 18; refine (new_any A2 (k + q) c3 _).mono ?_; rintro e w3 ⟨rfl, H, k3⟩
           have H3 := Lib.hid H
           have K3 := Lib.hid k3
           clear k3 H
           simp only []))
      obtain ⟨m, hm2⟩ : ∃ m, k + q = m := ⟨_, rfl⟩
      rw [hm2] at ML L2 H3
      simp only [hm2]
      have hmb : m ≤ 500 := by omega
      have HM2 := Lib.hid hm2
      clear hm2
      go_loopw [9, 10] (fun vi _ wr => ∃ j : Nat, vi = .int .i64 j ∧ j ≤ i ∧ Cur w2.heap.size (.slice A2 m c3) (((enp zs j).length : Nat) : Int) 0 wr ∧ Below w2.heap.size w2 wr) (fun vi _ _ => i - (intOf vi).toNat)
      case atStart => exact ⟨0, rfl, Nat.zero_le _, H3.out, K3.out⟩
      case round =>
        obtain ⟨j, rfl, hj, hC, hKw⟩ := hrel
        have C0 := Lib.hid hC
        have K0 := Lib.hid hKw
        clear hC hKw H3 K3
        by_cases hlt : j < i
        · obtain ⟨b1, o1, rfl, hb1, hc1, hin⟩ := HZ.out j (by rw [HN.out]; exact hlt)
          have hW : ∀ W, Below w2.heap.size w2 W → W.cell? ⟨b1, o1 + j, none⟩ = some (.int .i64 (zs.getD j 0)) := fun W h => by
            rw [(B2.out.trans (h.mono B2.out.size)).cell (p := ⟨b1, o1 + j, none⟩) hb1]; exact hc1
          obtain ⟨r, hr⟩ := DR.out j hlt
          have hpl : (enp zs j).length ≤ 400 := by have := EL.out j (by omega); omega
          have EN := Lib.hid (show enp zs (j + 1) = enp zs j ++ enc j (zs.getD j 0) from rfl)
          have hpm : (enp zs j).length + (enc j (zs.getD j 0)).length ≤ m := by
            have hk2 := enp_pre zs (j + 1) (i - (j + 1))
            rw [show j + 1 + (i - (j + 1)) = i by omega] at hk2
            have h4 := hk2.length_le
            rw [PL.out, enp, List.length_append] at h4
            have := HM2.out
            omega
          obtain ⟨z, hzz⟩ : ∃ z, zs.getD j 0 = z := ⟨_, rfl⟩
          obtain ⟨p, hp⟩ : ∃ p, (enp zs j).length = p := ⟨_, rfl⟩
          have EP := Lib.hid (show (enp zs (j + 1)).length = p + (enc j z).length by rw [EN.out, List.length_append, hp, hzz])
          rw [hzz] at hW hr hin hpm
          rw [hp] at C0 hr hpl hpm
          have HW := Lib.hid hW
          have HR := Lib.hid hr
          have HIN := Lib.hid hin
          have hcz := hW wr K0.out
          clear hW hr hin hc1 hb1 hzz hp EN
          rcases (show j % 3 = 0 ∨ (j % 3 ≠ 0 ∧ z < 0) ∨ (j % 3 = 1 ∧ 0 ≤ z) ∨ (j % 3 = 2 ∧ 0 ≤ z) by omega) with h3 | ⟨h3, hz⟩ | ⟨h3, hz⟩ | ⟨h3, hz⟩
          · have CN := Lib.hid (cI_is w2.heap.size m c3 p A2 (P ++ more) wr C0.out ML.out L2.out (by omega) (by omega) (Y2.out.next K0.out) (tz z) (enc j z).length 0 z (Lib.hid (by rw [HR.out, enc_0 h3]; exact rd_I HIN.out r)) (Lib.hid (tb_tz z)))
            have hr3 : (j : Int) % 3 = 0 := by omega
            have EQ := Lib.hid EP.out
            obtain ⟨np, hnp⟩ : ∃ np, p + (enc j z).length = np := ⟨_, rfl⟩
            rw [hnp] at CN EQ
            clear h3 hnp hpm
            go_wp2_with (go_at_call 24; refine CN.out.mono ?_; rintro e w4 ⟨rfl, H, g4⟩
                         have C4 := Lib.hid H
                         have K4 := Lib.hid (K0.out.trans (grown_to g4 K0.out.size (Nat.le_refl _)))
                         have hcz4 := HW.out w4 K4.out
                         clear g4 H hcz
                         simp only [])
            go_roundw
            case rel => exact ⟨j + 1, by go_num, by omega, by rw [EQ.out]; exact C4.out, K4.out⟩
            case measure => simp [intOf]; omega
          · have h0 : ((j : Int) % 3 != 0) = true := by simp; omega
            have EQ := Lib.hid (show (enp zs (j + 1)).length = p by rw [EP.out, enc_neg h3 hz]; rfl)
            clear h3 hpm
            go_wp2
            go_roundw
            case rel => exact ⟨j + 1, by go_num, by omega, by rw [EQ.out]; exact C0.out, K0.out⟩
            case measure => simp [intOf]; omega
          · obtain ⟨t, rfl⟩ : ∃ t : Nat, z = (t : Int) := ⟨z.toNat, by omega⟩
            have hzn : ¬ ((t : Int) < 0) := by omega
            have CN := Lib.hid (cU_is w2.heap.size m c3 p A2 (P ++ more) wr C0.out ML.out L2.out (by omega) (by omega) (Y2.out.next K0.out) t (enc j (t : Int)).length 0 (Lib.hid (by rw [HR.out, enc_1 h3]; exact rd_U (by have := HIN.out.2; omega) r)))
            have hr3 : (j : Int) % 3 = 1 := by omega
            have EQ := Lib.hid EP.out
            obtain ⟨np, hnp⟩ : ∃ np, p + (enc j (t : Int)).length = np := ⟨_, rfl⟩
            rw [hnp] at CN EQ
            clear h3 hnp hz hpm
            go_wp2_with (go_at_call 25; refine CN.out.mono ?_; rintro e w4 ⟨rfl, H, g4⟩
                         have C4 := Lib.hid H
                         have K4 := Lib.hid (K0.out.trans (grown_to g4 K0.out.size (Nat.le_refl _)))
                         have hcz4 := HW.out w4 K4.out
                         clear g4 H hcz
                         simp only [])
            go_roundw
            case rel => exact ⟨j + 1, by go_num, by omega, by rw [EQ.out]; exact C4.out, K4.out⟩
            case measure => simp [intOf]; omega
          · obtain ⟨t, rfl⟩ : ∃ t : Nat, z = (t : Int) := ⟨z.toNat, by omega⟩
            have hzn : ¬ ((t : Int) < 0) := by omega
            have CN := Lib.hid (cF_is w2.heap.size m c3 p A2 (P ++ more) 8 wr C0.out ML.out L2.out (by omega) (by omega) (Y2.out.next K0.out) t (enc j (t : Int)).length 0 (Lib.hid (by rw [HR.out, enc_2 h3]; exact rd_F (by have := HIN.out.2; omega) r)))
            have hr3 : (j : Int) % 3 = 2 := by omega
            have EQ := Lib.hid EP.out
            obtain ⟨np, hnp⟩ : ∃ np, p + (enc j (t : Int)).length = np := ⟨_, rfl⟩
            rw [hnp] at CN EQ
            clear h3 hnp hz hpm
            go_wp2_with (go_at_call 26; refine CN.out.mono ?_; rintro e w4 ⟨rfl, H, g4⟩
                         have C4 := Lib.hid H
                         have K4 := Lib.hid (K0.out.trans (grown_to g4 K0.out.size (Nat.le_refl _)))
                         have hcz4 := HW.out w4 K4.out
                         clear g4 H hcz
                         simp only [])
            go_roundw
            case rel => exact ⟨j + 1, by go_num, by omega, by rw [EQ.out]; exact C4.out, K4.out⟩
            case measure => simp [intOf]; omega
        · obtain rfl : j = i := by omega
          have hq3 : Hid (((P ++ more).drop k).take q = more) := Lib.hid (by rw [List.drop_left' HK.out, List.take_of_length_le (by rw [HQ.out]; exact Nat.le_refl _)])
          rw [PL.out] at C0
          have hkm : k + q = m := HM2.out
          obtain ⟨A5, hA5⟩ : ∃ A5, sh A2 (k + q) k = A5 := ⟨_, rfl⟩
          have CB := Lib.hid (cB_ok w2.heap.size m c3 k q A2 wr C0.out L2.out (by omega) (by omega))
          rw [hA5] at CB
          have YA : Hid (∀ W, By W A2 (P ++ more) → By W A5 more) := Lib.hid fun W h => (by
            have := By.part (i := k) (k := q) h (by rw [ML.out]; omega)
            rw [hA5, hq3.out] at this
            exact this)
          have KM := Lib.hid hkm
          rw [hkm] at CB
          have LF : Hid (∀ W, Cur w2.heap.size (.slice A2 m c3) m 0 W → Calls Try.prog 22 #[.pointer (some ⟨w2.heap.size, 0, none⟩)] W fun x w' => x = .returned (.int .i64 0) ∧ Below W.heap.size W w') := Lib.hid fun W h => (by
            have := left_any w2.heap.size A2 m c3 m 0 W h (Nat.le_refl _) (by simp only [maxLen]; omega)
            rw [Nat.sub_self] at this
            exact this)
          clear hA5 hkm hlt
          go_wp2_with (first
            | (go_at_call 21; (with_reducible refine (at_any w2.heap.size _ _ _ _ C0.out).mono ?_); rintro e w' ⟨rfl, rfl⟩; simp only [])
            | (go_at_call 23; (with_reducible refine (err_any w2.heap.size _ _ _ _ C0.out).mono ?_); rintro e w' ⟨rfl, rfl⟩; simp only [])
            | (go_at_call 27; refine CB.out.mono ?_; rintro e w4 ⟨rfl, H, g4⟩
               have C4 := Lib.hid H
               have K4 := Lib.hid (K0.out.trans (grown_to g4 K0.out.size (Nat.le_refl _)))
               have B4 := Lib.hid (B2.out.trans (K4.out.mono B2.out.size))
               clear g4 H
               simp only [])
            | (go_at_call 11; (with_reducible refine (bytes_n A5 a2 q c2 q q more more true _ HQ.out HQ.out (YA.out _ (Y2.out.next K4.out)) (HB.out.next B4.out) (by omega) (Lib.hid (decide_eq_true rfl))).mono ?_); rintro e w6 ⟨rfl, k6⟩
               have C6 := Lib.hid (C4.out.next k6)
               have B6 := Lib.hid (B4.out.trans (k6.mono B4.out.size))
               clear k6
               simp only [])
            | (go_at_call 22; refine (LF.out _ C6.out).mono ?_; rintro e w7 ⟨rfl, k7⟩
               have B7 := Lib.hid (B6.out.trans (k7.mono B6.out.size))
               clear k7
               simp only [])
            | (go_at_call 17; refine (awake_yes _).mono ?_; rintro e w9 ⟨rfl, k9⟩
               have B9 := Lib.hid (B7.out.trans (k9.mono B7.out.size))
               clear k9
               simp only []))
          go_ret
          exact ⟨rfl, B9.out⟩

theorem walk (a : Option Addr) (c : Nat) (zs : List Int) (a2 : Option Addr) (c2 : Nat) (more : List UInt8) (w : World) (_ : zs.length ≤ c) (_ : c ≤ maxLen) (hz : Is w a zs) (_ : more.length ≤ c2) (_ : c2 ≤ maxLen) (hc2 : a2 = none → c2 = 0) (hb : By w a2 more) :
    Calls Try.prog 5 #[.slice a zs.length c, .slice a2 more.length c2] w fun e w' => e = .returned (.bool true) ∧ Below w.heap.size w w' := by
  by_cases h : 40 < zs.length ∨ 100 < more.length
  · exact walk_out a a2 c c2 zs more w h
  · exact walk_few a a2 c c2 zs more w (by omega) (by omega) hz hb hc2
end wireBack
end Go.Proofs.Ytdepbhikkjfcjaa
