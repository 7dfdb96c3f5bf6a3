/- The contracts of the reference's Step, Bits, Sum, Shift and Long; nothing that was in memory changes. -/
import Derived.Test.YtbdbkbmgiejdfaaDoorChecked
import Derived.Test.YtbdbkbmgiejdfaaDoorPsh
import Derived.Test.YtbdbkbmgiejdfaaDoorCrp
namespace Go.Proofs.YtbdbkbmgiejdfaaDoor
open Go.RowKit
attribute [local go_sem] Oper.semAt_some

theorem xor1_odd {c : Nat} (h : c % 2 = 1) : c ^^^ 1 = c - 1 := by
  have e : c = (c / 2 * 2 ^ 1) ^^^ 1 := by rw [← low_up _ _ 1 (by omega)]; omega
  conv => lhs; rw [e, Nat.xor_assoc, Nat.xor_self, Nat.xor_zero]
  omega
theorem xor1_even {c : Nat} (h : c % 2 = 0) : c ^^^ 1 = c + 1 := by
  have e : c + 1 = (c / 2 * 2 ^ 1) ^^^ 1 := by rw [← low_up _ _ 1 (by omega)]; omega
  rw [e, show c / 2 * 2 ^ 1 = c by omega]

set_option maxRecDepth 20000 in
set_option maxHeartbeats 1000000 in
theorem rstep_any (c b v : Nat) (w : World) (h : Hid (c < 4294967296 ∧ b ≤ 1 ∧ ss (c ^^^ b) = v)) :
    Calls Tryd.prog 18 #[.int .i64 (c : Int), .int .i64 (b : Int)] w fun e w' => e = .returned (.int .i64 (v : Int)) ∧ w' = w := by
  obtain ⟨hc, hb, hv⟩ := h.out
  clear h
  have hp : ∀ x : Nat, x < 4294967296 → bits .xor .i64 (x : Int) 3988292384 = ((x ^^^ 3988292384 : Nat) : Int) := fun x hx => xor_i64 (b := 3988292384) (by omega) (by omega)
  by_cases hb1 : b = 1
  · subst hb1
    rcases Nat.mod_two_eq_zero_or_one c with h2 | h2
    · rw [xor1_even h2, ss, if_pos (by omega)] at hv
      have hx := hp ((c + 1) / 2) (by omega)
      rw [hv, show (((c + 1) / 2 : Nat) : Int) = ((c : Int) + 1) / 2 by omega] at hx
      have t1 : ((c : Int) % 2 == 1) = false := by simp; omega
      have t2 : (((c : Int) + 1) % 2 == 1) = true := by simp; omega
      clear hp hv h2 hb
      go_enter Tryd.func18, Tryd.ntmps18
      go_wp2
      go_ret
      exact ⟨rfl, rfl⟩
    · rw [xor1_odd h2, ss, if_neg (by omega)] at hv
      have HV : Hid (((c : Int) - 1) / 2 = (v : Int)) := Lib.hid (by omega)
      have t1 : ((c : Int) % 2 == 1) = true := by simp; omega
      have t2 : (((c : Int) - 1) % 2 == 1) = false := by simp; omega
      have t3 : 0 ≤ (c : Int) - 1 := by omega
      clear hp hv h2 hb
      go_enter Tryd.func18, Tryd.ntmps18
      go_wp2
      go_ret
      rw [HV.out]
      exact ⟨rfl, rfl⟩
  · obtain rfl : b = 0 := by omega
    rw [Nat.xor_zero, ss] at hv
    rcases Nat.mod_two_eq_zero_or_one c with h2 | h2
    · rw [if_neg (by omega)] at hv
      have HV : Hid ((c : Int) / 2 = (v : Int)) := Lib.hid (by omega)
      have t1 : ((c : Int) % 2 == 1) = false := by simp; omega
      clear hp hv h2 hb hb1
      go_enter Tryd.func18, Tryd.ntmps18
      go_wp2
      go_ret
      rw [HV.out]
      exact ⟨rfl, rfl⟩
    · rw [if_pos h2] at hv
      have hx := hp (c / 2) (by omega)
      rw [hv, show ((c / 2 : Nat) : Int) = (c : Int) / 2 by omega] at hx
      have t1 : ((c : Int) % 2 == 1) = true := by simp; omega
      clear hp hv h2 hb hb1
      go_enter Tryd.func18, Tryd.ntmps18
      go_wp2
      go_ret
      exact ⟨rfl, rfl⟩
theorem rstep_0 (c v : Nat) (w : World) (h : Hid (c < 4294967296 ∧ ss c = v)) :
    Calls Tryd.prog 18 #[.int .i64 (c : Int), .int .i64 0] w fun e w' => e = .returned (.int .i64 (v : Int)) ∧ w' = w :=
  rstep_any c 0 v w (Lib.hid ⟨h.out.1, by omega, by rw [Nat.xor_zero]; exact h.out.2⟩)

set_option maxRecDepth 20000 in
set_option maxHeartbeats 1000000 in
theorem rbits_any (a : Option Addr) (ca n : Nat) (l : List UInt8) (w : World) (ha : By w a l) (hn : l.length = n) (hl : n ≤ 1000) :
    Calls Tryd.prog 17 #[.slice a n ca] w (CollI (bsL l) w) := by
  have HA := Lib.hid ha
  have HN := Lib.hid hn
  clear ha hn
  go_enter Tryd.func17, Tryd.ntmps17
  go_wp2
  go_loopw [3, 4] (fun vo vi w' => ∃ (i m : Nat) (A : Option Addr) (c : Nat), vo = .slice A m c ∧ vi = .int .i64 i ∧ i ≤ n ∧ m = 8 * i ∧ w'.ownsRow w.heap.size 3 1 (.slice A m c) m (icl (bsL (l.take i))) ∧ Below w.heap.size w w') (fun _ vi _ => n - (intOf vi).toNat)
  case atStart => exact ⟨0, 0, none, 0, rfl, rfl, Nat.zero_le _, rfl, World.ownsRow_nil _ _ _ _, Below.refl _ _⟩
  case round =>
    obtain ⟨i, m, A, c, rfl, rfl, hi, hm, hO, hB⟩ := hrel
    have HO := Lib.hid hO
    have HB := Lib.hid hB
    have HM := Lib.hid hm
    clear hO hB hm
    by_cases hlt : i < n
    · obtain ⟨b, off, rfl, hb1, hc1⟩ := HA.out i (by rw [HN.out]; exact hlt)
      have hc2 : wr.cell? ⟨b, off + i, none⟩ = some (.int .u8 ((l.getD i 0).toNat : Int)) := by rw [HB.out.cell (p := ⟨b, off + i, none⟩) hb1]; exact hc1
      have HS : Hid (bsL (l.take (i + 1)) = bsL (l.take i) ++ bt 8 (l.getD i 0).toNat) := Lib.hid (by
        rw [List.take_succ_eq_append_getElem (by rw [HN.out]; exact hlt), bsL_snoc]
        simp [List.getD, List.getElem?_eq_getElem (show i < l.length by rw [HN.out]; exact hlt)])
      have HL : Hid ((bsL (l.take i)).length = m) := Lib.hid (by rw [bsL_len, List.length_take, HN.out, HM.out]; omega)
      have hd8 := u8_bd (l.getD i 0)
      obtain ⟨d, hd⟩ : ∃ d, (l.getD i 0).toNat = d := ⟨_, rfl⟩
      obtain ⟨p, hp⟩ : ∃ p, bsL (l.take i) = p := ⟨_, rfl⟩
      rw [hp] at HS HL HO
      rw [hd] at hc2 hd8 HS
      have hm8 : m ≤ 8000 := by have := HM.out; omega
      clear hd hp hc1
      go_wp2
      go_loopw [3, 5, 6] (fun vo vn vk w' => ∃ (k mm : Nat) (A : Option Addr) (c : Nat), vo = .slice A mm c ∧ vn = .int .i64 ((d / 2 ^ k : Nat) : Int) ∧ vk = .int .i64 k ∧ k ≤ 8 ∧ mm = m + k ∧ w'.ownsRow w.heap.size 3 1 (.slice A mm c) mm (icl (p ++ bt k d)) ∧ Below w.heap.size w w') (fun _ _ vk _ => 8 - (intOf vk).toNat)
      case atStart => exact ⟨0, m, A, c, rfl, by simp, rfl, by omega, rfl, by rw [bt, List.append_nil]; exact HO.out, HB.out⟩
      case round =>
        obtain ⟨k, mm, A1, c1, rfl, rfl, rfl, hk, hmm, hO, hB⟩ := hrel
        have HO1 := Lib.hid hO
        have HB1 := Lib.hid hB
        have HMM := Lib.hid hmm
        have hmm8 : mm ≤ 9000 := by omega
        have HPS := Lib.hid (bt_snoc k d)
        have HPL : Hid ((p ++ bt k d).length = mm) := Lib.hid (by rw [List.length_append, bt_len, HL.out, HMM.out])
        have HD : Hid (d / 2 ^ (k + 1) = d / 2 ^ k / 2) := Lib.hid (by rw [Nat.pow_succ, Nat.div_div_eq_div_mul])
        have hq8 : d / 2 ^ k ≤ d := Nat.div_le_self _ _
        obtain ⟨q, hq⟩ : ∃ q, d / 2 ^ k = q := ⟨_, rfl⟩
        rw [hq] at HPS HD hq8 ⊢
        clear hO hB hmm hq
        by_cases hk8 : k < 8
        · go_wp2_with (at_builtin
                       have HO' : Hid ((wr.alloc (.cells #[.int .i64 ((q % 2 : Nat) : Int)] 3)).ownsRow w.heap.size 3 1 (.slice A1 mm c1) mm (icl (p ++ bt k d))) := Lib.hid (wown_keep HO1.out ((Below.refl _ _).alloc (Nat.le_refl _) _))
                       refine wpList_ipush (by rfl) (.tmp 22) (.tmp 25) (by rfl) (m := mm + 1) HPL.out rfl HO'.out (by rfl) ⟨wr.heap.size, 0, none⟩ (q % 2) (by rfl) (by simp) (by omega) (by have := HB1.out.size; simp; omega) ?_
                       intro A2 c2 w2 o2 b2
                       have O2 := Lib.hid o2
                       have B2 := Lib.hid ((HB1.out.alloc HB1.out.size (.cells #[.int .i64 ((q % 2 : Nat) : Int)] 3)).trans b2)
                       clear o2 b2 HO')
          go_roundw
          case rel => exact ⟨k + 1, mm + 1, A2, c2, rfl, by rw [HD.out]; go_num, by go_num, by omega, by rw [HMM.out]; omega, by rw [HPS.out, ← List.append_assoc]; exact O2.out, B2.out⟩
          case measure => simp [intOf]; omega
        · have hk2 : k = 8 := by omega
          have HE : Hid (wr.ownsRow w.heap.size 3 1 (.slice A1 mm c1) mm (icl (bsL (l.take (i + 1))))) := Lib.hid (by rw [HS.out, ← hk2]; exact HO1.out)
          have HE2 : Hid (mm = 8 * (i + 1)) := Lib.hid (by rw [HMM.out, HM.out, hk2]; omega)
          have hk9 : ¬ (k : Int) < 8 := by omega
          clear hk2
          go_wp2
          go_roundw
          case rel => exact ⟨i + 1, mm, A1, c1, rfl, by go_num, by omega, HE2.out, HE.out, HB1.out⟩
          case measure => simp [intOf]; omega
    · have hin : i = n := by omega
      have HE : Hid (l.take i = l) := Lib.hid (by rw [hin, ← HN.out, List.take_length])
      have HE2 : Hid ((bsL l).length = m) := Lib.hid (by rw [bsL_len, HN.out, HM.out, hin])
      clear hin
      go_wp2
      go_ret
      have := HO.out
      rw [HE.out] at this
      exact CollI.of HE2.out rfl this HB.out

theorem fb_take (c : Nat) (l : List Nat) (k : Nat) (h : k < l.length) : ss (fb c (l.take k) ^^^ l.getD k 0) = fb c (l.take (k + 1)) := by
  rw [List.take_succ_eq_append_getElem h, fb_snoc]
  simp [List.getD, List.getElem?_eq_getElem h]
theorem isB_get {l : List Nat} (h : isB l) (k : Nat) : l.getD k 0 ≤ 1 := by
  by_cases hk : k < l.length
  · simp only [List.getD, List.getElem?_eq_getElem hk, Option.getD_some]; exact h _ (List.getElem_mem hk)
  · simp [List.getD, List.getElem?_eq_none (Nat.le_of_not_lt hk)]

set_option maxRecDepth 20000 in
set_option maxHeartbeats 1000000 in
theorem rsum_any (a : Option Addr) (ca n v : Nat) (l : List UInt8) (w : World) (ha : By w a l) (hn : l.length = n) (hl : n ≤ 1000) (hv : Hid (su l = v)) :
    Calls Tryd.prog 10 #[.slice a n ca] w fun e w' => e = .returned (.int .i64 (v : Int)) ∧ Below w.heap.size w w' := by
  have CB := Lib.hid (rbits_any a ca n l w ha hn hl)
  have HBL := bsL_len l
  have HIB := Lib.hid (bsL_b l)
  have HV := Lib.hid (show 4294967295 - fb 4294967295 (bsL l) = v by rw [fb_bsL, ← su_rest]; exact hv.out)
  rw [hn] at HBL
  obtain ⟨B, hB⟩ : ∃ B, bsL l = B := ⟨_, rfl⟩
  obtain ⟨m, hm⟩ : ∃ m, B.length = m := ⟨_, rfl⟩
  rw [hB] at CB HBL HIB HV
  rw [hm] at HBL
  have HM := Lib.hid hm
  have hm8 : m ≤ 8000 := by omega
  clear ha hn hB hm HBL hv
  go_enter Tryd.func10, Tryd.ntmps10
  go_wp2_with (go_at_call 17; refine CB.out.mono ?_; rintro e w1 ⟨A1, c1, rfl, o1, k1⟩
               have N1 := Lib.hid (Nu.of_own o1)
               have B1 := Lib.hid k1
               rw [HM.out]
               clear o1 k1
               simp only [])
  go_loopw [4, 5] (fun vc vi w' => ∃ (i c : Nat), vc = .int .i64 c ∧ vi = .int .i64 i ∧ i ≤ m ∧ c < 4294967296 ∧ fb 4294967295 (B.take i) = c ∧ w1 = w') (fun _ vi _ => m - (intOf vi).toNat)
  case atStart => exact ⟨0, 4294967295, rfl, rfl, Nat.zero_le _, by decide, rfl, rfl⟩
  case round =>
    obtain ⟨i, c, rfl, rfl, hi, hc, hf, rfl⟩ := hrel
    have HF := Lib.hid hf
    clear hf
    by_cases hlt : i < m
    · obtain ⟨b, off, rfl, hb1, hc1⟩ := N1.out i (by rw [HM.out]; exact hlt)
      have HFT := fb_take 4294967295 B i (by rw [HM.out]; exact hlt)
      rw [HF.out] at HFT
      have hd1 := isB_get HIB.out i
      obtain ⟨d, hd⟩ : ∃ d, B.getD i 0 = d := ⟨_, rfl⟩
      obtain ⟨y, hy⟩ : ∃ y, fb 4294967295 (B.take (i + 1)) = y := ⟨_, rfl⟩
      rw [hd] at hc1 HFT hd1
      rw [hy] at HFT
      have hyl : y < 4294967296 := by rw [← hy]; exact fb_lt _ (fun x hx => HIB.out x (List.mem_of_mem_take hx)) (by decide)
      have HS : Hid (c < 4294967296 ∧ d ≤ 1 ∧ ss (c ^^^ d) = y) := Lib.hid ⟨hc, hd1, HFT⟩
      have HY := Lib.hid hy
      clear hd HFT hy hb1
      go_wp2_with (go_at_call 18; refine (rstep_any c d y _ HS).mono ?_; rintro e w' ⟨rfl, rfl⟩)
      go_roundw
      case rel => exact ⟨i + 1, y, rfl, by go_num, by omega, hyl, HY.out, trivial⟩
      case measure => simp [intOf]; omega
    · have him : i = m := by omega
      have HE : Hid ((4294967295 : Int) - (c : Int) = (v : Int)) := Lib.hid (by
        have h1 := HV.out
        have h2 := HF.out
        rw [him, ← HM.out, List.take_length] at h2
        rw [h2] at h1
        omega)
      clear him
      go_wp2
      go_ret
      rw [HE.out]
      exact ⟨rfl, B1.out⟩

set_option maxRecDepth 20000 in
set_option maxHeartbeats 1000000 in
theorem rshift_any (c n v : Nat) (w : World) (hc : c < 4294967296) (hn : n ≤ 1048576) (hv : Hid (sn (8 * n) c = v)) :
    Calls Tryd.prog 13 #[.int .i64 (c : Int), .int .i64 (n : Int)] w fun e w' => e = .returned (.int .i64 (v : Int)) ∧ w = w' := by
  go_enter Tryd.func13, Tryd.ntmps13
  go_wp2
  go_loop [0, 5] (fun vc vi => ∃ (i s : Nat), vc = .int .i64 s ∧ vi = .int .i64 i ∧ i ≤ 8 * n ∧ s < 4294967296 ∧ sn i c = s) (fun _ vi => 8 * n - (intOf vi).toNat)
  case atStart => exact ⟨0, c, rfl, rfl, Nat.zero_le _, hc, rfl⟩
  case round =>
    obtain ⟨i, s, rfl, rfl, hi, hs, hf⟩ := hrel
    have HF := Lib.hid hf
    clear hf
    by_cases hlt : i < 8 * n
    · have hlt2 : (i : Int) < 8 * (n : Int) := by omega
      obtain ⟨y, hy⟩ : ∃ y, ss s = y := ⟨_, rfl⟩
      have HY : Hid (sn (i + 1) c = y) := Lib.hid (by rw [sn_add, HF.out]; exact hy)
      have hyl : y < 4294967296 := by rw [← hy]; exact ss_lt (k := 32) (by omega) (by omega)
      have HS : Hid (s < 4294967296 ∧ ss s = y) := Lib.hid ⟨hs, hy⟩
      clear hy
      go_wp2_with (go_at_call 18; refine (rstep_0 s y _ HS).mono ?_; rintro e w' ⟨rfl, rfl⟩)
      go_round
      case rel => exact ⟨i + 1, y, rfl, by go_num, by omega, hyl, HY.out⟩
      case measure => simp [intOf]; omega
    · have hlt2 : ¬ (i : Int) < 8 * (n : Int) := by omega
      have HE : Hid (s = v) := Lib.hid (by rw [← HF.out, ← hv.out]; congr 1; omega)
      clear hlt
      go_wp2
      go_ret
      rw [HE.out]
      exact ⟨rfl, rfl⟩

set_option maxRecDepth 20000 in
set_option maxHeartbeats 1000000 in
theorem rlong_any (n v : Nat) (w : World) (hn : n < 9223372036854775808) (hv : Hid (Lib.bitLen n = v)) :
    Calls Tryd.prog 15 #[.int .i64 (n : Int)] w fun e w' => e = .returned (.int .i64 (v : Int)) ∧ w = w' := by
  have hv64 : v ≤ 64 := by rw [← hv.out]; exact long_le (by omega) (by omega)
  go_enter Tryd.func15, Tryd.ntmps15
  go_wp2
  go_loop [0, 3] (fun vx vk => ∃ (x k : Nat), vx = .int .i64 x ∧ vk = .int .i64 k ∧ x ≤ n ∧ k + Lib.bitLen x = v) (fun vx _ => (intOf vx).toNat)
  case atStart => exact ⟨n, 0, rfl, rfl, Nat.le_refl _, by rw [Nat.zero_add]; exact hv.out⟩
  case round =>
    obtain ⟨x, k, rfl, rfl, hx, hk⟩ := hrel
    have HK := Lib.hid hk
    have hk64 : k ≤ 64 := by omega
    clear hk
    by_cases h0 : x = 0
    · subst h0
      have HE : Hid (k = v) := Lib.hid (by have := HK.out; rw [long_zero] at this; omega)
      go_wp2
      go_ret
      rw [HE.out]
      exact ⟨rfl, rfl⟩
    · have hpos : (x : Int) > 0 := by omega
      have HH : Hid (k + 1 + Lib.bitLen (x / 2) = v) := Lib.hid (by have := HK.out; rw [long_half (by omega) h0] at this; omega)
      clear h0
      go_wp2
      go_round
      case rel => exact ⟨x / 2, k + 1, by go_num, by go_num, by omega, HH.out⟩
      case measure => simp [intOf]; omega
end Go.Proofs.YtbdbkbmgiejdfaaDoor
