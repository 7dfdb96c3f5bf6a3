/- The contracts of the reference's Read, Number and Back; nothing that was in memory changes. -/
import Derived.Test.YtdepbhikkjfcjaaWrP
import Derived.Test.YtdepbhikkjfcjaaWrR
namespace Go.Proofs.Ytdepbhikkjfcjaa
open Go.RowKit Go.Shelf
attribute [local go_sem] Oper.semAt_some

theorem bt_mod : ∀ (k n m : Nat), n % 2 ^ k = m % 2 ^ k → bt k n = bt k m
  | 0, _, _, _ => rfl
  | k + 1, n, m, h => by
    rw [Nat.pow_succ, Nat.mul_comm (2 ^ k) 2, Nat.mod_mul, Nat.mod_mul] at h
    have h1 : n % 2 = m % 2 := by omega
    have h2 : n / 2 % 2 ^ k = m / 2 % 2 ^ k := by omega
    rw [bt, bt, h1, bt_mod k _ _ h2]
theorem bt_take : ∀ (j k n : Nat), j ≤ k → (bt k n).take j = bt j n
  | 0, _, _, _ => by simp [bt]
  | j + 1, 0, _, h => by omega
  | j + 1, k + 1, n, h => by rw [bt, bt, List.take_succ_cons, bt_take j k _ (by omega)]
theorem bt_get : ∀ (k n i : Nat), i < k → (bt k n).getD i 0 = n / 2 ^ i % 2
  | 0, _, _, h => by omega
  | k + 1, n, 0, _ => by simp [bt]
  | k + 1, n, i + 1, h => by
    rw [bt, List.getD_cons_succ, bt_get k _ i (by omega), Nat.div_div_eq_div_mul, Nat.pow_succ, Nat.mul_comm (2 ^ i) 2]
/-- The bits of one piece more. -/
theorem bits_next (b : List UInt8) (n : Nat) (h : n < b.length) : bt (7 * n) (vl (b.take n)) = bt (7 * n) (vl (b.take (n + 1))) := by
  apply bt_mod
  have hl : (b.take n).length = n := by rw [List.length_take]; omega
  rw [take_snoc h, vl_snoc, hl, show 128 ^ n = 2 ^ (7 * n) by rw [Nat.pow_mul], Nat.add_mul_mod_self_right]
theorem bit_at (b : List UInt8) (n j : Nat) (h : n < b.length) (hj : j < 7) : vl (b.take (n + 1)) / 2 ^ (7 * n + j) % 2 = (b.getD n 0).toNat / 2 ^ j % 2 := by
  have hl : (b.take n).length = n := by rw [List.length_take]; omega
  have hlt := vl_lt (b.take n)
  rw [hl] at hlt
  have h128 : 128 ^ n = 2 ^ (7 * n) := by rw [Nat.pow_mul]
  rw [take_snoc h, vl_snoc, hl, Nat.pow_add, ← Nat.div_div_eq_div_mul, ← h128, Nat.add_mul_div_right _ _ (Nat.pow_pos (by omega)), Nat.div_eq_of_lt hlt, Nat.zero_add]
  obtain ⟨x, hx⟩ : ∃ x, (b.getD n 0).toNat = x := ⟨_, rfl⟩
  rw [hx]
  rcases (show j = 0 ∨ j = 1 ∨ j = 2 ∨ j = 3 ∨ j = 4 ∨ j = 5 ∨ j = 6 by omega) with rfl | rfl | rfl | rfl | rfl | rfl | rfl <;> omega
theorem vl_take_lt (b : List UInt8) (n : Nat) : vl (b.take n) < 2 ^ (7 * n) := by
  have h := vl_lt (b.take n)
  have h2 : (b.take n).length ≤ n := by rw [List.length_take]; omega
  rw [Nat.pow_mul]
  exact Nat.lt_of_lt_of_le h (Nat.pow_le_pow_right (by omega) h2)
/-- Ten pieces are more than 64 bits just where the tenth is above 1. -/
theorem ten_pieces (b : List UInt8) (h : 10 ≤ b.length) (hl : (b.getD 9 0).toNat < 128) : vl (b.take 10) < 18446744073709551616 ↔ (b.getD 9 0).toNat ≤ 1 := by
  have e : (b.take 9).length = 9 := by rw [List.length_take]; omega
  have hlt := vl_lt (b.take 9)
  rw [e] at hlt
  rw [take_snoc (by omega), vl_snoc, e]
  omega

/-- What Read gives: what is wrong; or the bits, and how many pieces. -/
def RdOut (V N E : Nat) (w : World) (e : Ending) (w' : World) : Prop :=
  (E ≠ 0 ∧ e = .returned (.tuple #[.slice none 0 0, .int .i64 0, .int .i64 (E : Int)]) ∧ Below w.heap.size w w') ∨
  (E = 0 ∧ ∃ A cc, e = .returned (.tuple #[.slice A 64 cc, .int .i64 (N : Int), .int .i64 0]) ∧ 64 ≤ cc ∧ Nu w' A (bt 64 V) ∧ Below w.heap.size w w')

theorem takeI_run (a : Option Addr) (n c k : Nat) (h : k ≤ c) (W : World) : (Instr.slice 24 (.slice a n c) none (some (.int .i64 (k : Int))) none).run Try.prog W = .ok (.slice a k c) W := by
  have e : Try.prog.elem 24 = 3 := by kernel_rfl
  have hs : (sizeOf 3).run Try.prog W = .ok 1 W := by kernel_rfl
  rw [run_slice_h W 24 a n c (by rw [e]; exact Try.underlying24) .i64 k (by omega) (by omega), e, hs]
  simp only [Result.andThen, sliced, Int.toNat_natCast, Nat.zero_mul, Nat.sub_zero]
  by_cases h0 : c = 0
  · rw [if_pos h0]
  · rw [if_neg h0]
    congr 2
    cases a with
    | none => rfl
    | some x => simp [Addr.add]
theorem own_leI {w : World} {base n c : Nat} {A : Option Addr} {e : TypeId} {xs : List Value} (h : w.ownsRow base e 1 (.slice A n c) n xs) : n ≤ c := by
  rcases h.2 with ⟨h1, h2⟩ | ⟨g', cap, cur, hv, hb, hg, h1, h2, h3, h4⟩
  · omega
  · injection hv with e1 e2 e3; omega

theorem Nu.take {w : World} {a : Option Addr} {l : List Nat} (h : Nu w a l) (k : Nat) : Nu w a (l.take k) := fun j hj => by
  rw [List.length_take] at hj
  obtain ⟨b, off, e, hlt, hh⟩ := h j (by omega)
  refine ⟨b, off, e, hlt, ?_⟩
  rw [hh]
  simp [List.getD, show j < k by omega]
theorem block_lt_of_cell {w : World} {a : Addr} {v : Value} (h : w.cell? a = some v) : a.block < w.heap.size := by
  rcases Nat.lt_or_ge a.block w.heap.size with hlt | hge
  · exact hlt
  · simp [World.cell?, Array.getElem?_eq_none hge] at h
def lenOf (v : Value) : Nat := match v with | .slice _ n _ => n | _ => 0

set_option maxRecDepth 20000 in
set_option maxHeartbeats 8000000 in
theorem rread_any (a : Option Addr) (n c : Nat) (b : List UInt8) (w : World) (hn : b.length = n) (hb : By w a b) (V N E : Nat) (hv : Hid (rdV b = V ∧ rdN b = N ∧ rdE b = E)) :
    Calls Try.prog 32 #[.slice a n c] w (RdOut V N E w) := by
  have HB := Lib.hid hb
  have HN := Lib.hid hn
  clear hb hn
  go_enter Try.func32, Try.ntmps32
  go_wp2
  go_loopw [5, 6] (fun vo vi wr => ∃ (i : Nat) (A : Option Addr) (cc m : Nat), vo = .slice A m cc ∧ m = 7 * i ∧ vi = .int .i64 i ∧ i ≤ 10 ∧ i ≤ n ∧ i ≤ rn b ∧ wr.ownsRow w.heap.size 3 1 (.slice A m cc) m (icl (bt m (vl (b.take i)))) ∧ Below w.heap.size w wr) (fun _ vi _ => 10 - (intOf vi).toNat)
  case atStart => exact ⟨0, none, 0, 0, rfl, rfl, rfl, by omega, Nat.zero_le _, Nat.zero_le _, World.ownsRow_nil _ _ _ _, Below.refl _ _⟩
  case round =>
    obtain ⟨i, A, cc, m, rfl, hmi, rfl, hi, hin, hir, hO, hbw⟩ := hrel
    have HO := Lib.hid hO
    have B0 := Lib.hid hbw
    have HIR := Lib.hid hir
    have HMI := Lib.hid hmi
    clear hO hbw hir hmi
    by_cases h10 : i = 10
    · subst h10
      have HE : Hid (E = 12) := Lib.hid (by rw [← hv.out.2.2, rdE, if_pos HIR.out])
      go_wp2
      go_ret3
      rw [HE.out]
      exact .inl ⟨by omega, rfl, B0.out⟩
    · by_cases hend : n ≤ i
      · have HE : Hid (E = 20) := Lib.hid (by
          have h1 := rn_le b
          have h2 := HIR.out
          have h3 := HN.out
          rw [← hv.out.2.2, rdE, if_neg (by omega), if_pos (by omega)])
        have hge : (i : Int) ≥ (n : Int) := by omega
        have h10' : ((i : Int) == 10) = false := by simp; omega
        clear h10 hend
        go_wp2
        go_ret3
        rw [HE.out]
        exact .inl ⟨by omega, rfl, B0.out⟩
      · have h10' : ((i : Int) == 10) = false := by simp; omega
        have hge : ¬ ((i : Int) ≥ (n : Int)) := by omega
        obtain ⟨b1, o1, rfl, hb1, hc1⟩ := HB.out i (by rw [HN.out]; omega)
        have hW : ∀ W, Below w.heap.size w W → W.cell? ⟨b1, o1 + i, none⟩ = some (.int .u8 ((b.getD i 0).toNat : Int)) := fun W h => by rw [h.cell (p := ⟨b1, o1 + i, none⟩) hb1]; exact hc1
        have hc2 := hW wr B0.out
        have BN := Lib.hid (bits_next b i (by rw [HN.out]; omega))
        have BA := Lib.hid (fun j hj => bit_at b i j (by rw [HN.out]; omega) hj)
        have hxb := u8_bd (b.getD i 0)
        obtain ⟨M, hM⟩ : ∃ M, vl (b.take (i + 1)) = M := ⟨_, rfl⟩
        have HMv := Lib.hid hM
        obtain ⟨x, hx⟩ : ∃ x, (b.getD i 0).toNat = x := ⟨_, rfl⟩
        have HX := Lib.hid hx
        rw [hx] at hW hc2 hxb BA
        rw [hM] at BN BA
        have HW := Lib.hid hW
        have HI := Lib.hid (And.intro hi (And.intro hin (And.intro h10 hend)))
        have hi10 : i < 10 := by omega
        have hi0 : i + 1 ≤ n := by omega
        have O0 : Hid (wr.ownsRow w.heap.size 3 1 (.slice A m cc) m (icl (bt m M))) := Lib.hid (by have := HO.out; rw [HMI.out, BN.out, ← HMI.out] at this; exact this)
        clear hM hx hW hc1 hb1 h10 hend BN HO hi hin
        go_wp2
        clear hge h10' hc2
        go_loopw [5, 7, 8] (fun vo vx vj wr2 => ∃ (j k : Nat) (A : Option Addr) (cc : Nat), vo = .slice A k cc ∧ k = m + j ∧ vx = .int .i64 ((x / 2 ^ j : Nat) : Int) ∧ vj = .int .i64 j ∧ j ≤ 7 ∧ wr2.ownsRow w.heap.size 3 1 (.slice A k cc) k (icl (bt k M)) ∧ Below w.heap.size w wr2) (fun _ _ vj _ => 7 - (intOf vj).toNat)
        case atStart => exact ⟨0, m, A, cc, rfl, rfl, by simp, rfl, by omega, O0.out, B0.out⟩
        case round =>
          clear O0 B0
          obtain ⟨j, k, A, cc, rfl, hkj, rfl, rfl, hj, hO, hbw⟩ := hrel
          have HO := Lib.hid hO
          have B0 := Lib.hid hbw
          have HKJ := Lib.hid hkj
          have hkb : k ≤ 100 := by have := HMI.out; omega
          clear hO hbw hkj
          by_cases hj7 : j < 7
          · have BS := Lib.hid (show bt (k + 1) M = bt k M ++ [x / 2 ^ j % 2] by rw [bt_snoc, HKJ.out, HMI.out, BA.out j hj7])
            have hd : x / 2 ^ j ≤ x := Nat.div_le_self _ _
            have HD := Lib.hid (show x / 2 ^ (j + 1) = x / 2 ^ j / 2 by rw [Nat.pow_succ, Nat.div_div_eq_div_mul])
            obtain ⟨q, hq⟩ : ∃ q, x / 2 ^ j = q := ⟨_, rfl⟩
            rw [hq] at BS HD hd ⊢
            have hw : wrap64 ((q : Int) / 2) = (q : Int) / 2 := by unfold wrap64; omega
            clear hq
            go_wp2_with (at_builtin
                         have HO' : Hid ((wr.alloc (.cells #[.int .i64 ((q % 2 : Nat) : Int)] 3)).ownsRow w.heap.size 3 1 (.slice A k cc) k (icl (bt k M))) := Lib.hid (own_keep HO.out ((Below.refl _ _).alloc (Nat.le_refl _) _))
                         refine wpList_ipush (by rfl) (.tmp 25) (.tmp 28) (by rfl) (m := k + 1) (bt_len k M) rfl HO'.out (by rfl) ⟨wr.heap.size, 0, none⟩ (q % 2) (by rfl) (by simp) (by omega) (by have := B0.out.size; simp; omega) ?_
                         intro A2 c2 w2 o2 b2
                         have O2 := Lib.hid o2
                         have B2 := Lib.hid ((B0.out.alloc B0.out.size (.cells #[.int .i64 ((q % 2 : Nat) : Int)] 3)).trans b2)
                         clear o2 b2 HO')
            go_roundw
            case rel => exact ⟨j + 1, k + 1, A2, c2, rfl, by have := HKJ.out; omega, by rw [HD.out]; go_num, by go_num, by omega, by rw [BS.out]; exact O2.out, B2.out⟩
            case measure => simp [intOf]; omega
          · obtain rfl : j = 7 := by omega
            have hc2 := HW.out _ B0.out
            have hk7 := HKJ.out
            by_cases hx : x < 128
            · have hxi : (x : Int) < 128 := by omega
              have RN : Hid (rn b = i) := Lib.hid (rn_is b i (by rw [HN.out]; omega) (fun j hj => rn_before b j (by have := HIR.out; omega)) (fun _ => by rw [HX.out]; exact hx))
              have T10 : Hid (i = 9 → (M < 18446744073709551616 ↔ x ≤ 1)) := Lib.hid (by
                rintro rfl
                rw [← HMv.out, ← HX.out]
                exact ten_pieces b (by rw [HN.out]; omega) (by rw [HX.out]; exact hx))
              have hi9 : i ≤ 9 := by omega
              have hlen : i < b.length := by rw [HN.out]; omega
              have EE : Hid (rdE b = if 1 ≤ i ∧ x = 0 then 12 else if i = 9 ∧ 1 < x then 12 else 0) := Lib.hid (by
                rw [rdE, RN.out, HX.out, if_neg (by omega), if_neg (by omega)])
              have ML : Hid (M < 2 ^ k) := Lib.hid (by
                have := vl_take_lt b (i + 1)
                rw [HMv.out, show 7 * (i + 1) = k by have := HMI.out; omega] at this
                exact this)
              have HK7 := Lib.hid (show k = 7 * i + 7 by have := HMI.out; omega)
              clear hx hk7
              by_cases hz : 1 ≤ i ∧ x = 0
              · have HE : Hid (E = 12) := Lib.hid (by rw [← hv.out.2.2, EE.out, if_pos hz])
                obtain ⟨hz1, rfl⟩ := hz
                have hi1 : (i : Int) + 1 > 1 := by omega
                go_wp2
                go_ret3
                rw [HE.out]
                exact .inl ⟨by omega, rfl, B0.out⟩
              · have HZ := Lib.hid hz
                have hor : (i = 0) ∨ (1 ≤ i ∧ x ≠ 0) := by omega
                clear hz
                have tail : ∀ (u : World), u = wr → Hid (∀ j v, (icl (bt k M))[j]? = some v → ∃ g, A = some ⟨g, 0, none⟩ ∧ wr.cell? ⟨g, j, none⟩ = some v) := fun _ _ => Lib.hid fun j v hj => (by
                  obtain ⟨g, cap, e1, _, e3⟩ := own_cells HO.out (by have := HMI.out; have := HKJ.out; omega)
                  exact ⟨g, e1, e3 j v hj⟩)
                have TC := tail wr rfl
                clear tail
                rcases hor with h | ⟨h, hne⟩
                focus
                  have h1 : ¬ ((i : Int) + 1 > 1) := by omega
                  clear h
                  go_wp2
                  clear h1
                rotate_left
                focus
                  have h1 : (i : Int) + 1 > 1 := by omega
                  have h2 : ((x : Int) == 0) = false := by simp; omega
                  clear h hne
                  go_wp2
                  clear h1 h2
                all_goals
                  clear hxi
                  go_loop [9] (fun vt => ∃ t : Nat, vt = .int .i64 t ∧ 64 ≤ t ∧ (t = 64 ∨ t ≤ k) ∧ M % 2 ^ t < 18446744073709551616) (fun vt => 101 - (intOf vt).toNat)
                  case atStart => exact ⟨64, rfl, by omega, .inl rfl, Nat.mod_lt _ (by omega)⟩
                  case round =>
                    obtain ⟨t, rfl, ht, htk, hmt⟩ := hrel
                    have HMT := Lib.hid hmt
                    clear hmt
                    by_cases htlt : t < k
                    · have hbt : (icl (bt k M))[t]? = some (.int .i64 ((M / 2 ^ t % 2 : Nat) : Int)) := by
                        have hl : t < (bt k M).length := by rw [bt_len]; exact htlt
                        have := bt_get k M t htlt
                        rw [icl, List.getElem?_map, List.getElem?_eq_getElem hl]
                        simp only [List.getD, List.getElem?_eq_getElem hl, Option.getD_some] at this
                        rw [this]; rfl
                      obtain ⟨g, rfl, hcell⟩ := TC.out t _ hbt
                      have hgl := block_lt_of_cell hcell
                      have hi9' : i = 9 := by have := HK7.out; omega
                      obtain ⟨v, hvv⟩ : ∃ v, M / 2 ^ t % 2 = v := ⟨_, rfl⟩
                      rw [hvv] at hcell
                      have hv1 : v ≤ 1 := by omega
                      have HVV := Lib.hid hvv
                      clear hbt hvv
                      rcases Nat.eq_zero_or_pos v with hv0 | hv0
                      · subst hv0
                        have HS : Hid (M % 2 ^ (t + 1) < 18446744073709551616) := Lib.hid (by rw [Nat.mod_pow_succ, HVV.out, Nat.mul_zero, Nat.add_zero]; exact HMT.out)
                        clear hi9'
                        go_wp2
                        go_round
                        case rel => exact ⟨t + 1, by go_num, by omega, .inr (by omega), HS.out⟩
                        case measure => simp [intOf]; omega
                      · have HE : Hid (E = 12) := Lib.hid (by
                          have h1 := T10.out hi9'
                          have h2 : 2 ^ 64 ≤ 2 ^ t := Nat.pow_le_pow_right (by omega) ht
                          have h3 : 2 ^ t ≤ M := by
                            rcases Nat.lt_or_ge M (2 ^ t) with h | h
                            · have := HVV.out; rw [Nat.div_eq_of_lt h] at this; omega
                            · exact h
                          have h4 : 1 < x := by
                            rcases Nat.lt_or_ge 1 x with h | h
                            · exact h
                            · have := h1.2 h; omega
                          rw [← hv.out.2.2, EE.out, if_neg HZ.out, if_pos ⟨hi9', h4⟩])
                        have hne : ((v : Int) != 0) = true := by simp; omega
                        clear hi9' hv0
                        go_wp2
                        go_ret3
                        rw [HE.out]
                        exact .inl ⟨by omega, rfl, B0.out⟩
                    · have hM64 : M < 18446744073709551616 := by
                        have h1 := ML.out
                        rcases htk with rfl | h
                        · have h2 : 2 ^ k ≤ 2 ^ 64 := Nat.pow_le_pow_right (by omega) (by omega)
                          omega
                        · obtain rfl : t = k := by omega
                          have := HMT.out
                          rwa [Nat.mod_eq_of_lt h1] at this
                      have HE : Hid (E = 0 ∧ V = M ∧ N = i + 1) := Lib.hid (by
                        have h0 : rdE b = 0 := by
                          rw [EE.out, if_neg HZ.out]
                          by_cases h9 : i = 9
                          · have := (T10.out h9).1 hM64
                            rw [if_neg (by omega)]
                          · rw [if_neg (by omega)]
                        have h := hv.out
                        rw [h0, rdV, rdN, if_pos h0, if_pos h0, RN.out, HMv.out] at h
                        exact ⟨h.2.2.symm, h.1.symm, h.2.1.symm⟩)
                      have hkt : ¬ ((t : Int) < (k : Int)) := by omega
                      clear htlt hM64 htk ht
                      go_wp2
                      clear hkt
                      go_loopw [5] (fun vo wr2 => ∃ (k2 : Nat) (A2 : Option Addr) (cc2 : Nat), vo = .slice A2 k2 cc2 ∧ k ≤ k2 ∧ k2 ≤ 70 ∧ wr2.ownsRow w.heap.size 3 1 (.slice A2 k2 cc2) k2 (icl (bt k2 M)) ∧ Below w.heap.size w wr2) (fun vo _ => 70 - lenOf vo)
                      case atStart => exact ⟨k, _, _, rfl, Nat.le_refl _, by have := HK7.out; omega, HO.out, B0.out⟩
                      case round =>
                        clear TC
                        obtain ⟨k2, A2, cc2, rfl, hkk, hk70, hO2, hbw2⟩ := hrel
                        have HO2 := Lib.hid hO2
                        have B02 := Lib.hid hbw2
                        clear hO2 hbw2
                        by_cases h64 : k2 < 64
                        · have BS := Lib.hid (show bt (k2 + 1) M = bt k2 M ++ [0] by
                            have h1 := ML.out
                            have h2 : 2 ^ k ≤ 2 ^ k2 := Nat.pow_le_pow_right (by omega) hkk
                            rw [bt_snoc, Nat.div_eq_of_lt (by omega)])
                          go_wp2_with (at_builtin
                                       have HO' : Hid ((wr.alloc (.cells #[.int .i64 0] 3)).ownsRow w.heap.size 3 1 (.slice A2 k2 cc2) k2 (icl (bt k2 M))) := Lib.hid (own_keep HO2.out ((Below.refl _ _).alloc (Nat.le_refl _) _))
                                       refine wpList_ipush (by rfl) (.tmp 64) (.tmp 65) (by rfl) (m := k2 + 1) (bt_len k2 M) rfl HO'.out (by rfl) ⟨wr.heap.size, 0, none⟩ 0 (by rfl) (by simp) (by omega) (by have := B02.out.size; simp; omega) ?_
                                       intro A3 c3 w3 o3 b3
                                       have O3 := Lib.hid o3
                                       have B3 := Lib.hid ((B02.out.alloc B02.out.size (.cells #[.int .i64 0] 3)).trans b3)
                                       clear o3 b3 HO')
                          go_roundw
                          case rel => exact ⟨k2 + 1, A3, c3, rfl, by omega, by omega, by rw [BS.out]; exact O3.out, B3.out⟩
                          case measure => simp [lenOf]; omega
                        · have h64' : ¬ ((k2 : Int) < 64) := by omega
                          have hcc := own_leI HO2.out
                          have hsl : ∀ W : World, (Instr.slice 24 (.slice A2 k2 cc2) none (some (.int .i64 64)) none).run Try.prog W = .ok (.slice A2 64 cc2) W := takeI_run A2 k2 cc2 64 (by omega)
                          have NT := Lib.hid ((Nu.of_own HO2.out).take 64)
                          rw [bt_take 64 k2 M (by omega)] at NT
                          clear h64
                          go_wp2
                          go_ret3
                          rw [HE.out.1, HE.out.2.1, HE.out.2.2]
                          exact .inr ⟨rfl, A2, cc2, rfl, by omega, NT.out, B02.out⟩
            · have hxi : ¬ ((x : Int) < 128) := by omega
              have HG : Hid (i + 1 ≤ rn b) := Lib.hid (rn_ge b (i + 1) (by rw [HN.out]; omega) (fun j hj => by
                rcases Nat.lt_or_ge j i with h | h
                · exact rn_before b j (by have := HIR.out; omega)
                · obtain rfl : j = i := by omega
                  rw [HX.out]; omega))
              have HK7 := Lib.hid (show k = 7 * (i + 1) by have := HMI.out; omega)
              clear hk7 hx
              go_wp2
              go_roundw
              case rel => exact ⟨i + 1, A, cc, k, rfl, HK7.out, by go_num, by omega, by omega, HG.out, by rw [HMv.out]; exact HO.out, B0.out⟩
              case measure => simp [intOf]; omega
end Go.Proofs.Ytdepbhikkjfcjaa
