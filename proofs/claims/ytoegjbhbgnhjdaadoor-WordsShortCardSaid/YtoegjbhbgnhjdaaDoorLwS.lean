/- Plain facts on letters that are turned, and the walk of the law WordsShort: for every word and mask it returns true, and nothing that was in memory changes. Written by wip/tools/gensh.py. -/
import Derived.Test.YtoegjbhbgnhjdaaDoorLwM
namespace Go.Proofs.YtoegjbhbgnhjdaaDoor
open Go.RowKit

/-- With more of its letters it stays what it is. -/
theorem firm_iter {ws : List (List UInt8)} (hF : Firm ws = true) {p : List UInt8} {i : Nat} (hp : ws[i]? = some p) {b : List UInt8} (h : findL b ws = some i) : ∀ n, b.length + n ≤ p.length → findL (p.take (b.length + n)) ws = some i
  | 0, _ => by rw [Nat.add_zero, ← (firm_at hF h hp).1]; exact h
  | n + 1, hn => by
    have ih := firm_iter hF hp h n (by omega)
    have h4 := (firm_at hF ih hp).2.2.2
    rw [List.length_take, Nat.min_eq_left (by omega)] at h4
    exact h4 (by omega)
theorem lowers (p : List UInt8) (h : ∀ d ∈ p, 97 ≤ d.toNat) (k : Nat) : low (p.take k) = p.take k := by
  unfold low
  refine (List.map_congr_left fun d hd => ?_).trans (List.map_id _)
  have := h d (List.mem_of_mem_take hd)
  unfold lowB
  rw [if_neg (by omega)]; rfl
theorem weeks_low : ∀ p ∈ weeksL, ∀ d ∈ p, 97 ≤ d.toNat := by decide +kernel
/-- All that is from k letters on is the same. -/
def Goes (ws : List (List UInt8)) (p : List UInt8) (i n : Nat) : Prop := ∀ k, n ≤ k → k ≤ p.length → findL (low (p.take k)) ws = some i
theorem goes_of {ws : List (List UInt8)} (hF : Firm ws = true) (hw : ∀ p ∈ ws, ∀ d ∈ p, 97 ≤ d.toNat) {p l : List UInt8} {i : Nat} (hp : ws[i]? = some p) (h : findL (low l) ws = some i) : Goes ws p i l.length := by
  intro k h1 h2
  rw [lowers p (hw p (List.mem_of_getElem? hp))]
  have := firm_iter hF hp h (k - l.length) (by rw [low_len]; omega)
  rwa [low_len, show l.length + (k - l.length) = k by omega] at this

set_option maxRecDepth 20000 in
theorem short_long (l : List UInt8) (m : Int) (w : World) (H : LaidW w) (hs : 40 < l.length) :
    Calls Tryd.prog 6 #[.string ⟨l.toArray⟩, .int .i64 m] w fun e w' => e = .returned (.bool true) ∧ Below w.heap.size w w' := by
  have hz := wsize l
  have HX := Lib.hid H
  clear H
  go_enter Tryd.func6, Tryd.ntmps6
  go_wp2_with (go_at_call 9; refine (wawake_any _ HX.out).mono ?_; rintro e w1 ⟨rfl, k1⟩)
  go_ret
  exact ⟨rfl, k1⟩

theorem up_nat {c : UInt8} (h1 : 97 ≤ c.toNat) (h2 : c.toNat ≤ 122) : (c - 32).toNat = c.toNat - 32 := by
  rw [UInt8.toNat_sub]; show (256 - 32 + c.toNat) % 256 = _; omega
theorem up_low {c : UInt8} (h1 : 97 ≤ c.toNat) (h2 : c.toNat ≤ 122) : lowB c = lowB (c - 32) := by
  apply UInt8.toNat_inj.1
  rw [lowB_toNat, lowB_toNat, up_nat h1 h2, if_neg (by omega), if_pos (by omega)]; omega
theorem dn_nat {c : UInt8} (h1 : 65 ≤ c.toNat) (h2 : c.toNat ≤ 90) : (c + 32).toNat = c.toNat + 32 := by
  rw [UInt8.toNat_add]; show (c.toNat + 32) % 256 = _; omega
theorem dn_low {c : UInt8} (h1 : 65 ≤ c.toNat) (h2 : c.toNat ≤ 90) : lowB c = lowB (c + 32) := by
  apply UInt8.toNat_inj.1
  rw [lowB_toNat, lowB_toNat, dn_nat h1 h2, if_pos (by omega), if_neg (by omega)]

set_option maxRecDepth 20000 in
set_option maxHeartbeats 4000000 in
theorem short_nn (l : List UInt8) (m : Int) (v1 e1 : Int) (w : World) (H : LaidX w) (hs : l.length ≤ 40) (H1 : Hid ((resN (findL (low l) kindsL) 1 : Int) = v1 ∧ (resE (findL (low l) kindsL) : Int) = e1)) (H2 : Hid ((resN (findL (low l) monthsL) 1 : Int) = 0 ∧ (resE (findL (low l) monthsL) : Int) = 13)) (H3 : Hid ((resN (findL (low l) weeksL) 0 : Int) = 0 ∧ (resE (findL (low l) weeksL) : Int) = 13)) :
    Calls Tryd.prog 6 #[.string ⟨l.toArray⟩, .int .i64 m] w fun e w' => e = .returned (.bool true) ∧ Below w.heap.size w w' := by
  have hz := wsize l
  have S0 := Lib.hid (StX.new H)
  clear H
  go_enter Tryd.func6, Tryd.ntmps6
  go_wp2
  go_loopw [5, 6] (fun vo vi w' => ∃ (i : Nat) (x : List UInt8), vi = .int .i64 i ∧ i ≤ l.length ∧ low (l.take i) = low x ∧ x.length = i ∧ vo = .string ⟨x.toArray⟩ ∧ StX w w') (fun _ vi _ => l.length - (intOf vi).toNat)
  case atStart => exact ⟨0, [], rfl, by omega, rfl, rfl, rfl, S0.out⟩
  case round =>
    obtain ⟨i, x, rfl, i1, hx, xl, rfl, kb⟩ := hrel
    have KB := Lib.hid kb
    have HX := Lib.hid hx
    clear kb hx
    by_cases hi : i < l.length
    · obtain ⟨c, hc⟩ : ∃ c, l.getD i 0 = c := ⟨_, rfl⟩
      have HC := Lib.hid hc
      have hix := wbyte_at l i hi c hc
      have clt := c.toNat_lt
      have hi' : (i : Int) < (l.length : Int) := by omega
      obtain ⟨s, hsm⟩ : ∃ s : Int, (i : Int) % 60 = s := ⟨_, rfl⟩
      have hs0 : 0 ≤ s := by omega
      have hs1 : s ≤ 64 := by omega
      obtain ⟨z, hz2⟩ : ∃ z : Int, m / 2 ^ s.toNat = z := ⟨_, rfl⟩
      obtain ⟨r, hr⟩ : ∃ r : Int, z.tmod 2 = r := ⟨_, rfl⟩
      clear hc
      by_cases hr0 : r = 0
      · subst hr0
        have TN : Hid (low (l.take (i + 1)) = low (x ++ [c])) := Lib.hid (by rw [take_snoc hi HC.out, low_snoc, HX.out, low_snoc])
        have had := wadd_lists x [c] (by omega) (by simp)
        have hcv := wone_byte wr (c)
        go_wp2
        go_roundw
        case rel => exact ⟨i + 1, _, by go_num, by omega, TN.out, by rw [List.length_append, xl]; rfl, rfl, KB.out.next ((Below.refl _ _).alloc (Nat.le_refl _) _)⟩
        case measure => simp [intOf]; omega
      · have hr1 : (r == 0) = false := by simp [hr0]
        clear hr0
        by_cases a1 : 97 ≤ c.toNat
        · by_cases a2 : c.toNat ≤ 122
          · have p1 : 97 ≤ (c.toNat : Int) := by omega
            have p2 : (c.toNat : Int) ≤ 122 := by omega
            have ed := up_nat a1 a2
            have el := up_low a1 a2
            obtain ⟨d, hd⟩ : ∃ d, c - 32 = d := ⟨_, rfl⟩
            rw [hd] at ed el
            have ed2 : (d.toNat : Int) = (c.toNat : Int) - 97 + 65 := by omega
            have TN : Hid (low (l.take (i + 1)) = low (x ++ [d])) := Lib.hid (by rw [take_snoc hi HC.out, low_snoc, HX.out, low_snoc, el])
            have had := wadd_lists x [d] (by omega) (by simp)
            have hcv := wone_byte wr (d)
            rw [ed2] at hcv
            clear hd ed ed2 el a1 a2
            go_wp2
            go_roundw
            case rel => exact ⟨i + 1, _, by go_num, by omega, TN.out, by rw [List.length_append, xl]; rfl, rfl, KB.out.next ((Below.refl _ _).alloc (Nat.le_refl _) _)⟩
            case measure => simp [intOf]; omega
          · have p1 : 97 ≤ (c.toNat : Int) := by omega
            have p2 : ¬ (c.toNat : Int) ≤ 122 := by omega
            have p3 : 65 ≤ (c.toNat : Int) := by omega
            have p4 : ¬ (c.toNat : Int) ≤ 90 := by omega
            clear a1 a2
            have TN : Hid (low (l.take (i + 1)) = low (x ++ [c])) := Lib.hid (by rw [take_snoc hi HC.out, low_snoc, HX.out, low_snoc])
            have had := wadd_lists x [c] (by omega) (by simp)
            have hcv := wone_byte wr (c)
            go_wp2
            go_roundw
            case rel => exact ⟨i + 1, _, by go_num, by omega, TN.out, by rw [List.length_append, xl]; rfl, rfl, KB.out.next ((Below.refl _ _).alloc (Nat.le_refl _) _)⟩
            case measure => simp [intOf]; omega
        · by_cases b1 : 65 ≤ c.toNat
          · by_cases b2 : c.toNat ≤ 90
            · have p1 : ¬ 97 ≤ (c.toNat : Int) := by omega
              have p3 : 65 ≤ (c.toNat : Int) := by omega
              have p4 : (c.toNat : Int) ≤ 90 := by omega
              have ed := dn_nat b1 b2
              have el := dn_low b1 b2
              obtain ⟨d, hd⟩ : ∃ d, c + 32 = d := ⟨_, rfl⟩
              rw [hd] at ed el
              have ed2 : (d.toNat : Int) = (c.toNat : Int) - 65 + 97 := by omega
              have TN : Hid (low (l.take (i + 1)) = low (x ++ [d])) := Lib.hid (by rw [take_snoc hi HC.out, low_snoc, HX.out, low_snoc, el])
              have had := wadd_lists x [d] (by omega) (by simp)
              have hcv := wone_byte wr (d)
              rw [ed2] at hcv
              clear hd ed ed2 el a1 b1 b2
              go_wp2
              go_roundw
              case rel => exact ⟨i + 1, _, by go_num, by omega, TN.out, by rw [List.length_append, xl]; rfl, rfl, KB.out.next ((Below.refl _ _).alloc (Nat.le_refl _) _)⟩
              case measure => simp [intOf]; omega
            · have p1 : ¬ 97 ≤ (c.toNat : Int) := by omega
              have p3 : 65 ≤ (c.toNat : Int) := by omega
              have p4 : ¬ (c.toNat : Int) ≤ 90 := by omega
              clear a1 b1 b2
              have TN : Hid (low (l.take (i + 1)) = low (x ++ [c])) := Lib.hid (by rw [take_snoc hi HC.out, low_snoc, HX.out, low_snoc])
              have had := wadd_lists x [c] (by omega) (by simp)
              have hcv := wone_byte wr (c)
              go_wp2
              go_roundw
              case rel => exact ⟨i + 1, _, by go_num, by omega, TN.out, by rw [List.length_append, xl]; rfl, rfl, KB.out.next ((Below.refl _ _).alloc (Nat.le_refl _) _)⟩
              case measure => simp [intOf]; omega
          · have p1 : ¬ 97 ≤ (c.toNat : Int) := by omega
            have p3 : ¬ 65 ≤ (c.toNat : Int) := by omega
            clear a1 b1
            have TN : Hid (low (l.take (i + 1)) = low (x ++ [c])) := Lib.hid (by rw [take_snoc hi HC.out, low_snoc, HX.out, low_snoc])
            have had := wadd_lists x [c] (by omega) (by simp)
            have hcv := wone_byte wr (c)
            go_wp2
            go_roundw
            case rel => exact ⟨i + 1, _, by go_num, by omega, TN.out, by rw [List.length_append, xl]; rfl, rfl, KB.out.next ((Below.refl _ _).alloc (Nat.le_refl _) _)⟩
            case measure => simp [intOf]; omega
    · obtain rfl : i = l.length := by omega
      have hi' : ¬ ((l.length : Nat) : Int) < (l.length : Int) := by omega
      have LX : Hid (low x = low l) := Lib.hid (by rw [← HX.out, List.take_length])
      have hxz := wsize x
      rw [xl] at hxz
      have B1 : Hid ((resN (findL (low x) kindsL) 1 : Int) = v1 ∧ (resE (findL (low x) kindsL) : Int) = e1) := Lib.hid (by rw [LX.out]; exact H1.out)
      have B2 : Hid ((resN (findL (low x) monthsL) 1 : Int) = 0 ∧ (resE (findL (low x) monthsL) : Int) = 13) := Lib.hid (by rw [LX.out]; exact H2.out)
      have B3 : Hid ((resN (findL (low x) weeksL) 0 : Int) = 0 ∧ (resE (findL (low x) weeksL) : Int) = 13) := Lib.hid (by rw [LX.out]; exact H3.out)
      clear i1 hi
      have S10 : Hid (StX w wr) := KB
      go_wp2_with (first
        | (go_at_call 11
           first
             | (with_reducible refine (month_is l 0 13 _ (by omega) S10.out.x.l H2).mono ?_
                rintro e w11 ⟨rfl, k11⟩; have S11 := Lib.hid (S10.out.next k11); clear k11)
             | (with_reducible refine (month_is x 0 13 _ (by omega) S11.out.x.l B2).mono ?_
                rintro e w12 ⟨rfl, k12⟩; have S12 := Lib.hid (S11.out.next k12); clear k12))
        | (go_at_call 12
           first
             | (with_reducible refine (week_is l 0 13 _ (by omega) S12.out.x H3).mono ?_
                rintro e w13 ⟨rfl, k13⟩; have S13 := Lib.hid (S12.out.next k13); clear k13)
             | (with_reducible refine (week_is x 0 13 _ (by omega) S13.out.x B3).mono ?_
                rintro e w14 ⟨rfl, k14⟩; have S14 := Lib.hid (S13.out.next k14); clear k14))
        | (go_at_call 10
           first
             | (with_reducible refine (kind_is l v1 e1 _ (by omega) S14.out.x.l H1).mono ?_
                rintro e w15 ⟨rfl, k15⟩; have S15 := Lib.hid (S14.out.next k15); clear k15)
             | (with_reducible refine (kind_is x v1 e1 _ (by omega) S15.out.x.l B1).mono ?_
                rintro e w16 ⟨rfl, k16⟩; have S16 := Lib.hid (S15.out.next k16); clear k16))
        | (go_at_call 9; refine (wawake_any _ S16.out.x.l).mono ?_; rintro e w30 ⟨rfl, k30⟩; have S30 := Lib.hid (S16.out.next k30); clear k30))
      go_ret
      exact ⟨rfl, S30.out.k⟩

set_option maxRecDepth 20000 in
set_option maxHeartbeats 4000000 in
theorem short_mn (l : List UInt8) (m : Int) (v1 e1 : Int) (v2 : Int) (i2 : Nat) (p : List UInt8) (w : World) (H : LaidX w) (hs : l.length ≤ 40) (H1 : Hid ((resN (findL (low l) kindsL) 1 : Int) = v1 ∧ (resE (findL (low l) kindsL) : Int) = e1)) (H2 : Hid ((resN (findL (low l) monthsL) 1 : Int) = v2 ∧ (resE (findL (low l) monthsL) : Int) = 0)) (H3 : Hid ((resN (findL (low l) weeksL) 0 : Int) = 0 ∧ (resE (findL (low l) weeksL) : Int) = 13)) (HP : Hid (monthsL[i2]? = some p)) (hi2 : i2 < 12) (hpl : p.length ≤ 100) (hv2 : v2 = (i2 : Int) + 1) (LP : Hid (l.length ≤ p.length)) (G2 : Hid (Goes monthsL p i2 l.length)) :
    Calls Tryd.prog 6 #[.string ⟨l.toArray⟩, .int .i64 m] w fun e w' => e = .returned (.bool true) ∧ Below w.heap.size w w' := by
  have hz := wsize l
  have S0 := Lib.hid (StX.new H)
  clear H
  have V2 : Hid ((resN (some i2) 1 : Int) = v2) := Lib.hid (by rw [hv2]; show ((i2 + 1 : Nat) : Int) = _; omega)
  have e1a : min 12 v2 = v2 := by omega
  have e2a : max 1 v2 = v2 := by omega
  have e3a : min v2 12 = v2 := by omega
  have e4a : max v2 1 = v2 := by omega
  have e5a : v2 - 1 = (i2 : Int) := by omega
  have hpz := wsize p
  clear hv2
  go_enter Tryd.func6, Tryd.ntmps6
  go_wp2
  go_loopw [5, 6] (fun vo vi w' => ∃ (i : Nat) (x : List UInt8), vi = .int .i64 i ∧ i ≤ l.length ∧ low (l.take i) = low x ∧ x.length = i ∧ vo = .string ⟨x.toArray⟩ ∧ StX w w') (fun _ vi _ => l.length - (intOf vi).toNat)
  case atStart => exact ⟨0, [], rfl, by omega, rfl, rfl, rfl, S0.out⟩
  case round =>
    obtain ⟨i, x, rfl, i1, hx, xl, rfl, kb⟩ := hrel
    have KB := Lib.hid kb
    have HX := Lib.hid hx
    clear kb hx
    by_cases hi : i < l.length
    · obtain ⟨c, hc⟩ : ∃ c, l.getD i 0 = c := ⟨_, rfl⟩
      have HC := Lib.hid hc
      have hix := wbyte_at l i hi c hc
      have clt := c.toNat_lt
      have hi' : (i : Int) < (l.length : Int) := by omega
      obtain ⟨s, hsm⟩ : ∃ s : Int, (i : Int) % 60 = s := ⟨_, rfl⟩
      have hs0 : 0 ≤ s := by omega
      have hs1 : s ≤ 64 := by omega
      obtain ⟨z, hz2⟩ : ∃ z : Int, m / 2 ^ s.toNat = z := ⟨_, rfl⟩
      obtain ⟨r, hr⟩ : ∃ r : Int, z.tmod 2 = r := ⟨_, rfl⟩
      clear hc
      by_cases hr0 : r = 0
      · subst hr0
        have TN : Hid (low (l.take (i + 1)) = low (x ++ [c])) := Lib.hid (by rw [take_snoc hi HC.out, low_snoc, HX.out, low_snoc])
        have had := wadd_lists x [c] (by omega) (by simp)
        have hcv := wone_byte wr (c)
        go_wp2
        go_roundw
        case rel => exact ⟨i + 1, _, by go_num, by omega, TN.out, by rw [List.length_append, xl]; rfl, rfl, KB.out.next ((Below.refl _ _).alloc (Nat.le_refl _) _)⟩
        case measure => simp [intOf]; omega
      · have hr1 : (r == 0) = false := by simp [hr0]
        clear hr0
        by_cases a1 : 97 ≤ c.toNat
        · by_cases a2 : c.toNat ≤ 122
          · have p1 : 97 ≤ (c.toNat : Int) := by omega
            have p2 : (c.toNat : Int) ≤ 122 := by omega
            have ed := up_nat a1 a2
            have el := up_low a1 a2
            obtain ⟨d, hd⟩ : ∃ d, c - 32 = d := ⟨_, rfl⟩
            rw [hd] at ed el
            have ed2 : (d.toNat : Int) = (c.toNat : Int) - 97 + 65 := by omega
            have TN : Hid (low (l.take (i + 1)) = low (x ++ [d])) := Lib.hid (by rw [take_snoc hi HC.out, low_snoc, HX.out, low_snoc, el])
            have had := wadd_lists x [d] (by omega) (by simp)
            have hcv := wone_byte wr (d)
            rw [ed2] at hcv
            clear hd ed ed2 el a1 a2
            go_wp2
            go_roundw
            case rel => exact ⟨i + 1, _, by go_num, by omega, TN.out, by rw [List.length_append, xl]; rfl, rfl, KB.out.next ((Below.refl _ _).alloc (Nat.le_refl _) _)⟩
            case measure => simp [intOf]; omega
          · have p1 : 97 ≤ (c.toNat : Int) := by omega
            have p2 : ¬ (c.toNat : Int) ≤ 122 := by omega
            have p3 : 65 ≤ (c.toNat : Int) := by omega
            have p4 : ¬ (c.toNat : Int) ≤ 90 := by omega
            clear a1 a2
            have TN : Hid (low (l.take (i + 1)) = low (x ++ [c])) := Lib.hid (by rw [take_snoc hi HC.out, low_snoc, HX.out, low_snoc])
            have had := wadd_lists x [c] (by omega) (by simp)
            have hcv := wone_byte wr (c)
            go_wp2
            go_roundw
            case rel => exact ⟨i + 1, _, by go_num, by omega, TN.out, by rw [List.length_append, xl]; rfl, rfl, KB.out.next ((Below.refl _ _).alloc (Nat.le_refl _) _)⟩
            case measure => simp [intOf]; omega
        · by_cases b1 : 65 ≤ c.toNat
          · by_cases b2 : c.toNat ≤ 90
            · have p1 : ¬ 97 ≤ (c.toNat : Int) := by omega
              have p3 : 65 ≤ (c.toNat : Int) := by omega
              have p4 : (c.toNat : Int) ≤ 90 := by omega
              have ed := dn_nat b1 b2
              have el := dn_low b1 b2
              obtain ⟨d, hd⟩ : ∃ d, c + 32 = d := ⟨_, rfl⟩
              rw [hd] at ed el
              have ed2 : (d.toNat : Int) = (c.toNat : Int) - 65 + 97 := by omega
              have TN : Hid (low (l.take (i + 1)) = low (x ++ [d])) := Lib.hid (by rw [take_snoc hi HC.out, low_snoc, HX.out, low_snoc, el])
              have had := wadd_lists x [d] (by omega) (by simp)
              have hcv := wone_byte wr (d)
              rw [ed2] at hcv
              clear hd ed ed2 el a1 b1 b2
              go_wp2
              go_roundw
              case rel => exact ⟨i + 1, _, by go_num, by omega, TN.out, by rw [List.length_append, xl]; rfl, rfl, KB.out.next ((Below.refl _ _).alloc (Nat.le_refl _) _)⟩
              case measure => simp [intOf]; omega
            · have p1 : ¬ 97 ≤ (c.toNat : Int) := by omega
              have p3 : 65 ≤ (c.toNat : Int) := by omega
              have p4 : ¬ (c.toNat : Int) ≤ 90 := by omega
              clear a1 b1 b2
              have TN : Hid (low (l.take (i + 1)) = low (x ++ [c])) := Lib.hid (by rw [take_snoc hi HC.out, low_snoc, HX.out, low_snoc])
              have had := wadd_lists x [c] (by omega) (by simp)
              have hcv := wone_byte wr (c)
              go_wp2
              go_roundw
              case rel => exact ⟨i + 1, _, by go_num, by omega, TN.out, by rw [List.length_append, xl]; rfl, rfl, KB.out.next ((Below.refl _ _).alloc (Nat.le_refl _) _)⟩
              case measure => simp [intOf]; omega
          · have p1 : ¬ 97 ≤ (c.toNat : Int) := by omega
            have p3 : ¬ 65 ≤ (c.toNat : Int) := by omega
            clear a1 b1
            have TN : Hid (low (l.take (i + 1)) = low (x ++ [c])) := Lib.hid (by rw [take_snoc hi HC.out, low_snoc, HX.out, low_snoc])
            have had := wadd_lists x [c] (by omega) (by simp)
            have hcv := wone_byte wr (c)
            go_wp2
            go_roundw
            case rel => exact ⟨i + 1, _, by go_num, by omega, TN.out, by rw [List.length_append, xl]; rfl, rfl, KB.out.next ((Below.refl _ _).alloc (Nat.le_refl _) _)⟩
            case measure => simp [intOf]; omega
    · obtain rfl : i = l.length := by omega
      have hi' : ¬ ((l.length : Nat) : Int) < (l.length : Int) := by omega
      have LX : Hid (low x = low l) := Lib.hid (by rw [← HX.out, List.take_length])
      have hxz := wsize x
      rw [xl] at hxz
      have B1 : Hid ((resN (findL (low x) kindsL) 1 : Int) = v1 ∧ (resE (findL (low x) kindsL) : Int) = e1) := Lib.hid (by rw [LX.out]; exact H1.out)
      have B2 : Hid ((resN (findL (low x) monthsL) 1 : Int) = v2 ∧ (resE (findL (low x) monthsL) : Int) = 0) := Lib.hid (by rw [LX.out]; exact H2.out)
      have B3 : Hid ((resN (findL (low x) weeksL) 0 : Int) = 0 ∧ (resE (findL (low x) weeksL) : Int) = 13) := Lib.hid (by rw [LX.out]; exact H3.out)
      clear i1 hi
      have S10 : Hid (StX w wr) := KB
      go_wp2_with (first
        | (go_at_call 11
           first
             | (with_reducible refine (month_is l v2 0 _ (by omega) S10.out.x.l H2).mono ?_
                rintro e w11 ⟨rfl, k11⟩; have S11 := Lib.hid (S10.out.next k11); clear k11)
             | (with_reducible refine (month_is x v2 0 _ (by omega) S11.out.x.l B2).mono ?_
                rintro e w12 ⟨rfl, k12⟩; have S12 := Lib.hid (S11.out.next k12); clear k12))
        | (go_at_call 12
           first
             | (with_reducible refine (week_is l 0 13 _ (by omega) S12.out.x H3).mono ?_
                rintro e w13 ⟨rfl, k13⟩; have S13 := Lib.hid (S12.out.next k13); clear k13)
             | (with_reducible refine (week_is x 0 13 _ (by omega) S13.out.x B3).mono ?_
                rintro e w14 ⟨rfl, k14⟩; have S14 := Lib.hid (S13.out.next k14); clear k14))
        | (go_at_call 10
           first
             | (with_reducible refine (kind_is l v1 e1 _ (by omega) S14.out.x.l H1).mono ?_
                rintro e w15 ⟨rfl, k15⟩; have S15 := Lib.hid (S14.out.next k15); clear k15)
             | (with_reducible refine (kind_is x v1 e1 _ (by omega) S15.out.x.l B1).mono ?_
                rintro e w16 ⟨rfl, k16⟩; have S16 := Lib.hid (S15.out.next k16); clear k16))
        | (go_at_call 16; refine (rmonths_any _).mono ?_; rintro e w17 ⟨L1, rfl, _, l1, k17⟩; have S17 := Lib.hid (S16.out.next k17); have hc1 := l1.cell i2 p HP.out; have hl1 := l1.lt; clear k17 l1))
      go_loopw [21] (fun vk w' => ∃ k : Nat, vk = .int .i64 k ∧ l.length ≤ k ∧ k ≤ p.length + 1 ∧ StX w w') (fun vk _ => p.length + 1 - (intOf vk).toNat)
      case atStart => exact ⟨l.length, rfl, Nat.le_refl _, by have := LP.out; omega, S17.out⟩
      case round =>
        obtain ⟨k, rfl, kl, ku, kb21⟩ := hrel
        have K21 := Lib.hid kb21
        clear kb21 hc1 hl1
        by_cases hk : k ≤ p.length
        · have hk' : (k : Int) ≤ (p.length : Int) := by omega
          obtain ⟨t, ht⟩ : ∃ t, p.take k = t := ⟨_, rfl⟩
          have hsl := wsub_run p k t ht hk
          have htl : t.length ≤ 1000 := by rw [← ht, List.length_take]; omega
          have A : Hid ((resN (findL (low t) monthsL) 1 : Int) = v2 ∧ (resE (findL (low t) monthsL) : Int) = 0) := Lib.hid (by rw [← ht, G2.out k kl hk]; exact ⟨V2.out, rfl⟩)
          clear ht
          go_wp2_with (go_at_call 11; refine (month_is t v2 0 _ htl K21.out.x.l A).mono ?_; rintro e w21 ⟨rfl, k21⟩; have Z21 := Lib.hid (K21.out.next k21); clear k21)
          go_roundw
          case rel => exact ⟨k + 1, by go_num, by omega, by omega, Z21.out⟩
          case measure => simp [intOf]; omega
        · obtain rfl : k = p.length + 1 := by omega
          have hk' : ¬ ((p.length + 1 : Nat) : Int) ≤ (p.length : Int) := by omega
          clear kl ku hk
          go_wp2_with (first
            | (go_at_call 9; refine (wawake_any _ K21.out.x.l).mono ?_; rintro e w30 ⟨rfl, k30⟩; have S30 := Lib.hid (K21.out.next k30); clear k30))
          go_ret
          exact ⟨rfl, S30.out.k⟩

set_option maxRecDepth 20000 in
set_option maxHeartbeats 4000000 in
theorem short_nw (l : List UInt8) (m : Int) (v1 e1 : Int) (v3 : Int) (i3 : Nat) (q : List UInt8) (w : World) (H : LaidX w) (hs : l.length ≤ 40) (H1 : Hid ((resN (findL (low l) kindsL) 1 : Int) = v1 ∧ (resE (findL (low l) kindsL) : Int) = e1)) (H2 : Hid ((resN (findL (low l) monthsL) 1 : Int) = 0 ∧ (resE (findL (low l) monthsL) : Int) = 13)) (H3 : Hid ((resN (findL (low l) weeksL) 0 : Int) = v3 ∧ (resE (findL (low l) weeksL) : Int) = 0)) (HQ : Hid (weeksL[i3]? = some q)) (hi3 : i3 < 7) (hql : q.length ≤ 100) (hv3 : v3 = (i3 : Int)) (LQ : Hid (l.length ≤ q.length)) (G3 : Hid (Goes weeksL q i3 l.length)) :
    Calls Tryd.prog 6 #[.string ⟨l.toArray⟩, .int .i64 m] w fun e w' => e = .returned (.bool true) ∧ Below w.heap.size w w' := by
  have hz := wsize l
  have S0 := Lib.hid (StX.new H)
  clear H
  have V3 : Hid ((resN (some i3) 0 : Int) = v3) := Lib.hid (by rw [hv3]; rfl)
  have e1b : min 6 (i3 : Int) = (i3 : Int) := by omega
  have e2b : max 0 (i3 : Int) = (i3 : Int) := by omega
  have e3b : min (i3 : Int) 6 = (i3 : Int) := by omega
  have e4b : max (i3 : Int) 0 = (i3 : Int) := by omega
  have hqz := wsize q
  subst hv3
  go_enter Tryd.func6, Tryd.ntmps6
  go_wp2
  go_loopw [5, 6] (fun vo vi w' => ∃ (i : Nat) (x : List UInt8), vi = .int .i64 i ∧ i ≤ l.length ∧ low (l.take i) = low x ∧ x.length = i ∧ vo = .string ⟨x.toArray⟩ ∧ StX w w') (fun _ vi _ => l.length - (intOf vi).toNat)
  case atStart => exact ⟨0, [], rfl, by omega, rfl, rfl, rfl, S0.out⟩
  case round =>
    obtain ⟨i, x, rfl, i1, hx, xl, rfl, kb⟩ := hrel
    have KB := Lib.hid kb
    have HX := Lib.hid hx
    clear kb hx
    by_cases hi : i < l.length
    · obtain ⟨c, hc⟩ : ∃ c, l.getD i 0 = c := ⟨_, rfl⟩
      have HC := Lib.hid hc
      have hix := wbyte_at l i hi c hc
      have clt := c.toNat_lt
      have hi' : (i : Int) < (l.length : Int) := by omega
      obtain ⟨s, hsm⟩ : ∃ s : Int, (i : Int) % 60 = s := ⟨_, rfl⟩
      have hs0 : 0 ≤ s := by omega
      have hs1 : s ≤ 64 := by omega
      obtain ⟨z, hz2⟩ : ∃ z : Int, m / 2 ^ s.toNat = z := ⟨_, rfl⟩
      obtain ⟨r, hr⟩ : ∃ r : Int, z.tmod 2 = r := ⟨_, rfl⟩
      clear hc
      by_cases hr0 : r = 0
      · subst hr0
        have TN : Hid (low (l.take (i + 1)) = low (x ++ [c])) := Lib.hid (by rw [take_snoc hi HC.out, low_snoc, HX.out, low_snoc])
        have had := wadd_lists x [c] (by omega) (by simp)
        have hcv := wone_byte wr (c)
        go_wp2
        go_roundw
        case rel => exact ⟨i + 1, _, by go_num, by omega, TN.out, by rw [List.length_append, xl]; rfl, rfl, KB.out.next ((Below.refl _ _).alloc (Nat.le_refl _) _)⟩
        case measure => simp [intOf]; omega
      · have hr1 : (r == 0) = false := by simp [hr0]
        clear hr0
        by_cases a1 : 97 ≤ c.toNat
        · by_cases a2 : c.toNat ≤ 122
          · have p1 : 97 ≤ (c.toNat : Int) := by omega
            have p2 : (c.toNat : Int) ≤ 122 := by omega
            have ed := up_nat a1 a2
            have el := up_low a1 a2
            obtain ⟨d, hd⟩ : ∃ d, c - 32 = d := ⟨_, rfl⟩
            rw [hd] at ed el
            have ed2 : (d.toNat : Int) = (c.toNat : Int) - 97 + 65 := by omega
            have TN : Hid (low (l.take (i + 1)) = low (x ++ [d])) := Lib.hid (by rw [take_snoc hi HC.out, low_snoc, HX.out, low_snoc, el])
            have had := wadd_lists x [d] (by omega) (by simp)
            have hcv := wone_byte wr (d)
            rw [ed2] at hcv
            clear hd ed ed2 el a1 a2
            go_wp2
            go_roundw
            case rel => exact ⟨i + 1, _, by go_num, by omega, TN.out, by rw [List.length_append, xl]; rfl, rfl, KB.out.next ((Below.refl _ _).alloc (Nat.le_refl _) _)⟩
            case measure => simp [intOf]; omega
          · have p1 : 97 ≤ (c.toNat : Int) := by omega
            have p2 : ¬ (c.toNat : Int) ≤ 122 := by omega
            have p3 : 65 ≤ (c.toNat : Int) := by omega
            have p4 : ¬ (c.toNat : Int) ≤ 90 := by omega
            clear a1 a2
            have TN : Hid (low (l.take (i + 1)) = low (x ++ [c])) := Lib.hid (by rw [take_snoc hi HC.out, low_snoc, HX.out, low_snoc])
            have had := wadd_lists x [c] (by omega) (by simp)
            have hcv := wone_byte wr (c)
            go_wp2
            go_roundw
            case rel => exact ⟨i + 1, _, by go_num, by omega, TN.out, by rw [List.length_append, xl]; rfl, rfl, KB.out.next ((Below.refl _ _).alloc (Nat.le_refl _) _)⟩
            case measure => simp [intOf]; omega
        · by_cases b1 : 65 ≤ c.toNat
          · by_cases b2 : c.toNat ≤ 90
            · have p1 : ¬ 97 ≤ (c.toNat : Int) := by omega
              have p3 : 65 ≤ (c.toNat : Int) := by omega
              have p4 : (c.toNat : Int) ≤ 90 := by omega
              have ed := dn_nat b1 b2
              have el := dn_low b1 b2
              obtain ⟨d, hd⟩ : ∃ d, c + 32 = d := ⟨_, rfl⟩
              rw [hd] at ed el
              have ed2 : (d.toNat : Int) = (c.toNat : Int) - 65 + 97 := by omega
              have TN : Hid (low (l.take (i + 1)) = low (x ++ [d])) := Lib.hid (by rw [take_snoc hi HC.out, low_snoc, HX.out, low_snoc, el])
              have had := wadd_lists x [d] (by omega) (by simp)
              have hcv := wone_byte wr (d)
              rw [ed2] at hcv
              clear hd ed ed2 el a1 b1 b2
              go_wp2
              go_roundw
              case rel => exact ⟨i + 1, _, by go_num, by omega, TN.out, by rw [List.length_append, xl]; rfl, rfl, KB.out.next ((Below.refl _ _).alloc (Nat.le_refl _) _)⟩
              case measure => simp [intOf]; omega
            · have p1 : ¬ 97 ≤ (c.toNat : Int) := by omega
              have p3 : 65 ≤ (c.toNat : Int) := by omega
              have p4 : ¬ (c.toNat : Int) ≤ 90 := by omega
              clear a1 b1 b2
              have TN : Hid (low (l.take (i + 1)) = low (x ++ [c])) := Lib.hid (by rw [take_snoc hi HC.out, low_snoc, HX.out, low_snoc])
              have had := wadd_lists x [c] (by omega) (by simp)
              have hcv := wone_byte wr (c)
              go_wp2
              go_roundw
              case rel => exact ⟨i + 1, _, by go_num, by omega, TN.out, by rw [List.length_append, xl]; rfl, rfl, KB.out.next ((Below.refl _ _).alloc (Nat.le_refl _) _)⟩
              case measure => simp [intOf]; omega
          · have p1 : ¬ 97 ≤ (c.toNat : Int) := by omega
            have p3 : ¬ 65 ≤ (c.toNat : Int) := by omega
            clear a1 b1
            have TN : Hid (low (l.take (i + 1)) = low (x ++ [c])) := Lib.hid (by rw [take_snoc hi HC.out, low_snoc, HX.out, low_snoc])
            have had := wadd_lists x [c] (by omega) (by simp)
            have hcv := wone_byte wr (c)
            go_wp2
            go_roundw
            case rel => exact ⟨i + 1, _, by go_num, by omega, TN.out, by rw [List.length_append, xl]; rfl, rfl, KB.out.next ((Below.refl _ _).alloc (Nat.le_refl _) _)⟩
            case measure => simp [intOf]; omega
    · obtain rfl : i = l.length := by omega
      have hi' : ¬ ((l.length : Nat) : Int) < (l.length : Int) := by omega
      have LX : Hid (low x = low l) := Lib.hid (by rw [← HX.out, List.take_length])
      have hxz := wsize x
      rw [xl] at hxz
      have B1 : Hid ((resN (findL (low x) kindsL) 1 : Int) = v1 ∧ (resE (findL (low x) kindsL) : Int) = e1) := Lib.hid (by rw [LX.out]; exact H1.out)
      have B2 : Hid ((resN (findL (low x) monthsL) 1 : Int) = 0 ∧ (resE (findL (low x) monthsL) : Int) = 13) := Lib.hid (by rw [LX.out]; exact H2.out)
      have B3 : Hid ((resN (findL (low x) weeksL) 0 : Int) = (i3 : Int) ∧ (resE (findL (low x) weeksL) : Int) = 0) := Lib.hid (by rw [LX.out]; exact H3.out)
      clear i1 hi
      have S10 : Hid (StX w wr) := KB
      go_wp2_with (first
        | (go_at_call 11
           first
             | (with_reducible refine (month_is l 0 13 _ (by omega) S10.out.x.l H2).mono ?_
                rintro e w11 ⟨rfl, k11⟩; have S11 := Lib.hid (S10.out.next k11); clear k11)
             | (with_reducible refine (month_is x 0 13 _ (by omega) S11.out.x.l B2).mono ?_
                rintro e w12 ⟨rfl, k12⟩; have S12 := Lib.hid (S11.out.next k12); clear k12))
        | (go_at_call 12
           first
             | (with_reducible refine (week_is l (i3 : Int) 0 _ (by omega) S12.out.x H3).mono ?_
                rintro e w13 ⟨rfl, k13⟩; have S13 := Lib.hid (S12.out.next k13); clear k13)
             | (with_reducible refine (week_is x (i3 : Int) 0 _ (by omega) S13.out.x B3).mono ?_
                rintro e w14 ⟨rfl, k14⟩; have S14 := Lib.hid (S13.out.next k14); clear k14))
        | (go_at_call 10
           first
             | (with_reducible refine (kind_is l v1 e1 _ (by omega) S14.out.x.l H1).mono ?_
                rintro e w15 ⟨rfl, k15⟩; have S15 := Lib.hid (S14.out.next k15); clear k15)
             | (with_reducible refine (kind_is x v1 e1 _ (by omega) S15.out.x.l B1).mono ?_
                rintro e w16 ⟨rfl, k16⟩; have S16 := Lib.hid (S15.out.next k16); clear k16))
        | (go_at_call 17; refine (rweeks_any _).mono ?_; rintro e w20 ⟨L2, rfl, _, l2, k20⟩; have S20 := Lib.hid (S16.out.next k20); have hc2 := l2.cell i3 q HQ.out; have hl2 := l2.lt; clear k20 l2))
      go_loopw [25] (fun vk w' => ∃ k : Nat, vk = .int .i64 k ∧ l.length ≤ k ∧ k ≤ q.length + 1 ∧ StX w w') (fun vk _ => q.length + 1 - (intOf vk).toNat)
      case atStart => exact ⟨l.length, rfl, Nat.le_refl _, by have := LQ.out; omega, S20.out⟩
      case round =>
        obtain ⟨k, rfl, kl, ku, kb25⟩ := hrel
        have K25 := Lib.hid kb25
        clear kb25 hc2 hl2
        by_cases hk : k ≤ q.length
        · have hk' : (k : Int) ≤ (q.length : Int) := by omega
          obtain ⟨t, ht⟩ : ∃ t, q.take k = t := ⟨_, rfl⟩
          have hsl := wsub_run q k t ht hk
          have htl : t.length ≤ 1000 := by rw [← ht, List.length_take]; omega
          have A : Hid ((resN (findL (low t) weeksL) 0 : Int) = (i3 : Int) ∧ (resE (findL (low t) weeksL) : Int) = 0) := Lib.hid (by rw [← ht, G3.out k kl hk]; exact ⟨V3.out, rfl⟩)
          clear ht
          go_wp2_with (go_at_call 12; refine (week_is t (i3 : Int) 0 _ htl K25.out.x A).mono ?_; rintro e w25 ⟨rfl, k25⟩; have Z25 := Lib.hid (K25.out.next k25); clear k25)
          go_roundw
          case rel => exact ⟨k + 1, by go_num, by omega, by omega, Z25.out⟩
          case measure => simp [intOf]; omega
        · obtain rfl : k = q.length + 1 := by omega
          have hk' : ¬ ((q.length + 1 : Nat) : Int) ≤ (q.length : Int) := by omega
          clear kl ku hk
          go_wp2_with (first
            | (go_at_call 9; refine (wawake_any _ K25.out.x.l).mono ?_; rintro e w30 ⟨rfl, k30⟩; have S30 := Lib.hid (K25.out.next k30); clear k30))
          go_ret
          exact ⟨rfl, S30.out.k⟩

set_option maxRecDepth 20000 in
set_option maxHeartbeats 4000000 in
theorem short_mw (l : List UInt8) (m : Int) (v1 e1 : Int) (v2 : Int) (i2 : Nat) (p : List UInt8) (v3 : Int) (i3 : Nat) (q : List UInt8) (w : World) (H : LaidX w) (hs : l.length ≤ 40) (H1 : Hid ((resN (findL (low l) kindsL) 1 : Int) = v1 ∧ (resE (findL (low l) kindsL) : Int) = e1)) (H2 : Hid ((resN (findL (low l) monthsL) 1 : Int) = v2 ∧ (resE (findL (low l) monthsL) : Int) = 0)) (H3 : Hid ((resN (findL (low l) weeksL) 0 : Int) = v3 ∧ (resE (findL (low l) weeksL) : Int) = 0)) (HP : Hid (monthsL[i2]? = some p)) (hi2 : i2 < 12) (hpl : p.length ≤ 100) (hv2 : v2 = (i2 : Int) + 1) (LP : Hid (l.length ≤ p.length)) (G2 : Hid (Goes monthsL p i2 l.length)) (HQ : Hid (weeksL[i3]? = some q)) (hi3 : i3 < 7) (hql : q.length ≤ 100) (hv3 : v3 = (i3 : Int)) (LQ : Hid (l.length ≤ q.length)) (G3 : Hid (Goes weeksL q i3 l.length)) :
    Calls Tryd.prog 6 #[.string ⟨l.toArray⟩, .int .i64 m] w fun e w' => e = .returned (.bool true) ∧ Below w.heap.size w w' := by
  have hz := wsize l
  have S0 := Lib.hid (StX.new H)
  clear H
  have V2 : Hid ((resN (some i2) 1 : Int) = v2) := Lib.hid (by rw [hv2]; show ((i2 + 1 : Nat) : Int) = _; omega)
  have e1a : min 12 v2 = v2 := by omega
  have e2a : max 1 v2 = v2 := by omega
  have e3a : min v2 12 = v2 := by omega
  have e4a : max v2 1 = v2 := by omega
  have e5a : v2 - 1 = (i2 : Int) := by omega
  have hpz := wsize p
  clear hv2
  have V3 : Hid ((resN (some i3) 0 : Int) = v3) := Lib.hid (by rw [hv3]; rfl)
  have e1b : min 6 (i3 : Int) = (i3 : Int) := by omega
  have e2b : max 0 (i3 : Int) = (i3 : Int) := by omega
  have e3b : min (i3 : Int) 6 = (i3 : Int) := by omega
  have e4b : max (i3 : Int) 0 = (i3 : Int) := by omega
  have hqz := wsize q
  subst hv3
  go_enter Tryd.func6, Tryd.ntmps6
  go_wp2
  go_loopw [5, 6] (fun vo vi w' => ∃ (i : Nat) (x : List UInt8), vi = .int .i64 i ∧ i ≤ l.length ∧ low (l.take i) = low x ∧ x.length = i ∧ vo = .string ⟨x.toArray⟩ ∧ StX w w') (fun _ vi _ => l.length - (intOf vi).toNat)
  case atStart => exact ⟨0, [], rfl, by omega, rfl, rfl, rfl, S0.out⟩
  case round =>
    obtain ⟨i, x, rfl, i1, hx, xl, rfl, kb⟩ := hrel
    have KB := Lib.hid kb
    have HX := Lib.hid hx
    clear kb hx
    by_cases hi : i < l.length
    · obtain ⟨c, hc⟩ : ∃ c, l.getD i 0 = c := ⟨_, rfl⟩
      have HC := Lib.hid hc
      have hix := wbyte_at l i hi c hc
      have clt := c.toNat_lt
      have hi' : (i : Int) < (l.length : Int) := by omega
      obtain ⟨s, hsm⟩ : ∃ s : Int, (i : Int) % 60 = s := ⟨_, rfl⟩
      have hs0 : 0 ≤ s := by omega
      have hs1 : s ≤ 64 := by omega
      obtain ⟨z, hz2⟩ : ∃ z : Int, m / 2 ^ s.toNat = z := ⟨_, rfl⟩
      obtain ⟨r, hr⟩ : ∃ r : Int, z.tmod 2 = r := ⟨_, rfl⟩
      clear hc
      by_cases hr0 : r = 0
      · subst hr0
        have TN : Hid (low (l.take (i + 1)) = low (x ++ [c])) := Lib.hid (by rw [take_snoc hi HC.out, low_snoc, HX.out, low_snoc])
        have had := wadd_lists x [c] (by omega) (by simp)
        have hcv := wone_byte wr (c)
        go_wp2
        go_roundw
        case rel => exact ⟨i + 1, _, by go_num, by omega, TN.out, by rw [List.length_append, xl]; rfl, rfl, KB.out.next ((Below.refl _ _).alloc (Nat.le_refl _) _)⟩
        case measure => simp [intOf]; omega
      · have hr1 : (r == 0) = false := by simp [hr0]
        clear hr0
        by_cases a1 : 97 ≤ c.toNat
        · by_cases a2 : c.toNat ≤ 122
          · have p1 : 97 ≤ (c.toNat : Int) := by omega
            have p2 : (c.toNat : Int) ≤ 122 := by omega
            have ed := up_nat a1 a2
            have el := up_low a1 a2
            obtain ⟨d, hd⟩ : ∃ d, c - 32 = d := ⟨_, rfl⟩
            rw [hd] at ed el
            have ed2 : (d.toNat : Int) = (c.toNat : Int) - 97 + 65 := by omega
            have TN : Hid (low (l.take (i + 1)) = low (x ++ [d])) := Lib.hid (by rw [take_snoc hi HC.out, low_snoc, HX.out, low_snoc, el])
            have had := wadd_lists x [d] (by omega) (by simp)
            have hcv := wone_byte wr (d)
            rw [ed2] at hcv
            clear hd ed ed2 el a1 a2
            go_wp2
            go_roundw
            case rel => exact ⟨i + 1, _, by go_num, by omega, TN.out, by rw [List.length_append, xl]; rfl, rfl, KB.out.next ((Below.refl _ _).alloc (Nat.le_refl _) _)⟩
            case measure => simp [intOf]; omega
          · have p1 : 97 ≤ (c.toNat : Int) := by omega
            have p2 : ¬ (c.toNat : Int) ≤ 122 := by omega
            have p3 : 65 ≤ (c.toNat : Int) := by omega
            have p4 : ¬ (c.toNat : Int) ≤ 90 := by omega
            clear a1 a2
            have TN : Hid (low (l.take (i + 1)) = low (x ++ [c])) := Lib.hid (by rw [take_snoc hi HC.out, low_snoc, HX.out, low_snoc])
            have had := wadd_lists x [c] (by omega) (by simp)
            have hcv := wone_byte wr (c)
            go_wp2
            go_roundw
            case rel => exact ⟨i + 1, _, by go_num, by omega, TN.out, by rw [List.length_append, xl]; rfl, rfl, KB.out.next ((Below.refl _ _).alloc (Nat.le_refl _) _)⟩
            case measure => simp [intOf]; omega
        · by_cases b1 : 65 ≤ c.toNat
          · by_cases b2 : c.toNat ≤ 90
            · have p1 : ¬ 97 ≤ (c.toNat : Int) := by omega
              have p3 : 65 ≤ (c.toNat : Int) := by omega
              have p4 : (c.toNat : Int) ≤ 90 := by omega
              have ed := dn_nat b1 b2
              have el := dn_low b1 b2
              obtain ⟨d, hd⟩ : ∃ d, c + 32 = d := ⟨_, rfl⟩
              rw [hd] at ed el
              have ed2 : (d.toNat : Int) = (c.toNat : Int) - 65 + 97 := by omega
              have TN : Hid (low (l.take (i + 1)) = low (x ++ [d])) := Lib.hid (by rw [take_snoc hi HC.out, low_snoc, HX.out, low_snoc, el])
              have had := wadd_lists x [d] (by omega) (by simp)
              have hcv := wone_byte wr (d)
              rw [ed2] at hcv
              clear hd ed ed2 el a1 b1 b2
              go_wp2
              go_roundw
              case rel => exact ⟨i + 1, _, by go_num, by omega, TN.out, by rw [List.length_append, xl]; rfl, rfl, KB.out.next ((Below.refl _ _).alloc (Nat.le_refl _) _)⟩
              case measure => simp [intOf]; omega
            · have p1 : ¬ 97 ≤ (c.toNat : Int) := by omega
              have p3 : 65 ≤ (c.toNat : Int) := by omega
              have p4 : ¬ (c.toNat : Int) ≤ 90 := by omega
              clear a1 b1 b2
              have TN : Hid (low (l.take (i + 1)) = low (x ++ [c])) := Lib.hid (by rw [take_snoc hi HC.out, low_snoc, HX.out, low_snoc])
              have had := wadd_lists x [c] (by omega) (by simp)
              have hcv := wone_byte wr (c)
              go_wp2
              go_roundw
              case rel => exact ⟨i + 1, _, by go_num, by omega, TN.out, by rw [List.length_append, xl]; rfl, rfl, KB.out.next ((Below.refl _ _).alloc (Nat.le_refl _) _)⟩
              case measure => simp [intOf]; omega
          · have p1 : ¬ 97 ≤ (c.toNat : Int) := by omega
            have p3 : ¬ 65 ≤ (c.toNat : Int) := by omega
            clear a1 b1
            have TN : Hid (low (l.take (i + 1)) = low (x ++ [c])) := Lib.hid (by rw [take_snoc hi HC.out, low_snoc, HX.out, low_snoc])
            have had := wadd_lists x [c] (by omega) (by simp)
            have hcv := wone_byte wr (c)
            go_wp2
            go_roundw
            case rel => exact ⟨i + 1, _, by go_num, by omega, TN.out, by rw [List.length_append, xl]; rfl, rfl, KB.out.next ((Below.refl _ _).alloc (Nat.le_refl _) _)⟩
            case measure => simp [intOf]; omega
    · obtain rfl : i = l.length := by omega
      have hi' : ¬ ((l.length : Nat) : Int) < (l.length : Int) := by omega
      have LX : Hid (low x = low l) := Lib.hid (by rw [← HX.out, List.take_length])
      have hxz := wsize x
      rw [xl] at hxz
      have B1 : Hid ((resN (findL (low x) kindsL) 1 : Int) = v1 ∧ (resE (findL (low x) kindsL) : Int) = e1) := Lib.hid (by rw [LX.out]; exact H1.out)
      have B2 : Hid ((resN (findL (low x) monthsL) 1 : Int) = v2 ∧ (resE (findL (low x) monthsL) : Int) = 0) := Lib.hid (by rw [LX.out]; exact H2.out)
      have B3 : Hid ((resN (findL (low x) weeksL) 0 : Int) = (i3 : Int) ∧ (resE (findL (low x) weeksL) : Int) = 0) := Lib.hid (by rw [LX.out]; exact H3.out)
      clear i1 hi
      have S10 : Hid (StX w wr) := KB
      go_wp2_with (first
        | (go_at_call 11
           first
             | (with_reducible refine (month_is l v2 0 _ (by omega) S10.out.x.l H2).mono ?_
                rintro e w11 ⟨rfl, k11⟩; have S11 := Lib.hid (S10.out.next k11); clear k11)
             | (with_reducible refine (month_is x v2 0 _ (by omega) S11.out.x.l B2).mono ?_
                rintro e w12 ⟨rfl, k12⟩; have S12 := Lib.hid (S11.out.next k12); clear k12))
        | (go_at_call 12
           first
             | (with_reducible refine (week_is l (i3 : Int) 0 _ (by omega) S12.out.x H3).mono ?_
                rintro e w13 ⟨rfl, k13⟩; have S13 := Lib.hid (S12.out.next k13); clear k13)
             | (with_reducible refine (week_is x (i3 : Int) 0 _ (by omega) S13.out.x B3).mono ?_
                rintro e w14 ⟨rfl, k14⟩; have S14 := Lib.hid (S13.out.next k14); clear k14))
        | (go_at_call 10
           first
             | (with_reducible refine (kind_is l v1 e1 _ (by omega) S14.out.x.l H1).mono ?_
                rintro e w15 ⟨rfl, k15⟩; have S15 := Lib.hid (S14.out.next k15); clear k15)
             | (with_reducible refine (kind_is x v1 e1 _ (by omega) S15.out.x.l B1).mono ?_
                rintro e w16 ⟨rfl, k16⟩; have S16 := Lib.hid (S15.out.next k16); clear k16))
        | (go_at_call 16; refine (rmonths_any _).mono ?_; rintro e w17 ⟨L1, rfl, _, l1, k17⟩; have S17 := Lib.hid (S16.out.next k17); have hc1 := l1.cell i2 p HP.out; have hl1 := l1.lt; clear k17 l1))
      go_loopw [21] (fun vk w' => ∃ k : Nat, vk = .int .i64 k ∧ l.length ≤ k ∧ k ≤ p.length + 1 ∧ StX w w') (fun vk _ => p.length + 1 - (intOf vk).toNat)
      case atStart => exact ⟨l.length, rfl, Nat.le_refl _, by have := LP.out; omega, S17.out⟩
      case round =>
        obtain ⟨k, rfl, kl, ku, kb21⟩ := hrel
        have K21 := Lib.hid kb21
        clear kb21 hc1 hl1
        by_cases hk : k ≤ p.length
        · have hk' : (k : Int) ≤ (p.length : Int) := by omega
          obtain ⟨t, ht⟩ : ∃ t, p.take k = t := ⟨_, rfl⟩
          have hsl := wsub_run p k t ht hk
          have htl : t.length ≤ 1000 := by rw [← ht, List.length_take]; omega
          have A : Hid ((resN (findL (low t) monthsL) 1 : Int) = v2 ∧ (resE (findL (low t) monthsL) : Int) = 0) := Lib.hid (by rw [← ht, G2.out k kl hk]; exact ⟨V2.out, rfl⟩)
          clear ht
          go_wp2_with (go_at_call 11; refine (month_is t v2 0 _ htl K21.out.x.l A).mono ?_; rintro e w21 ⟨rfl, k21⟩; have Z21 := Lib.hid (K21.out.next k21); clear k21)
          go_roundw
          case rel => exact ⟨k + 1, by go_num, by omega, by omega, Z21.out⟩
          case measure => simp [intOf]; omega
        · obtain rfl : k = p.length + 1 := by omega
          have hk' : ¬ ((p.length + 1 : Nat) : Int) ≤ (p.length : Int) := by omega
          clear kl ku hk
          go_wp2_with (first
            | (go_at_call 17; refine (rweeks_any _).mono ?_; rintro e w20 ⟨L2, rfl, _, l2, k20⟩; have S20 := Lib.hid (K21.out.next k20); have hc2 := l2.cell i3 q HQ.out; have hl2 := l2.lt; clear k20 l2))
          go_loopw [25] (fun vk w' => ∃ k : Nat, vk = .int .i64 k ∧ l.length ≤ k ∧ k ≤ q.length + 1 ∧ StX w w') (fun vk _ => q.length + 1 - (intOf vk).toNat)
          case atStart => exact ⟨l.length, rfl, Nat.le_refl _, by have := LQ.out; omega, S20.out⟩
          case round =>
            obtain ⟨k, rfl, kl, ku, kb25⟩ := hrel
            have K25 := Lib.hid kb25
            clear kb25 hc2 hl2
            by_cases hk : k ≤ q.length
            · have hk' : (k : Int) ≤ (q.length : Int) := by omega
              obtain ⟨t, ht⟩ : ∃ t, q.take k = t := ⟨_, rfl⟩
              have hsl := wsub_run q k t ht hk
              have htl : t.length ≤ 1000 := by rw [← ht, List.length_take]; omega
              have A : Hid ((resN (findL (low t) weeksL) 0 : Int) = (i3 : Int) ∧ (resE (findL (low t) weeksL) : Int) = 0) := Lib.hid (by rw [← ht, G3.out k kl hk]; exact ⟨V3.out, rfl⟩)
              clear ht
              go_wp2_with (go_at_call 12; refine (week_is t (i3 : Int) 0 _ htl K25.out.x A).mono ?_; rintro e w25 ⟨rfl, k25⟩; have Z25 := Lib.hid (K25.out.next k25); clear k25)
              go_roundw
              case rel => exact ⟨k + 1, by go_num, by omega, by omega, Z25.out⟩
              case measure => simp [intOf]; omega
            · obtain rfl : k = q.length + 1 := by omega
              have hk' : ¬ ((q.length + 1 : Nat) : Int) ≤ (q.length : Int) := by omega
              clear kl ku hk
              go_wp2_with (first
                | (go_at_call 9; refine (wawake_any _ K25.out.x.l).mono ?_; rintro e w30 ⟨rfl, k30⟩; have S30 := Lib.hid (K25.out.next k30); clear k30))
              go_ret
              exact ⟨rfl, S30.out.k⟩

theorem wordsShort_walk (s : ByteArray) (m : Int) (w : World) (H : LaidX w) (_ : s.size ≤ maxLen) (_ : -9223372036854775808 ≤ m) (_ : m ≤ 9223372036854775807) :
    Calls Tryd.prog 6 #[.string s, .int .i64 m] w fun e w' => e = .returned (.bool true) ∧ Below w.heap.size w w' := by
  obtain ⟨l, rfl⟩ : ∃ l : List UInt8, s = ⟨l.toArray⟩ := ⟨s.data.toList, by simp⟩
  by_cases hs : l.length ≤ 40
  · have len : ∀ {ws : List (List UInt8)} {i : Nat} {p : List UInt8}, findL (low l) ws = some i → ws[i]? = some p → l.length ≤ p.length := by
      intro ws i p h hp
      obtain ⟨q, hq, hb⟩ := findL_pre h
      obtain rfl : p = q := by rw [hp] at hq; exact Option.some.inj hq
      have := hb.length_le
      rwa [low_len] at this
    cases hm : findL (low l) monthsL with
    | none =>
      have H2 : Hid ((resN (findL (low l) monthsL) 1 : Int) = 0 ∧ (resE (findL (low l) monthsL) : Int) = 13) := Lib.hid (by rw [hm]; exact ⟨rfl, rfl⟩)
      cases hw : findL (low l) weeksL with
      | none => exact short_nn l m _ _ w H hs (Lib.hid ⟨rfl, rfl⟩) H2 (Lib.hid (by rw [hw]; exact ⟨rfl, rfl⟩))
      | some j =>
        have hj : j < 7 := findL_lt hw
        obtain ⟨q, hq⟩ : ∃ q, weeksL[j]? = some q := ⟨_, List.getElem?_eq_getElem (show j < weeksL.length from hj)⟩
        exact short_nw l m _ _ (j : Int) j q w H hs (Lib.hid ⟨rfl, rfl⟩) H2 (Lib.hid (by rw [hw]; exact ⟨rfl, rfl⟩)) (Lib.hid hq) hj (weeks_len q (List.mem_of_getElem? hq)) rfl (Lib.hid (len hw hq)) (Lib.hid (goes_of weeks_firm weeks_low hq hw))
    | some i =>
      have hi : i < 12 := findL_lt hm
      obtain ⟨p, hp⟩ : ∃ p, monthsL[i]? = some p := ⟨_, List.getElem?_eq_getElem (show i < monthsL.length from hi)⟩
      have H2 : Hid ((resN (findL (low l) monthsL) 1 : Int) = ((i + 1 : Nat) : Int) ∧ (resE (findL (low l) monthsL) : Int) = 0) := Lib.hid (by rw [hm]; exact ⟨rfl, rfl⟩)
      cases hw : findL (low l) weeksL with
      | none => exact short_mn l m _ _ _ i p w H hs (Lib.hid ⟨rfl, rfl⟩) H2 (Lib.hid (by rw [hw]; exact ⟨rfl, rfl⟩)) (Lib.hid hp) hi (months_len p (List.mem_of_getElem? hp)) (by omega) (Lib.hid (len hm hp)) (Lib.hid (goes_of months_firm months_low hp hm))
      | some j =>
        have hj : j < 7 := findL_lt hw
        obtain ⟨q, hq⟩ : ∃ q, weeksL[j]? = some q := ⟨_, List.getElem?_eq_getElem (show j < weeksL.length from hj)⟩
        exact short_mw l m _ _ _ i p (j : Int) j q w H hs (Lib.hid ⟨rfl, rfl⟩) H2 (Lib.hid (by rw [hw]; exact ⟨rfl, rfl⟩)) (Lib.hid hp) hi (months_len p (List.mem_of_getElem? hp)) (by omega) (Lib.hid (len hm hp)) (Lib.hid (goes_of months_firm months_low hp hm)) (Lib.hid hq) hj (weeks_len q (List.mem_of_getElem? hq)) rfl (Lib.hid (len hw hq)) (Lib.hid (goes_of weeks_firm weeks_low hq hw))
  · exact short_long l m w H.l (by omega)
end Go.Proofs.YtoegjbhbgnhjdaaDoor
