/- For every bytes and every size the law WireSame returns true, and nothing that was in memory changes. -/
import Derived.Test.YtdepbhikkjfcjaaWrX
import Derived.Test.YtdepbhikkjfcjaaWrS
import Derived.Test.YtdepbhikkjfcjaaWrO
namespace Go.Proofs.Ytdepbhikkjfcjaa
open Go.RowKit Go.Shelf
attribute [local go_sem] Oper.semAt_some

/-- What is read without an error is written as the bytes that were read. -/
theorem same_U {b : List UInt8} (h : uE b = 0) : uL (uV b : Int) = b.take (uN b) := by
  obtain ⟨n, h0⟩ := ft_cases _ _ h
  rw [uV, uN, ftV, ftV, if_neg n, if_neg n, uL, if_neg (by omega), Int.toNat_natCast]
  exact rd_same h0
theorem same_I {b : List UInt8} (h : rdE b = 0) : pc (tz (tb (rdV b))) = b.take (rdN b) := by
  rw [tz_tb]; exact rd_same h
theorem same_F {b : List UInt8} {s : Int} (h : xE b s = 0) : fL (xR b s : Int) s = b.take (xN b s) := by
  obtain ⟨n, h0⟩ := ft_cases _ _ h
  obtain ⟨h1, h2, h3⟩ := byE_ok h0
  obtain ⟨t, rfl⟩ : ∃ t : Nat, s = (t : Int) := ⟨s.toNat, by omega⟩
  have hl : (b.take t).length = t := by rw [List.length_take]; omega
  have hlt := fv_lt (b.take t)
  rw [hl] at hlt
  have e : ((256 : Int) ^ t) = ((256 ^ t : Nat) : Int) := by rw [Int.natCast_pow]; rfl
  have hi : ((fv (b.take t) : Nat) : Int) < 256 ^ t := by rw [e]; exact_mod_cast hlt
  have hx := fx_fv (b.take t)
  rw [hl] at hx
  rw [xR, xN, ftV, ftV, if_neg n, if_neg n, xV, byX, byX, if_pos h0, if_pos h0, Int.toNat_natCast, fL, Int.toNat_natCast, if_pos ⟨h1, h2, by omega, hi⟩, Int.toNat_natCast]
  exact hx

namespace wireSame
set_option maxRecDepth 20000 in
theorem walk_out (a : Option Addr) (c : Nat) (l : List UInt8) (s : Int) (w : World) (h : 100 < l.length ∨ s < 1 ∨ 8 < s) :
    Calls Try.prog 6 #[.slice a l.length c, .int .i64 s] w fun e w' => e = .returned (.bool true) ∧ Below w.heap.size w w' := by
  by_cases h1 : (l.length : Int) > 100
  · have hd : True := trivial
    clear h
    go_enter Try.func6, Try.ntmps6
    go_wp2_with (go_at_call 17; refine (awake_yes _).mono ?_; rintro e w9 ⟨rfl, k9⟩; simp only [])
    go_ret
    exact ⟨rfl, k9⟩
  by_cases h2 : s < 1
  · have hd : True := trivial
    clear h
    go_enter Try.func6, Try.ntmps6
    go_wp2_with (go_at_call 17; refine (awake_yes _).mono ?_; rintro e w9 ⟨rfl, k9⟩; simp only [])
    go_ret
    exact ⟨rfl, k9⟩
  · have h3 : s > 8 := by rcases h with h | h | h <;> omega
    clear h
    go_enter Try.func6, Try.ntmps6
    go_wp2_with (go_at_call 17; refine (awake_yes _).mono ?_; rintro e w9 ⟨rfl, k9⟩; simp only [])
    go_ret
    exact ⟨rfl, k9⟩

/-- A call at a new cursor: the answer, where the cursor is then, what is wrong. -/
def DoAt (a : Option Addr) (n c : Nat) (l : List UInt8) (kind s : Int) (r : Int) (N E : Nat) : Prop :=
  ∀ (W : World) (B : Nat), Cur B (.slice a n c) 0 0 W → By W a l → Calls Try.prog 19 #[.pointer (some ⟨B, 0, none⟩), .agg #[.int .i64 kind, .int .i64 s]] W fun x w' => x = .returned (.tuple #[.int .i64 r, .slice none 0 0]) ∧ Cur B (.slice a n c) (N : Int) (E : Int) w' ∧ W.grownBy w' (some B)

theorem doU (a : Option Addr) (n c : Nat) (l : List UInt8) (s : Int) (hn : l.length = n) (hc : n ≤ c) (hm : n ≤ 100000) : DoAt a n c l 0 s (uV l : Int) (uN l) (uE l) := fun W B h hb => by
  refine (does0 _ s _ (fun W w' => Cur B (.slice a n c) (uN l : Int) (uE l : Int) w' ∧ W.grownBy w' (some B)) W (fun W2 k => ?_) ⟨_, rfl⟩).mono fun x w' ⟨h1, W2, k, h2, h3⟩ => ⟨h1, h2, grown_trans (grown_below k _) h3⟩
  have := cU_is B n c 0 a l W2 (h.next k) hn hc (Nat.zero_le _) hm (hb.next k) (uV l) (uN l) (uE l) (Lib.hid (by rw [List.drop_zero]; exact ⟨rfl, rfl, rfl⟩))
  rw [Nat.zero_add] at this
  exact this
theorem doI (a : Option Addr) (n c : Nat) (l : List UInt8) (s : Int) (hn : l.length = n) (hc : n ≤ c) (hm : n ≤ 100000) : DoAt a n c l 1 s (tb (rdV l)) (rdN l) (rdE l) := fun W B h hb => by
  refine (does1 _ s _ (fun W w' => Cur B (.slice a n c) (rdN l : Int) (rdE l : Int) w' ∧ W.grownBy w' (some B)) W (fun W2 k => ?_) ⟨_, rfl⟩).mono fun x w' ⟨h1, W2, k, h2, h3⟩ => ⟨h1, h2, grown_trans (grown_below k _) h3⟩
  have := cI_is B n c 0 a l W2 (h.next k) hn hc (Nat.zero_le _) hm (hb.next k) (rdV l) (rdN l) (rdE l) (tb (rdV l)) (Lib.hid (by rw [List.drop_zero]; exact ⟨rfl, rfl, rfl⟩)) (Lib.hid rfl)
  rw [Nat.zero_add] at this
  exact this
theorem doF (a : Option Addr) (n c : Nat) (l : List UInt8) (s : Int) (hn : l.length = n) (hc : n ≤ c) (hm : n ≤ 100000) : DoAt a n c l 2 s (xR l s : Int) (xN l s) (xE l s) := fun W B h hb => by
  refine (does2 _ s _ (fun W w' => Cur B (.slice a n c) (xN l s : Int) (xE l s : Int) w' ∧ W.grownBy w' (some B)) W (fun W2 k => ?_) ⟨_, rfl⟩).mono fun x w' ⟨h1, W2, k, h2, h3⟩ => ⟨h1, h2, grown_trans (grown_below k _) h3⟩
  have := cF_is B n c 0 a l s W2 (h.next k) hn hc (Nat.zero_le _) hm (hb.next k) (xR l s) (xN l s) (xE l s) (Lib.hid (by rw [List.drop_zero]; exact ⟨rfl, rfl, rfl⟩))
  rw [Nat.zero_add] at this
  exact this

set_option maxRecDepth 20000 in
set_option maxHeartbeats 8000000 in
theorem walk_few (a : Option Addr) (c : Nat) (l : List UInt8) (s : Int) (w : World) (hl : l.length ≤ 100) (h1 : 1 ≤ s) (h8 : s ≤ 8) (hc : l.length ≤ c) (hb : By w a l) :
    Calls Try.prog 6 #[.slice a l.length c, .int .i64 s] w fun e w' => e = .returned (.bool true) ∧ Below w.heap.size w w' := by
  obtain ⟨n, hn⟩ : ∃ n, l.length = n := ⟨_, rfl⟩
  have HB := Lib.hid hb
  have HN := Lib.hid hn
  have D0 := Lib.hid (doU a n c l s hn (by omega) (by omega))
  have D1 := Lib.hid (doI a n c l s hn (by omega) (by omega))
  have D2 := Lib.hid (doF a n c l s hn (by omega) (by omega))
  have nu : uN l ≤ n := hn ▸ uN_le l
  have ni : rdN l ≤ n := hn ▸ rdN_le l
  have nf : xN l s ≤ n := hn ▸ xN_le l s
  have bu : ((uV l : Nat) : Int) ≤ 9223372036854775807 := by have := uV_lt l; omega
  have bi := tb_bd (rdV_lt l)
  have SU := Lib.hid (@same_U l)
  have SI := Lib.hid (@same_I l)
  have SF := Lib.hid (@same_F l s)
  have ZU := Lib.hid (@uE_ne l)
  have ZI := Lib.hid (@rdE_ne l)
  have ZF := Lib.hid (@xE_ne l s)
  obtain ⟨Nu, eu⟩ : ∃ x, uN l = x := ⟨_, rfl⟩
  obtain ⟨Ni, ei⟩ : ∃ x, rdN l = x := ⟨_, rfl⟩
  obtain ⟨Nf, ef⟩ : ∃ x, xN l s = x := ⟨_, rfl⟩
  obtain ⟨Eu, fu⟩ : ∃ x, uE l = x := ⟨_, rfl⟩
  obtain ⟨Ei, fi⟩ : ∃ x, rdE l = x := ⟨_, rfl⟩
  obtain ⟨Ef, ff⟩ : ∃ x, xE l s = x := ⟨_, rfl⟩
  obtain ⟨Vu, vu⟩ : ∃ x, uV l = x := ⟨_, rfl⟩
  obtain ⟨Vf, vf⟩ : ∃ x, xR l s = x := ⟨_, rfl⟩
  obtain ⟨Vi, vi⟩ : ∃ x, tb (rdV l) = x := ⟨_, rfl⟩
  have ZI2 : Hid (Ei ≠ 0 → Vi = 0 ∧ Ni = 0) := Lib.hid fun h => by
    obtain ⟨z1, z2⟩ := ZI.out (by rw [fi]; exact h)
    exact ⟨by rw [← vi, z1]; decide, by rw [← ei]; exact z2⟩
  rw [eu, fu, vu] at D0 SU ZU
  rw [ei, fi, vi] at D1 SI
  rw [ef, ff, vf] at D2 SF ZF
  rw [eu] at nu
  rw [ei] at ni
  rw [ef] at nf
  rw [vu] at bu
  rw [vi] at bi
  rw [hn] at hl hc ⊢
  have H1 := Lib.hid (And.intro h1 h8)
  have n1 : ¬ ((n : Int) > 100) := by omega
  have n2 : ¬ (s < 1) := by omega
  have n3 : ¬ (s > 8) := by omega
  have BI1 := Lib.hid bi
  have BU1 := Lib.hid bu
  clear eu ei ef fu fi ff vu vf vi hb hn h1 h8 bi bu ZI
  go_enter Try.func6, Try.ntmps6
  go_wp2
  clear n1 n2 n3
  go_loopw [5] (fun vk wr => ∃ k : Nat, vk = .int .i64 k ∧ k ≤ 3 ∧ Below w.heap.size w wr) (fun vk _ => 3 - (intOf vk).toNat)
  case atStart => exact ⟨0, rfl, by omega, Below.refl _ _⟩
  case round =>
    obtain ⟨k, rfl, hk, hbw⟩ := hrel
    have B0 := Lib.hid hbw
    clear hbw
    rcases (show k = 0 ∨ k = 1 ∨ k = 2 ∨ k = 3 by omega) with rfl | rfl | rfl | rfl
    · by_cases hE : Eu = 0
      · subst hE
        have RR := Lib.hid (SU.out rfl)
        obtain ⟨R, hR⟩ : ∃ R, uL (Vu : Int) = R := ⟨_, rfl⟩
        have CR := Lib.hid (fun w => hR ▸ uint_any (Vu : Int) w BU1.out)
        rw [hR] at RR
        clear hR
        have hRl : R.length = Nu := by rw [RR.out, List.length_take, HN.out]; omega
        have HRL := Lib.hid hRl
        have TT : Hid (decide (R = l.take Nu) = true) := Lib.hid (by simp [RR.out])
        have htk := take_run2 a n c Nu (by omega)
        have hng : ¬ ((Nu : Int) > (n : Int)) := by omega
        clear hRl
        go_wp2_with (first
          | (go_at_call 18; refine (new_any a n c _).mono ?_; rintro e w2 ⟨rfl, H, k2⟩
             have C2 := Lib.hid H
             have K2 := Lib.hid k2
             have B2 := Lib.hid (B0.out.trans (k2.mono B0.out.size))
             clear H k2
             simp only [])
          | (go_at_call 19; refine (D0.out _ wr.heap.size C2.out (HB.out.next B2.out)).mono ?_; rintro e w3 ⟨rfl, H, g3⟩
             have C3 := Lib.hid H
             have B3 := Lib.hid (B0.out.trans ((K2.out.trans (grown_to g3 K2.out.size (Nat.le_refl _))).mono B0.out.size))
             clear H g3
             simp only [])
          | (go_at_call 23; (with_reducible refine (err_any wr.heap.size _ _ _ _ C3.out).mono ?_); rintro e w' ⟨rfl, rfl⟩; simp only [])
          | (go_at_call 15; refine (fixed_any (Vu : Int) s _).mono ?_; rintro e w4 ⟨A4, c4, rfl, o4, k4⟩
             have C4 := Lib.hid (C3.out.next k4)
             have B4 := Lib.hid (B3.out.trans (k4.mono B3.out.size))
             clear o4 k4
             simp only [])
          | (go_at_call 12; refine (CR.out _).mono ?_; rintro e w5 ⟨A5, c5, rfl, o5, k5⟩
             have C5 := Lib.hid (C4.out.next k5)
             have B5 := Lib.hid (B4.out.trans (k5.mono B4.out.size))
             have Y5 := Lib.hid (By.of_own o5)
             clear o5 k5
             simp only [])
          | (go_at_call 21; (with_reducible refine (at_any wr.heap.size _ _ _ _ C5.out).mono ?_); rintro e w' ⟨rfl, rfl⟩; simp only [])
          | (go_at_call 11; (with_reducible refine (bytes_n A5 a c5 c R.length Nu R (l.take Nu) true _ rfl (by rw [List.length_take, HN.out]; omega) Y5.out ((HB.out.next B5.out).take _) (by have := HRL.out; omega) TT).mono ?_); rintro e w6 ⟨rfl, k6⟩
             have B6 := Lib.hid (B5.out.trans (k6.mono B5.out.size))
             clear k6
             simp only []))
        go_roundw
        case rel => exact ⟨1, rfl, by omega, B6.out⟩
        case measure => simp [intOf]
      · obtain ⟨rfl, rfl⟩ : Vu = 0 ∧ Nu = 0 := ZU.out hE
        have hE2 : ((Eu : Int) != 0) = true := by simp; omega
        clear hE
        go_wp2_with (first
          | (go_at_call 18; refine (new_any a n c _).mono ?_; rintro e w2 ⟨rfl, H, k2⟩
             have C2 := Lib.hid H
             have K2 := Lib.hid k2
             have B2 := Lib.hid (B0.out.trans (k2.mono B0.out.size))
             clear H k2
             simp only [])
          | (go_at_call 19; refine (D0.out _ wr.heap.size C2.out (HB.out.next B2.out)).mono ?_; rintro e w3 ⟨rfl, H, g3⟩
             have C3 := Lib.hid H
             have B3 := Lib.hid (B0.out.trans ((K2.out.trans (grown_to g3 K2.out.size (Nat.le_refl _))).mono B0.out.size))
             clear H g3
             simp only [])
          | (go_at_call 23; (with_reducible refine (err_any wr.heap.size _ _ _ _ C3.out).mono ?_); rintro e w' ⟨rfl, rfl⟩; simp only [])
          | (go_at_call 21; (with_reducible refine (at_any wr.heap.size _ _ _ _ C3.out).mono ?_); rintro e w' ⟨rfl, rfl⟩; simp only []))
        go_roundw
        case rel => exact ⟨1, rfl, by omega, B3.out⟩
        case measure => simp [intOf]
    · by_cases hE : Ei = 0
      · subst hE
        have RR := Lib.hid (SI.out rfl)
        obtain ⟨R, hR⟩ : ∃ R, pc (tz Vi) = R := ⟨_, rfl⟩
        have CR := Lib.hid (fun w => hR ▸ int_any Vi w BI1.out.1 BI1.out.2)
        rw [hR] at RR
        clear hR
        have hRl : R.length = Ni := by rw [RR.out, List.length_take, HN.out]; omega
        have HRL := Lib.hid hRl
        have TT : Hid (decide (R = l.take Ni) = true) := Lib.hid (by simp [RR.out])
        have htk := take_run2 a n c Ni (by omega)
        have hng : ¬ ((Ni : Int) > (n : Int)) := by omega
        clear hRl
        go_wp2_with (first
          | (go_at_call 18; refine (new_any a n c _).mono ?_; rintro e w2 ⟨rfl, H, k2⟩
             have C2 := Lib.hid H
             have K2 := Lib.hid k2
             have B2 := Lib.hid (B0.out.trans (k2.mono B0.out.size))
             clear H k2
             simp only [])
          | (go_at_call 19; refine (D1.out _ wr.heap.size C2.out (HB.out.next B2.out)).mono ?_; rintro e w3 ⟨rfl, H, g3⟩
             have C3 := Lib.hid H
             have B3 := Lib.hid (B0.out.trans ((K2.out.trans (grown_to g3 K2.out.size (Nat.le_refl _))).mono B0.out.size))
             clear H g3
             simp only [])
          | (go_at_call 23; (with_reducible refine (err_any wr.heap.size _ _ _ _ C3.out).mono ?_); rintro e w' ⟨rfl, rfl⟩; simp only [])
          | (go_at_call 15; refine (fixed_any Vi s _).mono ?_; rintro e w4 ⟨A4, c4, rfl, o4, k4⟩
             have C4 := Lib.hid (C3.out.next k4)
             have B4 := Lib.hid (B3.out.trans (k4.mono B3.out.size))
             clear o4 k4
             simp only [])
          | (go_at_call 13; refine (CR.out _).mono ?_; rintro e w5 ⟨A5, c5, rfl, o5, k5⟩
             have C5 := Lib.hid (C4.out.next k5)
             have B5 := Lib.hid (B4.out.trans (k5.mono B4.out.size))
             have Y5 := Lib.hid (By.of_own o5)
             clear o5 k5
             simp only [])
          | (go_at_call 21; (with_reducible refine (at_any wr.heap.size _ _ _ _ C5.out).mono ?_); rintro e w' ⟨rfl, rfl⟩; simp only [])
          | (go_at_call 11; (with_reducible refine (bytes_n A5 a c5 c R.length Ni R (l.take Ni) true _ rfl (by rw [List.length_take, HN.out]; omega) Y5.out ((HB.out.next B5.out).take _) (by have := HRL.out; omega) TT).mono ?_); rintro e w6 ⟨rfl, k6⟩
             have B6 := Lib.hid (B5.out.trans (k6.mono B5.out.size))
             clear k6
             simp only []))
        go_roundw
        case rel => exact ⟨2, rfl, by omega, B6.out⟩
        case measure => simp [intOf]
      · obtain ⟨rfl, rfl⟩ : Vi = 0 ∧ Ni = 0 := ZI2.out hE
        have hE2 : ((Ei : Int) != 0) = true := by simp; omega
        clear hE
        go_wp2_with (first
          | (go_at_call 18; refine (new_any a n c _).mono ?_; rintro e w2 ⟨rfl, H, k2⟩
             have C2 := Lib.hid H
             have K2 := Lib.hid k2
             have B2 := Lib.hid (B0.out.trans (k2.mono B0.out.size))
             clear H k2
             simp only [])
          | (go_at_call 19; refine (D1.out _ wr.heap.size C2.out (HB.out.next B2.out)).mono ?_; rintro e w3 ⟨rfl, H, g3⟩
             have C3 := Lib.hid H
             have B3 := Lib.hid (B0.out.trans ((K2.out.trans (grown_to g3 K2.out.size (Nat.le_refl _))).mono B0.out.size))
             clear H g3
             simp only [])
          | (go_at_call 23; (with_reducible refine (err_any wr.heap.size _ _ _ _ C3.out).mono ?_); rintro e w' ⟨rfl, rfl⟩; simp only [])
          | (go_at_call 21; (with_reducible refine (at_any wr.heap.size _ _ _ _ C3.out).mono ?_); rintro e w' ⟨rfl, rfl⟩; simp only []))
        go_roundw
        case rel => exact ⟨2, rfl, by omega, B3.out⟩
        case measure => simp [intOf]
    · by_cases hE : Ef = 0
      · subst hE
        have RR := Lib.hid (SF.out rfl)
        obtain ⟨R, hR⟩ : ∃ R, fL (Vf : Int) s = R := ⟨_, rfl⟩
        have CR := Lib.hid (fun w => hR ▸ fixed_any (Vf : Int) s w)
        rw [hR] at RR
        clear hR
        have hRl : R.length = Nf := by rw [RR.out, List.length_take, HN.out]; omega
        have HRL := Lib.hid hRl
        have TT : Hid (decide (R = l.take Nf) = true) := Lib.hid (by simp [RR.out])
        have htk := take_run2 a n c Nf (by omega)
        have hng : ¬ ((Nf : Int) > (n : Int)) := by omega
        clear hRl
        go_wp2_with (first
          | (go_at_call 18; refine (new_any a n c _).mono ?_; rintro e w2 ⟨rfl, H, k2⟩
             have C2 := Lib.hid H
             have K2 := Lib.hid k2
             have B2 := Lib.hid (B0.out.trans (k2.mono B0.out.size))
             clear H k2
             simp only [])
          | (go_at_call 19; refine (D2.out _ wr.heap.size C2.out (HB.out.next B2.out)).mono ?_; rintro e w3 ⟨rfl, H, g3⟩
             have C3 := Lib.hid H
             have B3 := Lib.hid (B0.out.trans ((K2.out.trans (grown_to g3 K2.out.size (Nat.le_refl _))).mono B0.out.size))
             clear H g3
             simp only [])
          | (go_at_call 23; (with_reducible refine (err_any wr.heap.size _ _ _ _ C3.out).mono ?_); rintro e w' ⟨rfl, rfl⟩; simp only [])
          | (go_at_call 15; refine (CR.out _).mono ?_; rintro e w5 ⟨A5, c5, rfl, o5, k5⟩
             have C5 := Lib.hid (C3.out.next k5)
             have B5 := Lib.hid (B3.out.trans (k5.mono B3.out.size))
             have Y5 := Lib.hid (By.of_own o5)
             clear o5 k5
             simp only [])
          | (go_at_call 21; (with_reducible refine (at_any wr.heap.size _ _ _ _ C5.out).mono ?_); rintro e w' ⟨rfl, rfl⟩; simp only [])
          | (go_at_call 11; (with_reducible refine (bytes_n A5 a c5 c R.length Nf R (l.take Nf) true _ rfl (by rw [List.length_take, HN.out]; omega) Y5.out ((HB.out.next B5.out).take _) (by have := HRL.out; omega) TT).mono ?_); rintro e w6 ⟨rfl, k6⟩
             have B6 := Lib.hid (B5.out.trans (k6.mono B5.out.size))
             clear k6
             simp only []))
        go_roundw
        case rel => exact ⟨3, rfl, by omega, B6.out⟩
        case measure => simp [intOf]
      · obtain ⟨rfl, rfl⟩ : Vf = 0 ∧ Nf = 0 := ZF.out hE
        have hE2 : ((Ef : Int) != 0) = true := by simp; omega
        clear hE
        go_wp2_with (first
          | (go_at_call 18; refine (new_any a n c _).mono ?_; rintro e w2 ⟨rfl, H, k2⟩
             have C2 := Lib.hid H
             have K2 := Lib.hid k2
             have B2 := Lib.hid (B0.out.trans (k2.mono B0.out.size))
             clear H k2
             simp only [])
          | (go_at_call 19; refine (D2.out _ wr.heap.size C2.out (HB.out.next B2.out)).mono ?_; rintro e w3 ⟨rfl, H, g3⟩
             have C3 := Lib.hid H
             have B3 := Lib.hid (B0.out.trans ((K2.out.trans (grown_to g3 K2.out.size (Nat.le_refl _))).mono B0.out.size))
             clear H g3
             simp only [])
          | (go_at_call 23; (with_reducible refine (err_any wr.heap.size _ _ _ _ C3.out).mono ?_); rintro e w' ⟨rfl, rfl⟩; simp only [])
          | (go_at_call 21; (with_reducible refine (at_any wr.heap.size _ _ _ _ C3.out).mono ?_); rintro e w' ⟨rfl, rfl⟩; simp only []))
        go_roundw
        case rel => exact ⟨3, rfl, by omega, B3.out⟩
        case measure => simp [intOf]
    · go_wp2_with (go_at_call 17; refine (awake_yes _).mono ?_; rintro e w9 ⟨rfl, k9⟩
                   have B9 := Lib.hid (B0.out.trans (k9.mono B0.out.size))
                   clear k9
                   simp only [])
      go_ret
      exact ⟨rfl, B9.out⟩

theorem walk (a : Option Addr) (c : Nat) (l : List UInt8) (s : Int) (w : World) (hc : l.length ≤ c) (_ : c ≤ maxLen) (_ : a = none → c = 0) (hb : By w a l) (_ : in64 s) :
    Calls Try.prog 6 #[.slice a l.length c, .int .i64 s] w fun e w' => e = .returned (.bool true) ∧ Below w.heap.size w w' := by
  by_cases h : 100 < l.length ∨ s < 1 ∨ 8 < s
  · exact walk_out a c l s w h
  · exact walk_few a c l s w (by omega) (by omega) (by omega) hc hb
end wireSame
end Go.Proofs.Ytdepbhikkjfcjaa
