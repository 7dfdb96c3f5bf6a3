/- The walk of LinesApart: for all words it returns true, and nothing that was in memory changes. Written by wip/tools/genlnv.py. -/
import Derived.Test.YtfmehdophoejiaaGreatDoorMN
namespace Go.Proofs.YtfmehdophoejiaaGreatDoor
open Go Go.RowKit

theorem one_kind (ws : List (List UInt8)) : (rlX ws = 0 → ws.length = 10) ∧ (znX ws = 0 → 5 ≤ ws.length ∧ ws.length ≤ 9) ∧ (lkX ws = 0 → ws.length = 3) :=
  ⟨fun h => (rule_ok h).1, fun h => (zone_ok h).1, fun h => (link_ok h).1⟩
theorem e_false {e : Int} (h : e ≠ 0) : (e == 0) = false := by simpa using h

set_option maxRecDepth 20000 in
set_option maxHeartbeats 1600000 in
theorem apart_many (A : Option Addr) (n c : Nat) (ws : List (List UInt8)) (w : World) (H : LaidL w) (hn : ws.length = n) (hm : n ≤ maxLen) (_ : n ≤ c) (hW : ArgW A ws w) (HF : Hid (fewB ws = false)) :
    Calls Tryz.prog 9 #[.slice A n c] w fun e w' => e = .returned (.bool true) ∧ Below w.heap.size w w' := by
  have HA := Lib.hid H
  have HN := Lib.hid hn
  have HW := Lib.hid hW
  have HMX : Hid (n ≤ 9223372036854775807) := Lib.hid hm
  clear H hn hW hm
  go_enter Tryz.func9, Tryz.ntmps9
  go_wp2_with (first
    | (go_at_call 18; refine (few_is A n c ws false _ HN.out HMX.out HW.out HF).mono ?_; rintro e w0 ⟨rfl, rfl⟩; simp only [])
    | (go_at_call 10; refine (lawake_any _ HA.out).mono ?_; rintro e w1 ⟨rfl, k1⟩; have K1 := Lib.hid k1; clear k1; simp only []))
  go_ret
  exact ⟨rfl, K1.out⟩

set_option maxRecDepth 20000 in
set_option maxHeartbeats 1600000 in
theorem apart_none (A : Option Addr) (n c : Nat) (ws : List (List UInt8)) (w : World) (H : LaidL w) (hn : ws.length = n) (hm : n ≤ maxLen) (hc : n ≤ c) (hW : ArgW A ws w) (HF : Hid (fewB ws = true)) (e f g : Int) (he : rlX ws = e) (hf : znX ws = f) (hg : lkX ws = g) (e0 : (e == 0) = false) (f0 : (f == 0) = false) (g0 : (g == 0) = false) :
    Calls Tryz.prog 9 #[.slice A n c] w fun e w' => e = .returned (.bool true) ∧ Below w.heap.size w w' := by
  have HA := Lib.hid H
  have HN := Lib.hid hn
  have HW := Lib.hid hW
  have HMX : Hid (n ≤ 9223372036854775807) := Lib.hid hm
  clear H hn hW hm
  have HL : Hid (∀ p ∈ ws, p.length ≤ 500) := Lib.hid fun p hp => Nat.le_trans ((few_yes HF.out).1 p hp) (by omega)
  obtain ⟨r, hr⟩ : ∃ r, rlS ws = r := ⟨_, rfl⟩
  obtain ⟨N, hN⟩ : ∃ N, znN ws = N := ⟨_, rfl⟩
  obtain ⟨z, hz⟩ : ∃ z, znS ws = z := ⟨_, rfl⟩
  obtain ⟨a, ha⟩ : ∃ a, lkT ws = a := ⟨_, rfl⟩
  obtain ⟨b, hb⟩ : ∃ b, lkN ws = b := ⟨_, rfl⟩
  have HR : Hid (rlS ws = r ∧ rlX ws = e) := Lib.hid ⟨hr, he⟩
  have HZ : Hid (znN ws = N ∧ znS ws = z ∧ znX ws = f) := Lib.hid ⟨hN, hz, hf⟩
  have HK : Hid (lkT ws = a ∧ lkN ws = b ∧ lkX ws = g) := Lib.hid ⟨ha, hb, hg⟩
  clear hr hN hz ha hb he hf hg
  go_enter Tryz.func9, Tryz.ntmps9
  go_wp2_with (first
    | (go_at_call 18; refine (few_is A n c ws true _ HN.out HMX.out HW.out HF).mono ?_; rintro e w0 ⟨rfl, rfl⟩; simp only [])
    | (go_at_call 19; refine (lrule_is A n c ws _ HN.out HL.out HW.out HA.out r e HR).mono ?_; rintro e w1 ⟨rfl, k1⟩; have K1 := Lib.hid k1; clear k1; simp only [rvV])
    | (go_at_call 23; refine (lzone_is A n c ws _ HN.out hc HL.out (HW.out.next (bmk K1.out _)) (HA.out.next (bmk K1.out _)) N z f HZ).mono ?_; rintro e w2 ⟨rfl, k2⟩; have K2 := Lib.hid (bthen (bmk K1.out _) k2); clear k2; simp only [evV])
    | (go_at_call 25; refine (llink_is A n c ws _ HN.out HL.out (HW.out.next (bmk K2.out _)) (HA.out.next (bmk K2.out _)) a b g HK).mono ?_; rintro e w3 ⟨rfl, k3⟩; have K3 := Lib.hid (bthen (bmk K2.out _) k3); clear k3; simp only [lvV])
    | (go_at_call 10; refine (lawake_any _ (HA.out.next (bmk K3.out _))).mono ?_; rintro e w9 ⟨rfl, k9⟩; have K9 := Lib.hid (bthen (bmk K3.out _) k9); clear k9; simp only []))
  go_ret
  exact ⟨rfl, K9.out⟩

set_option maxRecDepth 20000 in
set_option maxHeartbeats 1600000 in
theorem apart_rule (A : Option Addr) (n c : Nat) (ws : List (List UInt8)) (w : World) (H : LaidL w) (hn : ws.length = n) (hm : n ≤ maxLen) (hc : n ≤ c) (hW : ArgW A ws w) (HF : Hid (fewB ws = true)) (f g : Int) (he : rlX ws = 0) (hf : znX ws = f) (hg : lkX ws = g) (f0 : (f == 0) = false) (g0 : (g == 0) = false) :
    Calls Tryz.prog 9 #[.slice A n c] w fun e w' => e = .returned (.bool true) ∧ Below w.heap.size w w' := by
  have HA := Lib.hid H
  have HN := Lib.hid hn
  have HW := Lib.hid hW
  have HMX : Hid (n ≤ 9223372036854775807) := Lib.hid hm
  clear H hn hW hm
  have HL : Hid (∀ p ∈ ws, p.length ≤ 500) := Lib.hid fun p hp => Nat.le_trans ((few_yes HF.out).1 p hp) (by omega)
  obtain ⟨r, hr⟩ : ∃ r, rlS ws = r := ⟨_, rfl⟩
  obtain ⟨N, hN⟩ : ∃ N, znN ws = N := ⟨_, rfl⟩
  obtain ⟨z, hz⟩ : ∃ z, znS ws = z := ⟨_, rfl⟩
  obtain ⟨a, ha⟩ : ∃ a, lkT ws = a := ⟨_, rfl⟩
  obtain ⟨b, hb⟩ : ∃ b, lkN ws = b := ⟨_, rfl⟩
  have n10 : n = 10 := HN.out ▸ (one_kind ws).1 he
  have l10 : ((n : Int) != 10) = false := by simp; omega
  clear n10
  have HR : Hid (rlS ws = r ∧ rlX ws = 0) := Lib.hid ⟨hr, he⟩
  have HZ : Hid (znN ws = N ∧ znS ws = z ∧ znX ws = f) := Lib.hid ⟨hN, hz, hf⟩
  have HK : Hid (lkT ws = a ∧ lkN ws = b ∧ lkX ws = g) := Lib.hid ⟨ha, hb, hg⟩
  clear hr hN hz ha hb he hf hg
  go_enter Tryz.func9, Tryz.ntmps9
  go_wp2_with (first
    | (go_at_call 18; refine (few_is A n c ws true _ HN.out HMX.out HW.out HF).mono ?_; rintro e w0 ⟨rfl, rfl⟩; simp only [])
    | (go_at_call 19; refine (lrule_is A n c ws _ HN.out HL.out HW.out HA.out r 0 HR).mono ?_; rintro e w1 ⟨rfl, k1⟩; have K1 := Lib.hid k1; clear k1; simp only [rvV])
    | (go_at_call 23; refine (lzone_is A n c ws _ HN.out hc HL.out (HW.out.next (bmk K1.out _)) (HA.out.next (bmk K1.out _)) N z f HZ).mono ?_; rintro e w2 ⟨rfl, k2⟩; have K2 := Lib.hid (bthen (bmk K1.out _) k2); clear k2; simp only [evV])
    | (go_at_call 25; refine (llink_is A n c ws _ HN.out HL.out (HW.out.next (bmk K2.out _)) (HA.out.next (bmk K2.out _)) a b g HK).mono ?_; rintro e w3 ⟨rfl, k3⟩; have K3 := Lib.hid (bthen (bmk K2.out _) k3); clear k3; simp only [lvV])
    | (go_at_call 10; refine (lawake_any _ (HA.out.next (bmk K3.out _))).mono ?_; rintro e w9 ⟨rfl, k9⟩; have K9 := Lib.hid (bthen (bmk K3.out _) k9); clear k9; simp only []))
  go_ret
  exact ⟨rfl, K9.out⟩

set_option maxRecDepth 20000 in
set_option maxHeartbeats 1600000 in
theorem apart_link (A : Option Addr) (n c : Nat) (ws : List (List UInt8)) (w : World) (H : LaidL w) (hn : ws.length = n) (hm : n ≤ maxLen) (hc : n ≤ c) (hW : ArgW A ws w) (HF : Hid (fewB ws = true)) (e f : Int) (he : rlX ws = e) (hf : znX ws = f) (hg : lkX ws = 0) (e0 : (e == 0) = false) (f0 : (f == 0) = false) :
    Calls Tryz.prog 9 #[.slice A n c] w fun e w' => e = .returned (.bool true) ∧ Below w.heap.size w w' := by
  have HA := Lib.hid H
  have HN := Lib.hid hn
  have HW := Lib.hid hW
  have HMX : Hid (n ≤ 9223372036854775807) := Lib.hid hm
  clear H hn hW hm
  have HL : Hid (∀ p ∈ ws, p.length ≤ 500) := Lib.hid fun p hp => Nat.le_trans ((few_yes HF.out).1 p hp) (by omega)
  obtain ⟨r, hr⟩ : ∃ r, rlS ws = r := ⟨_, rfl⟩
  obtain ⟨N, hN⟩ : ∃ N, znN ws = N := ⟨_, rfl⟩
  obtain ⟨z, hz⟩ : ∃ z, znS ws = z := ⟨_, rfl⟩
  obtain ⟨a, ha⟩ : ∃ a, lkT ws = a := ⟨_, rfl⟩
  obtain ⟨b, hb⟩ : ∃ b, lkN ws = b := ⟨_, rfl⟩
  have n3 : n = 3 := HN.out ▸ (one_kind ws).2.2 hg
  have l3 : ((n : Int) != 3) = false := by simp; omega
  clear n3
  have HR : Hid (rlS ws = r ∧ rlX ws = e) := Lib.hid ⟨hr, he⟩
  have HZ : Hid (znN ws = N ∧ znS ws = z ∧ znX ws = f) := Lib.hid ⟨hN, hz, hf⟩
  have HK : Hid (lkT ws = a ∧ lkN ws = b ∧ lkX ws = 0) := Lib.hid ⟨ha, hb, hg⟩
  clear hr hN hz ha hb he hf hg
  go_enter Tryz.func9, Tryz.ntmps9
  go_wp2_with (first
    | (go_at_call 18; refine (few_is A n c ws true _ HN.out HMX.out HW.out HF).mono ?_; rintro e w0 ⟨rfl, rfl⟩; simp only [])
    | (go_at_call 19; refine (lrule_is A n c ws _ HN.out HL.out HW.out HA.out r e HR).mono ?_; rintro e w1 ⟨rfl, k1⟩; have K1 := Lib.hid k1; clear k1; simp only [rvV])
    | (go_at_call 23; refine (lzone_is A n c ws _ HN.out hc HL.out (HW.out.next (bmk K1.out _)) (HA.out.next (bmk K1.out _)) N z f HZ).mono ?_; rintro e w2 ⟨rfl, k2⟩; have K2 := Lib.hid (bthen (bmk K1.out _) k2); clear k2; simp only [evV])
    | (go_at_call 25; refine (llink_is A n c ws _ HN.out HL.out (HW.out.next (bmk K2.out _)) (HA.out.next (bmk K2.out _)) a b 0 HK).mono ?_; rintro e w3 ⟨rfl, k3⟩; have K3 := Lib.hid (bthen (bmk K2.out _) k3); clear k3; simp only [lvV])
    | (go_at_call 10; refine (lawake_any _ (HA.out.next (bmk K3.out _))).mono ?_; rintro e w9 ⟨rfl, k9⟩; have K9 := Lib.hid (bthen (bmk K3.out _) k9); clear k9; simp only []))
  go_ret
  exact ⟨rfl, K9.out⟩

set_option maxRecDepth 20000 in
set_option maxHeartbeats 1600000 in
theorem apart_zone (A : Option Addr) (n c : Nat) (ws : List (List UInt8)) (w : World) (H : LaidL w) (hn : ws.length = n) (hm : n ≤ maxLen) (hc : n ≤ c) (hW : ArgW A ws w) (HF : Hid (fewB ws = true)) (e g : Int) (he : rlX ws = e) (hf : znX ws = 0) (hg : lkX ws = g) (e0 : (e == 0) = false) (g0 : (g == 0) = false) :
    Calls Tryz.prog 9 #[.slice A n c] w fun e w' => e = .returned (.bool true) ∧ Below w.heap.size w w' := by
  have n5 : 5 ≤ n ∧ n ≤ 9 := hn ▸ (one_kind ws).2.1 hf
  obtain ⟨L, off, rfl, hW'⟩ := hW.some (by omega)
  have HA := Lib.hid H
  have HN := Lib.hid hn
  have HW := Lib.hid hW
  have HMX : Hid (n ≤ 9223372036854775807) := Lib.hid hm
  clear H hn hW hm
  have HL : Hid (∀ p ∈ ws, p.length ≤ 500) := Lib.hid fun p hp => Nat.le_trans ((few_yes HF.out).1 p hp) (by omega)
  obtain ⟨r, hr⟩ : ∃ r, rlS ws = r := ⟨_, rfl⟩
  obtain ⟨N, hN⟩ : ∃ N, znN ws = N := ⟨_, rfl⟩
  obtain ⟨z, hz⟩ : ∃ z, znS ws = z := ⟨_, rfl⟩
  obtain ⟨a, ha⟩ : ∃ a, lkT ws = a := ⟨_, rfl⟩
  obtain ⟨b, hb⟩ : ∃ b, lkN ws = b := ⟨_, rfl⟩
  have l5 : ¬ (n : Int) < 5 := by omega
  have l9 : ¬ (9 : Int) < (n : Int) := by omega
  obtain ⟨p1, hp1⟩ : ∃ p, ws[1]? = some p := ⟨_, List.getElem?_eq_getElem (by rw [HN.out]; omega)⟩
  have C1 : Hid (w.cell? ⟨L, off + 1, none⟩ = some (.string ⟨p1.toArray⟩)) := Lib.hid (hW' 1 p1 hp1)
  have zo := zone_ok hf
  have HM : Hid (nmV p1 = 0) := Lib.hid (by have := zo.2.2.2.2.2; rw [wd_get hp1] at this; exact this)
  have lp1 : p1.length ≤ 1000 := by have := HL.out p1 (List.mem_of_getElem? hp1); omega
  have HE : Hid (erS (ws.drop 2) = z ∧ erX (ws.drop 2) = 0) := Lib.hid ⟨by rw [← hz, zo.2.2.2.2.1], zo.2.2.1⟩
  have LD : Hid ((ws.drop 2).length = n - 2) := Lib.hid (by rw [List.length_drop, HN.out])
  have LD2 : Hid (∀ p ∈ ws.drop 2, p.length ≤ 500) := Lib.hid fun p hp => HL.out p (List.mem_of_mem_drop hp)
  have AR2 : Hid (ArgW (some ⟨L, off + 2, none⟩) (ws.drop 2) w) := Lib.hid fun i p hp => ⟨L, off + 2, rfl, by
    rw [List.getElem?_drop] at hp
    have := hW' (2 + i) p hp
    rwa [show off + (2 + i) = off + 2 + i by omega] at this⟩
  have sd2 : ∀ W : World, (Instr.slice 27 (.slice (some ⟨L, off, none⟩) n c) (some (.int .i64 2)) none none).run Tryz.prog W = .ok (.slice (some ⟨L, off + 2, none⟩) (n - 2) (c - 2)) W := sdrop_run L off n c 2 (by omega) (by omega)
  have HR : Hid (rlS ws = r ∧ rlX ws = e) := Lib.hid ⟨hr, he⟩
  have HZ : Hid (znN ws = N ∧ znS ws = z ∧ znX ws = 0) := Lib.hid ⟨hN, hz, hf⟩
  have HK : Hid (lkT ws = a ∧ lkN ws = b ∧ lkX ws = g) := Lib.hid ⟨ha, hb, hg⟩
  have T1 : Hid True := Lib.hid trivial
  clear hr hN hz ha hb he hf hg n5 hp1 zo hW'
  go_enter Tryz.func9, Tryz.ntmps9
  go_wp2_with (first
    | (go_at_call 18; refine (few_is _ n c ws true _ HN.out HMX.out HW.out HF).mono ?_; rintro e w0 ⟨rfl, rfl⟩; simp only [])
    | (go_at_call 19; refine (lrule_is _ n c ws _ HN.out HL.out HW.out HA.out r e HR).mono ?_; rintro e w1 ⟨rfl, k1⟩; have K1 := Lib.hid k1; clear k1; simp only [rvV])
    | (go_at_call 25; refine (llink_is _ n c ws _ HN.out HL.out (HW.out.next (bmk K2.out _)) (HA.out.next (bmk K2.out _)) a b g HK).mono ?_; rintro e w3 ⟨rfl, k3⟩; have K3 := Lib.hid (bthen (bmk K2.out _) k3); clear k3; simp only [lvV])
    | (go_at_call 23; have := T1.out; refine (lzone_is (some ⟨L, off, none⟩) n c ws _ HN.out hc HL.out (HW.out.next (bmk K1.out _)) (HA.out.next (bmk K1.out _)) N z 0 HZ).mono ?_; rintro e w2 ⟨rfl, k2⟩; have K2 := Lib.hid (bthen (bmk K1.out _) k2); clear this T1 k2 K1; simp only [evV])
    | (go_at_call 21; refine (lera_is _ (n - 2) (c - 2) (ws.drop 2) _ LD.out LD2.out (AR2.out.next (bmk K3.out _)) (HA.out.next (bmk K3.out _)) z 0 HE).mono ?_; rintro e w4 ⟨rfl, k4⟩; have K4 := Lib.hid (bthen (bmk K3.out _) k4); clear k4 K3; simp only [evV])
    | (go_at_call 23; refine (lzone_is (some ⟨L, off, none⟩) n c ws _ HN.out hc HL.out (HW.out.next (bmk K4.out _)) (HA.out.next (bmk K4.out _)) N z 0 HZ).mono ?_; rintro e w5 ⟨rfl, k5⟩
       have X5 := Lib.hid ((BlkN.make K4.out _ _).next k5)
       have K5 := Lib.hid X5.out.bel
       have C5 : Hid (w5.cell? ⟨L, off + 1, none⟩ = some (.string ⟨p1.toArray⟩)) := Lib.hid (by rw [K5.out.cell (p := ⟨_, _, none⟩) (wcell_lt C1.out)]; exact C1.out)
       have c5 := C5.out
       have hLs := wcell_lt c5
       have ec0 := X5.out.cell 0
       have ec1 := X5.out.cell 1
       have ec2 := X5.out.cell 2
       have ec3 := X5.out.cell 3
       have ec4 := X5.out.cell 4
       have ec5 := X5.out.cell 5
       have ec6 := X5.out.cell 6
       have ec7 := X5.out.cell 7
       have ec8 := X5.out.cell 8
       have ec9 := X5.out.cell 9
       have ec10 := X5.out.cell 10
       have ec11 := X5.out.cell 11
       have xlt := X5.out.lt
       simp only [List.getElem?_toArray, List.getElem?_cons_zero, List.getElem?_cons_succ] at ec0 ec1 ec2 ec3 ec4 ec5 ec6 ec7 ec8 ec9 ec10 ec11
       clear k5 K4; simp only [evV])
    | (go_at_call 12; refine (lname_is p1 0 _ lp1 (HA.out.next (bmk K5.out _)).mx HM).mono ?_; rintro e w6 ⟨rfl, k6⟩; have K6 := Lib.hid (bthen (bmk K5.out _) k6); clear k6; simp only [])
    | (go_at_call 10; refine (lawake_any _ (HA.out.next K6.out)).mono ?_; rintro e w9 ⟨rfl, k9⟩; have K9 := Lib.hid (bthen K6.out k9); clear k9; simp only []))
  go_ret
  exact ⟨rfl, K9.out⟩

theorem linesApart_walk (A : Option Addr) (c : Nat) (ws : List (List UInt8)) (w : World) (H : LaidL w) (hm : ws.length ≤ maxLen) (hc : ws.length ≤ c) (hW : ArgW A ws w) :
    Calls Tryz.prog 9 #[.slice A ws.length c] w fun e w' => e = .returned (.bool true) ∧ Below w.heap.size w w' := by
  cases hf : fewB ws with
  | false => exact apart_many A _ c ws w H rfl hm hc hW (Lib.hid hf)
  | true =>
    have hk := one_kind ws
    by_cases he : rlX ws = 0
    · have n1 : znX ws ≠ 0 := fun h => by have := hk.1 he; have := hk.2.1 h; omega
      have n2 : lkX ws ≠ 0 := fun h => by have := hk.1 he; have := hk.2.2 h; omega
      exact apart_rule A _ c ws w H rfl hm hc hW (Lib.hid hf) _ _ he rfl rfl (e_false n1) (e_false n2)
    · by_cases hz : znX ws = 0
      · have n2 : lkX ws ≠ 0 := fun h => by have := hk.2.1 hz; have := hk.2.2 h; omega
        exact apart_zone A _ c ws w H rfl hm hc hW (Lib.hid hf) _ _ rfl hz rfl (e_false he) (e_false n2)
      · by_cases hl : lkX ws = 0
        · exact apart_link A _ c ws w H rfl hm hc hW (Lib.hid hf) _ _ rfl rfl hl (e_false he) (e_false hz)
        · exact apart_none A _ c ws w H rfl hm hc hW (Lib.hid hf) _ _ _ rfl rfl rfl (e_false he) (e_false hz) (e_false hl)
end Go.Proofs.YtfmehdophoejiaaGreatDoor
