/- The walk of LinesBack: for all words it returns true, and nothing that was in memory changes. Written by wip/tools/genlwb.py. -/
import Derived.Test.YtfmehdophoejiaaGreatDoorLoA
namespace Go.Proofs.YtfmehdophoejiaaGreatDoor
open Go Go.RowKit

theorem words_yes {P : Program} {f : Nat} {args : Array Value} {ws : List (List UInt8)} {w : World} (h : Calls P f args w (WordsIs ws true w)) :
    Calls P f args w fun e w' => ∃ A c, e = .returned (.tuple #[.slice A ws.length c, .int .i64 0]) ∧ ws.length ≤ c ∧ ArgW A ws w' ∧ Below w.heap.size w w' :=
  h.mono (by
    rintro e w' (⟨_, h⟩ | ⟨h, _⟩)
    · exact h
    · cases h)
theorem in64_small {n : Int} (h : -10000000 ≤ n ∧ n ≤ 10000000) : in64' n := by unfold in64'; omega
theorem lt_len (s : List UInt8) : (ltV s).length ≤ s.length := by
  unfold ltV
  split
  · simp
  · split <;> simp
theorem ruR_len (s : List UInt8) : (ruR s).length ≤ s.length := by
  unfold ruR; split <;> simp
theorem wd_len8 {ws : List (List UInt8)} {m : Nat} (hl : ∀ p ∈ ws, p.length ≤ m) (i : Nat) : (wd ws i).length ≤ m := by
  cases h : ws[i]? with
  | some p => rw [wd_get h]; exact hl p (List.mem_of_getElem? h)
  | none => unfold wd; rw [List.getD_eq_getElem?_getD, h]; exact Nat.zero_le _
/-- What a right rule's words have of bounds. -/
theorem rule_bds {ws : List (List UInt8)} (h : rlX ws = 0) (hl : ∀ p ∈ ws, p.length ≤ 80) : in64' (rlS ws).fr ∧ in64' (rlS ws).tl ∧ (rlS ws).nm.length ≤ 100 ∧ (rlS ws).lt.length ≤ 100 := by
  obtain ⟨hn, he⟩ := rule_ok h
  have eS : rlS ws = rlV ws := by unfold rlS; rw [if_pos h]
  rw [eS]
  have h2 := yr_dom (he (yrE (wd ws 2)) (by simp [rlE]))
  have h3 := to_dom (he (toE (wd ws 3) (yrV (wd ws 2))) (by simp [rlE]))
  have a1 := wd_len8 hl 1
  have a9 := wd_len8 hl 9
  have b9 := lt_len (wd ws 9)
  refine ⟨in64_small (by show -10000000 ≤ yrV (wd ws 2) ∧ yrV (wd ws 2) ≤ 10000000; omega), in64_small ?_, ?_, ?_⟩
  · show -10000000 ≤ toV (wd ws 3) (yrV (wd ws 2)) ∧ toV (wd ws 3) (yrV (wd ws 2)) ≤ 10000000
    rcases h3.1 with c | c | c <;> omega
  · show (wd ws 1).length ≤ 100; omega
  · show (ltV (wd ws 9)).length ≤ 100; omega
theorem era_bds {ws : List (List UInt8)} (h : erX ws = 0) (hl : ∀ p ∈ ws, p.length ≤ 80) : in64' (erS ws).uy ∧ (erS ws).rl.length ≤ 100 ∧ (erS ws).fm.length ≤ 100 := by
  have eS : erS ws = erV ws := by unfold erS; rw [if_pos h]
  rw [eS]
  have d := era_dom h
  have a1 := wd_len8 hl 1
  have b1 := ruR_len (wd ws 1)
  have a2 := wd_len8 hl 2
  refine ⟨in64_small ?_, ?_, ?_⟩
  · cases e : (erV ws).en with
    | true => have := d.y e; omega
    | false => have := (d.no e).1; omega
  · show (ruR (wd ws 1)).length ≤ 100; omega
  · show (wd ws 2).length ≤ 100; omega
theorem own_lit2 (w : World) (a b : List UInt8) (base : Nat) (hb : base ≤ w.heap.size) : (w.alloc (.cells #[.string ⟨a.toArray⟩, .string ⟨b.toArray⟩] 9)).ownsRow base 9 1 (.slice (some ⟨w.heap.size, 0, none⟩) 2 2) 2 (scl [a, b]) :=
  World.ownsRow_lit w #[.string ⟨a.toArray⟩, .string ⟨b.toArray⟩] 2 hb (by unfold maxLen; omega) rfl

set_option maxRecDepth 20000 in
set_option maxHeartbeats 6400000 in
theorem back_many (A : Option Addr) (n c : Nat) (ws : List (List UInt8)) (w : World) (H : LaidQ w) (hn : ws.length = n) (hm : n ≤ maxLen) (_ : n ≤ c) (hW : ArgW A ws w) (HF : Hid (fewB ws = false)) :
    Calls Tryz.prog 7 #[.slice A n c] w fun e w' => e = .returned (.bool true) ∧ Below w.heap.size w w' := by
  have HA := Lib.hid H
  have HN := Lib.hid hn
  have HW := Lib.hid hW
  have HMX : Hid (n ≤ 9223372036854775807) := Lib.hid hm
  clear H hn hW hm
  go_enter Tryz.func7, Tryz.ntmps7
  go_wp2_with (first
    | (go_at_call 18; refine (few_is A n c ws false _ HN.out HMX.out HW.out HF).mono ?_; rintro e w0 ⟨rfl, rfl⟩; simp only [])
    | (go_at_call 10; refine (lawake_any _ HA.out.l).mono ?_; rintro e w1 ⟨rfl, k1⟩; have K1 := Lib.hid k1; clear k1; simp only []))
  go_ret
  exact ⟨rfl, K1.out⟩

set_option maxRecDepth 20000 in
set_option maxHeartbeats 6400000 in
theorem back_r (A : Option Addr) (n c : Nat) (ws : List (List UInt8)) (w : World) (H : LaidQ w) (hn : ws.length = n) (hm : n ≤ maxLen) (hc : n ≤ c) (hW : ArgW A ws w) (HF : Hid (fewB ws = true)) (he : rlX ws = 0) (x0 : Int) (hx : erX ws = x0) (zx : (x0 == 0) = false) (f0 : Int) (hf : znX ws = f0) (zf : (f0 == 0) = false) (g0 : Int) (hg : lkX ws = g0) (zg : (g0 == 0) = false) :
    Calls Tryz.prog 7 #[.slice A n c] w fun e w' => e = .returned (.bool true) ∧ Below w.heap.size w w' := by
  have HA := Lib.hid H
  have HN := Lib.hid hn
  have HW := Lib.hid hW
  have HMX : Hid (n ≤ 9223372036854775807) := Lib.hid hm
  clear H hn hW hm
  have HL8 : Hid (∀ p ∈ ws, p.length ≤ 80) := Lib.hid (few_yes HF.out).1
  have HL : Hid (∀ p ∈ ws, p.length ≤ 500) := Lib.hid fun p hp => Nat.le_trans ((few_yes HF.out).1 p hp) (by omega)
  obtain ⟨r, hr⟩ : ∃ r, rlS ws = r := ⟨_, rfl⟩
  obtain ⟨x, hx'⟩ : ∃ r, erS ws = r := ⟨_, rfl⟩
  obtain ⟨N, hN⟩ : ∃ N, znN ws = N := ⟨_, rfl⟩
  obtain ⟨z, hz⟩ : ∃ z, znS ws = z := ⟨_, rfl⟩
  obtain ⟨a, ha⟩ : ∃ a, lkT ws = a := ⟨_, rfl⟩
  obtain ⟨b, hb⟩ : ∃ b, lkN ws = b := ⟨_, rfl⟩
  obtain ⟨rfl, rfl⟩ : [] = a ∧ [] = b := by
    rw [← ha, ← hb]; unfold lkT lkN; rw [hg, if_neg (by simpa using zg), if_neg (by simpa using zg)]; exact ⟨rfl, rfl⟩
  have HR : Hid (rlS ws = r ∧ rlX ws = 0) := Lib.hid ⟨hr, he⟩
  have HE : Hid (erS ws = x ∧ erX ws = x0) := Lib.hid ⟨hx', hx⟩
  have HZ : Hid (znN ws = N ∧ znS ws = z ∧ znX ws = f0) := Lib.hid ⟨hN, hz, hf⟩
  have HK : Hid (lkT ws = [] ∧ lkN ws = [] ∧ lkX ws = g0) := Lib.hid ⟨ha, hb, hg⟩
  have RB := rule_bds he HL8.out
  rw [hr] at RB
  have HRB : Hid (rlS (rwL r) = r ∧ rlX (rwL r) = 0) := Lib.hid (by have := rule_back he; rw [hr] at this; exact ⟨this.2, this.1⟩)
  have HRL : Hid (∀ p ∈ rwL r, p.length ≤ 500) := Lib.hid (rwL_len r RB.2.2.1 RB.2.2.2 RB.1 RB.2.1)
  have CR : Hid (∀ W, LaidQ W → Calls Tryz.prog 27 #[rvV r] W fun e w' => ∃ A c, e = .returned (.tuple #[.slice A (rwL r).length c, .int .i64 0]) ∧ (rwL r).length ≤ c ∧ ArgW A (rwL r) w' ∧ Below W.heap.size W w') := Lib.hid fun W h => words_yes (by
    have := rwords_is r W h RB.1 RB.2.1 RB.2.2.1 RB.2.2.2
    rwa [show rwB r = true from decide_eq_true ⟨HRB.out.2, HRB.out.1⟩] at this)
  clear RB
  have K0 : Hid (Below w.heap.size w w) := Lib.hid (Below.refl _ _)
  have T0 : Hid True := Lib.hid trivial
  clear hr hx' hN hz ha hb he hx hf hg
  simp only [rvV] at CR
  go_enter Tryz.func7, Tryz.ntmps7
  go_wp2_with (first
    | (go_at_call 18; refine (few_is A n c ws true _ HN.out HMX.out HW.out HF).mono ?_; rintro e w0 ⟨rfl, rfl⟩; simp only [])
    | (go_at_call 19
       have := T0.out
       refine (lrule_is A n c ws _ HN.out HL.out (HW.out.next K0.out) (HA.out.next K0.out).l r 0 HR).mono ?_
       rintro e w1 ⟨rfl, k1⟩
       have K1 := Lib.hid (bthen K0.out k1)
       have T1 : Hid True := Lib.hid trivial
       clear this k1 K0 T0
       simp only [rvV])
    | (go_at_call 27
       have := T1.out
       refine (CR.out _ (HA.out.next (bmk K1.out _))).mono ?_
       rintro e w2 ⟨A2, c2, rfl, hc2, hA2, k2⟩
       have XR := Lib.hid ((BlkN.make K1.out _ _).next k2)
       have AR := Lib.hid hA2
       clear hc2 hA2
       have K2 := Lib.hid (bthen (bmk K1.out _) k2)
       have T2 : Hid True := Lib.hid trivial
       clear this k2 K1 T1
       simp only [])
    | (go_at_call 19
       have := T2.out
       refine (lrule_is A2 _ c2 (rwL r) _ rfl HRL.out AR.out (HA.out.next K2.out).l r 0 HRB).mono ?_
       rintro e w3 ⟨rfl, k3⟩
       replace XR := Lib.hid (XR.out.next k3)
       clear AR
       have K3 := Lib.hid (bthen K2.out k3)
       have T3 : Hid True := Lib.hid trivial
       clear this k3 K2 T2
       obtain ⟨xr0, xr1, xr2, xr3, xr4, xr5, xr6, xr7, xr8, xr9, xr10⟩ := cells11 XR.out.blk
       have xrq := XR.out.lt
       simp only [rvV])
    | (go_at_call 21
       have := T3.out
       refine (lera_is A n c ws _ HN.out HL.out (HW.out.next (bmk K3.out _)) (HA.out.next (bmk K3.out _)).l x x0 HE).mono ?_
       rintro e w4 ⟨rfl, k4⟩
       have K4 := Lib.hid (bthen (bmk K3.out _) k4)
       have T4 : Hid True := Lib.hid trivial
       clear this k4 K3 T3
       clear xr0 xr1 xr2 xr3 xr4 xr5 xr6 xr7 xr8 xr9 xr10 xrq XR
       simp only [evV])
    | (go_at_call 23
       have := T4.out
       refine (lzone_is A n c ws _ HN.out hc HL.out (HW.out.next (bmk K4.out _)) (HA.out.next (bmk K4.out _)).l N z f0 HZ).mono ?_
       rintro e w5 ⟨rfl, k5⟩
       have K5 := Lib.hid (bthen (bmk K4.out _) k5)
       have T5 : Hid True := Lib.hid trivial
       clear this k5 K4 T4
       simp only [evV])
    | (go_at_call 25
       have := T5.out
       refine (llink_is A n c ws _ HN.out HL.out (HW.out.next (bmk K5.out _)) (HA.out.next (bmk K5.out _)).l [] [] g0 HK).mono ?_
       rintro e w6 ⟨rfl, k6⟩
       have K6 := Lib.hid (bthen (bmk K5.out _) k6)
       have T6 : Hid True := Lib.hid trivial
       clear this k6 K5 T5
       simp only [lvV])
    | (go_at_call 10
       have := T6.out
       refine (lawake_any _ (HA.out.next (bmk K6.out _)).l).mono ?_
       rintro e w7 ⟨rfl, k7⟩
       have K7 := Lib.hid (bthen (bmk K6.out _) k7)
       have T7 : Hid True := Lib.hid trivial
       clear this k7 K6 T6
       simp only []))
  go_ret
  exact ⟨rfl, K7.out⟩

set_option maxRecDepth 20000 in
set_option maxHeartbeats 6400000 in
theorem back_000 (A : Option Addr) (n c : Nat) (ws : List (List UInt8)) (w : World) (H : LaidQ w) (hn : ws.length = n) (hm : n ≤ maxLen) (hc : n ≤ c) (hW : ArgW A ws w) (HF : Hid (fewB ws = true)) (e0 : Int) (he : rlX ws = e0) (ze : (e0 == 0) = false) (x0 : Int) (hx : erX ws = x0) (zx : (x0 == 0) = false) (f0 : Int) (hf : znX ws = f0) (zf : (f0 == 0) = false) (g0 : Int) (hg : lkX ws = g0) (zg : (g0 == 0) = false) :
    Calls Tryz.prog 7 #[.slice A n c] w fun e w' => e = .returned (.bool true) ∧ Below w.heap.size w w' := by
  have HA := Lib.hid H
  have HN := Lib.hid hn
  have HW := Lib.hid hW
  have HMX : Hid (n ≤ 9223372036854775807) := Lib.hid hm
  clear H hn hW hm
  have HL8 : Hid (∀ p ∈ ws, p.length ≤ 80) := Lib.hid (few_yes HF.out).1
  have HL : Hid (∀ p ∈ ws, p.length ≤ 500) := Lib.hid fun p hp => Nat.le_trans ((few_yes HF.out).1 p hp) (by omega)
  obtain ⟨r, hr⟩ : ∃ r, rlS ws = r := ⟨_, rfl⟩
  obtain ⟨x, hx'⟩ : ∃ r, erS ws = r := ⟨_, rfl⟩
  obtain ⟨N, hN⟩ : ∃ N, znN ws = N := ⟨_, rfl⟩
  obtain ⟨z, hz⟩ : ∃ z, znS ws = z := ⟨_, rfl⟩
  obtain ⟨a, ha⟩ : ∃ a, lkT ws = a := ⟨_, rfl⟩
  obtain ⟨b, hb⟩ : ∃ b, lkN ws = b := ⟨_, rfl⟩
  obtain ⟨rfl, rfl⟩ : [] = a ∧ [] = b := by
    rw [← ha, ← hb]; unfold lkT lkN; rw [hg, if_neg (by simpa using zg), if_neg (by simpa using zg)]; exact ⟨rfl, rfl⟩
  have HR : Hid (rlS ws = r ∧ rlX ws = e0) := Lib.hid ⟨hr, he⟩
  have HE : Hid (erS ws = x ∧ erX ws = x0) := Lib.hid ⟨hx', hx⟩
  have HZ : Hid (znN ws = N ∧ znS ws = z ∧ znX ws = f0) := Lib.hid ⟨hN, hz, hf⟩
  have HK : Hid (lkT ws = [] ∧ lkN ws = [] ∧ lkX ws = g0) := Lib.hid ⟨ha, hb, hg⟩
  have K0 : Hid (Below w.heap.size w w) := Lib.hid (Below.refl _ _)
  have T0 : Hid True := Lib.hid trivial
  clear hr hx' hN hz ha hb he hx hf hg
  go_enter Tryz.func7, Tryz.ntmps7
  go_wp2_with (first
    | (go_at_call 18; refine (few_is A n c ws true _ HN.out HMX.out HW.out HF).mono ?_; rintro e w0 ⟨rfl, rfl⟩; simp only [])
    | (go_at_call 19
       have := T0.out
       refine (lrule_is A n c ws _ HN.out HL.out (HW.out.next K0.out) (HA.out.next K0.out).l r e0 HR).mono ?_
       rintro e w1 ⟨rfl, k1⟩
       have K1 := Lib.hid (bthen K0.out k1)
       have T1 : Hid True := Lib.hid trivial
       clear this k1 K0 T0
       simp only [rvV])
    | (go_at_call 21
       have := T1.out
       refine (lera_is A n c ws _ HN.out HL.out (HW.out.next (bmk K1.out _)) (HA.out.next (bmk K1.out _)).l x x0 HE).mono ?_
       rintro e w2 ⟨rfl, k2⟩
       have K2 := Lib.hid (bthen (bmk K1.out _) k2)
       have T2 : Hid True := Lib.hid trivial
       clear this k2 K1 T1
       simp only [evV])
    | (go_at_call 23
       have := T2.out
       refine (lzone_is A n c ws _ HN.out hc HL.out (HW.out.next (bmk K2.out _)) (HA.out.next (bmk K2.out _)).l N z f0 HZ).mono ?_
       rintro e w3 ⟨rfl, k3⟩
       have K3 := Lib.hid (bthen (bmk K2.out _) k3)
       have T3 : Hid True := Lib.hid trivial
       clear this k3 K2 T2
       simp only [evV])
    | (go_at_call 25
       have := T3.out
       refine (llink_is A n c ws _ HN.out HL.out (HW.out.next (bmk K3.out _)) (HA.out.next (bmk K3.out _)).l [] [] g0 HK).mono ?_
       rintro e w4 ⟨rfl, k4⟩
       have K4 := Lib.hid (bthen (bmk K3.out _) k4)
       have T4 : Hid True := Lib.hid trivial
       clear this k4 K3 T3
       simp only [lvV])
    | (go_at_call 10
       have := T4.out
       refine (lawake_any _ (HA.out.next (bmk K4.out _)).l).mono ?_
       rintro e w5 ⟨rfl, k5⟩
       have K5 := Lib.hid (bthen (bmk K4.out _) k5)
       have T5 : Hid True := Lib.hid trivial
       clear this k5 K4 T4
       simp only []))
  go_ret
  exact ⟨rfl, K5.out⟩

set_option maxRecDepth 20000 in
set_option maxHeartbeats 6400000 in
theorem back_010 (A : Option Addr) (n c : Nat) (ws : List (List UInt8)) (w : World) (H : LaidQ w) (hn : ws.length = n) (hm : n ≤ maxLen) (hc : n ≤ c) (hW : ArgW A ws w) (HF : Hid (fewB ws = true)) (e0 : Int) (he : rlX ws = e0) (ze : (e0 == 0) = false) (x0 : Int) (hx : erX ws = x0) (zx : (x0 == 0) = false) (hf : znX ws = 0) (g0 : Int) (hg : lkX ws = g0) (zg : (g0 == 0) = false) :
    Calls Tryz.prog 7 #[.slice A n c] w fun e w' => e = .returned (.bool true) ∧ Below w.heap.size w w' := by
  have HA := Lib.hid H
  have HN := Lib.hid hn
  have HW := Lib.hid hW
  have HMX : Hid (n ≤ 9223372036854775807) := Lib.hid hm
  clear H hn hW hm
  have HL8 : Hid (∀ p ∈ ws, p.length ≤ 80) := Lib.hid (few_yes HF.out).1
  have HL : Hid (∀ p ∈ ws, p.length ≤ 500) := Lib.hid fun p hp => Nat.le_trans ((few_yes HF.out).1 p hp) (by omega)
  obtain ⟨r, hr⟩ : ∃ r, rlS ws = r := ⟨_, rfl⟩
  obtain ⟨x, hx'⟩ : ∃ r, erS ws = r := ⟨_, rfl⟩
  obtain ⟨N, hN⟩ : ∃ N, znN ws = N := ⟨_, rfl⟩
  obtain ⟨z, hz⟩ : ∃ z, znS ws = z := ⟨_, rfl⟩
  obtain ⟨a, ha⟩ : ∃ a, lkT ws = a := ⟨_, rfl⟩
  obtain ⟨b, hb⟩ : ∃ b, lkN ws = b := ⟨_, rfl⟩
  obtain ⟨rfl, rfl⟩ : [] = a ∧ [] = b := by
    rw [← ha, ← hb]; unfold lkT lkN; rw [hg, if_neg (by simpa using zg), if_neg (by simpa using zg)]; exact ⟨rfl, rfl⟩
  have HR : Hid (rlS ws = r ∧ rlX ws = e0) := Lib.hid ⟨hr, he⟩
  have HE : Hid (erS ws = x ∧ erX ws = x0) := Lib.hid ⟨hx', hx⟩
  have HZ : Hid (znN ws = N ∧ znS ws = z ∧ znX ws = 0) := Lib.hid ⟨hN, hz, hf⟩
  have HK : Hid (lkT ws = [] ∧ lkN ws = [] ∧ lkX ws = g0) := Lib.hid ⟨ha, hb, hg⟩
  have zo := zone_ok hf
  have zz : erS (ws.drop 2) = z := by rw [← hz, zo.2.2.2.2.1]
  have EBZ := (zz ▸ era_bds zo.2.2.1 (fun p hp => HL8.out p (List.mem_of_mem_drop hp)) : in64' z.uy ∧ z.rl.length ≤ 100 ∧ z.fm.length ≤ 100)
  have HZB : Hid (erS (ewL z) = z ∧ erX (ewL z) = 0) := Lib.hid (by have := era_back zo.2.2.1; rw [zz] at this; exact ⟨this.2, this.1⟩)
  have HZL : Hid (∀ p ∈ ewL z, p.length ≤ 500) := Lib.hid (ewL_lens z EBZ.2.1 EBZ.2.2 EBZ.1)
  have CZ : Hid (∀ W, LaidQ W → Calls Tryz.prog 30 #[evV z] W fun e w' => ∃ A c, e = .returned (.tuple #[.slice A (ewL z).length c, .int .i64 0]) ∧ (ewL z).length ≤ c ∧ ArgW A (ewL z) w' ∧ Below W.heap.size W w') := Lib.hid fun W h => words_yes (by
    have := ewords_is z W h EBZ.1 EBZ.2.1 EBZ.2.2
    rwa [show ewB z = true from decide_eq_true ⟨HZB.out.2, HZB.out.1⟩] at this)
  clear EBZ
  have ZP : Hid (0 < (ewL z).length ∧ (ewL z).length ≤ 7) := Lib.hid (by rw [ewL_len]; split <;> omega)
  have HZB : Hid (znN ([zoneL, N] ++ ewL z) = N ∧ znS ([zoneL, N] ++ ewL z) = z ∧ znX ([zoneL, N] ++ ewL z) = 0) := Lib.hid (by have := zone_back hf; rw [hN, hz] at this; exact ⟨this.2.1, this.2.2, this.1⟩)
  have LNN : N.length ≤ 80 := by rw [← hN, zo.2.2.2.1]; exact wd_len8 HL8.out 1
  have HZL2 : Hid (∀ p ∈ [zoneL, N] ++ ewL z, p.length ≤ 500) := Lib.hid fun p hp => by
    simp only [List.mem_append, List.mem_cons, List.not_mem_nil, or_false] at hp
    rcases hp with (rfl | rfl) | hp
    · decide
    · omega
    · exact HZL.out p hp
  clear zo zz LNN
  have K0 : Hid (Below w.heap.size w w) := Lib.hid (Below.refl _ _)
  have T0 : Hid True := Lib.hid trivial
  clear hr hx' hN hz ha hb he hx hf hg
  simp only [evV] at CZ
  go_enter Tryz.func7, Tryz.ntmps7
  go_wp2_with (first
    | (go_at_call 18; refine (few_is A n c ws true _ HN.out HMX.out HW.out HF).mono ?_; rintro e w0 ⟨rfl, rfl⟩; simp only [])
    | (go_at_call 19
       have := T0.out
       refine (lrule_is A n c ws _ HN.out HL.out (HW.out.next K0.out) (HA.out.next K0.out).l r e0 HR).mono ?_
       rintro e w1 ⟨rfl, k1⟩
       have K1 := Lib.hid (bthen K0.out k1)
       have T1 : Hid True := Lib.hid trivial
       clear this k1 K0 T0
       simp only [rvV])
    | (go_at_call 21
       have := T1.out
       refine (lera_is A n c ws _ HN.out HL.out (HW.out.next (bmk K1.out _)) (HA.out.next (bmk K1.out _)).l x x0 HE).mono ?_
       rintro e w2 ⟨rfl, k2⟩
       have K2 := Lib.hid (bthen (bmk K1.out _) k2)
       have T2 : Hid True := Lib.hid trivial
       clear this k2 K1 T1
       simp only [evV])
    | (go_at_call 23
       have := T2.out
       refine (lzone_is A n c ws _ HN.out hc HL.out (HW.out.next (bmk K2.out _)) (HA.out.next (bmk K2.out _)).l N z 0 HZ).mono ?_
       rintro e w3 ⟨rfl, k3⟩
       have K3 := Lib.hid (bthen (bmk K2.out _) k3)
       have T3 : Hid True := Lib.hid trivial
       clear this k3 K2 T2
       simp only [evV])
    | (go_at_call 30
       have := T3.out
       refine (CZ.out _ (HA.out.next (bmk K3.out _))).mono ?_
       rintro e w4 ⟨A4, c4, rfl, hc4, hA4, k4⟩
       obtain ⟨Lz, oz, rfl, hz4⟩ := hA4.some ZP.out.1
       have XZ := Lib.hid ((BlkN.make K3.out _ _).next k4)
       have AZ := Lib.hid hz4
       clear hc4 hA4 hz4
       have K4 := Lib.hid (bthen (bmk K3.out _) k4)
       have T4 : Hid True := Lib.hid trivial
       clear this k4 K3 T3
       simp only [])
    | (at_builtin
       refine wpList_sapp rfl (.tmp 101) (.tmp 102) rfl (base := w4.heap.size) (n := 2) (k := (ewL z).length) (m := 2 + (ewL z).length) (l := [zoneL, N]) (ys := ewL z) rfl rfl (own_lit2 w4 zoneL N _ (Nat.le_refl _)) rfl ⟨Lz, oz, none⟩ rfl ?_ (by have := ZP.out.2; omega) (by simp) ?_
       · intro j p hp
         rw [show (⟨Lz, oz, none⟩ : Addr).add j = ⟨Lz, oz + j, none⟩ from Go.WideShapes.add_plain _ _ _]
         have h := AZ.out j p hp
         exact (((Below.refl w4.heap.size w4).alloc (Nat.le_refl _) _).cell (p := ⟨Lz, oz + j, none⟩) (wcell_lt h)).trans h
       intro A5 c5 wa owna ba
       replace XZ := Lib.hid ((XZ.out.more _).nextB ba XZ.out.lt K4.out.size (by simp))
       have OA := Lib.hid owna
       have K5 := Lib.hid ((bmk K4.out _).trans (ba.mono K4.out.size))
       have T5 : Hid True := Lib.hid trivial
       clear owna ba K4 T4 AZ
       simp only [])
    | (go_at_call 23
       have := T5.out
       refine (lzone_is A5 _ c5 ([zoneL, N] ++ ewL z) _ (own_arg OA.out).1 (own_arg OA.out).2.1 HZL2.out (own_arg OA.out).2.2 (HA.out.next K5.out).l N z 0 HZB).mono ?_
       rintro e w6 ⟨rfl, k6⟩
       replace XZ := Lib.hid (XZ.out.next k6)
       clear OA
       have K6 := Lib.hid (bthen K5.out k6)
       have T6 : Hid True := Lib.hid trivial
       clear this k6 K5 T5
       obtain ⟨xz0, xz1, xz2, xz3, xz4, xz5, xz6, xz7, xz8, xz9, xz10, xz11⟩ := cells12 XZ.out.blk
       have xzq := XZ.out.lt
       simp only [evV])
    | (go_at_call 25
       have := T6.out
       refine (llink_is A n c ws _ HN.out HL.out (HW.out.next (bmk K6.out _)) (HA.out.next (bmk K6.out _)).l [] [] g0 HK).mono ?_
       rintro e w7 ⟨rfl, k7⟩
       have K7 := Lib.hid (bthen (bmk K6.out _) k7)
       have T7 : Hid True := Lib.hid trivial
       clear this k7 K6 T6
       clear xz0 xz1 xz2 xz3 xz4 xz5 xz6 xz7 xz8 xz9 xz10 xz11 xzq XZ
       simp only [lvV])
    | (go_at_call 10
       have := T7.out
       refine (lawake_any _ (HA.out.next (bmk K7.out _)).l).mono ?_
       rintro e w8 ⟨rfl, k8⟩
       have K8 := Lib.hid (bthen (bmk K7.out _) k8)
       have T8 : Hid True := Lib.hid trivial
       clear this k8 K7 T7
       simp only []))
  go_ret
  exact ⟨rfl, K8.out⟩

set_option maxRecDepth 20000 in
set_option maxHeartbeats 6400000 in
theorem back_001 (A : Option Addr) (n c : Nat) (ws : List (List UInt8)) (w : World) (H : LaidQ w) (hn : ws.length = n) (hm : n ≤ maxLen) (hc : n ≤ c) (hW : ArgW A ws w) (HF : Hid (fewB ws = true)) (e0 : Int) (he : rlX ws = e0) (ze : (e0 == 0) = false) (x0 : Int) (hx : erX ws = x0) (zx : (x0 == 0) = false) (f0 : Int) (hf : znX ws = f0) (zf : (f0 == 0) = false) (hg : lkX ws = 0) :
    Calls Tryz.prog 7 #[.slice A n c] w fun e w' => e = .returned (.bool true) ∧ Below w.heap.size w w' := by
  have HA := Lib.hid H
  have HN := Lib.hid hn
  have HW := Lib.hid hW
  have HMX : Hid (n ≤ 9223372036854775807) := Lib.hid hm
  clear H hn hW hm
  have HL8 : Hid (∀ p ∈ ws, p.length ≤ 80) := Lib.hid (few_yes HF.out).1
  have HL : Hid (∀ p ∈ ws, p.length ≤ 500) := Lib.hid fun p hp => Nat.le_trans ((few_yes HF.out).1 p hp) (by omega)
  obtain ⟨r, hr⟩ : ∃ r, rlS ws = r := ⟨_, rfl⟩
  obtain ⟨x, hx'⟩ : ∃ r, erS ws = r := ⟨_, rfl⟩
  obtain ⟨N, hN⟩ : ∃ N, znN ws = N := ⟨_, rfl⟩
  obtain ⟨z, hz⟩ : ∃ z, znS ws = z := ⟨_, rfl⟩
  obtain ⟨a, ha⟩ : ∃ a, lkT ws = a := ⟨_, rfl⟩
  obtain ⟨b, hb⟩ : ∃ b, lkN ws = b := ⟨_, rfl⟩
  have HR : Hid (rlS ws = r ∧ rlX ws = e0) := Lib.hid ⟨hr, he⟩
  have HE : Hid (erS ws = x ∧ erX ws = x0) := Lib.hid ⟨hx', hx⟩
  have HZ : Hid (znN ws = N ∧ znS ws = z ∧ znX ws = f0) := Lib.hid ⟨hN, hz, hf⟩
  have HK : Hid (lkT ws = a ∧ lkN ws = b ∧ lkX ws = 0) := Lib.hid ⟨ha, hb, hg⟩
  have lo := link_ok hg
  have LA1 : a.length ≤ 100 := by rw [← ha, lo.2.1]; have := wd_len8 HL8.out 1; omega
  have LB1 : b.length ≤ 100 := by rw [← hb, lo.2.2.1]; have := wd_len8 HL8.out 2; omega
  have HKB : Hid (lkT [linkL, a, b] = a ∧ lkN [linkL, a, b] = b ∧ lkX [linkL, a, b] = 0) := Lib.hid (by have := link_back hg; rw [ha, hb] at this; exact ⟨this.2.1, this.2.2, this.1⟩)
  have HKL : Hid (∀ p ∈ [linkL, a, b], p.length ≤ 500) := Lib.hid (by
    intro p hp
    simp only [List.mem_cons, List.not_mem_nil, or_false] at hp
    rcases hp with rfl | rfl | rfl
    · decide
    · omega
    · omega)
  have CK : Hid (∀ W, LaidQ W → Calls Tryz.prog 32 #[lvV a b] W fun e w' => ∃ A c, e = .returned (.tuple #[.slice A [linkL, a, b].length c, .int .i64 0]) ∧ [linkL, a, b].length ≤ c ∧ ArgW A [linkL, a, b] w' ∧ Below W.heap.size W w') := Lib.hid fun W h => words_yes (by
    have := lwords_is a b W h.l LA1 LB1
    rwa [show decide (lkX [linkL, a, b] = 0) = true from decide_eq_true HKB.out.2.2] at this)
  clear lo LA1 LB1
  have K0 : Hid (Below w.heap.size w w) := Lib.hid (Below.refl _ _)
  have T0 : Hid True := Lib.hid trivial
  clear hr hx' hN hz ha hb he hx hf hg
  simp only [lvV] at CK
  go_enter Tryz.func7, Tryz.ntmps7
  go_wp2_with (first
    | (go_at_call 18; refine (few_is A n c ws true _ HN.out HMX.out HW.out HF).mono ?_; rintro e w0 ⟨rfl, rfl⟩; simp only [])
    | (go_at_call 19
       have := T0.out
       refine (lrule_is A n c ws _ HN.out HL.out (HW.out.next K0.out) (HA.out.next K0.out).l r e0 HR).mono ?_
       rintro e w1 ⟨rfl, k1⟩
       have K1 := Lib.hid (bthen K0.out k1)
       have T1 : Hid True := Lib.hid trivial
       clear this k1 K0 T0
       simp only [rvV])
    | (go_at_call 21
       have := T1.out
       refine (lera_is A n c ws _ HN.out HL.out (HW.out.next (bmk K1.out _)) (HA.out.next (bmk K1.out _)).l x x0 HE).mono ?_
       rintro e w2 ⟨rfl, k2⟩
       have K2 := Lib.hid (bthen (bmk K1.out _) k2)
       have T2 : Hid True := Lib.hid trivial
       clear this k2 K1 T1
       simp only [evV])
    | (go_at_call 23
       have := T2.out
       refine (lzone_is A n c ws _ HN.out hc HL.out (HW.out.next (bmk K2.out _)) (HA.out.next (bmk K2.out _)).l N z f0 HZ).mono ?_
       rintro e w3 ⟨rfl, k3⟩
       have K3 := Lib.hid (bthen (bmk K2.out _) k3)
       have T3 : Hid True := Lib.hid trivial
       clear this k3 K2 T2
       simp only [evV])
    | (go_at_call 25
       have := T3.out
       refine (llink_is A n c ws _ HN.out HL.out (HW.out.next (bmk K3.out _)) (HA.out.next (bmk K3.out _)).l a b 0 HK).mono ?_
       rintro e w4 ⟨rfl, k4⟩
       have K4 := Lib.hid (bthen (bmk K3.out _) k4)
       have T4 : Hid True := Lib.hid trivial
       clear this k4 K3 T3
       simp only [lvV])
    | (go_at_call 32
       have := T4.out
       refine (CK.out _ (HA.out.next (bmk K4.out _))).mono ?_
       rintro e w5 ⟨A6, c6, rfl, hc6, hA6, k5⟩
       have XK := Lib.hid ((BlkN.make K4.out _ _).next k5)
       have AK := Lib.hid hA6
       clear hc6 hA6
       have K5 := Lib.hid (bthen (bmk K4.out _) k5)
       have T5 : Hid True := Lib.hid trivial
       clear this k5 K4 T4
       simp only [])
    | (go_at_call 25
       have := T5.out
       refine (llink_is A6 _ c6 [linkL, a, b] _ rfl HKL.out AK.out (HA.out.next K5.out).l a b 0 HKB).mono ?_
       rintro e w6 ⟨rfl, k6⟩
       replace XK := Lib.hid (XK.out.next k6)
       clear AK
       have K6 := Lib.hid (bthen K5.out k6)
       have T6 : Hid True := Lib.hid trivial
       clear this k6 K5 T5
       have xk0 := cell_of_row _ _ 0 _ _ (0, 0) XK.out.blk; have xk1 := cell_of_row _ _ 1 _ _ (0, 0) XK.out.blk
       have xkq := XK.out.lt
       simp only [lvV])
    | (go_at_call 10
       have := T6.out
       refine (lawake_any _ (HA.out.next (bmk K6.out _)).l).mono ?_
       rintro e w7 ⟨rfl, k7⟩
       have K7 := Lib.hid (bthen (bmk K6.out _) k7)
       have T7 : Hid True := Lib.hid trivial
       clear this k7 K6 T6
       simp only []))
  go_ret
  exact ⟨rfl, K7.out⟩

set_option maxRecDepth 20000 in
set_option maxHeartbeats 6400000 in
theorem back_100 (A : Option Addr) (n c : Nat) (ws : List (List UInt8)) (w : World) (H : LaidQ w) (hn : ws.length = n) (hm : n ≤ maxLen) (hc : n ≤ c) (hW : ArgW A ws w) (HF : Hid (fewB ws = true)) (e0 : Int) (he : rlX ws = e0) (ze : (e0 == 0) = false) (hx : erX ws = 0) (f0 : Int) (hf : znX ws = f0) (zf : (f0 == 0) = false) (g0 : Int) (hg : lkX ws = g0) (zg : (g0 == 0) = false) :
    Calls Tryz.prog 7 #[.slice A n c] w fun e w' => e = .returned (.bool true) ∧ Below w.heap.size w w' := by
  have HA := Lib.hid H
  have HN := Lib.hid hn
  have HW := Lib.hid hW
  have HMX : Hid (n ≤ 9223372036854775807) := Lib.hid hm
  clear H hn hW hm
  have HL8 : Hid (∀ p ∈ ws, p.length ≤ 80) := Lib.hid (few_yes HF.out).1
  have HL : Hid (∀ p ∈ ws, p.length ≤ 500) := Lib.hid fun p hp => Nat.le_trans ((few_yes HF.out).1 p hp) (by omega)
  obtain ⟨r, hr⟩ : ∃ r, rlS ws = r := ⟨_, rfl⟩
  obtain ⟨x, hx'⟩ : ∃ r, erS ws = r := ⟨_, rfl⟩
  obtain ⟨N, hN⟩ : ∃ N, znN ws = N := ⟨_, rfl⟩
  obtain ⟨z, hz⟩ : ∃ z, znS ws = z := ⟨_, rfl⟩
  obtain ⟨a, ha⟩ : ∃ a, lkT ws = a := ⟨_, rfl⟩
  obtain ⟨b, hb⟩ : ∃ b, lkN ws = b := ⟨_, rfl⟩
  obtain ⟨rfl, rfl⟩ : [] = a ∧ [] = b := by
    rw [← ha, ← hb]; unfold lkT lkN; rw [hg, if_neg (by simpa using zg), if_neg (by simpa using zg)]; exact ⟨rfl, rfl⟩
  have HR : Hid (rlS ws = r ∧ rlX ws = e0) := Lib.hid ⟨hr, he⟩
  have HE : Hid (erS ws = x ∧ erX ws = 0) := Lib.hid ⟨hx', hx⟩
  have HZ : Hid (znN ws = N ∧ znS ws = z ∧ znX ws = f0) := Lib.hid ⟨hN, hz, hf⟩
  have HK : Hid (lkT ws = [] ∧ lkN ws = [] ∧ lkX ws = g0) := Lib.hid ⟨ha, hb, hg⟩
  have EBE := (hx' ▸ era_bds hx HL8.out : in64' x.uy ∧ x.rl.length ≤ 100 ∧ x.fm.length ≤ 100)
  have HEB : Hid (erS (ewL x) = x ∧ erX (ewL x) = 0) := Lib.hid (by have := era_back hx; rw [hx'] at this; exact ⟨this.2, this.1⟩)
  have HEL : Hid (∀ p ∈ ewL x, p.length ≤ 500) := Lib.hid (ewL_lens x EBE.2.1 EBE.2.2 EBE.1)
  have CE : Hid (∀ W, LaidQ W → Calls Tryz.prog 30 #[evV x] W fun e w' => ∃ A c, e = .returned (.tuple #[.slice A (ewL x).length c, .int .i64 0]) ∧ (ewL x).length ≤ c ∧ ArgW A (ewL x) w' ∧ Below W.heap.size W w') := Lib.hid fun W h => words_yes (by
    have := ewords_is x W h EBE.1 EBE.2.1 EBE.2.2
    rwa [show ewB x = true from decide_eq_true ⟨HEB.out.2, HEB.out.1⟩] at this)
  clear EBE
  have K0 : Hid (Below w.heap.size w w) := Lib.hid (Below.refl _ _)
  have T0 : Hid True := Lib.hid trivial
  clear hr hx' hN hz ha hb he hx hf hg
  simp only [evV] at CE
  go_enter Tryz.func7, Tryz.ntmps7
  go_wp2_with (first
    | (go_at_call 18; refine (few_is A n c ws true _ HN.out HMX.out HW.out HF).mono ?_; rintro e w0 ⟨rfl, rfl⟩; simp only [])
    | (go_at_call 19
       have := T0.out
       refine (lrule_is A n c ws _ HN.out HL.out (HW.out.next K0.out) (HA.out.next K0.out).l r e0 HR).mono ?_
       rintro e w1 ⟨rfl, k1⟩
       have K1 := Lib.hid (bthen K0.out k1)
       have T1 : Hid True := Lib.hid trivial
       clear this k1 K0 T0
       simp only [rvV])
    | (go_at_call 21
       have := T1.out
       refine (lera_is A n c ws _ HN.out HL.out (HW.out.next (bmk K1.out _)) (HA.out.next (bmk K1.out _)).l x 0 HE).mono ?_
       rintro e w2 ⟨rfl, k2⟩
       have K2 := Lib.hid (bthen (bmk K1.out _) k2)
       have T2 : Hid True := Lib.hid trivial
       clear this k2 K1 T1
       simp only [evV])
    | (go_at_call 30
       have := T2.out
       refine (CE.out _ (HA.out.next (bmk K2.out _))).mono ?_
       rintro e w3 ⟨A3, c3, rfl, hc3, hA3, k3⟩
       have XE := Lib.hid ((BlkN.make K2.out _ _).next k3)
       have AE := Lib.hid hA3
       clear hc3 hA3
       have K3 := Lib.hid (bthen (bmk K2.out _) k3)
       have T3 : Hid True := Lib.hid trivial
       clear this k3 K2 T2
       simp only [])
    | (go_at_call 21
       have := T3.out
       refine (lera_is A3 _ c3 (ewL x) _ rfl HEL.out AE.out (HA.out.next K3.out).l x 0 HEB).mono ?_
       rintro e w4 ⟨rfl, k4⟩
       replace XE := Lib.hid (XE.out.next k4)
       clear AE
       have K4 := Lib.hid (bthen K3.out k4)
       have T4 : Hid True := Lib.hid trivial
       clear this k4 K3 T3
       obtain ⟨xe0, xe1, xe2, xe3, xe4, xe5, xe6, xe7, xe8, xe9, xe10, xe11⟩ := cells12 XE.out.blk
       have xeq := XE.out.lt
       simp only [evV])
    | (go_at_call 23
       have := T4.out
       refine (lzone_is A n c ws _ HN.out hc HL.out (HW.out.next (bmk K4.out _)) (HA.out.next (bmk K4.out _)).l N z f0 HZ).mono ?_
       rintro e w5 ⟨rfl, k5⟩
       have K5 := Lib.hid (bthen (bmk K4.out _) k5)
       have T5 : Hid True := Lib.hid trivial
       clear this k5 K4 T4
       clear xe0 xe1 xe2 xe3 xe4 xe5 xe6 xe7 xe8 xe9 xe10 xe11 xeq XE
       simp only [evV])
    | (go_at_call 25
       have := T5.out
       refine (llink_is A n c ws _ HN.out HL.out (HW.out.next (bmk K5.out _)) (HA.out.next (bmk K5.out _)).l [] [] g0 HK).mono ?_
       rintro e w6 ⟨rfl, k6⟩
       have K6 := Lib.hid (bthen (bmk K5.out _) k6)
       have T6 : Hid True := Lib.hid trivial
       clear this k6 K5 T5
       simp only [lvV])
    | (go_at_call 10
       have := T6.out
       refine (lawake_any _ (HA.out.next (bmk K6.out _)).l).mono ?_
       rintro e w7 ⟨rfl, k7⟩
       have K7 := Lib.hid (bthen (bmk K6.out _) k7)
       have T7 : Hid True := Lib.hid trivial
       clear this k7 K6 T6
       simp only []))
  go_ret
  exact ⟨rfl, K7.out⟩

set_option maxRecDepth 20000 in
set_option maxHeartbeats 6400000 in
theorem back_110 (A : Option Addr) (n c : Nat) (ws : List (List UInt8)) (w : World) (H : LaidQ w) (hn : ws.length = n) (hm : n ≤ maxLen) (hc : n ≤ c) (hW : ArgW A ws w) (HF : Hid (fewB ws = true)) (e0 : Int) (he : rlX ws = e0) (ze : (e0 == 0) = false) (hx : erX ws = 0) (hf : znX ws = 0) (g0 : Int) (hg : lkX ws = g0) (zg : (g0 == 0) = false) :
    Calls Tryz.prog 7 #[.slice A n c] w fun e w' => e = .returned (.bool true) ∧ Below w.heap.size w w' := by
  have HA := Lib.hid H
  have HN := Lib.hid hn
  have HW := Lib.hid hW
  have HMX : Hid (n ≤ 9223372036854775807) := Lib.hid hm
  clear H hn hW hm
  have HL8 : Hid (∀ p ∈ ws, p.length ≤ 80) := Lib.hid (few_yes HF.out).1
  have HL : Hid (∀ p ∈ ws, p.length ≤ 500) := Lib.hid fun p hp => Nat.le_trans ((few_yes HF.out).1 p hp) (by omega)
  obtain ⟨r, hr⟩ : ∃ r, rlS ws = r := ⟨_, rfl⟩
  obtain ⟨x, hx'⟩ : ∃ r, erS ws = r := ⟨_, rfl⟩
  obtain ⟨N, hN⟩ : ∃ N, znN ws = N := ⟨_, rfl⟩
  obtain ⟨z, hz⟩ : ∃ z, znS ws = z := ⟨_, rfl⟩
  obtain ⟨a, ha⟩ : ∃ a, lkT ws = a := ⟨_, rfl⟩
  obtain ⟨b, hb⟩ : ∃ b, lkN ws = b := ⟨_, rfl⟩
  obtain ⟨rfl, rfl⟩ : [] = a ∧ [] = b := by
    rw [← ha, ← hb]; unfold lkT lkN; rw [hg, if_neg (by simpa using zg), if_neg (by simpa using zg)]; exact ⟨rfl, rfl⟩
  have HR : Hid (rlS ws = r ∧ rlX ws = e0) := Lib.hid ⟨hr, he⟩
  have HE : Hid (erS ws = x ∧ erX ws = 0) := Lib.hid ⟨hx', hx⟩
  have HZ : Hid (znN ws = N ∧ znS ws = z ∧ znX ws = 0) := Lib.hid ⟨hN, hz, hf⟩
  have HK : Hid (lkT ws = [] ∧ lkN ws = [] ∧ lkX ws = g0) := Lib.hid ⟨ha, hb, hg⟩
  have EBE := (hx' ▸ era_bds hx HL8.out : in64' x.uy ∧ x.rl.length ≤ 100 ∧ x.fm.length ≤ 100)
  have HEB : Hid (erS (ewL x) = x ∧ erX (ewL x) = 0) := Lib.hid (by have := era_back hx; rw [hx'] at this; exact ⟨this.2, this.1⟩)
  have HEL : Hid (∀ p ∈ ewL x, p.length ≤ 500) := Lib.hid (ewL_lens x EBE.2.1 EBE.2.2 EBE.1)
  have CE : Hid (∀ W, LaidQ W → Calls Tryz.prog 30 #[evV x] W fun e w' => ∃ A c, e = .returned (.tuple #[.slice A (ewL x).length c, .int .i64 0]) ∧ (ewL x).length ≤ c ∧ ArgW A (ewL x) w' ∧ Below W.heap.size W w') := Lib.hid fun W h => words_yes (by
    have := ewords_is x W h EBE.1 EBE.2.1 EBE.2.2
    rwa [show ewB x = true from decide_eq_true ⟨HEB.out.2, HEB.out.1⟩] at this)
  clear EBE
  have zo := zone_ok hf
  have zz : erS (ws.drop 2) = z := by rw [← hz, zo.2.2.2.2.1]
  have EBZ := (zz ▸ era_bds zo.2.2.1 (fun p hp => HL8.out p (List.mem_of_mem_drop hp)) : in64' z.uy ∧ z.rl.length ≤ 100 ∧ z.fm.length ≤ 100)
  have HZB : Hid (erS (ewL z) = z ∧ erX (ewL z) = 0) := Lib.hid (by have := era_back zo.2.2.1; rw [zz] at this; exact ⟨this.2, this.1⟩)
  have HZL : Hid (∀ p ∈ ewL z, p.length ≤ 500) := Lib.hid (ewL_lens z EBZ.2.1 EBZ.2.2 EBZ.1)
  have CZ : Hid (∀ W, LaidQ W → Calls Tryz.prog 30 #[evV z] W fun e w' => ∃ A c, e = .returned (.tuple #[.slice A (ewL z).length c, .int .i64 0]) ∧ (ewL z).length ≤ c ∧ ArgW A (ewL z) w' ∧ Below W.heap.size W w') := Lib.hid fun W h => words_yes (by
    have := ewords_is z W h EBZ.1 EBZ.2.1 EBZ.2.2
    rwa [show ewB z = true from decide_eq_true ⟨HZB.out.2, HZB.out.1⟩] at this)
  clear EBZ
  have ZP : Hid (0 < (ewL z).length ∧ (ewL z).length ≤ 7) := Lib.hid (by rw [ewL_len]; split <;> omega)
  have HZB : Hid (znN ([zoneL, N] ++ ewL z) = N ∧ znS ([zoneL, N] ++ ewL z) = z ∧ znX ([zoneL, N] ++ ewL z) = 0) := Lib.hid (by have := zone_back hf; rw [hN, hz] at this; exact ⟨this.2.1, this.2.2, this.1⟩)
  have LNN : N.length ≤ 80 := by rw [← hN, zo.2.2.2.1]; exact wd_len8 HL8.out 1
  have HZL2 : Hid (∀ p ∈ [zoneL, N] ++ ewL z, p.length ≤ 500) := Lib.hid fun p hp => by
    simp only [List.mem_append, List.mem_cons, List.not_mem_nil, or_false] at hp
    rcases hp with (rfl | rfl) | hp
    · decide
    · omega
    · exact HZL.out p hp
  clear zo zz LNN
  have K0 : Hid (Below w.heap.size w w) := Lib.hid (Below.refl _ _)
  have T0 : Hid True := Lib.hid trivial
  clear hr hx' hN hz ha hb he hx hf hg
  simp only [evV] at CE CZ
  go_enter Tryz.func7, Tryz.ntmps7
  go_wp2_with (first
    | (go_at_call 18; refine (few_is A n c ws true _ HN.out HMX.out HW.out HF).mono ?_; rintro e w0 ⟨rfl, rfl⟩; simp only [])
    | (go_at_call 19
       have := T0.out
       refine (lrule_is A n c ws _ HN.out HL.out (HW.out.next K0.out) (HA.out.next K0.out).l r e0 HR).mono ?_
       rintro e w1 ⟨rfl, k1⟩
       have K1 := Lib.hid (bthen K0.out k1)
       have T1 : Hid True := Lib.hid trivial
       clear this k1 K0 T0
       simp only [rvV])
    | (go_at_call 21
       have := T1.out
       refine (lera_is A n c ws _ HN.out HL.out (HW.out.next (bmk K1.out _)) (HA.out.next (bmk K1.out _)).l x 0 HE).mono ?_
       rintro e w2 ⟨rfl, k2⟩
       have K2 := Lib.hid (bthen (bmk K1.out _) k2)
       have T2 : Hid True := Lib.hid trivial
       clear this k2 K1 T1
       simp only [evV])
    | (go_at_call 30
       have := T2.out
       refine (CE.out _ (HA.out.next (bmk K2.out _))).mono ?_
       rintro e w3 ⟨A3, c3, rfl, hc3, hA3, k3⟩
       have XE := Lib.hid ((BlkN.make K2.out _ _).next k3)
       have AE := Lib.hid hA3
       clear hc3 hA3
       have K3 := Lib.hid (bthen (bmk K2.out _) k3)
       have T3 : Hid True := Lib.hid trivial
       clear this k3 K2 T2
       simp only [])
    | (go_at_call 21
       have := T3.out
       refine (lera_is A3 _ c3 (ewL x) _ rfl HEL.out AE.out (HA.out.next K3.out).l x 0 HEB).mono ?_
       rintro e w4 ⟨rfl, k4⟩
       replace XE := Lib.hid (XE.out.next k4)
       clear AE
       have K4 := Lib.hid (bthen K3.out k4)
       have T4 : Hid True := Lib.hid trivial
       clear this k4 K3 T3
       obtain ⟨xe0, xe1, xe2, xe3, xe4, xe5, xe6, xe7, xe8, xe9, xe10, xe11⟩ := cells12 XE.out.blk
       have xeq := XE.out.lt
       simp only [evV])
    | (go_at_call 23
       have := T4.out
       refine (lzone_is A n c ws _ HN.out hc HL.out (HW.out.next (bmk K4.out _)) (HA.out.next (bmk K4.out _)).l N z 0 HZ).mono ?_
       rintro e w5 ⟨rfl, k5⟩
       have K5 := Lib.hid (bthen (bmk K4.out _) k5)
       have T5 : Hid True := Lib.hid trivial
       clear this k5 K4 T4
       clear xe0 xe1 xe2 xe3 xe4 xe5 xe6 xe7 xe8 xe9 xe10 xe11 xeq XE
       simp only [evV])
    | (go_at_call 30
       have := T5.out
       refine (CZ.out _ (HA.out.next (bmk K5.out _))).mono ?_
       rintro e w6 ⟨A4, c4, rfl, hc4, hA4, k6⟩
       obtain ⟨Lz, oz, rfl, hz4⟩ := hA4.some ZP.out.1
       have XZ := Lib.hid ((BlkN.make K5.out _ _).next k6)
       have AZ := Lib.hid hz4
       clear hc4 hA4 hz4
       have K6 := Lib.hid (bthen (bmk K5.out _) k6)
       have T6 : Hid True := Lib.hid trivial
       clear this k6 K5 T5
       simp only [])
    | (at_builtin
       refine wpList_sapp rfl (.tmp 101) (.tmp 102) rfl (base := w6.heap.size) (n := 2) (k := (ewL z).length) (m := 2 + (ewL z).length) (l := [zoneL, N]) (ys := ewL z) rfl rfl (own_lit2 w6 zoneL N _ (Nat.le_refl _)) rfl ⟨Lz, oz, none⟩ rfl ?_ (by have := ZP.out.2; omega) (by simp) ?_
       · intro j p hp
         rw [show (⟨Lz, oz, none⟩ : Addr).add j = ⟨Lz, oz + j, none⟩ from Go.WideShapes.add_plain _ _ _]
         have h := AZ.out j p hp
         exact (((Below.refl w6.heap.size w6).alloc (Nat.le_refl _) _).cell (p := ⟨Lz, oz + j, none⟩) (wcell_lt h)).trans h
       intro A5 c5 wa owna ba
       replace XZ := Lib.hid ((XZ.out.more _).nextB ba XZ.out.lt K6.out.size (by simp))
       have OA := Lib.hid owna
       have K7 := Lib.hid ((bmk K6.out _).trans (ba.mono K6.out.size))
       have T7 : Hid True := Lib.hid trivial
       clear owna ba K6 T6 AZ
       simp only [])
    | (go_at_call 23
       have := T7.out
       refine (lzone_is A5 _ c5 ([zoneL, N] ++ ewL z) _ (own_arg OA.out).1 (own_arg OA.out).2.1 HZL2.out (own_arg OA.out).2.2 (HA.out.next K7.out).l N z 0 HZB).mono ?_
       rintro e w8 ⟨rfl, k8⟩
       replace XZ := Lib.hid (XZ.out.next k8)
       clear OA
       have K8 := Lib.hid (bthen K7.out k8)
       have T8 : Hid True := Lib.hid trivial
       clear this k8 K7 T7
       obtain ⟨xz0, xz1, xz2, xz3, xz4, xz5, xz6, xz7, xz8, xz9, xz10, xz11⟩ := cells12 XZ.out.blk
       have xzq := XZ.out.lt
       simp only [evV])
    | (go_at_call 25
       have := T8.out
       refine (llink_is A n c ws _ HN.out HL.out (HW.out.next (bmk K8.out _)) (HA.out.next (bmk K8.out _)).l [] [] g0 HK).mono ?_
       rintro e w9 ⟨rfl, k9⟩
       have K9 := Lib.hid (bthen (bmk K8.out _) k9)
       have T9 : Hid True := Lib.hid trivial
       clear this k9 K8 T8
       clear xz0 xz1 xz2 xz3 xz4 xz5 xz6 xz7 xz8 xz9 xz10 xz11 xzq XZ
       simp only [lvV])
    | (go_at_call 10
       have := T9.out
       refine (lawake_any _ (HA.out.next (bmk K9.out _)).l).mono ?_
       rintro e w10 ⟨rfl, k10⟩
       have K10 := Lib.hid (bthen (bmk K9.out _) k10)
       have T10 : Hid True := Lib.hid trivial
       clear this k10 K9 T9
       simp only []))
  go_ret
  exact ⟨rfl, K10.out⟩

set_option maxRecDepth 20000 in
set_option maxHeartbeats 6400000 in
theorem back_101 (A : Option Addr) (n c : Nat) (ws : List (List UInt8)) (w : World) (H : LaidQ w) (hn : ws.length = n) (hm : n ≤ maxLen) (hc : n ≤ c) (hW : ArgW A ws w) (HF : Hid (fewB ws = true)) (e0 : Int) (he : rlX ws = e0) (ze : (e0 == 0) = false) (hx : erX ws = 0) (f0 : Int) (hf : znX ws = f0) (zf : (f0 == 0) = false) (hg : lkX ws = 0) :
    Calls Tryz.prog 7 #[.slice A n c] w fun e w' => e = .returned (.bool true) ∧ Below w.heap.size w w' := by
  have HA := Lib.hid H
  have HN := Lib.hid hn
  have HW := Lib.hid hW
  have HMX : Hid (n ≤ 9223372036854775807) := Lib.hid hm
  clear H hn hW hm
  have HL8 : Hid (∀ p ∈ ws, p.length ≤ 80) := Lib.hid (few_yes HF.out).1
  have HL : Hid (∀ p ∈ ws, p.length ≤ 500) := Lib.hid fun p hp => Nat.le_trans ((few_yes HF.out).1 p hp) (by omega)
  obtain ⟨r, hr⟩ : ∃ r, rlS ws = r := ⟨_, rfl⟩
  obtain ⟨x, hx'⟩ : ∃ r, erS ws = r := ⟨_, rfl⟩
  obtain ⟨N, hN⟩ : ∃ N, znN ws = N := ⟨_, rfl⟩
  obtain ⟨z, hz⟩ : ∃ z, znS ws = z := ⟨_, rfl⟩
  obtain ⟨a, ha⟩ : ∃ a, lkT ws = a := ⟨_, rfl⟩
  obtain ⟨b, hb⟩ : ∃ b, lkN ws = b := ⟨_, rfl⟩
  have HR : Hid (rlS ws = r ∧ rlX ws = e0) := Lib.hid ⟨hr, he⟩
  have HE : Hid (erS ws = x ∧ erX ws = 0) := Lib.hid ⟨hx', hx⟩
  have HZ : Hid (znN ws = N ∧ znS ws = z ∧ znX ws = f0) := Lib.hid ⟨hN, hz, hf⟩
  have HK : Hid (lkT ws = a ∧ lkN ws = b ∧ lkX ws = 0) := Lib.hid ⟨ha, hb, hg⟩
  have EBE := (hx' ▸ era_bds hx HL8.out : in64' x.uy ∧ x.rl.length ≤ 100 ∧ x.fm.length ≤ 100)
  have HEB : Hid (erS (ewL x) = x ∧ erX (ewL x) = 0) := Lib.hid (by have := era_back hx; rw [hx'] at this; exact ⟨this.2, this.1⟩)
  have HEL : Hid (∀ p ∈ ewL x, p.length ≤ 500) := Lib.hid (ewL_lens x EBE.2.1 EBE.2.2 EBE.1)
  have CE : Hid (∀ W, LaidQ W → Calls Tryz.prog 30 #[evV x] W fun e w' => ∃ A c, e = .returned (.tuple #[.slice A (ewL x).length c, .int .i64 0]) ∧ (ewL x).length ≤ c ∧ ArgW A (ewL x) w' ∧ Below W.heap.size W w') := Lib.hid fun W h => words_yes (by
    have := ewords_is x W h EBE.1 EBE.2.1 EBE.2.2
    rwa [show ewB x = true from decide_eq_true ⟨HEB.out.2, HEB.out.1⟩] at this)
  clear EBE
  have lo := link_ok hg
  have LA1 : a.length ≤ 100 := by rw [← ha, lo.2.1]; have := wd_len8 HL8.out 1; omega
  have LB1 : b.length ≤ 100 := by rw [← hb, lo.2.2.1]; have := wd_len8 HL8.out 2; omega
  have HKB : Hid (lkT [linkL, a, b] = a ∧ lkN [linkL, a, b] = b ∧ lkX [linkL, a, b] = 0) := Lib.hid (by have := link_back hg; rw [ha, hb] at this; exact ⟨this.2.1, this.2.2, this.1⟩)
  have HKL : Hid (∀ p ∈ [linkL, a, b], p.length ≤ 500) := Lib.hid (by
    intro p hp
    simp only [List.mem_cons, List.not_mem_nil, or_false] at hp
    rcases hp with rfl | rfl | rfl
    · decide
    · omega
    · omega)
  have CK : Hid (∀ W, LaidQ W → Calls Tryz.prog 32 #[lvV a b] W fun e w' => ∃ A c, e = .returned (.tuple #[.slice A [linkL, a, b].length c, .int .i64 0]) ∧ [linkL, a, b].length ≤ c ∧ ArgW A [linkL, a, b] w' ∧ Below W.heap.size W w') := Lib.hid fun W h => words_yes (by
    have := lwords_is a b W h.l LA1 LB1
    rwa [show decide (lkX [linkL, a, b] = 0) = true from decide_eq_true HKB.out.2.2] at this)
  clear lo LA1 LB1
  have K0 : Hid (Below w.heap.size w w) := Lib.hid (Below.refl _ _)
  have T0 : Hid True := Lib.hid trivial
  clear hr hx' hN hz ha hb he hx hf hg
  simp only [evV, lvV] at CE CK
  go_enter Tryz.func7, Tryz.ntmps7
  go_wp2_with (first
    | (go_at_call 18; refine (few_is A n c ws true _ HN.out HMX.out HW.out HF).mono ?_; rintro e w0 ⟨rfl, rfl⟩; simp only [])
    | (go_at_call 19
       have := T0.out
       refine (lrule_is A n c ws _ HN.out HL.out (HW.out.next K0.out) (HA.out.next K0.out).l r e0 HR).mono ?_
       rintro e w1 ⟨rfl, k1⟩
       have K1 := Lib.hid (bthen K0.out k1)
       have T1 : Hid True := Lib.hid trivial
       clear this k1 K0 T0
       simp only [rvV])
    | (go_at_call 21
       have := T1.out
       refine (lera_is A n c ws _ HN.out HL.out (HW.out.next (bmk K1.out _)) (HA.out.next (bmk K1.out _)).l x 0 HE).mono ?_
       rintro e w2 ⟨rfl, k2⟩
       have K2 := Lib.hid (bthen (bmk K1.out _) k2)
       have T2 : Hid True := Lib.hid trivial
       clear this k2 K1 T1
       simp only [evV])
    | (go_at_call 30
       have := T2.out
       refine (CE.out _ (HA.out.next (bmk K2.out _))).mono ?_
       rintro e w3 ⟨A3, c3, rfl, hc3, hA3, k3⟩
       have XE := Lib.hid ((BlkN.make K2.out _ _).next k3)
       have AE := Lib.hid hA3
       clear hc3 hA3
       have K3 := Lib.hid (bthen (bmk K2.out _) k3)
       have T3 : Hid True := Lib.hid trivial
       clear this k3 K2 T2
       simp only [])
    | (go_at_call 21
       have := T3.out
       refine (lera_is A3 _ c3 (ewL x) _ rfl HEL.out AE.out (HA.out.next K3.out).l x 0 HEB).mono ?_
       rintro e w4 ⟨rfl, k4⟩
       replace XE := Lib.hid (XE.out.next k4)
       clear AE
       have K4 := Lib.hid (bthen K3.out k4)
       have T4 : Hid True := Lib.hid trivial
       clear this k4 K3 T3
       obtain ⟨xe0, xe1, xe2, xe3, xe4, xe5, xe6, xe7, xe8, xe9, xe10, xe11⟩ := cells12 XE.out.blk
       have xeq := XE.out.lt
       simp only [evV])
    | (go_at_call 23
       have := T4.out
       refine (lzone_is A n c ws _ HN.out hc HL.out (HW.out.next (bmk K4.out _)) (HA.out.next (bmk K4.out _)).l N z f0 HZ).mono ?_
       rintro e w5 ⟨rfl, k5⟩
       have K5 := Lib.hid (bthen (bmk K4.out _) k5)
       have T5 : Hid True := Lib.hid trivial
       clear this k5 K4 T4
       clear xe0 xe1 xe2 xe3 xe4 xe5 xe6 xe7 xe8 xe9 xe10 xe11 xeq XE
       simp only [evV])
    | (go_at_call 25
       have := T5.out
       refine (llink_is A n c ws _ HN.out HL.out (HW.out.next (bmk K5.out _)) (HA.out.next (bmk K5.out _)).l a b 0 HK).mono ?_
       rintro e w6 ⟨rfl, k6⟩
       have K6 := Lib.hid (bthen (bmk K5.out _) k6)
       have T6 : Hid True := Lib.hid trivial
       clear this k6 K5 T5
       simp only [lvV])
    | (go_at_call 32
       have := T6.out
       refine (CK.out _ (HA.out.next (bmk K6.out _))).mono ?_
       rintro e w7 ⟨A6, c6, rfl, hc6, hA6, k7⟩
       have XK := Lib.hid ((BlkN.make K6.out _ _).next k7)
       have AK := Lib.hid hA6
       clear hc6 hA6
       have K7 := Lib.hid (bthen (bmk K6.out _) k7)
       have T7 : Hid True := Lib.hid trivial
       clear this k7 K6 T6
       simp only [])
    | (go_at_call 25
       have := T7.out
       refine (llink_is A6 _ c6 [linkL, a, b] _ rfl HKL.out AK.out (HA.out.next K7.out).l a b 0 HKB).mono ?_
       rintro e w8 ⟨rfl, k8⟩
       replace XK := Lib.hid (XK.out.next k8)
       clear AK
       have K8 := Lib.hid (bthen K7.out k8)
       have T8 : Hid True := Lib.hid trivial
       clear this k8 K7 T7
       have xk0 := cell_of_row _ _ 0 _ _ (0, 0) XK.out.blk; have xk1 := cell_of_row _ _ 1 _ _ (0, 0) XK.out.blk
       have xkq := XK.out.lt
       simp only [lvV])
    | (go_at_call 10
       have := T8.out
       refine (lawake_any _ (HA.out.next (bmk K8.out _)).l).mono ?_
       rintro e w9 ⟨rfl, k9⟩
       have K9 := Lib.hid (bthen (bmk K8.out _) k9)
       have T9 : Hid True := Lib.hid trivial
       clear this k9 K8 T8
       simp only []))
  go_ret
  exact ⟨rfl, K9.out⟩

theorem b_false {e : Int} (h : e ≠ 0) : (e == 0) = false := by simpa using h
theorem linesBack_walk (A : Option Addr) (c : Nat) (ws : List (List UInt8)) (w : World) (H : LaidQ w) (hm : ws.length ≤ maxLen) (hc : ws.length ≤ c) (hW : ArgW A ws w) :
    Calls Tryz.prog 7 #[.slice A ws.length c] w fun e w' => e = .returned (.bool true) ∧ Below w.heap.size w w' := by
  cases hf : fewB ws with
  | false => exact back_many A _ c ws w H rfl hm hc hW (Lib.hid hf)
  | true =>
    have HF := Lib.hid hf
    have k1 : rlX ws = 0 → ws.length = 10 := fun h => (rule_ok h).1
    have k2 : erX ws = 0 → ws.length ≤ 7 := fun h => (era_ok h).1.2
    have k3 : znX ws = 0 → 5 ≤ ws.length ∧ ws.length ≤ 9 := fun h => (zone_ok h).1
    have k4 : lkX ws = 0 → ws.length = 3 := fun h => (link_ok h).1
    by_cases h1 : rlX ws = 0
    · exact back_r A _ c ws w H rfl hm hc hW HF h1 _ rfl (b_false fun h => by have := k1 h1; have := k2 h; omega) _ rfl (b_false fun h => by have := k1 h1; have := k3 h; omega) _ rfl (b_false fun h => by have := k1 h1; have := k4 h; omega)
    · by_cases h3 : znX ws = 0
      · have n4 : lkX ws ≠ 0 := fun h => by have := k3 h3; have := k4 h; omega
        by_cases h2 : erX ws = 0
        · exact back_110 A _ c ws w H rfl hm hc hW HF _ rfl (b_false h1) h2 h3 _ rfl (b_false n4)
        · exact back_010 A _ c ws w H rfl hm hc hW HF _ rfl (b_false h1) _ rfl (b_false h2) h3 _ rfl (b_false n4)
      · by_cases h4 : lkX ws = 0
        · by_cases h2 : erX ws = 0
          · exact back_101 A _ c ws w H rfl hm hc hW HF _ rfl (b_false h1) h2 _ rfl (b_false h3) h4
          · exact back_001 A _ c ws w H rfl hm hc hW HF _ rfl (b_false h1) _ rfl (b_false h2) _ rfl (b_false h3) h4
        · by_cases h2 : erX ws = 0
          · exact back_100 A _ c ws w H rfl hm hc hW HF _ rfl (b_false h1) h2 _ rfl (b_false h3) _ rfl (b_false h4)
          · exact back_000 A _ c ws w H rfl hm hc hW HF _ rfl (b_false h1) _ rfl (b_false h2) _ rfl (b_false h3) _ rfl (b_false h4)
end Go.Proofs.YtfmehdophoejiaaGreatDoor
