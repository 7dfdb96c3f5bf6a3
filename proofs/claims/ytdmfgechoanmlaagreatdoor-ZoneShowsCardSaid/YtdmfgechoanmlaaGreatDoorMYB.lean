/- The contracts of the document's answer's letter, Kind, pair and Offset; nothing that was in memory changes.
The contracts of the document's answer's pair and Offset; nothing that was in memory changes.
The contract of the document's answer's Parse; nothing that was in memory changes.
The contract of the document's answer's Show; nothing that was in memory changes. -/
import Derived.Test.YtdmfgechoanmlaaGreatDoorMZV
namespace Go.Proofs.YtdmfgechoanmlaaGreatDoor
open Go.RowKit
attribute [local go_sem] Oper.semAt_some

set_option maxHeartbeats 1600000 in
theorem letter_is (c : UInt8) (v : Bool) (w : World) (hv : Hid (abL c = v)) :
    Calls Tryz.prog 49 #[.int .u8 (c.toNat : Int)] w fun e w' => e = .returned (.bool v) ∧ w' = w := by
  obtain rfl := hv.out
  clear hv
  rcases abclass c with h | h | h | h | h | h | h | h | h | h | h
  all_goals first | have e : Hid (abL c = true) := Lib.hid (by simp [abL]; omega) | have e : Hid (abL c = false) := Lib.hid (by simp [abL]; omega)
  all_goals first | have t0 : (65 : Int) ≤ (c.toNat : Int) := by omega | have t0 : ¬ (65 : Int) ≤ (c.toNat : Int) := by omega
  all_goals first | have t1 : (c.toNat : Int) ≤ 90 := by omega | have t1 : ¬ (c.toNat : Int) ≤ 90 := by omega
  all_goals first | have t2 : (97 : Int) ≤ (c.toNat : Int) := by omega | have t2 : ¬ (97 : Int) ≤ (c.toNat : Int) := by omega
  all_goals first | have t3 : (c.toNat : Int) ≤ 122 := by omega | have t3 : ¬ (c.toNat : Int) ≤ 122 := by omega
  all_goals first | have t4 : (48 : Int) ≤ (c.toNat : Int) := by omega | have t4 : ¬ (48 : Int) ≤ (c.toNat : Int) := by omega
  all_goals first | have t5 : (c.toNat : Int) ≤ 57 := by omega | have t5 : ¬ (c.toNat : Int) ≤ 57 := by omega
  all_goals first | have t6 : ((c.toNat : Int) == 43) = false := by simp; omega | have t6 : ((c.toNat : Int) == 43) = true := by simp; omega
  all_goals first | have t7 : ((c.toNat : Int) == 45) = false := by simp; omega | have t7 : ((c.toNat : Int) == 45) = true := by simp; omega
  all_goals clear h
  all_goals go_enter Tryz.func49, Tryz.ntmps49
  all_goals go_wp2
  all_goals go_ret
  all_goals rw [e.out]
  all_goals exact ⟨rfl, rfl⟩

/-- Where a format's mark stands. -/
def abAtV (s : List UInt8) : Int := match kdK s with | some 0 => 0 | some _ => ((ahd s).length : Int) | none => 0
theorem ahd_len {s : List UInt8} {i : Nat} {c : UInt8} {r : List UInt8} (ha : (s.take i).all abL = true) (hd : s.drop i = c :: r) (hc : abL c = false) : (ahd s).length = i := by
  have hi : i < s.length := by
    rcases Nat.lt_or_ge i s.length with h | h
    · exact h
    · rw [List.drop_eq_nil_of_le h] at hd; cases hd
  have e : s = s.take i ++ c :: r := by rw [← hd, List.take_append_drop]
  unfold ahd
  rw [e, List.takeWhile_append_of_pos (fun a h => List.all_eq_true.1 ha a h)]
  simp [List.takeWhile, hc]
  omega
theorem drop_cons {s : List UInt8} {i : Nat} (h : i < s.length) : s.drop i = s.getD i 0 :: s.drop (i + 1) := by
  rw [List.drop_eq_getElem_cons h]; simp [List.getD, h]
/-- What is known at the loop's head. -/
structure RkS (s : List UInt8) (i k a : Nat) : Prop where
  k3 : k ≤ 3
  i1 : i ≤ s.length
  ok : fmOk s = true ∨ (i = 0 ∧ k = 0)
  kd : fmOk s = true → kdK s = kdF k (s.drop i)
  at0 : k = 0 → (s.take i).all abL = true ∧ a = 0
  at1 : k ≠ 0 → a = (ahd s).length
theorem fm_of {s : List UInt8} (h0 : 0 < s.length) (h64 : s.length ≤ 64) (h : s.getD 0 0 ≠ 47) : fmOk s = true := by
  cases s with
  | nil => simp at h0
  | cons c r =>
    unfold fmOk
    simp at h h64 ⊢
    exact ⟨h64, h⟩
theorem fm_no {s : List UInt8} (h0 : 0 < s.length) (h : s.getD 0 0 = 47) : fmOk s = false := by
  cases s with
  | nil => simp at h0
  | cons c r =>
    unfold fmOk
    simp at h
    simp [h]
theorem kd_no {s : List UInt8} (h : fmOk s = false) : kdK s = none := by unfold kdK; rw [h]; rfl
/-- A round, by what stands there. -/
theorem rk_round {s : List UInt8} {i k a : Nat} (h : RkS s i k a) (h64 : s.length ≤ 64) (hi : i < s.length) :
    (abL (s.getD i 0) = true ∧ RkS s (i + 1) k a) ∨ (abL (s.getD i 0) = false ∧
      ((k ≠ 0 ∧ kdK s = none) ∨ (k = 0 ∧ ((s.getD i 0 = 47 ∧ 0 < i ∧ i + 1 < s.length ∧ RkS s (i + 1) 3 i) ∨ (s.getD i 0 = 37 ∧ i + 1 < s.length ∧ s.getD (i + 1) 0 = 115 ∧ RkS s (i + 1) 1 i) ∨ (s.getD i 0 = 37 ∧ i + 1 < s.length ∧ s.getD (i + 1) 0 = 122 ∧ RkS s (i + 1) 2 i) ∨
        (s.getD i 0 = 47 ∧ i = 0 ∧ kdK s = none) ∨ (s.getD i 0 = 47 ∧ 0 < i ∧ ¬ i + 1 < s.length ∧ kdK s = none) ∨ (s.getD i 0 = 37 ∧ ¬ i + 1 < s.length ∧ kdK s = none) ∨ (s.getD i 0 = 37 ∧ i + 1 < s.length ∧ s.getD (i + 1) 0 ≠ 115 ∧ s.getD (i + 1) 0 ≠ 122 ∧ kdK s = none) ∨ (s.getD i 0 ≠ 47 ∧ s.getD i 0 ≠ 37 ∧ kdK s = none))))) := by
  have hd := drop_cons hi
  obtain ⟨c, hc⟩ : ∃ c, s.getD i 0 = c := ⟨_, rfl⟩
  rw [hc] at hd ⊢
  have fo : ¬ (i = 0 ∧ c = 47) → fmOk s = true := by
    intro n
    rcases h.ok with e | ⟨rfl, _⟩
    · exact e
    · exact fm_of (by omega) h64 (by rw [hc]; exact fun e => n ⟨rfl, e⟩)
  have tk : s.take (i + 1) = s.take i ++ [c] := by rw [List.take_succ_eq_append_getElem hi]; congr 2; rw [← hc]; simp [List.getD, hi]
  by_cases hl : abL c = true
  · refine .inl ⟨hl, h.k3, by omega, .inl (fo ?_), fun f => ?_, fun k0 => ?_, h.at1⟩
    · rintro ⟨-, rfl⟩; rw [abL_47] at hl; cases hl
    · rw [h.kd f, hd]; conv => lhs; unfold kdF
      rw [if_pos hl]
    · obtain ⟨e1, e2⟩ := h.at0 k0
      exact ⟨by rw [tk, List.all_append, e1]; simp [hl], e2⟩
  · have hl' : abL c = false := by simpa using hl
    refine .inr ⟨hl', ?_⟩
    by_cases k0 : k = 0
    · refine .inr ⟨k0, ?_⟩
      subst k0
      obtain ⟨e1, e2⟩ := h.at0 rfl
      have al := ahd_len e1 hd hl'
      have nx : ∀ m, 1 ≤ m → m ≤ 3 → fmOk s = true → pcM (c :: s.drop (i + 1)) = m → ¬ (c = 47 ∧ s.drop (i + 1) = []) → RkS s (i + 1) m i := fun m m1 m3 f p q => by
        refine ⟨m3, by omega, .inl f, fun f => ?_, fun e => by omega, fun _ => al.symm⟩
        rw [h.kd f, hd]; conv => lhs; unfold kdF
        rw [if_neg hl, if_neg (by simp), p, if_neg]
        rintro (e | e)
        · omega
        · exact q e
      have no : fmOk s = true → pcM (c :: s.drop (i + 1)) = 0 ∨ (c = 47 ∧ s.drop (i + 1) = []) → kdK s = none := fun f p => by
        rw [h.kd f, hd]; unfold kdF
        rw [if_neg hl, if_neg (by simp), if_pos p]
      by_cases c47 : c = 47
      · subst c47
        by_cases i0 : 0 < i
        · by_cases i1 : i + 1 < s.length
          · have hd2 := drop_cons i1
            exact .inl ⟨rfl, i0, i1, nx 3 (by omega) (by omega) (fo (by omega)) (by simp [pcM, List.isPrefixOf]) (by rw [hd2]; simp)⟩
          · exact .inr (.inr (.inr (.inr (.inl ⟨rfl, i0, i1, no (fo (by omega)) (.inr ⟨rfl, List.drop_eq_nil_of_le (by omega)⟩)⟩))))
        · exact .inr (.inr (.inr (.inl ⟨rfl, by omega, kd_no (fm_no (by omega) (by rw [show (0 : Nat) = i by omega]; exact hc))⟩)))
      · have f := fo (fun e => c47 e.2)
        by_cases c37 : c = 37
        · subst c37
          by_cases i1 : i + 1 < s.length
          · have hd2 := drop_cons i1
            obtain ⟨d, hd'⟩ : ∃ d, s.getD (i + 1) 0 = d := ⟨_, rfl⟩
            rw [hd'] at hd2 ⊢
            by_cases d1 : d = 115
            · subst d1
              exact .inr (.inl ⟨rfl, i1, rfl, nx 1 (by omega) (by omega) f (by rw [hd2]; simp [pcM, List.isPrefixOf]) (fun e => c47 e.1)⟩)
            · by_cases d2 : d = 122
              · subst d2
                exact .inr (.inr (.inl ⟨rfl, i1, rfl, nx 2 (by omega) (by omega) f (by rw [hd2]; simp [pcM, List.isPrefixOf]) (fun e => c47 e.1)⟩))
              · refine .inr (.inr (.inr (.inr (.inr (.inr (.inl ⟨rfl, i1, d1, d2, no f (.inl ?_)⟩))))))
                have n1 : ¬ (115 : UInt8) = d := fun e => d1 e.symm
                have n2 : ¬ (122 : UInt8) = d := fun e => d2 e.symm
                rw [hd2]
                simp [pcM, List.isPrefixOf, n1, n2]
          · refine .inr (.inr (.inr (.inr (.inr (.inl ⟨rfl, i1, no f (.inl ?_)⟩)))))
            rw [List.drop_eq_nil_of_le (by omega)]
            decide
        · refine .inr (.inr (.inr (.inr (.inr (.inr (.inr ⟨c47, c37, no f (.inl ?_)⟩))))))
          have n1 : ¬ (37 : UInt8) = c := fun e => c37 e.symm
          have n2 : ¬ (47 : UInt8) = c := fun e => c47 e.symm
          simp [pcM, List.isPrefixOf, n1, n2]
    · refine .inl ⟨k0, ?_⟩
      have f : fmOk s = true := by
        rcases h.ok with e | ⟨_, e⟩
        · exact e
        · exact absurd e k0
      rw [h.kd f, hd]; unfold kdF
      rw [if_neg hl, if_pos k0]
theorem byte_ne {c d : UInt8} {z : Int} (h : c ≠ d) (hz : (d.toNat : Int) = z) : ((c.toNat : Int) == z) = false := by
  subst hz
  rw [beq_eq_false_iff_ne]
  intro e
  exact h (UInt8.toNat_inj.1 (by omega))
set_option maxHeartbeats 6400000 in
theorem rkind_is (s : List UInt8) (v a0 : Int) (w : World) (hs : s.length ≤ 1000) (HV : Hid (kdR s = v ∧ abAtV s = a0)) :
    Calls Tryz.prog 28 #[.string ⟨s.toArray⟩] w fun e w' => e = .returned (.tuple #[.int .i64 v, .int .i64 a0]) ∧ Below w.heap.size w w' := by
  have NO : Hid (kdK s = none → v = -1 ∧ a0 = 0) := Lib.hid fun h => by rw [← HV.out.1, ← HV.out.2]; unfold kdR abAtV; rw [h]; exact ⟨rfl, rfl⟩
  have YES : Hid (∀ k a : Nat, RkS s s.length k a → fmOk s = true → v = (k : Int) ∧ a0 = (a : Int)) := Lib.hid fun k a h f => by
    have e := h.kd f
    rw [List.drop_length] at e
    have e : kdK s = some k := e
    rw [← HV.out.1, ← HV.out.2]; unfold kdR abAtV; rw [e]
    refine ⟨rfl, ?_⟩
    cases k with
    | zero => rw [(h.at0 rfl).2]; rfl
    | succ k => rw [h.at1 (by omega)]; rfl
  clear HV
  by_cases h0 : s.length = 0
  · have E := Lib.hid (NO.out (kd_no (by unfold fmOk; rw [List.length_eq_zero_iff.1 h0]; rfl)))
    have t0 : ((s.length : Int) == 0) = true := by simpa using List.length_eq_zero_iff.1 h0
    clear NO YES hs
    go_enter Tryz.func28, Tryz.ntmps28
    go_wp2
    go_ret2
    rw [E.out.1, E.out.2]
    exact ⟨rfl, Below.refl _ _⟩
  · have t0 : ((s.length : Int) == 0) = false := by simp; intro e; exact h0 (by simp [e])
    by_cases h1 : 64 < s.length
    · have E := Lib.hid (NO.out (kd_no (by unfold fmOk; simp; omega)))
      have t1 : (64 : Int) < (s.length : Int) := by omega
      clear NO YES hs h0
      go_enter Tryz.func28, Tryz.ntmps28
      go_wp2
      go_ret2
      rw [E.out.1, E.out.2]
      exact ⟨rfl, Below.refl _ _⟩
    · have t1 : ¬ (64 : Int) < (s.length : Int) := by omega
      have L := Lib.hid (And.intro (show 0 < s.length by omega) (show s.length ≤ 64 by omega))
      have S0 : Hid (RkS s 0 0 0) := Lib.hid ⟨by omega, by omega, .inr ⟨rfl, rfl⟩, fun f => by unfold kdK; rw [f]; rfl, fun _ => ⟨rfl, rfl⟩, fun h => absurd rfl h⟩
      obtain ⟨n, hn⟩ : ∃ n, s.length = n := ⟨_, rfl⟩
      have HN := Lib.hid hn
      have hz := wsize s
      rw [hn] at t0 t1 hz
      clear hs h0 h1 hn
      go_enter Tryz.func28, Tryz.ntmps28
      go_wp2
      go_loopw [4, 5, 6] (fun vk va vi wr => ∃ k a i : Nat, vk = .int .i64 (k : Int) ∧ va = .int .i64 (a : Int) ∧ vi = .int .i64 (i : Int) ∧ RkS s i k a ∧ wr = w) (fun _ _ vi _ => (n - intOf vi).toNat)
      case atStart => exact ⟨0, 0, 0, rfl, rfl, rfl, S0.out, rfl⟩
      case round =>
        obtain ⟨k, a, i, rfl, rfl, rfl, hS, rfl⟩ := hrel
        have S := Lib.hid hS
        have i1 := hS.i1
        rw [HN.out] at i1
        clear S0 hS
        by_cases hi : i < n
        · have hi' : (i : Int) < (n : Int) := by omega
          have i64 : n ≤ 64 := by rw [← HN.out]; exact L.out.2
          have R := rk_round S.out L.out.2 (by rw [HN.out]; exact hi)
          have ix := wbyte_at s i (by rw [HN.out]; exact hi) _ rfl
          obtain ⟨c, hc⟩ : ∃ c, s.getD i 0 = c := ⟨_, rfl⟩
          rw [hc] at R ix
          obtain ⟨p1, hp1⟩ : ∃ p, i + 1 = p := ⟨_, rfl⟩
          have ep : (i : Int) + 1 = (p1 : Int) := by omega
          rw [HN.out, hp1] at R
          have ixn : p1 < n → ∀ W, (Instr.index 9 (.string ⟨s.toArray⟩) (.int .i64 (p1 : Int))).run Tryz.prog W = .ok (.int .u8 ((s.getD p1 0).toNat : Int)) W := fun h => wbyte_at s p1 (by rw [HN.out]; exact h) _ rfl
          have HP := Lib.hid (And.intro hc hp1)
          clear S hc
          rcases R with ⟨hl, R⟩ | ⟨hl, R⟩
          · have HL := Lib.hid hl
            have RR := Lib.hid R
            clear ixn hl R
            go_wp2_with (first | (go_at_call 49; refine (letter_is c _ _ HL).mono ?_; rintro e w1 ⟨rfl, rfl⟩; simp only []))
            go_roundw
            case rel => exact ⟨k, a, p1, rfl, rfl, by go_num, RR.out, trivial⟩
            case measure => simp [intOf]; omega
          · have HL := Lib.hid hl
            clear hl
            rcases R with ⟨k0, R⟩ | ⟨rfl, R⟩
            · have E := Lib.hid (NO.out R)
              have t2 : ((k : Int) != 0) = true := by simpa using k0
              clear ixn R k0
              go_wp2_with (first | (go_at_call 49; refine (letter_is c _ _ HL).mono ?_; rintro e w1 ⟨rfl, rfl⟩; simp only []))
              go_ret2
              rw [E.out.1, E.out.2]
              exact ⟨rfl, Below.refl _ _⟩

            · rcases R with ⟨rfl, i0, i1', R⟩ | ⟨rfl, i1', d, R⟩ | ⟨rfl, i1', d, R⟩ | ⟨rfl, i0, R⟩ | ⟨rfl, i0, i1', R⟩ | ⟨rfl, i1', R⟩ | ⟨rfl, i1', d1, d2, R⟩ | ⟨c1, c2, R⟩
              all_goals first | have RR := Lib.hid R | skip
              all_goals first | have E := Lib.hid (NO.out R) | skip
              all_goals clear R
              · have j0 : (0 : Int) < (i : Int) := by omega
                have j1 : (p1 : Int) < (n : Int) := by omega
                clear ixn i0 i1'
                clear hp1
                go_wp2_with (first | (go_at_call 49; refine (letter_is _ _ _ HL).mono ?_; rintro e w1 ⟨rfl, rfl⟩; simp only []))
                go_roundw
                case rel => exact ⟨3, i, p1, rfl, rfl, by go_num, RR.out, trivial⟩
                case measure => simp [intOf]; omega
              · have ix2 := ixn i1'
                rw [d] at ix2
                have j1 : (p1 : Int) < (n : Int) := by omega
                clear ixn d i1'
                clear hp1
                go_wp2_with (first | (go_at_call 49; refine (letter_is _ _ _ HL).mono ?_; rintro e w1 ⟨rfl, rfl⟩; simp only []))
                go_roundw
                case rel => exact ⟨1, i, p1, rfl, rfl, by go_num, RR.out, trivial⟩
                case measure => simp [intOf]; omega
              · have ix2 := ixn i1'
                rw [d] at ix2
                have j1 : (p1 : Int) < (n : Int) := by omega
                clear ixn d i1'
                clear hp1
                go_wp2_with (first | (go_at_call 49; refine (letter_is _ _ _ HL).mono ?_; rintro e w1 ⟨rfl, rfl⟩; simp only []))
                go_roundw
                case rel => exact ⟨2, i, p1, rfl, rfl, by go_num, RR.out, trivial⟩
                case measure => simp [intOf]; omega
              · have j0 : ¬ (0 : Int) < (i : Int) := by omega
                clear ixn i0
                clear hp1
                go_wp2_with (first | (go_at_call 49; refine (letter_is _ _ _ HL).mono ?_; rintro e w1 ⟨rfl, rfl⟩; simp only []))
                go_ret2
                rw [E.out.1, E.out.2]
                exact ⟨rfl, Below.refl _ _⟩
              · have j0 : (0 : Int) < (i : Int) := by omega
                have j1 : ¬ (p1 : Int) < (n : Int) := by omega
                clear ixn i0 i1'
                clear hp1
                go_wp2_with (first | (go_at_call 49; refine (letter_is _ _ _ HL).mono ?_; rintro e w1 ⟨rfl, rfl⟩; simp only []))
                go_ret2
                rw [E.out.1, E.out.2]
                exact ⟨rfl, Below.refl _ _⟩
              · have j1 : ¬ (p1 : Int) < (n : Int) := by omega
                clear ixn i1'
                clear hp1
                go_wp2_with (first | (go_at_call 49; refine (letter_is _ _ _ HL).mono ?_; rintro e w1 ⟨rfl, rfl⟩; simp only []))
                go_ret2
                rw [E.out.1, E.out.2]
                exact ⟨rfl, Below.refl _ _⟩
              · have ix2 := ixn i1'
                obtain ⟨d, hd⟩ : ∃ d, s.getD p1 0 = d := ⟨_, rfl⟩
                rw [hd] at ix2 d1 d2
                have u1 := byte_ne (z := 115) d1 rfl
                have u2 := byte_ne (z := 122) d2 rfl
                have j1 : (p1 : Int) < (n : Int) := by omega
                clear ixn d1 d2 hd i1'
                clear hp1
                go_wp2_with (first | (go_at_call 49; refine (letter_is _ _ _ HL).mono ?_; rintro e w1 ⟨rfl, rfl⟩; simp only []))
                go_ret2
                rw [E.out.1, E.out.2]
                exact ⟨rfl, Below.refl _ _⟩
              · have u1 := byte_ne (z := 47) c1 rfl
                have u2 := byte_ne (z := 37) c2 rfl
                clear ixn c1 c2
                clear hp1
                go_wp2_with (first | (go_at_call 49; refine (letter_is _ _ _ HL).mono ?_; rintro e w1 ⟨rfl, rfl⟩; simp only []))
                go_ret2
                rw [E.out.1, E.out.2]
                exact ⟨rfl, Below.refl _ _⟩
        · obtain rfl : i = n := by omega
          have hi' : ¬ (i : Int) < (i : Int) := by omega
          have E : Hid (v = (k : Int) ∧ a0 = (a : Int)) := Lib.hid (YES.out k a (by rw [HN.out]; exact S.out) (by
            rcases S.out.ok with e | ⟨e, _⟩
            · exact e
            · have := L.out.1; rw [HN.out] at this; omega))
          clear NO YES S i1 hi
          go_wp2
          go_ret2
          rw [E.out.1, E.out.2]
          exact ⟨rfl, Below.refl _ _⟩
end Go.Proofs.YtdmfgechoanmlaaGreatDoor

namespace Go.Proofs.YtdmfgechoanmlaaGreatDoor
open Go.RowKit
attribute [local go_sem] Oper.semAt_some

theorem rtwo_bytes (W : World) (d e : UInt8) : (convert 181 9 (.slice (some ⟨W.heap.size, 0, none⟩) 2 2)).run Tryz.prog (W.alloc (.cells #[.int .u8 (d.toNat : Int), .int .u8 (e.toNat : Int)] 5)) = .ok (.string ⟨[d, e].toArray⟩) (W.alloc (.cells #[.int .u8 (d.toNat : Int), .int .u8 (e.toNat : Int)] 5)) :=
  ab_str (World.ownsRow_lit W #[.int .u8 (d.toNat : Int), .int .u8 (e.toNat : Int)] 2 (Nat.le_refl _) (by decide) rfl) (by omega)
theorem pair_is (n : Nat) (T : List UInt8) (w : World) (h : Hid (n < 100)) (hT : Hid (two n = T)) :
    Calls Tryz.prog 81 #[.int .i64 (n : Int)] w fun e w' => e = .returned (.string ⟨T.toArray⟩) ∧ Below w.heap.size w w' := by
  obtain ⟨d, e, hde, hd, he⟩ := digs n h.out
  have HT : Hid (T = [d, e]) := Lib.hid (by rw [← hT.out, hde])
  have hn := h.out
  have e0 : (n : Int) / 10 % 10 = (n : Int) / 10 := by omega
  have e1 : 48 + (n : Int) / 10 = (d.toNat : Int) := hd.symm
  have e2 : 48 + (n : Int) % 10 = (e.toNat : Int) := he.symm
  have cv := rtwo_bytes w d e
  clear hd he hde hT
  go_enter Tryz.func81, Tryz.ntmps81
  go_wp2
  go_ret
  rw [HT.out]
  exact ⟨rfl, (Below.refl _ _).alloc (Nat.le_refl _) _⟩

set_option maxHeartbeats 1600000 in
theorem rt_p1 (N H M0 M S Q R : Nat) (w : World) (h : N < 360000) (hH : N / 3600 = H) (hM0 : N % 3600 = M0) (hM : M0 / 60 = M) (hS : N % 60 = S) (hQ : N / 60 = Q) (hR : 60 * M = R) (z : M = 0) (z2 : S = 0) :
    Calls Tryz.prog 61 #[.int .i64 (N : Int)] w fun e w' => e = .returned (.string ⟨(([43] ++ two H)).toArray⟩) ∧ Below w.heap.size w w' := by
  have e1 : (N : Int) / 3600 = (H : Int) := by omega
  have e2 : (N : Int) / 60 = (Q : Int) := by omega
  have e3 : (Q : Int) - 60 * (H : Int) = (M : Int) := by omega
  have e4 : (N : Int) - 3600 * (H : Int) = (M0 : Int) := by omega
  have e5 : 60 * (M : Int) = (R : Int) := by omega
  have e6 : (M0 : Int) - (R : Int) = (S : Int) := by omega
  have t1 : ((M : Int) != 0) = false := by simp; omega
  have t2 : ((S : Int) != 0) = false := by simp; omega
  have HH : Hid (H < 100) := Lib.hid (by omega)
  obtain ⟨TH, hTH⟩ : ∃ T, two H = T := ⟨_, rfl⟩
  have lH : TH.length = 2 := by rw [← hTH]; rfl
  have WH := Lib.hid hTH
  obtain ⟨A0, hA0⟩ : ∃ A, ([43] : List UInt8) ++ TH = A := ⟨_, rfl⟩
  have ad0 := wadd_lists ([43] : List UInt8) TH (by simp) (by omega)
  rw [hA0] at ad0
  have lA0 : A0.length ≤ 3 := by rw [← hA0]; simp; omega
  have F : Hid (([43] ++ two H) = A0) := Lib.hid (by rw [hTH, hA0])
  rw [F.out]
  have hn : ¬ (N : Int) < 0 := by omega
  have bH : H < 100 := by omega
  have b0 : M0 < 3600 := by omega
  have bM : M < 60 := by omega
  have bS : S < 60 := by omega
  have bQ : Q < 6000 := by omega
  have bR : R < 3600 := by omega
  clear hH hM0 hM hS hQ hR z2 F z hTH hA0 lA0
  clear lH
  have K0 : Hid (Below w.heap.size w w) := Lib.hid (Below.refl _ _)
  go_enter Tryz.func61, Tryz.ntmps61
  go_wp2_with (first
    | (go_at_call 81; with_reducible refine (pair_is H _ _ HH WH).mono ?_; rintro e w1 ⟨rfl, k1⟩; simp only []
       have K1 := Lib.hid (K0.out.trans (k1.mono K0.out.size))
       clear k1))
  go_ret
  exact ⟨rfl, K1.out⟩
set_option maxHeartbeats 1600000 in
theorem rt_p2 (N H M0 M S Q R : Nat) (w : World) (h : N < 360000) (hH : N / 3600 = H) (hM0 : N % 3600 = M0) (hM : M0 / 60 = M) (hS : N % 60 = S) (hQ : N / 60 = Q) (hR : 60 * M = R) (z : M ≠ 0) (z2 : S = 0) :
    Calls Tryz.prog 61 #[.int .i64 (N : Int)] w fun e w' => e = .returned (.string ⟨(([43] ++ two H) ++ two M).toArray⟩) ∧ Below w.heap.size w w' := by
  have e1 : (N : Int) / 3600 = (H : Int) := by omega
  have e2 : (N : Int) / 60 = (Q : Int) := by omega
  have e3 : (Q : Int) - 60 * (H : Int) = (M : Int) := by omega
  have e4 : (N : Int) - 3600 * (H : Int) = (M0 : Int) := by omega
  have e5 : 60 * (M : Int) = (R : Int) := by omega
  have e6 : (M0 : Int) - (R : Int) = (S : Int) := by omega
  have t1 : ((M : Int) != 0) = true := by simp; omega
  have t2 : ((S : Int) != 0) = false := by simp; omega
  have HH : Hid (H < 100) := Lib.hid (by omega)
  have HM : Hid (M < 100) := Lib.hid (by omega)
  obtain ⟨TH, hTH⟩ : ∃ T, two H = T := ⟨_, rfl⟩
  have lH : TH.length = 2 := by rw [← hTH]; rfl
  have WH := Lib.hid hTH
  obtain ⟨TM, hTM⟩ : ∃ T, two M = T := ⟨_, rfl⟩
  have lM : TM.length = 2 := by rw [← hTM]; rfl
  have WM := Lib.hid hTM
  obtain ⟨A0, hA0⟩ : ∃ A, ([43] : List UInt8) ++ TH = A := ⟨_, rfl⟩
  have ad0 := wadd_lists ([43] : List UInt8) TH (by simp) (by omega)
  rw [hA0] at ad0
  have lA0 : A0.length ≤ 3 := by rw [← hA0]; simp; omega
  obtain ⟨A1, hA1⟩ : ∃ A, A0 ++ TM = A := ⟨_, rfl⟩
  have ad1 := wadd_lists A0 TM (by omega) (by omega)
  rw [hA1] at ad1
  have lA1 : A1.length ≤ 5 := by rw [← hA1]; simp; omega
  have F : Hid (([43] ++ two H) ++ two M = A1) := Lib.hid (by rw [hTH, hTM, hA0, hA1])
  rw [F.out]
  have hn : ¬ (N : Int) < 0 := by omega
  have bH : H < 100 := by omega
  have b0 : M0 < 3600 := by omega
  have bM : M < 60 := by omega
  have bS : S < 60 := by omega
  have bQ : Q < 6000 := by omega
  have bR : R < 3600 := by omega
  clear hH hM0 hM hS hQ hR z2 F z hTH hTM hA0 lA0 hA1 lA1
  clear lH lM
  have K0 : Hid (Below w.heap.size w w) := Lib.hid (Below.refl _ _)
  go_enter Tryz.func61, Tryz.ntmps61
  go_wp2_with (first
    | (go_at_call 81; with_reducible refine (pair_is H _ _ HH WH).mono ?_; rintro e w1 ⟨rfl, k1⟩; simp only []
       have K1 := Lib.hid (K0.out.trans (k1.mono K0.out.size))
       clear k1)
    | (go_at_call 81; with_reducible refine (pair_is M _ _ HM WM).mono ?_; rintro e w2 ⟨rfl, k2⟩; simp only []
       have K2 := Lib.hid (K1.out.trans (k2.mono K1.out.size))
       clear k2))
  go_ret
  exact ⟨rfl, K2.out⟩
set_option maxHeartbeats 1600000 in
theorem rt_p3 (N H M0 M S Q R : Nat) (w : World) (h : N < 360000) (hH : N / 3600 = H) (hM0 : N % 3600 = M0) (hM : M0 / 60 = M) (hS : N % 60 = S) (hQ : N / 60 = Q) (hR : 60 * M = R) (z2 : S ≠ 0) :
    Calls Tryz.prog 61 #[.int .i64 (N : Int)] w fun e w' => e = .returned (.string ⟨(([43] ++ two H) ++ two M ++ two S).toArray⟩) ∧ Below w.heap.size w w' := by
  have e1 : (N : Int) / 3600 = (H : Int) := by omega
  have e2 : (N : Int) / 60 = (Q : Int) := by omega
  have e3 : (Q : Int) - 60 * (H : Int) = (M : Int) := by omega
  have e4 : (N : Int) - 3600 * (H : Int) = (M0 : Int) := by omega
  have e5 : 60 * (M : Int) = (R : Int) := by omega
  have e6 : (M0 : Int) - (R : Int) = (S : Int) := by omega
  have t2 : ((S : Int) != 0) = true := by simp; omega
  have HH : Hid (H < 100) := Lib.hid (by omega)
  have HM : Hid (M < 100) := Lib.hid (by omega)
  have HS : Hid (S < 100) := Lib.hid (by omega)
  obtain ⟨TH, hTH⟩ : ∃ T, two H = T := ⟨_, rfl⟩
  have lH : TH.length = 2 := by rw [← hTH]; rfl
  have WH := Lib.hid hTH
  obtain ⟨TM, hTM⟩ : ∃ T, two M = T := ⟨_, rfl⟩
  have lM : TM.length = 2 := by rw [← hTM]; rfl
  have WM := Lib.hid hTM
  obtain ⟨TS, hTS⟩ : ∃ T, two S = T := ⟨_, rfl⟩
  have lS : TS.length = 2 := by rw [← hTS]; rfl
  have WS := Lib.hid hTS
  obtain ⟨A0, hA0⟩ : ∃ A, ([43] : List UInt8) ++ TH = A := ⟨_, rfl⟩
  have ad0 := wadd_lists ([43] : List UInt8) TH (by simp) (by omega)
  rw [hA0] at ad0
  have lA0 : A0.length ≤ 3 := by rw [← hA0]; simp; omega
  obtain ⟨A1, hA1⟩ : ∃ A, A0 ++ TM = A := ⟨_, rfl⟩
  have ad1 := wadd_lists A0 TM (by omega) (by omega)
  rw [hA1] at ad1
  have lA1 : A1.length ≤ 5 := by rw [← hA1]; simp; omega
  obtain ⟨A2, hA2⟩ : ∃ A, A1 ++ TS = A := ⟨_, rfl⟩
  have ad2 := wadd_lists A1 TS (by omega) (by omega)
  rw [hA2] at ad2
  have lA2 : A2.length ≤ 7 := by rw [← hA2]; simp; omega
  have F : Hid (([43] ++ two H) ++ two M ++ two S = A2) := Lib.hid (by rw [hTH, hTM, hTS, hA0, hA1, hA2])
  rw [F.out]
  have hn : ¬ (N : Int) < 0 := by omega
  have bH : H < 100 := by omega
  have b0 : M0 < 3600 := by omega
  have bM : M < 60 := by omega
  have bS : S < 60 := by omega
  have bQ : Q < 6000 := by omega
  have bR : R < 3600 := by omega
  clear hH hM0 hM hS hQ hR z2 F hTH hTM hTS hA0 lA0 hA1 lA1 hA2 lA2
  clear lH lM lS
  have K0 : Hid (Below w.heap.size w w) := Lib.hid (Below.refl _ _)
  go_enter Tryz.func61, Tryz.ntmps61
  go_wp2_with (first
    | (go_at_call 81; with_reducible refine (pair_is H _ _ HH WH).mono ?_; rintro e w1 ⟨rfl, k1⟩; simp only []
       have K1 := Lib.hid (K0.out.trans (k1.mono K0.out.size))
       clear k1)
    | (go_at_call 81; with_reducible refine (pair_is M _ _ HM WM).mono ?_; rintro e w2 ⟨rfl, k2⟩; simp only []
       have K2 := Lib.hid (K1.out.trans (k2.mono K1.out.size))
       clear k2)
    | (go_at_call 81; with_reducible refine (pair_is S _ _ HS WS).mono ?_; rintro e w3 ⟨rfl, k3⟩; simp only []
       have K3 := Lib.hid (K2.out.trans (k3.mono K2.out.size))
       clear k3))
  go_ret
  exact ⟨rfl, K3.out⟩
set_option maxHeartbeats 1600000 in
theorem rt_n1 (N H M0 M S Q R : Nat) (w : World) (h : N < 360000) (h0 : 0 < N) (hH : N / 3600 = H) (hM0 : N % 3600 = M0) (hM : M0 / 60 = M) (hS : N % 60 = S) (hQ : N / 60 = Q) (hR : 60 * M = R) (z : M = 0) (z2 : S = 0) :
    Calls Tryz.prog 61 #[.int .i64 (-(N : Int))] w fun e w' => e = .returned (.string ⟨(([45] ++ two H)).toArray⟩) ∧ Below w.heap.size w w' := by
  have e1 : (N : Int) / 3600 = (H : Int) := by omega
  have e2 : (N : Int) / 60 = (Q : Int) := by omega
  have e3 : (Q : Int) - 60 * (H : Int) = (M : Int) := by omega
  have e4 : (N : Int) - 3600 * (H : Int) = (M0 : Int) := by omega
  have e5 : 60 * (M : Int) = (R : Int) := by omega
  have e6 : (M0 : Int) - (R : Int) = (S : Int) := by omega
  have t1 : ((M : Int) != 0) = false := by simp; omega
  have t2 : ((S : Int) != 0) = false := by simp; omega
  have HH : Hid (H < 100) := Lib.hid (by omega)
  obtain ⟨TH, hTH⟩ : ∃ T, two H = T := ⟨_, rfl⟩
  have lH : TH.length = 2 := by rw [← hTH]; rfl
  have WH := Lib.hid hTH
  obtain ⟨A0, hA0⟩ : ∃ A, ([45] : List UInt8) ++ TH = A := ⟨_, rfl⟩
  have ad0 := wadd_lists ([45] : List UInt8) TH (by simp) (by omega)
  rw [hA0] at ad0
  have lA0 : A0.length ≤ 3 := by rw [← hA0]; simp; omega
  have F : Hid (([45] ++ two H) = A0) := Lib.hid (by rw [hTH, hA0])
  rw [F.out]
  have hn : -(N : Int) < 0 := by omega
  have bH : H < 100 := by omega
  have b0 : M0 < 3600 := by omega
  have bM : M < 60 := by omega
  have bS : S < 60 := by omega
  have bQ : Q < 6000 := by omega
  have bR : R < 3600 := by omega
  clear hH hM0 hM hS hQ hR z2 F h0 z hTH hA0 lA0
  clear lH
  have K0 : Hid (Below w.heap.size w w) := Lib.hid (Below.refl _ _)
  go_enter Tryz.func61, Tryz.ntmps61
  go_wp2_with (first
    | (go_at_call 81; with_reducible refine (pair_is H _ _ HH WH).mono ?_; rintro e w1 ⟨rfl, k1⟩; simp only []
       have K1 := Lib.hid (K0.out.trans (k1.mono K0.out.size))
       clear k1))
  go_ret
  exact ⟨rfl, K1.out⟩
set_option maxHeartbeats 1600000 in
theorem rt_n2 (N H M0 M S Q R : Nat) (w : World) (h : N < 360000) (h0 : 0 < N) (hH : N / 3600 = H) (hM0 : N % 3600 = M0) (hM : M0 / 60 = M) (hS : N % 60 = S) (hQ : N / 60 = Q) (hR : 60 * M = R) (z : M ≠ 0) (z2 : S = 0) :
    Calls Tryz.prog 61 #[.int .i64 (-(N : Int))] w fun e w' => e = .returned (.string ⟨(([45] ++ two H) ++ two M).toArray⟩) ∧ Below w.heap.size w w' := by
  have e1 : (N : Int) / 3600 = (H : Int) := by omega
  have e2 : (N : Int) / 60 = (Q : Int) := by omega
  have e3 : (Q : Int) - 60 * (H : Int) = (M : Int) := by omega
  have e4 : (N : Int) - 3600 * (H : Int) = (M0 : Int) := by omega
  have e5 : 60 * (M : Int) = (R : Int) := by omega
  have e6 : (M0 : Int) - (R : Int) = (S : Int) := by omega
  have t1 : ((M : Int) != 0) = true := by simp; omega
  have t2 : ((S : Int) != 0) = false := by simp; omega
  have HH : Hid (H < 100) := Lib.hid (by omega)
  have HM : Hid (M < 100) := Lib.hid (by omega)
  obtain ⟨TH, hTH⟩ : ∃ T, two H = T := ⟨_, rfl⟩
  have lH : TH.length = 2 := by rw [← hTH]; rfl
  have WH := Lib.hid hTH
  obtain ⟨TM, hTM⟩ : ∃ T, two M = T := ⟨_, rfl⟩
  have lM : TM.length = 2 := by rw [← hTM]; rfl
  have WM := Lib.hid hTM
  obtain ⟨A0, hA0⟩ : ∃ A, ([45] : List UInt8) ++ TH = A := ⟨_, rfl⟩
  have ad0 := wadd_lists ([45] : List UInt8) TH (by simp) (by omega)
  rw [hA0] at ad0
  have lA0 : A0.length ≤ 3 := by rw [← hA0]; simp; omega
  obtain ⟨A1, hA1⟩ : ∃ A, A0 ++ TM = A := ⟨_, rfl⟩
  have ad1 := wadd_lists A0 TM (by omega) (by omega)
  rw [hA1] at ad1
  have lA1 : A1.length ≤ 5 := by rw [← hA1]; simp; omega
  have F : Hid (([45] ++ two H) ++ two M = A1) := Lib.hid (by rw [hTH, hTM, hA0, hA1])
  rw [F.out]
  have hn : -(N : Int) < 0 := by omega
  have bH : H < 100 := by omega
  have b0 : M0 < 3600 := by omega
  have bM : M < 60 := by omega
  have bS : S < 60 := by omega
  have bQ : Q < 6000 := by omega
  have bR : R < 3600 := by omega
  clear hH hM0 hM hS hQ hR z2 F h0 z hTH hTM hA0 lA0 hA1 lA1
  clear lH lM
  have K0 : Hid (Below w.heap.size w w) := Lib.hid (Below.refl _ _)
  go_enter Tryz.func61, Tryz.ntmps61
  go_wp2_with (first
    | (go_at_call 81; with_reducible refine (pair_is H _ _ HH WH).mono ?_; rintro e w1 ⟨rfl, k1⟩; simp only []
       have K1 := Lib.hid (K0.out.trans (k1.mono K0.out.size))
       clear k1)
    | (go_at_call 81; with_reducible refine (pair_is M _ _ HM WM).mono ?_; rintro e w2 ⟨rfl, k2⟩; simp only []
       have K2 := Lib.hid (K1.out.trans (k2.mono K1.out.size))
       clear k2))
  go_ret
  exact ⟨rfl, K2.out⟩
set_option maxHeartbeats 1600000 in
theorem rt_n3 (N H M0 M S Q R : Nat) (w : World) (h : N < 360000) (h0 : 0 < N) (hH : N / 3600 = H) (hM0 : N % 3600 = M0) (hM : M0 / 60 = M) (hS : N % 60 = S) (hQ : N / 60 = Q) (hR : 60 * M = R) (z2 : S ≠ 0) :
    Calls Tryz.prog 61 #[.int .i64 (-(N : Int))] w fun e w' => e = .returned (.string ⟨(([45] ++ two H) ++ two M ++ two S).toArray⟩) ∧ Below w.heap.size w w' := by
  have e1 : (N : Int) / 3600 = (H : Int) := by omega
  have e2 : (N : Int) / 60 = (Q : Int) := by omega
  have e3 : (Q : Int) - 60 * (H : Int) = (M : Int) := by omega
  have e4 : (N : Int) - 3600 * (H : Int) = (M0 : Int) := by omega
  have e5 : 60 * (M : Int) = (R : Int) := by omega
  have e6 : (M0 : Int) - (R : Int) = (S : Int) := by omega
  have t2 : ((S : Int) != 0) = true := by simp; omega
  have HH : Hid (H < 100) := Lib.hid (by omega)
  have HM : Hid (M < 100) := Lib.hid (by omega)
  have HS : Hid (S < 100) := Lib.hid (by omega)
  obtain ⟨TH, hTH⟩ : ∃ T, two H = T := ⟨_, rfl⟩
  have lH : TH.length = 2 := by rw [← hTH]; rfl
  have WH := Lib.hid hTH
  obtain ⟨TM, hTM⟩ : ∃ T, two M = T := ⟨_, rfl⟩
  have lM : TM.length = 2 := by rw [← hTM]; rfl
  have WM := Lib.hid hTM
  obtain ⟨TS, hTS⟩ : ∃ T, two S = T := ⟨_, rfl⟩
  have lS : TS.length = 2 := by rw [← hTS]; rfl
  have WS := Lib.hid hTS
  obtain ⟨A0, hA0⟩ : ∃ A, ([45] : List UInt8) ++ TH = A := ⟨_, rfl⟩
  have ad0 := wadd_lists ([45] : List UInt8) TH (by simp) (by omega)
  rw [hA0] at ad0
  have lA0 : A0.length ≤ 3 := by rw [← hA0]; simp; omega
  obtain ⟨A1, hA1⟩ : ∃ A, A0 ++ TM = A := ⟨_, rfl⟩
  have ad1 := wadd_lists A0 TM (by omega) (by omega)
  rw [hA1] at ad1
  have lA1 : A1.length ≤ 5 := by rw [← hA1]; simp; omega
  obtain ⟨A2, hA2⟩ : ∃ A, A1 ++ TS = A := ⟨_, rfl⟩
  have ad2 := wadd_lists A1 TS (by omega) (by omega)
  rw [hA2] at ad2
  have lA2 : A2.length ≤ 7 := by rw [← hA2]; simp; omega
  have F : Hid (([45] ++ two H) ++ two M ++ two S = A2) := Lib.hid (by rw [hTH, hTM, hTS, hA0, hA1, hA2])
  rw [F.out]
  have hn : -(N : Int) < 0 := by omega
  have bH : H < 100 := by omega
  have b0 : M0 < 3600 := by omega
  have bM : M < 60 := by omega
  have bS : S < 60 := by omega
  have bQ : Q < 6000 := by omega
  have bR : R < 3600 := by omega
  clear hH hM0 hM hS hQ hR z2 F h0 hTH hTM hTS hA0 lA0 hA1 lA1 hA2 lA2
  clear lH lM lS
  have K0 : Hid (Below w.heap.size w w) := Lib.hid (Below.refl _ _)
  go_enter Tryz.func61, Tryz.ntmps61
  go_wp2_with (first
    | (go_at_call 81; with_reducible refine (pair_is H _ _ HH WH).mono ?_; rintro e w1 ⟨rfl, k1⟩; simp only []
       have K1 := Lib.hid (K0.out.trans (k1.mono K0.out.size))
       clear k1)
    | (go_at_call 81; with_reducible refine (pair_is M _ _ HM WM).mono ?_; rintro e w2 ⟨rfl, k2⟩; simp only []
       have K2 := Lib.hid (K1.out.trans (k2.mono K1.out.size))
       clear k2)
    | (go_at_call 81; with_reducible refine (pair_is S _ _ HS WS).mono ?_; rintro e w3 ⟨rfl, k3⟩; simp only []
       have K3 := Lib.hid (K2.out.trans (k3.mono K2.out.size))
       clear k3))
  go_ret
  exact ⟨rfl, K3.out⟩
theorem roffset_is (off : Int) (T : List UInt8) (w : World) (h1 : -360000 < off) (h2 : off < 360000) (HT : Hid (ofT off = T)) :
    Calls Tryz.prog 61 #[.int .i64 off] w fun e w' => e = .returned (.string ⟨T.toArray⟩) ∧ Below w.heap.size w w' := by
  rw [← HT.out]
  clear HT
  by_cases h0 : off < 0
  · obtain ⟨N, rfl⟩ : ∃ N : Nat, off = -(N : Int) := ⟨off.natAbs, by omega⟩
    have e : ofT (-(N : Int)) = txO 45 N := by unfold ofT; rw [if_pos h0]; congr 1; omega
    rw [e]
    unfold txO
    by_cases z : N % 3600 = 0
    · have := rt_n1 N _ _ _ _ _ _ w (by omega) (by omega) rfl rfl rfl rfl rfl rfl (by omega) (by omega)
      rw [if_pos z]; simpa using this
    · by_cases z2 : N % 60 = 0
      · have := rt_n2 N _ _ _ _ _ _ w (by omega) (by omega) rfl rfl rfl rfl rfl rfl (by omega) z2
        rw [if_neg z, if_pos z2]; simpa using this
      · have := rt_n3 N _ _ _ _ _ _ w (by omega) (by omega) rfl rfl rfl rfl rfl rfl z2
        rw [if_neg z, if_neg z2]; simpa using this
  · obtain ⟨N, rfl⟩ : ∃ N : Nat, off = (N : Int) := ⟨off.natAbs, by omega⟩
    have e : ofT (N : Int) = txO 43 N := by unfold ofT; rw [if_neg h0]; rfl
    rw [e]
    unfold txO
    by_cases z : N % 3600 = 0
    · have := rt_p1 N _ _ _ _ _ _ w (by omega) rfl rfl rfl rfl rfl rfl (by omega) (by omega)
      rw [if_pos z]; simpa using this
    · by_cases z2 : N % 60 = 0
      · have := rt_p2 N _ _ _ _ _ _ w (by omega) rfl rfl rfl rfl rfl rfl (by omega) z2
        rw [if_neg z, if_pos z2]; simpa using this
      · have := rt_p3 N _ _ _ _ _ _ w (by omega) rfl rfl rfl rfl rfl rfl z2
        rw [if_neg z, if_neg z2]; simpa using this
end Go.Proofs.YtdmfgechoanmlaaGreatDoor

namespace Go.Proofs.YtdmfgechoanmlaaGreatDoor
open Go.RowKit

theorem byte_zq (s : List UInt8) (c : UInt8) (r : List UInt8) (z : Int) (h : s = c :: r) (hz : (c.toNat : Int) = z) (W : World) : (Instr.index 9 (.string ⟨s.toArray⟩) (.int .i64 0)).run Tryz.prog W = .ok (.int .u8 z) W := by
  subst hz
  exact byte_zero s c r h W
theorem rdA_end (u n : Nat) : rdA u n [] = some n := rfl
theorem rdA_step {s : List UInt8} {i u n : Nat} (h : i + 1 < s.length) : rdA u n (s.drop i) = if isD (s.getD i 0) && isD (s.getD (i + 1) 0) then rdA (u / 60) (n + u * (10 * ((s.getD i 0).toNat - 48) + ((s.getD (i + 1) 0).toNat - 48))) (s.drop (i + 2)) else none := by
  rw [List.drop_eq_getElem_cons (show i < s.length by omega), List.drop_eq_getElem_cons h]
  show (if isD s[i] && isD s[i + 1] then rdA (u / 60) (n + u * (10 * (s[i].toNat - 48) + (s[i + 1].toNat - 48))) _ else none) = _
  simp [List.getD, show i < s.length by omega, h]
theorem dig_wrap (b : UInt8) (h : 48 ≤ b.toNat) : IntKind.u8.wrap ((b.toNat : Int) - 48) = ((b.toNat - 48 : Nat) : Int) := by
  have := b.toNat_lt
  simp [IntKind.wrap, IntKind.bits, IntKind.signed]
  omega
/-- What stands at the loop's head. -/
def RpS (i u n : Nat) : Prop := (i = 1 ∧ u = 3600 ∧ n = 0) ∨ (i = 3 ∧ u = 60 ∧ n ≤ 356400) ∨ (i = 5 ∧ u = 1 ∧ n ≤ 362340) ∨ (i = 7 ∧ u = 0 ∧ n ≤ 362439)
/-- Two bytes: digits, or which one is none. -/
theorem dig_ways (a b : UInt8) : (a.toNat < 48 ∧ (isD a && isD b) = false) ∨ (48 ≤ a.toNat ∧ 57 < a.toNat ∧ (isD a && isD b) = false) ∨ (48 ≤ a.toNat ∧ a.toNat ≤ 57 ∧ b.toNat < 48 ∧ (isD a && isD b) = false) ∨ (48 ≤ a.toNat ∧ a.toNat ≤ 57 ∧ 48 ≤ b.toNat ∧ 57 < b.toNat ∧ (isD a && isD b) = false) ∨ (48 ≤ a.toNat ∧ a.toNat ≤ 57 ∧ 48 ≤ b.toNat ∧ b.toNat ≤ 57 ∧ (isD a && isD b) = true) := by
  unfold isD
  have ha : a.toNat < 48 ∨ (48 ≤ a.toNat ∧ 57 < a.toNat) ∨ (48 ≤ a.toNat ∧ a.toNat ≤ 57) := by omega
  have hb : b.toNat < 48 ∨ (48 ≤ b.toNat ∧ 57 < b.toNat) ∨ (48 ≤ b.toNat ∧ b.toNat ≤ 57) := by omega
  rcases ha with h | ⟨h, h2⟩ | ⟨h, h2⟩
  · left; simp; omega
  · right; left; simp; omega
  · rcases hb with k | ⟨k, k2⟩ | ⟨k, k2⟩
    · right; right; left; simp; omega
    · right; right; right; left; simp; omega
    · right; right; right; right; simp; omega
theorem byte_nez {c d : UInt8} {z : Int} (h : c ≠ d) (hz : (d.toNat : Int) = z) : ((c.toNat : Int) != z) = true := by
  subst hz
  rw [bne_iff_ne]
  intro e
  exact h (UInt8.toNat_inj.1 (by omega))
/-- What the answer's last test comes to. -/
def RpE (s : List UInt8) (x v : Int) (b : Bool) : Prop := v = x ∧ (((x ≤ -360000) ∧ b = false) ∨ (-360000 < x ∧ 360000 ≤ x ∧ b = false) ∨ (-360000 < x ∧ x < 360000 ∧ ((b = true ∧ ofT x = s) ∨ (b = false ∧ ∃ T, ofT x = T ∧ T ≠ s))))
theorem rpE_of (s : List UInt8) (x : Int) : RpE s x x (decide (-360000 < x ∧ x < 360000 ∧ ofT x = s)) := by
  refine ⟨rfl, ?_⟩
  by_cases h1 : x ≤ -360000
  · exact .inl ⟨h1, by rw [decide_eq_false]; omega⟩
  · by_cases h2 : 360000 ≤ x
    · exact .inr (.inl ⟨by omega, h2, by rw [decide_eq_false]; omega⟩)
    · refine .inr (.inr ⟨by omega, by omega, ?_⟩)
      by_cases h3 : ofT x = s
      · exact .inl ⟨by rw [decide_eq_true]; exact ⟨by omega, by omega, h3⟩, h3⟩
      · exact .inr ⟨by rw [decide_eq_false]; rintro ⟨-, -, h⟩; exact h3 h, _, rfl, h3⟩
end Go.Proofs.YtdmfgechoanmlaaGreatDoor

namespace Go.Proofs.YtdmfgechoanmlaaGreatDoor
open Go.RowKit

/-- A format's parts, as they are cut at the mark's place. -/
theorem rp_cut {f : List UInt8} {k : Nat} (h : kdK f = some k) (h1 : 1 ≤ k) : ∃ p a b : Nat, (ahd f).length = p ∧ p + (mkB k).length ≤ f.length ∧ f.take p = ahd f ∧ f.drop (p + (mkB k).length) = bhd k f ∧ p ≤ 64 ∧ abAtV f = (p : Int) ∧ a = p ∧ b = p := by
  obtain ⟨k3, l64, -, la, -, -⟩ := fm_parts h
  unfold kdK at h
  by_cases hf : fmOk f = true
  · have hk := h
    rw [if_pos hf] at h
    rcases kdF_shape h with ⟨rfl, _⟩ | ⟨-, -, c, -⟩
    · omega
    · refine ⟨_, _, _, rfl, ?_, ?_, rfl, la, ?_, rfl, rfl⟩
      · have := congrArg List.length c; simp at this; omega
      · conv => lhs; arg 2; rw [c]
        rw [List.append_assoc, List.take_left]
      · unfold abAtV kdK
        rw [hk]
        cases k with
        | zero => omega
        | succ k => rfl
  · rw [if_neg hf] at h; cases h

set_option maxHeartbeats 1600000 in
theorem rsh_none (f l : List UInt8) (off : Int) (dst : Bool) (w : World) (hk : kdK f = none) (HF : Hid (f.length ≤ 1000)) :
    Calls Tryz.prog 35 #[.string ⟨f.toArray⟩, .int .i64 off, .bool dst, .string ⟨l.toArray⟩] w fun e w' => e = .returned (.tuple #[.string ⟨[].toArray⟩, .bool false]) ∧ Below w.heap.size w w' := by
  have HK : Hid (kdR f = -1 ∧ abAtV f = 0) := Lib.hid (by unfold kdR abAtV; rw [hk]; exact ⟨rfl, rfl⟩)
  clear hk
  go_enter Tryz.func35, Tryz.ntmps35
  go_wp2_with (first | (go_at_call 28; refine (rkind_is f _ _ _ HF.out HK).mono ?_; rintro e w1 ⟨rfl, k1⟩; simp only []; have K1 := Lib.hid k1; clear k1 HK))
  go_ret2
  exact ⟨rfl, K1.out⟩
set_option maxHeartbeats 1600000 in
theorem rsh_plain (f l : List UInt8) (off : Int) (dst : Bool) (w : World) (hk : kdK f = some 0) (HF : Hid (f.length ≤ 1000)) :
    Calls Tryz.prog 35 #[.string ⟨f.toArray⟩, .int .i64 off, .bool dst, .string ⟨l.toArray⟩] w fun e w' => e = .returned (.tuple #[.string ⟨f.toArray⟩, .bool true]) ∧ Below w.heap.size w w' := by
  have HK : Hid (kdR f = 0 ∧ abAtV f = 0) := Lib.hid (by unfold kdR abAtV; rw [hk]; exact ⟨rfl, rfl⟩)
  clear hk
  go_enter Tryz.func35, Tryz.ntmps35
  go_wp2_with (first | (go_at_call 28; refine (rkind_is f _ _ _ HF.out HK).mono ?_; rintro e w1 ⟨rfl, k1⟩; simp only []; have K1 := Lib.hid k1; clear k1 HK))
  go_ret2
  exact ⟨rfl, K1.out⟩
theorem vadd_long (x y : List UInt8) (h : x.length + y.length ≤ 9223372036854775807) (W : World) : (Op.stringOp .add ⟨x.toArray⟩ ⟨y.toArray⟩).run Tryz.prog W = .ok (.string ⟨(x ++ y).toArray⟩) W := by
  rw [run_string_add_sum W _ _ (by simp [ByteArray.size]; omega), ByteArray.mk_append_mk]
set_option maxHeartbeats 1600000 in
theorem rsh_letter (f l : List UInt8) (off : Int) (dst : Bool) (w : World) (hk : kdK f = some 1) (hl : l.length ≤ 1000000000000000) (HF : Hid (f.length ≤ 1000)) :
    Calls Tryz.prog 35 #[.string ⟨f.toArray⟩, .int .i64 off, .bool dst, .string ⟨l.toArray⟩] w fun e w' => e = .returned (.tuple #[.string ⟨(ahd f ++ l ++ bhd 1 f).toArray⟩, .bool true]) ∧ Below w.heap.size w w' := by
  have hR : kdR f = 1 := by unfold kdR; rw [hk]; rfl
  obtain ⟨-, -, -, la, lb, -⟩ := fm_parts hk
  obtain ⟨p, -, -, hp, hle, ht, hd, hp64, hat, -, -⟩ := rp_cut hk (by omega)
  have HK : Hid (kdR f = 1 ∧ abAtV f = (p : Int)) := Lib.hid ⟨hR, hat⟩
  obtain ⟨a, ha⟩ : ∃ a, ahd f = a := ⟨_, rfl⟩
  obtain ⟨b, hb⟩ : ∃ b, bhd 1 f = b := ⟨_, rfl⟩
  rw [ha] at la ht
  rw [hb] at lb hd
  have hm : (mkB 1).length = 2 := rfl
  rw [hm] at hle hd
  obtain ⟨q, hq⟩ : ∃ q, p + 2 = q := ⟨_, rfl⟩
  rw [hq] at hle hd
  have eq1 : (p : Int) + 2 = (q : Int) := by omega
  have wq : IntKind.i64.wrap ((p : Int) + 2) = (q : Int) := by rw [wrap_small _ (by omega) (by omega)]; omega
  have q66 : q ≤ 66 := by omega
  have s1 := wsub_run f p a ht (by omega)
  have s2 := drop_run f b q (q : Int) rfl hd hle
  obtain ⟨t, ht1⟩ : ∃ t, a ++ l = t := ⟨_, rfl⟩
  obtain ⟨u, hu1⟩ : ∃ u, t ++ b = u := ⟨_, rfl⟩
  have ad1 := vadd_long a l (by omega)
  rw [ht1] at ad1
  have ad2 := vadd_long t b (by rw [← ht1]; simp; omega)
  rw [hu1] at ad2
  rw [ha, hb, ht1, hu1]
  clear hk hR hp hle ht hd hat ha hb hm hq ht1 hu1
  go_enter Tryz.func35, Tryz.ntmps35
  go_wp2_with (first | (go_at_call 28; refine (rkind_is f _ _ _ HF.out HK).mono ?_; rintro e w1 ⟨rfl, k1⟩; simp only []; have K1 := Lib.hid k1; clear k1 HK))
  go_quiet (fail)
  go_wp2
  go_ret2
  exact ⟨rfl, bdrews K1.out _⟩
set_option maxHeartbeats 1600000 in
theorem rsh_far (f l : List UInt8) (off : Int) (dst : Bool) (w : World) (hk : kdK f = some 2) (ho : off ≤ -360000 ∨ 360000 ≤ off) (HF : Hid (f.length ≤ 1000)) :
    Calls Tryz.prog 35 #[.string ⟨f.toArray⟩, .int .i64 off, .bool dst, .string ⟨l.toArray⟩] w fun e w' => e = .returned (.tuple #[.string ⟨[].toArray⟩, .bool false]) ∧ Below w.heap.size w w' := by
  have hR : kdR f = 2 := by unfold kdR; rw [hk]; rfl
  obtain ⟨-, -, -, la, lb, -⟩ := fm_parts hk
  obtain ⟨p, -, -, hp, hle, ht, hd, hp64, hat, -, -⟩ := rp_cut hk (by omega)
  have HK : Hid (kdR f = 2 ∧ abAtV f = (p : Int)) := Lib.hid ⟨hR, hat⟩
  obtain ⟨a, ha⟩ : ∃ a, ahd f = a := ⟨_, rfl⟩
  obtain ⟨b, hb⟩ : ∃ b, bhd 2 f = b := ⟨_, rfl⟩
  rw [ha] at la ht
  rw [hb] at lb hd
  have hm : (mkB 2).length = 2 := rfl
  rw [hm] at hle hd
  obtain ⟨q, hq⟩ : ∃ q, p + 2 = q := ⟨_, rfl⟩
  rw [hq] at hle hd
  have eq1 : (p : Int) + 2 = (q : Int) := by omega
  have wq : IntKind.i64.wrap ((p : Int) + 2) = (q : Int) := by rw [wrap_small _ (by omega) (by omega)]; omega
  have q66 : q ≤ 66 := by omega
  have s1 := wsub_run f p a ht (by omega)
  have s2 := drop_run f b q (q : Int) rfl hd hle
  clear hk hR hp hle ht hd hat ha hb hm hq
  have V : off ≤ -360000 ∨ (¬ off ≤ -360000 ∧ 360000 ≤ off) := by omega
  clear ho
  rcases V with V | ⟨V, V2⟩
  all_goals go_enter Tryz.func35, Tryz.ntmps35
  all_goals go_wp2_with (first | (go_at_call 28; refine (rkind_is f _ _ _ HF.out HK).mono ?_; rintro e w1 ⟨rfl, k1⟩; simp only []; have K1 := Lib.hid k1; clear k1 HK))
  all_goals go_ret2
  all_goals exact ⟨rfl, K1.out⟩
set_option maxHeartbeats 1600000 in
theorem rsh_number (f l : List UInt8) (off : Int) (dst : Bool) (w : World) (hk : kdK f = some 2) (ho : ¬ (off ≤ -360000 ∨ 360000 ≤ off)) (HF : Hid (f.length ≤ 1000)) :
    Calls Tryz.prog 35 #[.string ⟨f.toArray⟩, .int .i64 off, .bool dst, .string ⟨l.toArray⟩] w fun e w' => e = .returned (.tuple #[.string ⟨(ahd f ++ ofT off ++ bhd 2 f).toArray⟩, .bool true]) ∧ Below w.heap.size w w' := by
  have hR : kdR f = 2 := by unfold kdR; rw [hk]; rfl
  obtain ⟨-, -, -, la, lb, -⟩ := fm_parts hk
  obtain ⟨p, -, -, hp, hle, ht, hd, hp64, hat, -, -⟩ := rp_cut hk (by omega)
  have HK : Hid (kdR f = 2 ∧ abAtV f = (p : Int)) := Lib.hid ⟨hR, hat⟩
  obtain ⟨a, ha⟩ : ∃ a, ahd f = a := ⟨_, rfl⟩
  obtain ⟨b, hb⟩ : ∃ b, bhd 2 f = b := ⟨_, rfl⟩
  rw [ha] at la ht
  rw [hb] at lb hd
  have hm : (mkB 2).length = 2 := rfl
  rw [hm] at hle hd
  obtain ⟨q, hq⟩ : ∃ q, p + 2 = q := ⟨_, rfl⟩
  rw [hq] at hle hd
  have eq1 : (p : Int) + 2 = (q : Int) := by omega
  have wq : IntKind.i64.wrap ((p : Int) + 2) = (q : Int) := by rw [wrap_small _ (by omega) (by omega)]; omega
  have q66 : q ≤ 66 := by omega
  have s1 := wsub_run f p a ht (by omega)
  have s2 := drop_run f b q (q : Int) rfl hd hle
  have lT := ofT_le off
  obtain ⟨T, hT⟩ : ∃ T, ofT off = T := ⟨_, rfl⟩
  rw [hT] at lT
  have WT := Lib.hid hT
  have BD : Hid (-360000 < off ∧ off < 360000) := Lib.hid (by omega)
  obtain ⟨t, ht1⟩ : ∃ t, a ++ T = t := ⟨_, rfl⟩
  obtain ⟨u, hu1⟩ : ∃ u, t ++ b = u := ⟨_, rfl⟩
  have ad1 := wadd_lists a T (by omega) (by omega)
  rw [ht1] at ad1
  have ad2 := wadd_lists t b (by rw [← ht1]; simp; omega) (by omega)
  rw [hu1] at ad2
  have h1 : ¬ off ≤ -360000 := by omega
  have h2 : ¬ 360000 ≤ off := by omega
  rw [ha, hb, hT, ht1, hu1]
  clear hk hR hp hle ht hd hat ha hb hm hq ht1 hu1 hT ho eq1
  go_enter Tryz.func35, Tryz.ntmps35
  go_wp2_with (first | (go_at_call 28; refine (rkind_is f _ _ _ HF.out HK).mono ?_; rintro e w1 ⟨rfl, k1⟩; simp only []; have K1 := Lib.hid k1; clear k1 HK))
  go_region_held3 (fun _ => True) (exact trivial) (first | (go_at_call 61; refine (roffset_is off _ _ BD.out.1 BD.out.2 WT).mono ?_; rintro e w3 ⟨rfl, k3⟩; simp only []))
  go_wp2
  go_ret2
  exact ⟨rfl, K1.out.drew.trans (k3.mono K1.out.drew.size)⟩
set_option maxHeartbeats 1600000 in
theorem rsh_slash (f l : List UInt8) (off : Int) (dst : Bool) (w : World) (hk : kdK f = some 3) (HF : Hid (f.length ≤ 1000)) :
    Calls Tryz.prog 35 #[.string ⟨f.toArray⟩, .int .i64 off, .bool dst, .string ⟨l.toArray⟩] w fun e w' => e = .returned (.tuple #[.string ⟨(if dst then bhd 3 f else ahd f).toArray⟩, .bool true]) ∧ Below w.heap.size w w' := by
  have hR : kdR f = 3 := by unfold kdR; rw [hk]; rfl
  obtain ⟨-, -, -, la, lb, -⟩ := fm_parts hk
  obtain ⟨p, -, -, hp, hle, ht, hd, hp64, hat, -, -⟩ := rp_cut hk (by omega)
  have HK : Hid (kdR f = 3 ∧ abAtV f = (p : Int)) := Lib.hid ⟨hR, hat⟩
  obtain ⟨a, ha⟩ : ∃ a, ahd f = a := ⟨_, rfl⟩
  obtain ⟨b, hb⟩ : ∃ b, bhd 3 f = b := ⟨_, rfl⟩
  rw [ha] at la ht
  rw [hb] at lb hd
  have hm : (mkB 3).length = 1 := rfl
  rw [hm] at hle hd
  obtain ⟨q, hq⟩ : ∃ q, p + 1 = q := ⟨_, rfl⟩
  rw [hq] at hle hd
  have eq1 : (p : Int) + 1 = (q : Int) := by omega
  have wq : IntKind.i64.wrap ((p : Int) + 1) = (q : Int) := by rw [wrap_small _ (by omega) (by omega)]; omega
  have q66 : q ≤ 66 := by omega
  have s1 := wsub_run f p a ht (by omega)
  have s2 := drop_run f b q (q : Int) rfl hd hle
  rw [ha, hb]
  clear hk hR hp hle ht hd hat ha hb hm hq
  cases dst
  all_goals go_enter Tryz.func35, Tryz.ntmps35
  all_goals go_wp2_with (first | (go_at_call 28; refine (rkind_is f _ _ _ HF.out HK).mono ?_; rintro e w1 ⟨rfl, k1⟩; simp only []; have K1 := Lib.hid k1; clear k1 HK))
  all_goals go_ret2
  all_goals exact ⟨rfl, K1.out⟩
theorem rshow_is (f l T : List UInt8) (off : Int) (dst b : Bool) (w : World) (HF : Hid (f.length ≤ 1000 ∧ l.length ≤ 1000000000000000)) (HV : Hid (shS f off dst l = T ∧ decide (shE f off = 0) = b)) :
    Calls Tryz.prog 35 #[.string ⟨f.toArray⟩, .int .i64 off, .bool dst, .string ⟨l.toArray⟩] w fun e w' => e = .returned (.tuple #[.string ⟨T.toArray⟩, .bool b]) ∧ Below w.heap.size w w' := by
  obtain ⟨rfl, rfl⟩ := HV.out
  unfold shS shE
  have HF1 := Lib.hid HF.out.1
  cases hk : kdK f with
  | none => exact rsh_none f l off dst w hk HF1
  | some k =>
    have h3 := (fm_parts hk).1
    obtain rfl | rfl | rfl | rfl : k = 0 ∨ k = 1 ∨ k = 2 ∨ k = 3 := by omega
    · exact rsh_plain f l off dst w hk HF1
    · exact rsh_letter f l off dst w hk HF.out.2 HF1
    · by_cases ho : off ≤ -360000 ∨ 360000 ≤ off
      · have := rsh_far f l off dst w hk ho HF1
        simp only [if_pos ho, ofE]; exact this
      · have := rsh_number f l off dst w hk ho HF1
        simp only [if_neg ho, ofE]; exact this
    · exact rsh_slash f l off dst w hk HF1
end Go.Proofs.YtdmfgechoanmlaaGreatDoor
