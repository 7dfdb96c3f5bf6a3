/- The contracts of the document's answer's letter, Kind, pair and Offset; nothing that was in memory changes. -/
import Derived.Test.YtcfmmllegaddhaaDoorAbH
namespace Go.Proofs.YtcfmmllegaddhaaDoor
open Go.RowKit
attribute [local go_sem] Oper.semAt_some

set_option maxHeartbeats 1600000 in
theorem letter_is (c : UInt8) (v : Bool) (w : World) (hv : Hid (abL c = v)) :
    Calls Tryd.prog 22 #[.int .u8 (c.toNat : Int)] w fun e w' => e = .returned (.bool v) ∧ w' = w := by
  obtain rfl := hv.out
  clear hv
  rcases abclass c with h | h | h | h | h | h | h | h | h | h | h
  all_goals first | have e : Hid (abL c = true) := Lib.hid (by simp [abL]; omega) | have e : Hid (abL c = false) := Lib.hid (by simp [abL]; omega)
  all_goals first | have t0 : (65 : Int) ≤ (c.toNat : Int) := by omega | have t0 : ¬ (65 : Int) ≤ (c.toNat : Int) := by omega
  all_goals first | have t1 : (c.toNat : Int) ≤ 90 := by omega | have t1 : ¬ (c.toNat : Int) ≤ 90 := by omega
  all_goals first | have t2 : (97 : Int) ≤ (c.toNat : Int) := by omega | have t2 : ¬ (97 : Int) ≤ (c.toNat : Int) := by omega
  all_goals first | have t3 : (c.toNat : Int) ≤ 122 := by omega | have t3 : ¬ (c.toNat : Int) ≤ 122 := by omega
  all_goals first | have t4 : (48 : Int) ≤ (c.toNat : Int) := by omega | have t4 : ¬ (48 : Int) ≤ (c.toNat : Int) := by omega
  all_goals first | have t5 : (c.toNat : Int) ≤ 57 := by omega | have t5 : ¬ (c.toNat : Int) ≤ 57 := by omega
  all_goals first | have t6 : ((c.toNat : Int) == 43) = false := by simp; omega | have t6 : ((c.toNat : Int) == 43) = true := by simp; omega
  all_goals first | have t7 : ((c.toNat : Int) == 45) = false := by simp; omega | have t7 : ((c.toNat : Int) == 45) = true := by simp; omega
  all_goals clear h
  all_goals go_enter Tryd.func22, Tryd.ntmps22
  all_goals go_wp2
  all_goals go_ret
  all_goals rw [e.out]
  all_goals exact ⟨rfl, rfl⟩

/-- Where a format's mark stands. -/
def atV (s : List UInt8) : Int := match kdK s with | some 0 => 0 | some _ => ((ahd s).length : Int) | none => 0
theorem ahd_len {s : List UInt8} {i : Nat} {c : UInt8} {r : List UInt8} (ha : (s.take i).all abL = true) (hd : s.drop i = c :: r) (hc : abL c = false) : (ahd s).length = i := by
  have hi : i < s.length := by
    rcases Nat.lt_or_ge i s.length with h | h
    · exact h
    · rw [List.drop_eq_nil_of_le h] at hd; cases hd
  have e : s = s.take i ++ c :: r := by rw [← hd, List.take_append_drop]
  unfold ahd
  rw [e, List.takeWhile_append_of_pos (fun a h => List.all_eq_true.1 ha a h)]
  simp [List.takeWhile, hc]
  omega
theorem drop_cons {s : List UInt8} {i : Nat} (h : i < s.length) : s.drop i = s.getD i 0 :: s.drop (i + 1) := by
  rw [List.drop_eq_getElem_cons h]; simp [List.getD, h]
/-- What is known at the loop's head. -/
structure RkS (s : List UInt8) (i k a : Nat) : Prop where
  k3 : k ≤ 3
  i1 : i ≤ s.length
  ok : fmOk s = true ∨ (i = 0 ∧ k = 0)
  kd : fmOk s = true → kdK s = kdF k (s.drop i)
  at0 : k = 0 → (s.take i).all abL = true ∧ a = 0
  at1 : k ≠ 0 → a = (ahd s).length
theorem fm_of {s : List UInt8} (h0 : 0 < s.length) (h64 : s.length ≤ 64) (h : s.getD 0 0 ≠ 47) : fmOk s = true := by
  cases s with
  | nil => simp at h0
  | cons c r =>
    unfold fmOk
    simp at h h64 ⊢
    exact ⟨h64, h⟩
theorem fm_no {s : List UInt8} (h0 : 0 < s.length) (h : s.getD 0 0 = 47) : fmOk s = false := by
  cases s with
  | nil => simp at h0
  | cons c r =>
    unfold fmOk
    simp at h
    simp [h]
theorem kd_no {s : List UInt8} (h : fmOk s = false) : kdK s = none := by unfold kdK; rw [h]; rfl
/-- A round, by what stands there. -/
theorem rk_round {s : List UInt8} {i k a : Nat} (h : RkS s i k a) (h64 : s.length ≤ 64) (hi : i < s.length) :
    (abL (s.getD i 0) = true ∧ RkS s (i + 1) k a) ∨ (abL (s.getD i 0) = false ∧
      ((k ≠ 0 ∧ kdK s = none) ∨ (k = 0 ∧ ((s.getD i 0 = 47 ∧ 0 < i ∧ i + 1 < s.length ∧ RkS s (i + 1) 3 i) ∨ (s.getD i 0 = 37 ∧ i + 1 < s.length ∧ s.getD (i + 1) 0 = 115 ∧ RkS s (i + 1) 1 i) ∨ (s.getD i 0 = 37 ∧ i + 1 < s.length ∧ s.getD (i + 1) 0 = 122 ∧ RkS s (i + 1) 2 i) ∨
        (s.getD i 0 = 47 ∧ i = 0 ∧ kdK s = none) ∨ (s.getD i 0 = 47 ∧ 0 < i ∧ ¬ i + 1 < s.length ∧ kdK s = none) ∨ (s.getD i 0 = 37 ∧ ¬ i + 1 < s.length ∧ kdK s = none) ∨ (s.getD i 0 = 37 ∧ i + 1 < s.length ∧ s.getD (i + 1) 0 ≠ 115 ∧ s.getD (i + 1) 0 ≠ 122 ∧ kdK s = none) ∨ (s.getD i 0 ≠ 47 ∧ s.getD i 0 ≠ 37 ∧ kdK s = none))))) := by
  have hd := drop_cons hi
  obtain ⟨c, hc⟩ : ∃ c, s.getD i 0 = c := ⟨_, rfl⟩
  rw [hc] at hd ⊢
  have fo : ¬ (i = 0 ∧ c = 47) → fmOk s = true := by
    intro n
    rcases h.ok with e | ⟨rfl, _⟩
    · exact e
    · exact fm_of (by omega) h64 (by rw [hc]; exact fun e => n ⟨rfl, e⟩)
  have tk : s.take (i + 1) = s.take i ++ [c] := by rw [List.take_succ_eq_append_getElem hi]; congr 2; rw [← hc]; simp [List.getD, hi]
  by_cases hl : abL c = true
  · refine .inl ⟨hl, h.k3, by omega, .inl (fo ?_), fun f => ?_, fun k0 => ?_, h.at1⟩
    · rintro ⟨-, rfl⟩; rw [abL_47] at hl; cases hl
    · rw [h.kd f, hd]; conv => lhs; unfold kdF
      rw [if_pos hl]
    · obtain ⟨e1, e2⟩ := h.at0 k0
      exact ⟨by rw [tk, List.all_append, e1]; simp [hl], e2⟩
  · have hl' : abL c = false := by simpa using hl
    refine .inr ⟨hl', ?_⟩
    by_cases k0 : k = 0
    · refine .inr ⟨k0, ?_⟩
      subst k0
      obtain ⟨e1, e2⟩ := h.at0 rfl
      have al := ahd_len e1 hd hl'
      have nx : ∀ m, 1 ≤ m → m ≤ 3 → fmOk s = true → pcM (c :: s.drop (i + 1)) = m → ¬ (c = 47 ∧ s.drop (i + 1) = []) → RkS s (i + 1) m i := fun m m1 m3 f p q => by
        refine ⟨m3, by omega, .inl f, fun f => ?_, fun e => by omega, fun _ => al.symm⟩
        rw [h.kd f, hd]; conv => lhs; unfold kdF
        rw [if_neg hl, if_neg (by simp), p, if_neg]
        rintro (e | e)
        · omega
        · exact q e
      have no : fmOk s = true → pcM (c :: s.drop (i + 1)) = 0 ∨ (c = 47 ∧ s.drop (i + 1) = []) → kdK s = none := fun f p => by
        rw [h.kd f, hd]; unfold kdF
        rw [if_neg hl, if_neg (by simp), if_pos p]
      by_cases c47 : c = 47
      · subst c47
        by_cases i0 : 0 < i
        · by_cases i1 : i + 1 < s.length
          · have hd2 := drop_cons i1
            exact .inl ⟨rfl, i0, i1, nx 3 (by omega) (by omega) (fo (by omega)) (by simp [pcM, List.isPrefixOf]) (by rw [hd2]; simp)⟩
          · exact .inr (.inr (.inr (.inr (.inl ⟨rfl, i0, i1, no (fo (by omega)) (.inr ⟨rfl, List.drop_eq_nil_of_le (by omega)⟩)⟩))))
        · exact .inr (.inr (.inr (.inl ⟨rfl, by omega, kd_no (fm_no (by omega) (by rw [show (0 : Nat) = i by omega]; exact hc))⟩)))
      · have f := fo (fun e => c47 e.2)
        by_cases c37 : c = 37
        · subst c37
          by_cases i1 : i + 1 < s.length
          · have hd2 := drop_cons i1
            obtain ⟨d, hd'⟩ : ∃ d, s.getD (i + 1) 0 = d := ⟨_, rfl⟩
            rw [hd'] at hd2 ⊢
            by_cases d1 : d = 115
            · subst d1
              exact .inr (.inl ⟨rfl, i1, rfl, nx 1 (by omega) (by omega) f (by rw [hd2]; simp [pcM, List.isPrefixOf]) (fun e => c47 e.1)⟩)
            · by_cases d2 : d = 122
              · subst d2
                exact .inr (.inr (.inl ⟨rfl, i1, rfl, nx 2 (by omega) (by omega) f (by rw [hd2]; simp [pcM, List.isPrefixOf]) (fun e => c47 e.1)⟩))
              · refine .inr (.inr (.inr (.inr (.inr (.inr (.inl ⟨rfl, i1, d1, d2, no f (.inl ?_)⟩))))))
                have n1 : ¬ (115 : UInt8) = d := fun e => d1 e.symm
                have n2 : ¬ (122 : UInt8) = d := fun e => d2 e.symm
                rw [hd2]
                simp [pcM, List.isPrefixOf, n1, n2]
          · refine .inr (.inr (.inr (.inr (.inr (.inl ⟨rfl, i1, no f (.inl ?_)⟩)))))
            rw [List.drop_eq_nil_of_le (by omega)]
            decide
        · refine .inr (.inr (.inr (.inr (.inr (.inr (.inr ⟨c47, c37, no f (.inl ?_)⟩))))))
          have n1 : ¬ (37 : UInt8) = c := fun e => c37 e.symm
          have n2 : ¬ (47 : UInt8) = c := fun e => c47 e.symm
          simp [pcM, List.isPrefixOf, n1, n2]
    · refine .inl ⟨k0, ?_⟩
      have f : fmOk s = true := by
        rcases h.ok with e | ⟨_, e⟩
        · exact e
        · exact absurd e k0
      rw [h.kd f, hd]; unfold kdF
      rw [if_neg hl, if_pos k0]
theorem byte_ne {c d : UInt8} {z : Int} (h : c ≠ d) (hz : (d.toNat : Int) = z) : ((c.toNat : Int) == z) = false := by
  subst hz
  rw [beq_eq_false_iff_ne]
  intro e
  exact h (UInt8.toNat_inj.1 (by omega))
set_option maxHeartbeats 6400000 in
theorem rkind_is (s : List UInt8) (v a0 : Int) (w : World) (hs : s.length ≤ 1000) (HV : Hid (kdR s = v ∧ atV s = a0)) :
    Calls Tryd.prog 12 #[.string ⟨s.toArray⟩] w fun e w' => e = .returned (.tuple #[.int .i64 v, .int .i64 a0]) ∧ Below w.heap.size w w' := by
  have NO : Hid (kdK s = none → v = -1 ∧ a0 = 0) := Lib.hid fun h => by rw [← HV.out.1, ← HV.out.2]; unfold kdR atV; rw [h]; exact ⟨rfl, rfl⟩
  have YES : Hid (∀ k a : Nat, RkS s s.length k a → fmOk s = true → v = (k : Int) ∧ a0 = (a : Int)) := Lib.hid fun k a h f => by
    have e := h.kd f
    rw [List.drop_length] at e
    have e : kdK s = some k := e
    rw [← HV.out.1, ← HV.out.2]; unfold kdR atV; rw [e]
    refine ⟨rfl, ?_⟩
    cases k with
    | zero => rw [(h.at0 rfl).2]; rfl
    | succ k => rw [h.at1 (by omega)]; rfl
  clear HV
  by_cases h0 : s.length = 0
  · have E := Lib.hid (NO.out (kd_no (by unfold fmOk; rw [List.length_eq_zero_iff.1 h0]; rfl)))
    have t0 : ((s.length : Int) == 0) = true := by simpa using List.length_eq_zero_iff.1 h0
    clear NO YES hs
    go_enter Tryd.func12, Tryd.ntmps12
    go_wp2
    go_ret2
    rw [E.out.1, E.out.2]
    exact ⟨rfl, Below.refl _ _⟩
  · have t0 : ((s.length : Int) == 0) = false := by simp; intro e; exact h0 (by simp [e])
    by_cases h1 : 64 < s.length
    · have E := Lib.hid (NO.out (kd_no (by unfold fmOk; simp; omega)))
      have t1 : (64 : Int) < (s.length : Int) := by omega
      clear NO YES hs h0
      go_enter Tryd.func12, Tryd.ntmps12
      go_wp2
      go_ret2
      rw [E.out.1, E.out.2]
      exact ⟨rfl, Below.refl _ _⟩
    · have t1 : ¬ (64 : Int) < (s.length : Int) := by omega
      have L := Lib.hid (And.intro (show 0 < s.length by omega) (show s.length ≤ 64 by omega))
      have S0 : Hid (RkS s 0 0 0) := Lib.hid ⟨by omega, by omega, .inr ⟨rfl, rfl⟩, fun f => by unfold kdK; rw [f]; rfl, fun _ => ⟨rfl, rfl⟩, fun h => absurd rfl h⟩
      obtain ⟨n, hn⟩ : ∃ n, s.length = n := ⟨_, rfl⟩
      have HN := Lib.hid hn
      have hz := wsize s
      rw [hn] at t0 t1 hz
      clear hs h0 h1 hn
      go_enter Tryd.func12, Tryd.ntmps12
      go_wp2
      go_loopw [4, 5, 6] (fun vk va vi wr => ∃ k a i : Nat, vk = .int .i64 (k : Int) ∧ va = .int .i64 (a : Int) ∧ vi = .int .i64 (i : Int) ∧ RkS s i k a ∧ wr = w) (fun _ _ vi _ => (n - intOf vi).toNat)
      case atStart => exact ⟨0, 0, 0, rfl, rfl, rfl, S0.out, rfl⟩
      case round =>
        obtain ⟨k, a, i, rfl, rfl, rfl, hS, rfl⟩ := hrel
        have S := Lib.hid hS
        have i1 := hS.i1
        rw [HN.out] at i1
        clear S0 hS
        by_cases hi : i < n
        · have hi' : (i : Int) < (n : Int) := by omega
          have i64 : n ≤ 64 := by rw [← HN.out]; exact L.out.2
          have R := rk_round S.out L.out.2 (by rw [HN.out]; exact hi)
          have ix := wbyte_at s i (by rw [HN.out]; exact hi) _ rfl
          obtain ⟨c, hc⟩ : ∃ c, s.getD i 0 = c := ⟨_, rfl⟩
          rw [hc] at R ix
          obtain ⟨p1, hp1⟩ : ∃ p, i + 1 = p := ⟨_, rfl⟩
          have ep : (i : Int) + 1 = (p1 : Int) := by omega
          rw [HN.out, hp1] at R
          have ixn : p1 < n → ∀ W, (Instr.index 9 (.string ⟨s.toArray⟩) (.int .i64 (p1 : Int))).run Tryd.prog W = .ok (.int .u8 ((s.getD p1 0).toNat : Int)) W := fun h => wbyte_at s p1 (by rw [HN.out]; exact h) _ rfl
          have HP := Lib.hid (And.intro hc hp1)
          clear S hc
          rcases R with ⟨hl, R⟩ | ⟨hl, R⟩
          · have HL := Lib.hid hl
            have RR := Lib.hid R
            clear ixn hl R
            go_wp2_with (first | (go_at_call 22; refine (letter_is c _ _ HL).mono ?_; rintro e w1 ⟨rfl, rfl⟩; simp only []))
            go_roundw
            case rel => exact ⟨k, a, p1, rfl, rfl, by go_num, RR.out, trivial⟩
            case measure => simp [intOf]; omega
          · have HL := Lib.hid hl
            clear hl
            rcases R with ⟨k0, R⟩ | ⟨rfl, R⟩
            · have E := Lib.hid (NO.out R)
              have t2 : ((k : Int) != 0) = true := by simpa using k0
              clear ixn R k0
              go_wp2_with (first | (go_at_call 22; refine (letter_is c _ _ HL).mono ?_; rintro e w1 ⟨rfl, rfl⟩; simp only []))
              go_ret2
              rw [E.out.1, E.out.2]
              exact ⟨rfl, Below.refl _ _⟩

            · rcases R with ⟨rfl, i0, i1', R⟩ | ⟨rfl, i1', d, R⟩ | ⟨rfl, i1', d, R⟩ | ⟨rfl, i0, R⟩ | ⟨rfl, i0, i1', R⟩ | ⟨rfl, i1', R⟩ | ⟨rfl, i1', d1, d2, R⟩ | ⟨c1, c2, R⟩
              all_goals first | have RR := Lib.hid R | skip
              all_goals first | have E := Lib.hid (NO.out R) | skip
              all_goals clear R
              · have j0 : (0 : Int) < (i : Int) := by omega
                have j1 : (p1 : Int) < (n : Int) := by omega
                clear ixn i0 i1'
                clear hp1
                go_wp2_with (first | (go_at_call 22; refine (letter_is _ _ _ HL).mono ?_; rintro e w1 ⟨rfl, rfl⟩; simp only []))
                go_roundw
                case rel => exact ⟨3, i, p1, rfl, rfl, by go_num, RR.out, trivial⟩
                case measure => simp [intOf]; omega
              · have ix2 := ixn i1'
                rw [d] at ix2
                have j1 : (p1 : Int) < (n : Int) := by omega
                clear ixn d i1'
                clear hp1
                go_wp2_with (first | (go_at_call 22; refine (letter_is _ _ _ HL).mono ?_; rintro e w1 ⟨rfl, rfl⟩; simp only []))
                go_roundw
                case rel => exact ⟨1, i, p1, rfl, rfl, by go_num, RR.out, trivial⟩
                case measure => simp [intOf]; omega
              · have ix2 := ixn i1'
                rw [d] at ix2
                have j1 : (p1 : Int) < (n : Int) := by omega
                clear ixn d i1'
                clear hp1
                go_wp2_with (first | (go_at_call 22; refine (letter_is _ _ _ HL).mono ?_; rintro e w1 ⟨rfl, rfl⟩; simp only []))
                go_roundw
                case rel => exact ⟨2, i, p1, rfl, rfl, by go_num, RR.out, trivial⟩
                case measure => simp [intOf]; omega
              · have j0 : ¬ (0 : Int) < (i : Int) := by omega
                clear ixn i0
                clear hp1
                go_wp2_with (first | (go_at_call 22; refine (letter_is _ _ _ HL).mono ?_; rintro e w1 ⟨rfl, rfl⟩; simp only []))
                go_ret2
                rw [E.out.1, E.out.2]
                exact ⟨rfl, Below.refl _ _⟩
              · have j0 : (0 : Int) < (i : Int) := by omega
                have j1 : ¬ (p1 : Int) < (n : Int) := by omega
                clear ixn i0 i1'
                clear hp1
                go_wp2_with (first | (go_at_call 22; refine (letter_is _ _ _ HL).mono ?_; rintro e w1 ⟨rfl, rfl⟩; simp only []))
                go_ret2
                rw [E.out.1, E.out.2]
                exact ⟨rfl, Below.refl _ _⟩
              · have j1 : ¬ (p1 : Int) < (n : Int) := by omega
                clear ixn i1'
                clear hp1
                go_wp2_with (first | (go_at_call 22; refine (letter_is _ _ _ HL).mono ?_; rintro e w1 ⟨rfl, rfl⟩; simp only []))
                go_ret2
                rw [E.out.1, E.out.2]
                exact ⟨rfl, Below.refl _ _⟩
              · have ix2 := ixn i1'
                obtain ⟨d, hd⟩ : ∃ d, s.getD p1 0 = d := ⟨_, rfl⟩
                rw [hd] at ix2 d1 d2
                have u1 := byte_ne (z := 115) d1 rfl
                have u2 := byte_ne (z := 122) d2 rfl
                have j1 : (p1 : Int) < (n : Int) := by omega
                clear ixn d1 d2 hd i1'
                clear hp1
                go_wp2_with (first | (go_at_call 22; refine (letter_is _ _ _ HL).mono ?_; rintro e w1 ⟨rfl, rfl⟩; simp only []))
                go_ret2
                rw [E.out.1, E.out.2]
                exact ⟨rfl, Below.refl _ _⟩
              · have u1 := byte_ne (z := 47) c1 rfl
                have u2 := byte_ne (z := 37) c2 rfl
                clear ixn c1 c2
                clear hp1
                go_wp2_with (first | (go_at_call 22; refine (letter_is _ _ _ HL).mono ?_; rintro e w1 ⟨rfl, rfl⟩; simp only []))
                go_ret2
                rw [E.out.1, E.out.2]
                exact ⟨rfl, Below.refl _ _⟩
        · obtain rfl : i = n := by omega
          have hi' : ¬ (i : Int) < (i : Int) := by omega
          have E : Hid (v = (k : Int) ∧ a0 = (a : Int)) := Lib.hid (YES.out k a (by rw [HN.out]; exact S.out) (by
            rcases S.out.ok with e | ⟨e, _⟩
            · exact e
            · have := L.out.1; rw [HN.out] at this; omega))
          clear NO YES S i1 hi
          go_wp2
          go_ret2
          rw [E.out.1, E.out.2]
          exact ⟨rfl, Below.refl _ _⟩
end Go.Proofs.YtcfmmllegaddhaaDoor
