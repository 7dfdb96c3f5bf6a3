/- The walk of ClockLetters: it returns true, for every text; nothing that was in memory changes. The tables read as they are laid. -/
import Derived.Test.YtjafbopmedbhcaaDoorAwkC
namespace Go.Proofs.YtjafbopmedbhcaaDoor
open Go.RowKit

theorem pcs_all (s : List UInt8) : ∀ (k : Nat) (cur : List UInt8), okP (ix k (pcs cur s)) = true → ∀ b ∈ s, b = 58 ∨ isDig b = true := by
  induction s with
  | nil => intro k cur _ b hb; simp at hb
  | cons c r ih =>
    intro k cur h b hb
    by_cases hc : c = 58
    · have e : pcs cur (c :: r) = cur :: pcs [] r := by
        show (if c = 58 then cur :: pcs [] r else pcs (cur ++ [c]) r) = _
        rw [if_pos hc]
      rw [e] at h
      simp only [ix, okP, List.all_cons, Bool.and_eq_true] at h
      rcases List.mem_cons.1 hb with rfl | hb
      · exact .inl hc
      · exact ih _ _ h.2 b hb
    · have e : pcs cur (c :: r) = pcs (cur ++ [c]) r := by
        show (if c = 58 then cur :: pcs [] r else pcs (cur ++ [c]) r) = _
        rw [if_neg hc]
      rw [e] at h
      rcases List.mem_cons.1 hb with rfl | hb
      · right
        rw [pcs_cut] at h
        simp only [ix, okP, List.all_cons, Bool.and_eq_true, fldOk, decide_eq_true_eq, allDig, List.all_append] at h
        exact h.1.2.2.2.1.1.2.1
      · exact ih _ _ h b hb

theorem span_bytes {s : List UInt8} (h : spanE s = 0) : ∀ b ∈ s, b = 45 ∨ b = 58 ∨ isDig b = true := by
  intro b hb
  by_cases h0 : s = [45]
  · subst h0; left; simpa using hb
  · have hr : readOk (Lib.trimPrefix s [45]) = true := by
      cases hr : readOk (Lib.trimPrefix s [45]) with
      | true => rfl
      | false => rw [(span_form h0 hr).2] at h; cases h
    unfold Lib.trimPrefix at hr
    split at hr
    · rename_i hp
      cases s with
      | nil => simp at hb
      | cons c r =>
        rw [hasPre] at hp
        have hc : c = 45 := by simpa using hp
        rcases List.mem_cons.1 hb with rfl | hb
        · exact .inl hc
        · exact .inr (pcs_all r 0 [] hr b hb)
    · exact .inr (pcs_all s 0 [] hr b hb)

/-- A text that is a span ends with no letter of a kind. -/
theorem span_kJ {s : List UInt8} (h : spanE s = 0) : kJ s = 5 := by
  have all := span_bytes h
  have no : ∀ c : UInt8, c ≠ 45 → c ≠ 58 → isDig c = false → s.getLast? ≠ some c := by
    intro c h1 h2 h3 e
    rcases all c (List.mem_of_getLast? e) with h | h | h
    · exact h1 h
    · exact h2 h
    · rw [h3] at h; cases h
  unfold kJ
  rw [if_neg (no 119 (by decide) (by decide) (by decide)), if_neg (no 115 (by decide) (by decide) (by decide)), if_neg (no 117 (by decide) (by decide) (by decide)), if_neg (no 103 (by decide) (by decide) (by decide)), if_neg (no 122 (by decide) (by decide) (by decide))]
theorem span_par {s : List UInt8} (h : spanE s = 0) : parN s = spanN s ∧ parK s = 0 ∧ parE s = 0 := by
  have j := span_kJ h
  have e1 : kS s = s := by rw [kS, j]; rfl
  have e2 : kN s = 0 := by rw [kN, j]; rfl
  rw [parN, parK, parE, e1, e2, h]; exact ⟨rfl, rfl, rfl⟩

theorem par_of {s t : List UInt8} {k : Int} (h1 : kS t = s) (h2 : kN t = k) : parN t = (if spanE s = 0 then spanN s else 0) ∧ parK t = (if spanE s = 0 then k else 0) ∧ parE t = spanE s := by
  rw [parN, parK, parE, h1, h2]; exact ⟨rfl, rfl, rfl⟩
theorem kJ_snoc0 (s : List UInt8) : kS (s ++ [119]) = s ∧ kN (s ++ [119]) = 0 := by
  have j : kJ (s ++ [119]) = 0 := by unfold kJ; rw [List.getLast?_concat]; rfl
  rw [kS, kN, j]; exact ⟨by simp, rfl⟩
theorem let_sl0 (W : World) : (Instr.slice 9 (.string ⟨#[119, 115, 117, 103, 122]⟩) (some (.int .i64 0)) (some (.int .i64 1)) none).run Tryd.prog W = .ok (.string ⟨#[119]⟩) W := by kernel_rfl
theorem kJ_snoc1 (s : List UInt8) : kS (s ++ [115]) = s ∧ kN (s ++ [115]) = 1 := by
  have j : kJ (s ++ [115]) = 1 := by unfold kJ; rw [List.getLast?_concat]; rfl
  rw [kS, kN, j]; exact ⟨by simp, rfl⟩
theorem let_sl1 (W : World) : (Instr.slice 9 (.string ⟨#[119, 115, 117, 103, 122]⟩) (some (.int .i64 1)) (some (.int .i64 2)) none).run Tryd.prog W = .ok (.string ⟨#[115]⟩) W := by kernel_rfl
theorem kJ_snoc2 (s : List UInt8) : kS (s ++ [117]) = s ∧ kN (s ++ [117]) = 2 := by
  have j : kJ (s ++ [117]) = 2 := by unfold kJ; rw [List.getLast?_concat]; rfl
  rw [kS, kN, j]; exact ⟨by simp, rfl⟩
theorem let_sl2 (W : World) : (Instr.slice 9 (.string ⟨#[119, 115, 117, 103, 122]⟩) (some (.int .i64 2)) (some (.int .i64 3)) none).run Tryd.prog W = .ok (.string ⟨#[117]⟩) W := by kernel_rfl
theorem kJ_snoc3 (s : List UInt8) : kS (s ++ [103]) = s ∧ kN (s ++ [103]) = 2 := by
  have j : kJ (s ++ [103]) = 3 := by unfold kJ; rw [List.getLast?_concat]; rfl
  rw [kS, kN, j]; exact ⟨by simp, rfl⟩
theorem let_sl3 (W : World) : (Instr.slice 9 (.string ⟨#[119, 115, 117, 103, 122]⟩) (some (.int .i64 3)) (some (.int .i64 4)) none).run Tryd.prog W = .ok (.string ⟨#[103]⟩) W := by kernel_rfl
theorem kJ_snoc4 (s : List UInt8) : kS (s ++ [122]) = s ∧ kN (s ++ [122]) = 2 := by
  have j : kJ (s ++ [122]) = 4 := by unfold kJ; rw [List.getLast?_concat]; rfl
  rw [kS, kN, j]; exact ⟨by simp, rfl⟩
theorem let_sl4 (W : World) : (Instr.slice 9 (.string ⟨#[119, 115, 117, 103, 122]⟩) (some (.int .i64 4)) (some (.int .i64 5)) none).run Tryd.prog W = .ok (.string ⟨#[122]⟩) W := by kernel_rfl

theorem parse_ok (t : List UInt8) (n k : Int) (w : World) (hs : t.length ≤ 1000) (H : Laid3 w) (h : Hid (parN t = n ∧ parK t = k ∧ parE t = 0)) :
    Calls Tryd.prog 22 #[.string ⟨t.toArray⟩] w fun e w' => e = .returned (.tuple #[.agg #[.int .i64 n, .int .i64 k], .int .i64 0]) ∧ Below w.heap.size w w' := by
  have := parse_any t w hs H.mx H.fld H.let_
  rwa [h.out.1, h.out.2.1, h.out.2.2] at this
theorem parse_er (t : List UInt8) (x : Int) (w : World) (hs : t.length ≤ 1000) (H : Laid3 w) (h : Hid (parN t = 0 ∧ parK t = 0 ∧ parE t = x)) :
    Calls Tryd.prog 22 #[.string ⟨t.toArray⟩] w fun e w' => e = .returned (.tuple #[.agg #[.int .i64 0, .int .i64 0], .int .i64 x]) ∧ Below w.heap.size w w' := by
  have := parse_any t w hs H.mx H.fld H.let_
  rwa [h.out.1, h.out.2.1, h.out.2.2] at this
theorem span_is (s : List UInt8) (n x : Int) (w : World) (hs : s.length ≤ 1000) (H : Laid3 w) (h : Hid (spanN s = n ∧ spanE s = x)) :
    Calls Tryd.prog 19 #[.string ⟨s.toArray⟩] w fun e w' => e = .returned (.tuple #[.int .i64 n, .int .i64 x]) ∧ Below w.heap.size w w' := by
  have := span_any s w hs H.mx H.fld
  rwa [h.out.1, h.out.2] at this

theorem letters_long (s : List UInt8) (w : World) (H : Laid3 w) (hs : 40 < s.length) :
    Calls Tryd.prog 7 #[.string ⟨s.toArray⟩] w fun e w' => e = .returned (.bool true) ∧ Below w.heap.size w w' := by
  have HL := Lib.hid H
  have hz : (⟨s.toArray⟩ : ByteArray).size = s.length := by simp [ByteArray.size]
  clear H
  go_enter Tryd.func7, Tryd.ntmps7
  go_wp2_with (go_at_call 16; refine (awake_yes _ HL.out).mono ?_; rintro e w3 ⟨rfl, k3⟩; simp only [])
  go_ret
  exact ⟨rfl, k3⟩

set_option maxRecDepth 100000 in
set_option maxHeartbeats 1600000 in
theorem letters_ok (s : List UInt8) (n : Int) (w : World) (H : Laid3 w) (hs : s.length ≤ 40) (h : Hid (spanN s = n ∧ spanE s = 0)) :
    Calls Tryd.prog 7 #[.string ⟨s.toArray⟩] w fun e w' => e = .returned (.bool true) ∧ Below w.heap.size w w' := by
  have HL := Lib.hid H
  have hz : (⟨s.toArray⟩ : ByteArray).size = s.length := by simp [ByteArray.size]
  have P := span_par h.out.2
  rw [h.out.1] at P
  have HP := Lib.hid P
  clear H P
  go_enter Tryd.func7, Tryd.ntmps7
  go_wp2_with (first
    | (go_at_call 19; refine (span_is s n 0 _ (by omega) HL.out h).mono ?_; rintro e w1 ⟨rfl, k1⟩; simp only []))
  have K1 := Lib.hid k1
  have HL1 := Lib.hid (HL.out.next k1)
  clear k1
  go_loopw [5] (fun vi w' => ∃ i : Nat, vi = .int .i64 i ∧ i ≤ 5 ∧ Below w1.heap.size w1 w') (fun vi _ => 5 - (intOf vi).toNat)
  case atStart => exact ⟨0, rfl, by omega, Below.refl _ _⟩
  case round =>
    obtain ⟨i, rfl, hi, hB⟩ := hrel
    have HB := Lib.hid hB
    have HR := Lib.hid (HL1.out.next hB)
    clear hB
    have hi6 : i = 0 ∨ i = 1 ∨ i = 2 ∨ i = 3 ∨ i = 4 ∨ i = 5 := by omega
    rcases hi6 with rfl | rfl | rfl | rfl | rfl | rfl
    · have hsl := let_sl0
      have hadd := add_lists s [119] (by omega) (by simp)
      have PQ := par_of (s := s) (kJ_snoc0 s).1 (kJ_snoc0 s).2
      rw [h.out.1, h.out.2, if_pos rfl, if_pos rfl] at PQ
      have HQ := Lib.hid PQ
      clear PQ
      go_wp2_with (first
        | (go_at_call 22; refine (parse_ok (s ++ [119]) n 0 _ (by simp; omega) HR.out HQ).mono ?_; rintro e w2 ⟨rfl, k2⟩; simp only []
           have K2 := Lib.hid (HB.out.trans (k2.mono HB.out.size))
           clear k2))
      go_roundw
      case rel => exact ⟨1, rfl, by omega, (K2.out.alloc K2.out.size _).alloc (by have := K2.out.size; simp; omega) _⟩
      case measure => simp [intOf]
    · have hsl := let_sl1
      have hadd := add_lists s [115] (by omega) (by simp)
      have PQ := par_of (s := s) (kJ_snoc1 s).1 (kJ_snoc1 s).2
      rw [h.out.1, h.out.2, if_pos rfl, if_pos rfl] at PQ
      have HQ := Lib.hid PQ
      clear PQ
      go_wp2_with (first
        | (go_at_call 22; refine (parse_ok (s ++ [115]) n 1 _ (by simp; omega) HR.out HQ).mono ?_; rintro e w2 ⟨rfl, k2⟩; simp only []
           have K2 := Lib.hid (HB.out.trans (k2.mono HB.out.size))
           clear k2))
      go_roundw
      case rel => exact ⟨2, rfl, by omega, (K2.out.alloc K2.out.size _).alloc (by have := K2.out.size; simp; omega) _⟩
      case measure => simp [intOf]
    · have hsl := let_sl2
      have hadd := add_lists s [117] (by omega) (by simp)
      have PQ := par_of (s := s) (kJ_snoc2 s).1 (kJ_snoc2 s).2
      rw [h.out.1, h.out.2, if_pos rfl, if_pos rfl] at PQ
      have HQ := Lib.hid PQ
      clear PQ
      go_wp2_with (first
        | (go_at_call 22; refine (parse_ok (s ++ [117]) n 2 _ (by simp; omega) HR.out HQ).mono ?_; rintro e w2 ⟨rfl, k2⟩; simp only []
           have K2 := Lib.hid (HB.out.trans (k2.mono HB.out.size))
           clear k2))
      go_roundw
      case rel => exact ⟨3, rfl, by omega, (K2.out.alloc K2.out.size _).alloc (by have := K2.out.size; simp; omega) _⟩
      case measure => simp [intOf]
    · have hsl := let_sl3
      have hadd := add_lists s [103] (by omega) (by simp)
      have PQ := par_of (s := s) (kJ_snoc3 s).1 (kJ_snoc3 s).2
      rw [h.out.1, h.out.2, if_pos rfl, if_pos rfl] at PQ
      have HQ := Lib.hid PQ
      clear PQ
      go_wp2_with (first
        | (go_at_call 22; refine (parse_ok (s ++ [103]) n 2 _ (by simp; omega) HR.out HQ).mono ?_; rintro e w2 ⟨rfl, k2⟩; simp only []
           have K2 := Lib.hid (HB.out.trans (k2.mono HB.out.size))
           clear k2))
      go_roundw
      case rel => exact ⟨4, rfl, by omega, (K2.out.alloc K2.out.size _).alloc (by have := K2.out.size; simp; omega) _⟩
      case measure => simp [intOf]
    · have hsl := let_sl4
      have hadd := add_lists s [122] (by omega) (by simp)
      have PQ := par_of (s := s) (kJ_snoc4 s).1 (kJ_snoc4 s).2
      rw [h.out.1, h.out.2, if_pos rfl, if_pos rfl] at PQ
      have HQ := Lib.hid PQ
      clear PQ
      go_wp2_with (first
        | (go_at_call 22; refine (parse_ok (s ++ [122]) n 2 _ (by simp; omega) HR.out HQ).mono ?_; rintro e w2 ⟨rfl, k2⟩; simp only []
           have K2 := Lib.hid (HB.out.trans (k2.mono HB.out.size))
           clear k2))
      go_roundw
      case rel => exact ⟨5, rfl, by omega, (K2.out.alloc K2.out.size _).alloc (by have := K2.out.size; simp; omega) _⟩
      case measure => simp [intOf]
    · clear HL HL1
      go_wp2_with (first
        | (go_at_call 22; refine (parse_ok s n 0 _ (by omega) HR.out HP).mono ?_; rintro e w2 ⟨rfl, k2⟩; simp only []
           have K2 := Lib.hid (HB.out.trans (k2.mono HB.out.size))
           have HR2 := Lib.hid ((HR.out.next k2).next ((Below.refl _ _).alloc (Nat.le_refl _) (.cells #[.int .i64 n, .int .i64 0] 44)))
           clear k2)
        | (go_at_call 16; refine (awake_yes _ HR2.out).mono ?_; rintro e w3 ⟨rfl, k3⟩; simp only []))
      go_ret
      have := K2.out.size
      have := K1.out.size
      exact ⟨rfl, (K1.out.trans (K2.out.mono (by omega))).trans (((Below.refl _ _).alloc (by omega) _).trans (k3.mono (by simp; omega)))⟩

set_option maxRecDepth 100000 in
set_option maxHeartbeats 1600000 in
theorem letters_bad (s : List UInt8) (n x : Int) (w : World) (H : Laid3 w) (hs : s.length ≤ 40) (h : Hid (spanN s = n ∧ spanE s = x)) (hx : x ≠ 0) :
    Calls Tryd.prog 7 #[.string ⟨s.toArray⟩] w fun e w' => e = .returned (.bool true) ∧ Below w.heap.size w w' := by
  have HL := Lib.hid H
  have hz : (⟨s.toArray⟩ : ByteArray).size = s.length := by simp [ByteArray.size]
  clear H
  go_enter Tryd.func7, Tryd.ntmps7
  go_wp2_with (first
    | (go_at_call 19; refine (span_is s n x _ (by omega) HL.out h).mono ?_; rintro e w1 ⟨rfl, k1⟩; simp only []))
  have K1 := Lib.hid k1
  have HL1 := Lib.hid (HL.out.next k1)
  clear k1
  go_loopw [5] (fun vi w' => ∃ i : Nat, vi = .int .i64 i ∧ i ≤ 5 ∧ Below w1.heap.size w1 w') (fun vi _ => 5 - (intOf vi).toNat)
  case atStart => exact ⟨0, rfl, by omega, Below.refl _ _⟩
  case round =>
    obtain ⟨i, rfl, hi, hB⟩ := hrel
    have HB := Lib.hid hB
    have HR := Lib.hid (HL1.out.next hB)
    clear hB
    have hi6 : i = 0 ∨ i = 1 ∨ i = 2 ∨ i = 3 ∨ i = 4 ∨ i = 5 := by omega
    rcases hi6 with rfl | rfl | rfl | rfl | rfl | rfl
    · have hsl := let_sl0
      have hadd := add_lists s [119] (by omega) (by simp)
      have PQ := par_of (s := s) (kJ_snoc0 s).1 (kJ_snoc0 s).2
      rw [h.out.2, if_neg hx, if_neg hx] at PQ
      have HQ := Lib.hid PQ
      clear PQ
      go_wp2_with (first
        | (go_at_call 22; refine (parse_er (s ++ [119]) x _ (by simp; omega) HR.out HQ).mono ?_; rintro e w2 ⟨rfl, k2⟩; simp only []
           have K2 := Lib.hid (HB.out.trans (k2.mono HB.out.size))
           clear k2))
      go_roundw
      case rel => exact ⟨1, rfl, by omega, (K2.out.alloc K2.out.size _).alloc (by have := K2.out.size; simp; omega) _⟩
      case measure => simp [intOf]
    · have hsl := let_sl1
      have hadd := add_lists s [115] (by omega) (by simp)
      have PQ := par_of (s := s) (kJ_snoc1 s).1 (kJ_snoc1 s).2
      rw [h.out.2, if_neg hx, if_neg hx] at PQ
      have HQ := Lib.hid PQ
      clear PQ
      go_wp2_with (first
        | (go_at_call 22; refine (parse_er (s ++ [115]) x _ (by simp; omega) HR.out HQ).mono ?_; rintro e w2 ⟨rfl, k2⟩; simp only []
           have K2 := Lib.hid (HB.out.trans (k2.mono HB.out.size))
           clear k2))
      go_roundw
      case rel => exact ⟨2, rfl, by omega, (K2.out.alloc K2.out.size _).alloc (by have := K2.out.size; simp; omega) _⟩
      case measure => simp [intOf]
    · have hsl := let_sl2
      have hadd := add_lists s [117] (by omega) (by simp)
      have PQ := par_of (s := s) (kJ_snoc2 s).1 (kJ_snoc2 s).2
      rw [h.out.2, if_neg hx, if_neg hx] at PQ
      have HQ := Lib.hid PQ
      clear PQ
      go_wp2_with (first
        | (go_at_call 22; refine (parse_er (s ++ [117]) x _ (by simp; omega) HR.out HQ).mono ?_; rintro e w2 ⟨rfl, k2⟩; simp only []
           have K2 := Lib.hid (HB.out.trans (k2.mono HB.out.size))
           clear k2))
      go_roundw
      case rel => exact ⟨3, rfl, by omega, (K2.out.alloc K2.out.size _).alloc (by have := K2.out.size; simp; omega) _⟩
      case measure => simp [intOf]
    · have hsl := let_sl3
      have hadd := add_lists s [103] (by omega) (by simp)
      have PQ := par_of (s := s) (kJ_snoc3 s).1 (kJ_snoc3 s).2
      rw [h.out.2, if_neg hx, if_neg hx] at PQ
      have HQ := Lib.hid PQ
      clear PQ
      go_wp2_with (first
        | (go_at_call 22; refine (parse_er (s ++ [103]) x _ (by simp; omega) HR.out HQ).mono ?_; rintro e w2 ⟨rfl, k2⟩; simp only []
           have K2 := Lib.hid (HB.out.trans (k2.mono HB.out.size))
           clear k2))
      go_roundw
      case rel => exact ⟨4, rfl, by omega, (K2.out.alloc K2.out.size _).alloc (by have := K2.out.size; simp; omega) _⟩
      case measure => simp [intOf]
    · have hsl := let_sl4
      have hadd := add_lists s [122] (by omega) (by simp)
      have PQ := par_of (s := s) (kJ_snoc4 s).1 (kJ_snoc4 s).2
      rw [h.out.2, if_neg hx, if_neg hx] at PQ
      have HQ := Lib.hid PQ
      clear PQ
      go_wp2_with (first
        | (go_at_call 22; refine (parse_er (s ++ [122]) x _ (by simp; omega) HR.out HQ).mono ?_; rintro e w2 ⟨rfl, k2⟩; simp only []
           have K2 := Lib.hid (HB.out.trans (k2.mono HB.out.size))
           clear k2))
      go_roundw
      case rel => exact ⟨5, rfl, by omega, (K2.out.alloc K2.out.size _).alloc (by have := K2.out.size; simp; omega) _⟩
      case measure => simp [intOf]
    · clear HL HL1
      go_wp2_with (first
        | (go_at_call 22; refine (parse_any s _ (by omega) HR.out.mx HR.out.fld HR.out.let_).mono ?_; rintro e w2 ⟨rfl, k2⟩; simp only []
           have K2 := Lib.hid (HB.out.trans (k2.mono HB.out.size))
           have HR2 := Lib.hid ((HR.out.next k2).next ((Below.refl _ _).alloc (Nat.le_refl _) (.cells #[.int .i64 (parN s), .int .i64 (parK s)] 44)))
           clear k2)
        | (go_at_call 16; refine (awake_yes _ HR2.out).mono ?_; rintro e w3 ⟨rfl, k3⟩; simp only []))
      go_ret
      have := K2.out.size
      have := K1.out.size
      exact ⟨rfl, (K1.out.trans (K2.out.mono (by omega))).trans (((Below.refl _ _).alloc (by omega) _).trans (k3.mono (by simp; omega)))⟩

theorem clockLetters_walk (s : ByteArray) (w : World) (H : Laid3 w) (_ : s.size ≤ maxLen) :
    Calls Tryd.prog 7 #[.string s] w fun e w' => e = .returned (.bool true) ∧ Below w.heap.size w w' := by
  obtain ⟨l, rfl⟩ : ∃ l : List UInt8, s = ⟨l.toArray⟩ := ⟨s.data.toList, by simp⟩
  by_cases hs : l.length ≤ 40
  · by_cases hx : spanE l = 0
    · exact letters_ok l _ w H hs (Lib.hid ⟨rfl, hx⟩)
    · exact letters_bad l _ _ w H hs (Lib.hid ⟨rfl, rfl⟩) hx
  · exact letters_long l w H (by omega)
end Go.Proofs.YtjafbopmedbhcaaDoor
