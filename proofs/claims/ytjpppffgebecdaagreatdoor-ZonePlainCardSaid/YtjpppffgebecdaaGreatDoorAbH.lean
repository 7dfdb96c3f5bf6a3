/- The contract of abbr.Show: how a time is called, or what is wrong; the law's own examples; nothing that was in memory changes. -/
import Derived.Shelf.Strings.Cut
import Derived.Test.YtjpppffgebecdaaGreatDoorAbS
namespace Go.Proofs.YtjpppffgebecdaaGreatDoor
open Go.RowKit

theorem cut_is (s m a b : List UInt8) (ok : Bool) (w : World) (hs : s.length ≤ 1000) (hm : MaxB w) (hc : Hid (Lib.cut s m = (a, b, ok))) :
    Calls Tryz.prog 48 #[.string ⟨s.toArray⟩, .string ⟨m.toArray⟩] w fun e w' => e = .returned (.tuple #[.string ⟨a.toArray⟩, .string ⟨b.toArray⟩, .bool ok]) ∧ Below w.heap.size w w' := by
  obtain ⟨x, hm⟩ := hm
  refine (Tryz.strings_Cut ⟨s.toArray⟩ ⟨m.toArray⟩ x w (by rw [wsize]; omega) hm).mono fun e w' ⟨h1, n, h2⟩ => ⟨?_, ?_⟩
  · rw [h1]
    show Ending.returned (.tuple #[.string ⟨(Lib.cut s m).1.toArray⟩, .string ⟨(Lib.cut s m).2.1.toArray⟩, .bool (Lib.cut s m).2.2]) = _
    rw [hc.out]
  · rw [h2]; exact bdrews (Below.refl _ _) n
/-- A format's parts. -/
theorem fm_parts {f : List UInt8} {k : Nat} (h : kdK f = some k) : k ≤ 3 ∧ f.length ≤ 64 ∧ 0 < f.length ∧ (ahd f).length ≤ 64 ∧ (bhd k f).length ≤ 64 ∧ (k = 0 ∨ Lib.cut f (mkB k) = (ahd f, bhd k f, true)) := by
  unfold kdK at h
  by_cases hf : fmOk f = true
  · rw [if_pos hf] at h
    unfold fmOk at hf
    simp only [Bool.and_eq_true, decide_eq_true_eq] at hf
    have h0 : 0 < f.length := by cases f with | nil => exact absurd rfl hf.1 | cons c r => simp
    have h1 : (ahd f).length ≤ f.length := by unfold ahd; exact (List.takeWhile_sublist _).length_le
    have h2 : (bhd k f).length ≤ f.length := by unfold bhd; rw [List.length_drop]; omega
    rcases kdF_shape h with ⟨rfl, _⟩ | ⟨a, b, c, _⟩
    · exact ⟨by omega, by omega, h0, by omega, by omega, .inl rfl⟩
    · exact ⟨b, by omega, h0, by omega, by omega, .inr (cut_mark a b c)⟩
  · rw [if_neg hf] at h; cases h
theorem ofT_le (off : Int) : (ofT off).length ≤ 7 := by have := ofT_len off; omega

set_option maxHeartbeats 1600000 in
theorem sh_none (f l : List UInt8) (off : Int) (dst : Bool) (w : World) (hk : kdK f = none) (HA : Hid (LaidB w)) (HF : Hid (f.length ≤ 1000)) :
    Calls Tryz.prog 27 #[.string ⟨f.toArray⟩, .int .i64 off, .bool dst, .string ⟨l.toArray⟩] w fun e w' => e = .returned (.tuple #[.string ⟨[].toArray⟩, .int .i64 12]) ∧ Below w.heap.size w w' := by
  have HK : Hid (kdV f = 0 ∧ kdE f = 12) := Lib.hid (by unfold kdV kdE; rw [hk]; exact ⟨rfl, rfl⟩)
  clear hk
  go_enter Tryz.func27, Tryz.ntmps27
  go_wp2_with (first | (go_at_call 26; refine (kind_is f _ _ _ HA.out HF.out HK).mono ?_; rintro e w1 ⟨rfl, k1⟩; simp only []))
  go_ret2
  exact ⟨rfl, k1⟩
set_option maxHeartbeats 1600000 in
theorem sh_plain (f l : List UInt8) (off : Int) (dst : Bool) (w : World) (hk : kdK f = some 0) (HA : Hid (LaidB w)) (HF : Hid (f.length ≤ 1000)) :
    Calls Tryz.prog 27 #[.string ⟨f.toArray⟩, .int .i64 off, .bool dst, .string ⟨l.toArray⟩] w fun e w' => e = .returned (.tuple #[.string ⟨f.toArray⟩, .int .i64 0]) ∧ Below w.heap.size w w' := by
  have HK : Hid (kdV f = 0 ∧ kdE f = 0) := Lib.hid (by unfold kdV kdE; rw [hk]; exact ⟨rfl, rfl⟩)
  have HC : Hid (Lib.cut f [] = ([], f, true)) := Lib.hid (cut_none f)
  clear hk
  go_enter Tryz.func27, Tryz.ntmps27
  go_wp2_with (first
    | (go_at_call 26; refine (kind_is f _ _ _ HA.out HF.out HK).mono ?_; rintro e w1 ⟨rfl, k1⟩; simp only []
       have A1 := Lib.hid (HA.out.next k1)
       have K1 := Lib.hid k1
       have c0 := A1.out.mks.cell 0 _ rfl
       clear k1 HK)
    | (go_at_call 48; refine (cut_is f [] _ _ _ _ HF.out A1.out.mx HC).mono ?_; rintro e w2 ⟨rfl, k2⟩; simp only []
       have K2 := Lib.hid (K1.out.trans (k2.mono K1.out.size))
       clear k2 HC))
  go_ret2
  exact ⟨rfl, K2.out⟩
set_option maxHeartbeats 1600000 in
theorem sh_letter (f l : List UInt8) (off : Int) (dst : Bool) (w : World) (hk : kdK f = some 1) (hl : l.length ≤ 100) (HA : Hid (LaidB w)) (HF : Hid (f.length ≤ 1000)) :
    Calls Tryz.prog 27 #[.string ⟨f.toArray⟩, .int .i64 off, .bool dst, .string ⟨l.toArray⟩] w fun e w' => e = .returned (.tuple #[.string ⟨(ahd f ++ l ++ bhd 1 f).toArray⟩, .int .i64 0]) ∧ Below w.heap.size w w' := by
  have HK : Hid (kdV f = 1 ∧ kdE f = 0) := Lib.hid (by unfold kdV kdE; rw [hk]; exact ⟨rfl, rfl⟩)
  obtain ⟨a, ha⟩ : ∃ a, ahd f = a := ⟨_, rfl⟩
  obtain ⟨b, hb⟩ : ∃ b, bhd 1 f = b := ⟨_, rfl⟩
  obtain ⟨-, -, -, la, lb, hcut⟩ := fm_parts hk
  rw [ha] at la
  rw [hb] at lb
  have HC : Hid (Lib.cut f [37, 115] = (a, b, true)) := Lib.hid (by rw [← ha, ← hb]; exact hcut.resolve_left (by omega))
  obtain ⟨t, ht⟩ : ∃ t, a ++ l = t := ⟨_, rfl⟩
  obtain ⟨u, hu⟩ : ∃ u, t ++ b = u := ⟨_, rfl⟩
  have ad1 := wadd_lists a l (by omega) (by omega)
  rw [ht] at ad1
  have ad2 := wadd_lists t b (by rw [← ht]; simp; omega) (by omega)
  rw [hu] at ad2
  rw [ha, hb, ht, hu]
  clear hk ha hb ht hu hcut
  go_enter Tryz.func27, Tryz.ntmps27
  go_wp2_with (first
    | (go_at_call 26; refine (kind_is f _ _ _ HA.out HF.out HK).mono ?_; rintro e w1 ⟨rfl, k1⟩; simp only []
       have A1 := Lib.hid (HA.out.next k1)
       have K1 := Lib.hid k1
       have c1 := A1.out.mks.cell 1 _ rfl
       clear k1 HK)
    | (go_at_call 48; refine (cut_is f [37, 115] _ _ _ _ HF.out A1.out.mx HC).mono ?_; rintro e w2 ⟨rfl, k2⟩; simp only []
       have K2 := Lib.hid (K1.out.trans (k2.mono K1.out.size))
       clear k2 HC))
  go_ret2
  exact ⟨rfl, K2.out⟩
set_option maxHeartbeats 1600000 in
theorem sh_far (f l : List UInt8) (off : Int) (dst : Bool) (w : World) (hk : kdK f = some 2) (ho : off ≤ -360000 ∨ 360000 ≤ off) (HA : Hid (LaidB w)) (HF : Hid (f.length ≤ 1000)) :
    Calls Tryz.prog 27 #[.string ⟨f.toArray⟩, .int .i64 off, .bool dst, .string ⟨l.toArray⟩] w fun e w' => e = .returned (.tuple #[.string ⟨[].toArray⟩, .int .i64 10]) ∧ Below w.heap.size w w' := by
  have HK : Hid (kdV f = 2 ∧ kdE f = 0) := Lib.hid (by unfold kdV kdE; rw [hk]; exact ⟨rfl, rfl⟩)
  obtain ⟨a, ha⟩ : ∃ a, ahd f = a := ⟨_, rfl⟩
  obtain ⟨b, hb⟩ : ∃ b, bhd 2 f = b := ⟨_, rfl⟩
  obtain ⟨-, -, -, la, lb, hcut⟩ := fm_parts hk
  rw [ha] at la
  rw [hb] at lb
  have HC : Hid (Lib.cut f [37, 122] = (a, b, true)) := Lib.hid (by rw [← ha, ← hb]; exact hcut.resolve_left (by omega))
  have HO : Hid (ofS off = [] ∧ ofE off = 10) := Lib.hid ⟨by unfold ofS; rw [if_pos ho], by unfold ofE; rw [if_pos ho]⟩
  clear hk ha hb hcut ho
  go_enter Tryz.func27, Tryz.ntmps27
  go_wp2_with (first
    | (go_at_call 26; refine (kind_is f _ _ _ HA.out HF.out HK).mono ?_; rintro e w1 ⟨rfl, k1⟩; simp only []
       have A1 := Lib.hid (HA.out.next k1)
       have K1 := Lib.hid k1
       have c2 := A1.out.mks.cell 2 _ rfl
       clear k1 HK)
    | (go_at_call 48; refine (cut_is f [37, 122] _ _ _ _ HF.out A1.out.mx HC).mono ?_; rintro e w2 ⟨rfl, k2⟩; simp only []
       have K2 := Lib.hid (K1.out.trans (k2.mono K1.out.size))
       clear k2 HC)
    | (go_at_call 49; refine (offset_is off _ _ _ HO).mono ?_; rintro e w3 ⟨rfl, k3⟩; simp only []
       have K3 := Lib.hid (K2.out.trans (k3.mono K2.out.size))
       clear k3 HO))
  go_ret2
  exact ⟨rfl, K3.out⟩
set_option maxHeartbeats 1600000 in
theorem sh_number (f l : List UInt8) (off : Int) (dst : Bool) (w : World) (hk : kdK f = some 2) (ho : ¬ (off ≤ -360000 ∨ 360000 ≤ off)) (HA : Hid (LaidB w)) (HF : Hid (f.length ≤ 1000)) :
    Calls Tryz.prog 27 #[.string ⟨f.toArray⟩, .int .i64 off, .bool dst, .string ⟨l.toArray⟩] w fun e w' => e = .returned (.tuple #[.string ⟨(ahd f ++ ofT off ++ bhd 2 f).toArray⟩, .int .i64 0]) ∧ Below w.heap.size w w' := by
  have HK : Hid (kdV f = 2 ∧ kdE f = 0) := Lib.hid (by unfold kdV kdE; rw [hk]; exact ⟨rfl, rfl⟩)
  obtain ⟨a, ha⟩ : ∃ a, ahd f = a := ⟨_, rfl⟩
  obtain ⟨b, hb⟩ : ∃ b, bhd 2 f = b := ⟨_, rfl⟩
  obtain ⟨-, -, -, la, lb, hcut⟩ := fm_parts hk
  rw [ha] at la
  rw [hb] at lb
  have HC : Hid (Lib.cut f [37, 122] = (a, b, true)) := Lib.hid (by rw [← ha, ← hb]; exact hcut.resolve_left (by omega))
  have lT := ofT_le off
  obtain ⟨T, hT⟩ : ∃ T, ofT off = T := ⟨_, rfl⟩
  rw [hT] at lT
  have HO : Hid (ofS off = T ∧ ofE off = 0) := Lib.hid ⟨by unfold ofS; rw [if_neg ho, hT], by unfold ofE; rw [if_neg ho]⟩
  obtain ⟨t, ht⟩ : ∃ t, a ++ T = t := ⟨_, rfl⟩
  obtain ⟨u, hu⟩ : ∃ u, t ++ b = u := ⟨_, rfl⟩
  have ad1 := wadd_lists a T (by omega) (by omega)
  rw [ht] at ad1
  have ad2 := wadd_lists t b (by rw [← ht]; simp; omega) (by omega)
  rw [hu] at ad2
  rw [ha, hb, hT, ht, hu]
  clear hk ha hb ht hu hcut ho hT
  go_enter Tryz.func27, Tryz.ntmps27
  go_wp2_with (first
    | (go_at_call 26; refine (kind_is f _ _ _ HA.out HF.out HK).mono ?_; rintro e w1 ⟨rfl, k1⟩; simp only []
       have A1 := Lib.hid (HA.out.next k1)
       have K1 := Lib.hid k1
       have c2 := A1.out.mks.cell 2 _ rfl
       clear k1 HK)
    | (go_at_call 48; refine (cut_is f [37, 122] _ _ _ _ HF.out A1.out.mx HC).mono ?_; rintro e w2 ⟨rfl, k2⟩; simp only []
       have K2 := Lib.hid (K1.out.trans (k2.mono K1.out.size))
       clear k2 HC)
    | (go_at_call 49; refine (offset_is off _ _ _ HO).mono ?_; rintro e w3 ⟨rfl, k3⟩; simp only []
       have K3 := Lib.hid (K2.out.trans (k3.mono K2.out.size))
       clear k3 HO))
  go_ret2
  exact ⟨rfl, K3.out⟩
set_option maxHeartbeats 1600000 in
theorem sh_slash (f l : List UInt8) (off : Int) (dst : Bool) (w : World) (hk : kdK f = some 3) (HA : Hid (LaidB w)) (HF : Hid (f.length ≤ 1000)) :
    Calls Tryz.prog 27 #[.string ⟨f.toArray⟩, .int .i64 off, .bool dst, .string ⟨l.toArray⟩] w fun e w' => e = .returned (.tuple #[.string ⟨(if dst then bhd 3 f else ahd f).toArray⟩, .int .i64 0]) ∧ Below w.heap.size w w' := by
  have HK : Hid (kdV f = 3 ∧ kdE f = 0) := Lib.hid (by unfold kdV kdE; rw [hk]; exact ⟨rfl, rfl⟩)
  obtain ⟨a, ha⟩ : ∃ a, ahd f = a := ⟨_, rfl⟩
  obtain ⟨b, hb⟩ : ∃ b, bhd 3 f = b := ⟨_, rfl⟩
  obtain ⟨-, -, -, la, lb, hcut⟩ := fm_parts hk
  rw [ha] at la
  rw [hb] at lb
  have HC : Hid (Lib.cut f [47] = (a, b, true)) := Lib.hid (by rw [← ha, ← hb]; exact hcut.resolve_left (by omega))
  rw [ha, hb]
  clear hk ha hb hcut
  cases dst
  all_goals go_enter Tryz.func27, Tryz.ntmps27
  all_goals go_wp2_with (first
    | (go_at_call 26; refine (kind_is f _ _ _ HA.out HF.out HK).mono ?_; rintro e w1 ⟨rfl, k1⟩; simp only []
       have A1 := Lib.hid (HA.out.next k1)
       have K1 := Lib.hid k1
       have c3 := A1.out.mks.cell 3 _ rfl
       clear k1 HK)
    | (go_at_call 48; refine (cut_is f [47] _ _ _ _ HF.out A1.out.mx HC).mono ?_; rintro e w2 ⟨rfl, k2⟩; simp only []
       have K2 := Lib.hid (K1.out.trans (k2.mono K1.out.size))
       clear k2 HC))
  all_goals go_ret2
  all_goals exact ⟨rfl, K2.out⟩
theorem show_is (f l T : List UInt8) (off e0 : Int) (dst : Bool) (w : World) (HA : Hid (LaidB w)) (HF : Hid (f.length ≤ 1000 ∧ l.length ≤ 100)) (HV : Hid (shS f off dst l = T ∧ shE f off = e0)) :
    Calls Tryz.prog 27 #[.string ⟨f.toArray⟩, .int .i64 off, .bool dst, .string ⟨l.toArray⟩] w fun e w' => e = .returned (.tuple #[.string ⟨T.toArray⟩, .int .i64 e0]) ∧ Below w.heap.size w w' := by
  obtain ⟨rfl, rfl⟩ := HV.out
  unfold shS shE
  have HF1 := Lib.hid HF.out.1
  cases hk : kdK f with
  | none => exact sh_none f l off dst w hk HA HF1
  | some k =>
    have h3 := (fm_parts hk).1
    obtain rfl | rfl | rfl | rfl : k = 0 ∨ k = 1 ∨ k = 2 ∨ k = 3 := by omega
    · exact sh_plain f l off dst w hk HA HF1
    · exact sh_letter f l off dst w hk HF.out.2 HA HF1
    · by_cases ho : off ≤ -360000 ∨ 360000 ≤ off
      · have := sh_far f l off dst w hk ho HA HF1
        simp only [if_pos ho, ofE]; exact this
      · have := sh_number f l off dst w hk ho HA HF1
        simp only [if_neg ho, ofE]; exact this
    · exact sh_slash f l off dst w hk HA HF1
set_option maxRecDepth 10000 in
theorem aw1 : shS [69, 37, 115, 84] 0 true [68] = [69, 68, 84] ∧ shE [69, 37, 115, 84] 0 = 0 := by decide
set_option maxRecDepth 10000 in
theorem aw2 : shS [71, 77, 84, 47, 66, 83, 84] 0 true [] = [66, 83, 84] ∧ shE [71, 77, 84, 47, 66, 83, 84] 0 = 0 := by decide
set_option maxRecDepth 10000 in
theorem aw3 : shS [37, 122] 20700 false [] = [43, 48, 53, 52, 53] ∧ shE [37, 122] 20700 = 0 := by decide
set_option maxRecDepth 10000 in
theorem aw4 : ofS (-1) = [45, 48, 48, 48, 48, 48, 49] ∧ ofE (-1) = 0 := by decide
theorem awc1 (W : World) (H : LaidB W) : Calls Tryz.prog 27 #[.string ⟨#[69, 37, 115, 84]⟩, .int .i64 0, .bool true, .string ⟨#[68]⟩] W fun e w' => e = .returned (.tuple #[.string ⟨#[69, 68, 84]⟩, .int .i64 0]) ∧ Below W.heap.size W w' :=
  show_is [69, 37, 115, 84] [68] [69, 68, 84] 0 0 true W (Lib.hid H) (Lib.hid ⟨by decide, by decide⟩) (Lib.hid aw1)
theorem awc2 (W : World) (H : LaidB W) : Calls Tryz.prog 27 #[.string ⟨#[71, 77, 84, 47, 66, 83, 84]⟩, .int .i64 0, .bool true, .string ⟨#[]⟩] W fun e w' => e = .returned (.tuple #[.string ⟨#[66, 83, 84]⟩, .int .i64 0]) ∧ Below W.heap.size W w' :=
  show_is [71, 77, 84, 47, 66, 83, 84] [] [66, 83, 84] 0 0 true W (Lib.hid H) (Lib.hid ⟨by decide, by decide⟩) (Lib.hid aw2)
theorem awc3 (W : World) (H : LaidB W) : Calls Tryz.prog 27 #[.string ⟨#[37, 122]⟩, .int .i64 20700, .bool false, .string ⟨#[]⟩] W fun e w' => e = .returned (.tuple #[.string ⟨#[43, 48, 53, 52, 53]⟩, .int .i64 0]) ∧ Below W.heap.size W w' :=
  show_is [37, 122] [] [43, 48, 53, 52, 53] 20700 0 false W (Lib.hid H) (Lib.hid ⟨by decide, by decide⟩) (Lib.hid aw3)
theorem awc4 (W : World) : Calls Tryz.prog 49 #[.int .i64 (-1)] W fun e w' => e = .returned (.tuple #[.string ⟨#[45, 48, 48, 48, 48, 48, 49]⟩, .int .i64 0]) ∧ Below W.heap.size W w' :=
  offset_is (-1) [45, 48, 48, 48, 48, 48, 49] 0 W (Lib.hid aw4)
end Go.Proofs.YtjpppffgebecdaaGreatDoor
