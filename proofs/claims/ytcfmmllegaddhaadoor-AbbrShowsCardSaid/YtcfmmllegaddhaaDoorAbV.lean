/- The contract of the document's answer's Show; nothing that was in memory changes. -/
import Derived.Test.YtcfmmllegaddhaaDoorAbR
import Derived.Test.YtcfmmllegaddhaaDoorAbU
namespace Go.Proofs.YtcfmmllegaddhaaDoor
open Go.RowKit

/-- A format's parts, as they are cut at the mark's place. -/
theorem rp_cut {f : List UInt8} {k : Nat} (h : kdK f = some k) (h1 : 1 ≤ k) : ∃ p a b : Nat, (ahd f).length = p ∧ p + (mkB k).length ≤ f.length ∧ f.take p = ahd f ∧ f.drop (p + (mkB k).length) = bhd k f ∧ p ≤ 64 ∧ atV f = (p : Int) ∧ a = p ∧ b = p := by
  obtain ⟨k3, l64, -, la, -, -⟩ := fm_parts h
  unfold kdK at h
  by_cases hf : fmOk f = true
  · have hk := h
    rw [if_pos hf] at h
    rcases kdF_shape h with ⟨rfl, _⟩ | ⟨-, -, c, -⟩
    · omega
    · refine ⟨_, _, _, rfl, ?_, ?_, rfl, la, ?_, rfl, rfl⟩
      · have := congrArg List.length c; simp at this; omega
      · conv => lhs; arg 2; rw [c]
        rw [List.append_assoc, List.take_left]
      · unfold atV kdK
        rw [hk]
        cases k with
        | zero => omega
        | succ k => rfl
  · rw [if_neg hf] at h; cases h

set_option maxHeartbeats 1600000 in
theorem rsh_none (f l : List UInt8) (off : Int) (dst : Bool) (w : World) (hk : kdK f = none) (HF : Hid (f.length ≤ 1000)) :
    Calls Tryd.prog 18 #[.string ⟨f.toArray⟩, .int .i64 off, .bool dst, .string ⟨l.toArray⟩] w fun e w' => e = .returned (.tuple #[.string ⟨[].toArray⟩, .bool false]) ∧ Below w.heap.size w w' := by
  have HK : Hid (kdR f = -1 ∧ atV f = 0) := Lib.hid (by unfold kdR atV; rw [hk]; exact ⟨rfl, rfl⟩)
  clear hk
  go_enter Tryd.func18, Tryd.ntmps18
  go_wp2_with (first | (go_at_call 12; refine (rkind_is f _ _ _ HF.out HK).mono ?_; rintro e w1 ⟨rfl, k1⟩; simp only []; have K1 := Lib.hid k1; clear k1 HK))
  go_ret2
  exact ⟨rfl, K1.out⟩
set_option maxHeartbeats 1600000 in
theorem rsh_plain (f l : List UInt8) (off : Int) (dst : Bool) (w : World) (hk : kdK f = some 0) (HF : Hid (f.length ≤ 1000)) :
    Calls Tryd.prog 18 #[.string ⟨f.toArray⟩, .int .i64 off, .bool dst, .string ⟨l.toArray⟩] w fun e w' => e = .returned (.tuple #[.string ⟨f.toArray⟩, .bool true]) ∧ Below w.heap.size w w' := by
  have HK : Hid (kdR f = 0 ∧ atV f = 0) := Lib.hid (by unfold kdR atV; rw [hk]; exact ⟨rfl, rfl⟩)
  clear hk
  go_enter Tryd.func18, Tryd.ntmps18
  go_wp2_with (first | (go_at_call 12; refine (rkind_is f _ _ _ HF.out HK).mono ?_; rintro e w1 ⟨rfl, k1⟩; simp only []; have K1 := Lib.hid k1; clear k1 HK))
  go_ret2
  exact ⟨rfl, K1.out⟩
set_option maxHeartbeats 1600000 in
theorem rsh_letter (f l : List UInt8) (off : Int) (dst : Bool) (w : World) (hk : kdK f = some 1) (hl : l.length ≤ 100) (HF : Hid (f.length ≤ 1000)) :
    Calls Tryd.prog 18 #[.string ⟨f.toArray⟩, .int .i64 off, .bool dst, .string ⟨l.toArray⟩] w fun e w' => e = .returned (.tuple #[.string ⟨(ahd f ++ l ++ bhd 1 f).toArray⟩, .bool true]) ∧ Below w.heap.size w w' := by
  have hR : kdR f = 1 := by unfold kdR; rw [hk]; rfl
  obtain ⟨-, -, -, la, lb, -⟩ := fm_parts hk
  obtain ⟨p, -, -, hp, hle, ht, hd, hp64, hat, -, -⟩ := rp_cut hk (by omega)
  have HK : Hid (kdR f = 1 ∧ atV f = (p : Int)) := Lib.hid ⟨hR, hat⟩
  obtain ⟨a, ha⟩ : ∃ a, ahd f = a := ⟨_, rfl⟩
  obtain ⟨b, hb⟩ : ∃ b, bhd 1 f = b := ⟨_, rfl⟩
  rw [ha] at la ht
  rw [hb] at lb hd
  have hm : (mkB 1).length = 2 := rfl
  rw [hm] at hle hd
  obtain ⟨q, hq⟩ : ∃ q, p + 2 = q := ⟨_, rfl⟩
  rw [hq] at hle hd
  have eq1 : (p : Int) + 2 = (q : Int) := by omega
  have wq : IntKind.i64.wrap ((p : Int) + 2) = (q : Int) := by rw [wrap_small _ (by omega) (by omega)]; omega
  have q66 : q ≤ 66 := by omega
  have s1 := wsub_run f p a ht (by omega)
  have s2 := drop_run f b q (q : Int) rfl hd hle
  obtain ⟨t, ht1⟩ : ∃ t, a ++ l = t := ⟨_, rfl⟩
  obtain ⟨u, hu1⟩ : ∃ u, t ++ b = u := ⟨_, rfl⟩
  have ad1 := wadd_lists a l (by omega) (by omega)
  rw [ht1] at ad1
  have ad2 := wadd_lists t b (by rw [← ht1]; simp; omega) (by omega)
  rw [hu1] at ad2
  rw [ha, hb, ht1, hu1]
  clear hk hR hp hle ht hd hat ha hb hm hq ht1 hu1
  go_enter Tryd.func18, Tryd.ntmps18
  go_wp2_with (first | (go_at_call 12; refine (rkind_is f _ _ _ HF.out HK).mono ?_; rintro e w1 ⟨rfl, k1⟩; simp only []; have K1 := Lib.hid k1; clear k1 HK))
  go_quiet (fail)
  go_wp2
  go_ret2
  exact ⟨rfl, bdrews K1.out _⟩
set_option maxHeartbeats 1600000 in
theorem rsh_far (f l : List UInt8) (off : Int) (dst : Bool) (w : World) (hk : kdK f = some 2) (ho : off ≤ -360000 ∨ 360000 ≤ off) (HF : Hid (f.length ≤ 1000)) :
    Calls Tryd.prog 18 #[.string ⟨f.toArray⟩, .int .i64 off, .bool dst, .string ⟨l.toArray⟩] w fun e w' => e = .returned (.tuple #[.string ⟨[].toArray⟩, .bool false]) ∧ Below w.heap.size w w' := by
  have hR : kdR f = 2 := by unfold kdR; rw [hk]; rfl
  obtain ⟨-, -, -, la, lb, -⟩ := fm_parts hk
  obtain ⟨p, -, -, hp, hle, ht, hd, hp64, hat, -, -⟩ := rp_cut hk (by omega)
  have HK : Hid (kdR f = 2 ∧ atV f = (p : Int)) := Lib.hid ⟨hR, hat⟩
  obtain ⟨a, ha⟩ : ∃ a, ahd f = a := ⟨_, rfl⟩
  obtain ⟨b, hb⟩ : ∃ b, bhd 2 f = b := ⟨_, rfl⟩
  rw [ha] at la ht
  rw [hb] at lb hd
  have hm : (mkB 2).length = 2 := rfl
  rw [hm] at hle hd
  obtain ⟨q, hq⟩ : ∃ q, p + 2 = q := ⟨_, rfl⟩
  rw [hq] at hle hd
  have eq1 : (p : Int) + 2 = (q : Int) := by omega
  have wq : IntKind.i64.wrap ((p : Int) + 2) = (q : Int) := by rw [wrap_small _ (by omega) (by omega)]; omega
  have q66 : q ≤ 66 := by omega
  have s1 := wsub_run f p a ht (by omega)
  have s2 := drop_run f b q (q : Int) rfl hd hle
  clear hk hR hp hle ht hd hat ha hb hm hq
  have V : off ≤ -360000 ∨ (¬ off ≤ -360000 ∧ 360000 ≤ off) := by omega
  clear ho
  rcases V with V | ⟨V, V2⟩
  all_goals go_enter Tryd.func18, Tryd.ntmps18
  all_goals go_wp2_with (first | (go_at_call 12; refine (rkind_is f _ _ _ HF.out HK).mono ?_; rintro e w1 ⟨rfl, k1⟩; simp only []; have K1 := Lib.hid k1; clear k1 HK))
  all_goals go_ret2
  all_goals exact ⟨rfl, K1.out⟩
set_option maxHeartbeats 1600000 in
theorem rsh_number (f l : List UInt8) (off : Int) (dst : Bool) (w : World) (hk : kdK f = some 2) (ho : ¬ (off ≤ -360000 ∨ 360000 ≤ off)) (HF : Hid (f.length ≤ 1000)) :
    Calls Tryd.prog 18 #[.string ⟨f.toArray⟩, .int .i64 off, .bool dst, .string ⟨l.toArray⟩] w fun e w' => e = .returned (.tuple #[.string ⟨(ahd f ++ ofT off ++ bhd 2 f).toArray⟩, .bool true]) ∧ Below w.heap.size w w' := by
  have hR : kdR f = 2 := by unfold kdR; rw [hk]; rfl
  obtain ⟨-, -, -, la, lb, -⟩ := fm_parts hk
  obtain ⟨p, -, -, hp, hle, ht, hd, hp64, hat, -, -⟩ := rp_cut hk (by omega)
  have HK : Hid (kdR f = 2 ∧ atV f = (p : Int)) := Lib.hid ⟨hR, hat⟩
  obtain ⟨a, ha⟩ : ∃ a, ahd f = a := ⟨_, rfl⟩
  obtain ⟨b, hb⟩ : ∃ b, bhd 2 f = b := ⟨_, rfl⟩
  rw [ha] at la ht
  rw [hb] at lb hd
  have hm : (mkB 2).length = 2 := rfl
  rw [hm] at hle hd
  obtain ⟨q, hq⟩ : ∃ q, p + 2 = q := ⟨_, rfl⟩
  rw [hq] at hle hd
  have eq1 : (p : Int) + 2 = (q : Int) := by omega
  have wq : IntKind.i64.wrap ((p : Int) + 2) = (q : Int) := by rw [wrap_small _ (by omega) (by omega)]; omega
  have q66 : q ≤ 66 := by omega
  have s1 := wsub_run f p a ht (by omega)
  have s2 := drop_run f b q (q : Int) rfl hd hle
  have lT := ofT_le off
  obtain ⟨T, hT⟩ : ∃ T, ofT off = T := ⟨_, rfl⟩
  rw [hT] at lT
  have WT := Lib.hid hT
  have BD : Hid (-360000 < off ∧ off < 360000) := Lib.hid (by omega)
  obtain ⟨t, ht1⟩ : ∃ t, a ++ T = t := ⟨_, rfl⟩
  obtain ⟨u, hu1⟩ : ∃ u, t ++ b = u := ⟨_, rfl⟩
  have ad1 := wadd_lists a T (by omega) (by omega)
  rw [ht1] at ad1
  have ad2 := wadd_lists t b (by rw [← ht1]; simp; omega) (by omega)
  rw [hu1] at ad2
  have h1 : ¬ off ≤ -360000 := by omega
  have h2 : ¬ 360000 ≤ off := by omega
  rw [ha, hb, hT, ht1, hu1]
  clear hk hR hp hle ht hd hat ha hb hm hq ht1 hu1 hT ho eq1
  go_enter Tryd.func18, Tryd.ntmps18
  go_wp2_with (first | (go_at_call 12; refine (rkind_is f _ _ _ HF.out HK).mono ?_; rintro e w1 ⟨rfl, k1⟩; simp only []; have K1 := Lib.hid k1; clear k1 HK))
  go_region_held3 (fun _ => True) (exact trivial) (first | (go_at_call 14; refine (roffset_is off _ _ BD.out.1 BD.out.2 WT).mono ?_; rintro e w3 ⟨rfl, k3⟩; simp only []))
  go_wp2
  go_ret2
  exact ⟨rfl, K1.out.drew.trans (k3.mono K1.out.drew.size)⟩
set_option maxHeartbeats 1600000 in
theorem rsh_slash (f l : List UInt8) (off : Int) (dst : Bool) (w : World) (hk : kdK f = some 3) (HF : Hid (f.length ≤ 1000)) :
    Calls Tryd.prog 18 #[.string ⟨f.toArray⟩, .int .i64 off, .bool dst, .string ⟨l.toArray⟩] w fun e w' => e = .returned (.tuple #[.string ⟨(if dst then bhd 3 f else ahd f).toArray⟩, .bool true]) ∧ Below w.heap.size w w' := by
  have hR : kdR f = 3 := by unfold kdR; rw [hk]; rfl
  obtain ⟨-, -, -, la, lb, -⟩ := fm_parts hk
  obtain ⟨p, -, -, hp, hle, ht, hd, hp64, hat, -, -⟩ := rp_cut hk (by omega)
  have HK : Hid (kdR f = 3 ∧ atV f = (p : Int)) := Lib.hid ⟨hR, hat⟩
  obtain ⟨a, ha⟩ : ∃ a, ahd f = a := ⟨_, rfl⟩
  obtain ⟨b, hb⟩ : ∃ b, bhd 3 f = b := ⟨_, rfl⟩
  rw [ha] at la ht
  rw [hb] at lb hd
  have hm : (mkB 3).length = 1 := rfl
  rw [hm] at hle hd
  obtain ⟨q, hq⟩ : ∃ q, p + 1 = q := ⟨_, rfl⟩
  rw [hq] at hle hd
  have eq1 : (p : Int) + 1 = (q : Int) := by omega
  have wq : IntKind.i64.wrap ((p : Int) + 1) = (q : Int) := by rw [wrap_small _ (by omega) (by omega)]; omega
  have q66 : q ≤ 66 := by omega
  have s1 := wsub_run f p a ht (by omega)
  have s2 := drop_run f b q (q : Int) rfl hd hle
  rw [ha, hb]
  clear hk hR hp hle ht hd hat ha hb hm hq
  cases dst
  all_goals go_enter Tryd.func18, Tryd.ntmps18
  all_goals go_wp2_with (first | (go_at_call 12; refine (rkind_is f _ _ _ HF.out HK).mono ?_; rintro e w1 ⟨rfl, k1⟩; simp only []; have K1 := Lib.hid k1; clear k1 HK))
  all_goals go_ret2
  all_goals exact ⟨rfl, K1.out⟩
theorem rshow_is (f l T : List UInt8) (off : Int) (dst b : Bool) (w : World) (HF : Hid (f.length ≤ 1000 ∧ l.length ≤ 100)) (HV : Hid (shS f off dst l = T ∧ decide (shE f off = 0) = b)) :
    Calls Tryd.prog 18 #[.string ⟨f.toArray⟩, .int .i64 off, .bool dst, .string ⟨l.toArray⟩] w fun e w' => e = .returned (.tuple #[.string ⟨T.toArray⟩, .bool b]) ∧ Below w.heap.size w w' := by
  obtain ⟨rfl, rfl⟩ := HV.out
  unfold shS shE
  have HF1 := Lib.hid HF.out.1
  cases hk : kdK f with
  | none => exact rsh_none f l off dst w hk HF1
  | some k =>
    have h3 := (fm_parts hk).1
    obtain rfl | rfl | rfl | rfl : k = 0 ∨ k = 1 ∨ k = 2 ∨ k = 3 := by omega
    · exact rsh_plain f l off dst w hk HF1
    · exact rsh_letter f l off dst w hk HF.out.2 HF1
    · by_cases ho : off ≤ -360000 ∨ 360000 ≤ off
      · have := rsh_far f l off dst w hk ho HF1
        simp only [if_pos ho, ofE]; exact this
      · have := rsh_number f l off dst w hk ho HF1
        simp only [if_neg ho, ofE]; exact this
    · exact rsh_slash f l off dst w hk HF1
end Go.Proofs.YtcfmmllegaddhaaDoor
