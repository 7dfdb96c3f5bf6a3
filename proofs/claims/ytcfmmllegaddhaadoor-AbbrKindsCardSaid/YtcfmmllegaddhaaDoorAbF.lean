/- For every input the laws AbbrKinds and AbbrOffsets return true, and nothing that was in memory changes. -/
import Derived.Test.YtcfmmllegaddhaaDoorAbR
import Derived.Test.YtcfmmllegaddhaaDoorAbU
namespace Go.Proofs.YtcfmmllegaddhaaDoor
open Go.RowKit

theorem kinds_long (s : List UInt8) (w : World) (HA : Hid (LaidB w)) (h : 200 < s.length) :
    Calls Tryd.prog 3 #[.string ⟨s.toArray⟩] w fun e w' => e = .returned (.bool true) ∧ Below w.heap.size w w' := by
  have h' : (200 : Int) < (s.length : Int) := by omega
  go_enter Tryd.func3, Tryd.ntmps3
  go_wp2_with (first | (go_at_call 10; refine (awake_is _ HA).mono ?_; rintro e w1 ⟨rfl, k1⟩; simp only []))
  go_ret
  exact ⟨rfl, k1⟩
theorem abbrKinds_walk (s : List UInt8) (w : World) (hA : LaidB w) :
    Calls Tryd.prog 3 #[.string ⟨s.toArray⟩] w fun e w' => e = .returned (.bool true) ∧ Below w.heap.size w w' := by
  have HA := Lib.hid hA
  by_cases h : 200 < s.length
  · exact kinds_long s w HA h
  · have h' : ¬ (200 : Int) < (s.length : Int) := by omega
    have HS : Hid (s.length ≤ 1000) := Lib.hid (by omega)
    obtain ⟨a0, ha0⟩ : ∃ a0, atV s = a0 := ⟨_, rfl⟩
    have V : ∃ v e r : Int, kdV s = v ∧ kdE s = e ∧ kdR s = r ∧ ((v = 0 ∧ e = 12 ∧ r = -1) ∨ (0 ≤ v ∧ e = 0 ∧ r = v)) := by
      unfold kdV kdE kdR
      cases kdK s with
      | none => exact ⟨_, _, _, rfl, rfl, rfl, .inl ⟨rfl, rfl, rfl⟩⟩
      | some k => exact ⟨_, _, _, rfl, rfl, rfl, .inr ⟨Int.natCast_nonneg k, rfl, rfl⟩⟩
    obtain ⟨v, e, r, hv, he, hr, V⟩ := V
    have KP := Lib.hid (And.intro hv he)
    have KR := Lib.hid (And.intro hr ha0)
    clear h hv he hr ha0 hA
    rcases V with ⟨rfl, rfl, rfl⟩ | ⟨h0, rfl, rfl⟩
    all_goals go_enter Tryd.func3, Tryd.ntmps3
    all_goals go_wp2_with (first
      | (go_at_call 11; refine (kind_is s _ _ _ HA.out HS.out KP).mono ?_; rintro e w1 ⟨rfl, k1⟩; simp only []
         have K1 := Lib.hid k1
         clear k1)
      | (go_at_call 12; refine (rkind_is s _ _ _ HS.out KR).mono ?_; rintro e w2 ⟨rfl, k2⟩; simp only []
         have K2 := Lib.hid (K1.out.trans (k2.mono K1.out.size))
         clear k2)
      | (go_at_call 10; refine (awake_is _ (Lib.hid (HA.out.next K2.out))).mono ?_; rintro e w3 ⟨rfl, k3⟩; simp only []))
    all_goals go_ret
    all_goals exact ⟨rfl, K2.out.trans (k3.mono K2.out.size)⟩

theorem offsets_long (off : Int) (s : List UInt8) (w : World) (HA : Hid (LaidB w)) (h : 40 < s.length) :
    Calls Tryd.prog 4 #[.int .i64 off, .string ⟨s.toArray⟩] w fun e w' => e = .returned (.bool true) ∧ Below w.heap.size w w' := by
  have h' : (40 : Int) < (s.length : Int) := by omega
  go_enter Tryd.func4, Tryd.ntmps4
  go_wp2_with (first | (go_at_call 10; refine (awake_is _ HA).mono ?_; rintro e w1 ⟨rfl, k1⟩; simp only []))
  go_ret
  exact ⟨rfl, k1⟩
set_option maxHeartbeats 6400000 in
theorem offsets_in (off v ve rv e1 : Int) (T s : List UInt8) (b : Bool) (w : World) (HA : Hid (LaidB w)) (hs : s.length ≤ 40) (O1 : Hid (ofS off = T ∧ ofE off = e1)) (V : (off ≤ -360000 ∧ T = [] ∧ e1 = 10) ∨ (¬ off ≤ -360000 ∧ 360000 ≤ off ∧ T = [] ∧ e1 = 10) ∨ (¬ off ≤ -360000 ∧ ¬ 360000 ≤ off ∧ ofT off = T ∧ e1 = 0))
    (P : Hid (psV s = v ∧ psE s = ve)) (RP : Hid (rpV s = rv ∧ rpO s = b)) (X : (v = 0 ∧ ve = 12 ∧ b = false) ∨ (ve = 0 ∧ b = true ∧ rv = v)) :
    Calls Tryd.prog 4 #[.int .i64 off, .string ⟨s.toArray⟩] w fun e w' => e = .returned (.bool true) ∧ Below w.heap.size w w' := by
  have h' : ¬ (40 : Int) < (s.length : Int) := by omega
  have HS : Hid (s.length ≤ 1000) := Lib.hid (by omega)
  clear hs
  rcases V with ⟨h1, rfl, rfl⟩ | ⟨h1, h2, rfl, rfl⟩ | ⟨h1, h2, hT, rfl⟩
  all_goals first | have WT := Lib.hid hT | skip
  all_goals first | have BD : Hid (-360000 < off ∧ off < 360000) := Lib.hid (by omega) | skip
  all_goals first | clear hT | skip
  all_goals rcases X with ⟨rfl, rfl, rfl⟩ | ⟨rfl, rfl, rfl⟩
  all_goals go_enter Tryd.func4, Tryd.ntmps4
  all_goals go_wp2_with (first
    | (go_at_call 13; refine (offset_is off _ _ _ O1).mono ?_; rintro e w1 ⟨rfl, k1⟩; simp only []
       have K2 := Lib.hid k1
       clear k1 O1)
    | (go_at_call 14; refine (roffset_is off _ _ BD.out.1 BD.out.2 WT).mono ?_; rintro e w2 ⟨rfl, k2⟩; simp only []
       have K3 := Lib.hid (K2.out.trans (k2.mono K2.out.size))
       clear k2 K2 WT
       have K2 := K3
       clear K3)
    | (go_at_call 15; refine (parse_is s _ _ _ HS.out P).mono ?_; rintro e w3 ⟨rfl, k3⟩; simp only []
       have K3 := Lib.hid (K2.out.trans (k3.mono K2.out.size))
       clear k3 K2 P
       have K2 := K3
       clear K3)
    | (go_at_call 16; refine (rparse_is s _ _ _ RP).mono ?_; rintro e w4 ⟨rfl, k4⟩; simp only []
       have K3 := Lib.hid (K2.out.trans (k4.mono K2.out.size))
       clear k4 K2 RP
       have K2 := K3
       clear K3)
    | (go_at_call 10; refine (awake_is _ (Lib.hid (HA.out.next K2.out))).mono ?_; rintro e w6 ⟨rfl, k6⟩; simp only []))
  all_goals go_ret
  all_goals exact ⟨rfl, K2.out.trans (k6.mono K2.out.size)⟩
theorem abbrOffsets_walk (off : Int) (s : List UInt8) (w : World) (hA : LaidB w) :
    Calls Tryd.prog 4 #[.int .i64 off, .string ⟨s.toArray⟩] w fun e w' => e = .returned (.bool true) ∧ Below w.heap.size w w' := by
  have HA := Lib.hid hA
  by_cases h : 40 < s.length
  · exact offsets_long off s w HA h
  · refine offsets_in off _ _ _ _ _ s _ w HA (by omega) (Lib.hid ⟨rfl, rfl⟩) ?_ (Lib.hid ⟨rfl, rfl⟩) (Lib.hid ⟨rfl, rfl⟩) ?_
    · unfold ofS ofE
      by_cases h1 : off ≤ -360000
      · exact .inl ⟨h1, by rw [if_pos (.inl h1)], by rw [if_pos (.inl h1)]⟩
      · by_cases h2 : 360000 ≤ off
        · exact .inr (.inl ⟨h1, h2, by rw [if_pos (.inr h2)], by rw [if_pos (.inr h2)]⟩)
        · exact .inr (.inr ⟨h1, h2, by rw [if_neg (by omega)], by rw [if_neg (by omega)]⟩)
    · obtain ⟨q1, q2⟩ := rp_eq s
      cases hp : psO s with
      | false => left; rw [q1, hp]; unfold psV psE; rw [hp]; exact ⟨rfl, rfl, rfl⟩
      | true => right; rw [q1, hp, q2 hp]; unfold psV psE; rw [hp]; exact ⟨rfl, rfl, rfl⟩
end Go.Proofs.YtcfmmllegaddhaaDoor
