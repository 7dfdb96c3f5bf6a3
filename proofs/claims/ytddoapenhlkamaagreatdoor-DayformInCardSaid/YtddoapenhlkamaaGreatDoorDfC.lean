/- The contracts of dayform.beginsLast and firstSign: whether a text begins with the word for a last day, and where its first sign is; nothing that was in memory changes. -/
import Derived.Test.YtddoapenhlkamaaGreatDoorDfB
namespace Go.Proofs.YtddoapenhlkamaaGreatDoor
open Go.RowKit

/-- A text begins with the word, in whatever letters. -/
def bgL (s : List UInt8) : Prop := 4 ≤ s.length ∧ low (s.take 4) = lastW4
instance (s : List UInt8) : Decidable (bgL s) := by unfold bgL; exact inferInstance

theorem ftolower (l : List UInt8) (T : List UInt8) (w : World) (hl : l.length ≤ 1000) (hA : LaidF w) (h : Hid (Lib.toLowerD l = T)) :
    Calls Tryz.prog 46 #[.string ⟨l.toArray⟩] w fun e w' => e = .returned (.string ⟨T.toArray⟩) ∧ Below w.heap.size w w' := by
  have := Tryz.strings_ToLower_any ⟨l.toArray⟩ w (by rw [wsize]; omega) hA.cas hA.u8
  rw [show (⟨l.toArray⟩ : ByteArray).data.toList = l from rfl, h.out] at this
  exact this

theorem bg_not {s : List UInt8} (h : s.length < 4) : ¬ bgL s := fun c => by have := c.1; omega
theorem bg_test {s : List UInt8} (h : 4 ≤ s.length) : (Lib.toLowerD (s.take 4) == lastW4) = decide (bgL s) := by
  rw [show lastW4 = [108, 97, 115, 116] from rfl, lower_is (by rw [List.length_take]; omega) (by intro c hc; simp at hc; rcases hc with rfl | rfl | rfl | rfl <;> decide)]
  rw [Bool.eq_iff_iff, beq_iff_eq, decide_eq_true_iff]
  exact ⟨fun a => ⟨h, a⟩, fun a => a.2⟩

set_option maxHeartbeats 800000 in
theorem dbegins_is (s : List UInt8) (v : Bool) (w : World) (hs : s.length ≤ 1000) (hA : LaidF w) (HV : Hid (decide (bgL s) = v)) :
    Calls Tryz.prog 35 #[.string ⟨s.toArray⟩] w fun e w' => e = .returned (.bool v) ∧ Below w.heap.size w w' := by
  have hz := wsize s
  by_cases h4 : 4 ≤ s.length
  · obtain ⟨t, ht⟩ : ∃ t, s.take 4 = t := ⟨_, rfl⟩
    obtain ⟨T, hT⟩ : ∃ T, Lib.toLowerD t = T := ⟨_, rfl⟩
    have hb := bg_test h4
    rw [ht, hT, HV.out] at hb
    have hb' : (T == [108, 97, 115, 116]) = v := hb
    have hsl : ∀ W, (Instr.slice 9 (.string ⟨s.toArray⟩) none (some (.int .i64 4)) none).run Tryz.prog W = .ok (.string ⟨t.toArray⟩) W := wsub_run s 4 t ht h4
    have hlen : t.length ≤ 1000 := by rw [← ht, List.length_take]; omega
    have TL : Hid (∀ W, LaidF W → Calls Tryz.prog 46 #[.string ⟨t.toArray⟩] W fun e w' => e = .returned (.string ⟨T.toArray⟩) ∧ Below W.heap.size W w') := Lib.hid fun W h => ftolower t T W hlen h (Lib.hid hT)
    have HA := Lib.hid hA
    obtain ⟨n, hn⟩ : ∃ n, s.length = n := ⟨_, rfl⟩
    rw [hn] at hz h4
    have d4 : decide (4 ≤ (n : Int)) = true := decide_eq_true (by omega)
    clear ht hT hb HV hA h4 hn
    cases v
    all_goals
      go_enter Tryz.func35, Tryz.ntmps35
      go_wp2_with (go_at_call 46; refine (TL.out _ HA.out).mono ?_; rintro e w1 ⟨rfl, k1⟩)
      go_ret
      exact ⟨rfl, k1⟩
  · obtain rfl : v = false := by rw [← HV.out]; exact decide_eq_false (bg_not (by omega))
    have h4' : ¬ 4 ≤ (s.length : Int) := by omega
    clear HV h4
    go_enter Tryz.func35, Tryz.ntmps35
    go_wp2
    go_ret
    exact ⟨rfl, Below.refl _ _⟩

theorem fsigns_ix0 (W : World) : (Instr.index 44 (.agg #[.string ⟨#[62, 61]⟩, .string ⟨#[60, 61]⟩]) (.int .i64 0)).run Tryz.prog W = .ok (.string ⟨#[62, 61]⟩) W := by kernel_rfl
theorem fsigns_ix1 (W : World) : (Instr.index 44 (.agg #[.string ⟨#[62, 61]⟩, .string ⟨#[60, 61]⟩]) (.int .i64 1)).run Tryz.prog W = .ok (.string ⟨#[60, 61]⟩) W := by kernel_rfl
theorem findex (s b : List UInt8) (v : Int) (w : World) (hs : s.length ≤ 1000) (hA : MaxF w) (h : Hid (Lib.index s b = v)) :
    Calls Tryz.prog 43 #[.string ⟨s.toArray⟩, .string ⟨b.toArray⟩] w fun e w' => e = .returned (.int .i64 v) ∧ w = w' := by
  obtain ⟨m, hm⟩ := hA
  have := Tryz.strings_Index ⟨s.toArray⟩ ⟨b.toArray⟩ m w (by rw [wsize]; omega) hm
  rw [show (⟨s.toArray⟩ : ByteArray).data.toList = s from rfl, show (⟨b.toArray⟩ : ByteArray).data.toList = b from rfl, h.out] at this
  exact this.mono fun _ _ h => ⟨h.1, h.2.symm⟩

/-- What the loop's two rounds come to. -/
structure Signs (s : List UInt8) (p1 p2 : Nat) (k1 k2 : Int) : Prop where
  l1 : p1 ≤ s.length
  l2 : p2 ≤ s.length
  a : (Lib.index s [62, 61] = (p1 : Int) ∧ k1 = 2) ∨ (Lib.index s [62, 61] = -1 ∧ p1 = s.length ∧ k1 = 0)
  b : (Lib.index (s.take p1) [60, 61] = (p2 : Int) ∧ k2 = 3) ∨ (Lib.index (s.take p1) [60, 61] = -1 ∧ p2 = p1 ∧ k2 = k1)
/-- Where the first sign is, and which kind it tells. -/
def sgP (s : List UInt8) : Nat := match sgnL s with | some (p, _) => p | none => s.length
def sgK (s : List UInt8) : Int := match sgnL s with | some (_, c) => if c = 62 then 2 else 3 | none => 0
theorem signs_ex (s : List UInt8) : ∃ (p1 : Nat) (k1 : Int), Signs s p1 (sgP s) k1 (sgK s) := by
  unfold sgP sgK
  cases h : sgnL s with
  | none =>
    obtain ⟨a, b⟩ := sgn_no h
    exact ⟨s.length, 0, Nat.le_refl _, Nat.le_refl _, .inr ⟨a, rfl, rfl⟩, .inr ⟨by rw [List.take_length]; exact b, rfl, rfl⟩⟩
  | some x =>
    obtain ⟨p, c⟩ := x
    have hl := sgn_lt h
    rcases (sgnL_some h).2.2.1 with rfl | rfl
    · obtain ⟨a, b⟩ := sgn_ge h
      exact ⟨p, 2, by omega, by show p ≤ s.length; omega, .inl ⟨a, rfl⟩, .inr ⟨b, rfl, rfl⟩⟩
    · rcases sgn_le h with ⟨q, a, b, c⟩ | ⟨a, b⟩
      · exact ⟨q, 2, b, by show p ≤ s.length; omega, .inl ⟨a, rfl⟩, .inl ⟨c, rfl⟩⟩
      · exact ⟨s.length, 0, Nat.le_refl _, by show p ≤ s.length; omega, .inr ⟨a, rfl, rfl⟩, .inl ⟨by rw [List.take_length]; exact b, rfl⟩⟩

set_option maxHeartbeats 1600000 in
theorem dfirst_at (s : List UInt8) (p1 p2 : Nat) (k1 k2 : Int) (w : World) (hs : s.length ≤ 1000) (hA : LaidF w) (hS : Signs s p1 p2 k1 k2) :
    Calls Tryz.prog 32 #[.string ⟨s.toArray⟩] w fun e w' => e = .returned (.tuple #[.int .i64 (p2 : Int), .int .i64 k2]) ∧ w = w' := by
  have hz := wsize s
  obtain ⟨l1, l2, a, b⟩ := hS
  have c0 := hA.sig.cell 0 _ rfl
  have c1 := hA.sig.cell 1 _ rfl
  have MX := Lib.hid hA.mx
  have ix0 := fsigns_ix0
  have ix1 := fsigns_ix1
  obtain ⟨n, hn⟩ : ∃ n, s.length = n := ⟨_, rfl⟩
  have HN := Lib.hid hn
  obtain ⟨t1, ht1⟩ : ∃ t1, s.take p1 = t1 := ⟨_, rfl⟩
  have sl0 := wsub_run s n s (by rw [← hn, List.take_length]) (by omega)
  have sl1 := wsub_run s p1 t1 ht1 l1
  have hl1 : t1.length ≤ 1000 := by rw [← ht1, List.length_take]; omega
  obtain ⟨v0, hv0⟩ : ∃ v0, Lib.index s [62, 61] = v0 := ⟨_, rfl⟩
  obtain ⟨v1, hv1⟩ : ∃ v1, Lib.index t1 [60, 61] = v1 := ⟨_, rfl⟩
  rw [hv0] at a
  rw [ht1, hv1] at b
  have I0 : Hid (∀ W, MaxF W → Calls Tryz.prog 43 #[.string ⟨s.toArray⟩, .string ⟨#[62, 61]⟩] W fun e w' => e = .returned (.int .i64 v0) ∧ W = w') := Lib.hid fun W h => findex s [62, 61] v0 W hs h (Lib.hid hv0)
  have I1 : Hid (∀ W, MaxF W → Calls Tryz.prog 43 #[.string ⟨t1.toArray⟩, .string ⟨#[60, 61]⟩] W fun e w' => e = .returned (.int .i64 v1) ∧ W = w') := Lib.hid fun W h => findex t1 [60, 61] v1 W hl1 h (Lib.hid hv1)
  rw [hn] at a hz
  have A := Lib.hid a
  have B := Lib.hid b
  clear hA hn ht1 hv0 hv1 hs hl1 l1 l2 a b
  go_enter Tryz.func32, Tryz.ntmps32
  go_wp2
  go_loop [4, 5, 12] (fun vp vk vi => (vi = .int .i64 0 ∧ vp = .int .i64 (n : Int) ∧ vk = .int .i64 0) ∨ (vi = .int .i64 1 ∧ vp = .int .i64 (p1 : Int) ∧ vk = .int .i64 k1) ∨ (vi = .int .i64 2 ∧ vp = .int .i64 (p2 : Int) ∧ vk = .int .i64 k2)) (fun _ _ vi => (2 - intOf vi).toNat)
  case atStart => exact .inl ⟨rfl, rfl, rfl⟩
  case round =>
    rcases hrel with ⟨rfl, rfl, rfl⟩ | ⟨rfl, rfl, rfl⟩ | ⟨rfl, rfl, rfl⟩
    · rcases A.out with ⟨a1, a2⟩ | ⟨a1, a2, a3⟩
      · subst a1 a2
        clear A B
        go_wp2_with (go_at_call 43; refine (I0.out _ MX.out).mono ?_; rintro e w1 ⟨rfl, rfl⟩)
        go_round
        case rel => exact .inr (.inl ⟨rfl, rfl, rfl⟩)
        case measure => simp [intOf]
      · have hd : decide (0 ≤ v0) = false := by rw [a1]; decide
        subst a2 a3
        clear A B a1 sl1
        go_wp2_with (go_at_call 43; refine (I0.out _ MX.out).mono ?_; rintro e w1 ⟨rfl, rfl⟩)
        go_round
        case rel => exact .inr (.inl ⟨rfl, rfl, rfl⟩)
        case measure => simp [intOf]
    · rcases B.out with ⟨a1, a2⟩ | ⟨a1, a2, a3⟩
      · subst a1 a2
        clear A B
        go_wp2_with (go_at_call 43; refine (I1.out _ MX.out).mono ?_; rintro e w1 ⟨rfl, rfl⟩)
        go_round
        case rel => exact .inr (.inr ⟨rfl, rfl, rfl⟩)
        case measure => simp [intOf]
      · have hd : decide (0 ≤ v1) = false := by rw [a1]; decide
        subst a2 a3
        clear A B a1 sl0
        go_wp2_with (go_at_call 43; refine (I1.out _ MX.out).mono ?_; rintro e w1 ⟨rfl, rfl⟩)
        go_round
        case rel => exact .inr (.inr ⟨rfl, rfl, rfl⟩)
        case measure => simp [intOf]
    · clear A B
      go_wp2
      go_ret2
      exact ⟨rfl, rfl⟩
/-- firstSign. -/
theorem dfirst_is (s : List UInt8) (p : Nat) (k : Int) (w : World) (hs : s.length ≤ 1000) (hA : LaidF w) (HV : Hid (sgP s = p ∧ sgK s = k)) :
    Calls Tryz.prog 32 #[.string ⟨s.toArray⟩] w fun e w' => e = .returned (.tuple #[.int .i64 (p : Int), .int .i64 k]) ∧ w = w' := by
  obtain ⟨p1, k1, h⟩ := signs_ex s
  rw [HV.out.1, HV.out.2] at h
  exact dfirst_at s p1 p k1 k w hs hA h
end Go.Proofs.YtddoapenhlkamaaGreatDoor
