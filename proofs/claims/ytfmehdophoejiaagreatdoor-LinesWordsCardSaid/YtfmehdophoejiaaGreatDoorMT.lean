/- The contracts of the reference's Right, number and In of days of a month, and of words.WeekdayName: what each call returns; nothing that was in memory changes.
The contract of the reference's Parse: which day of a month a text is, or what is wrong with it; nothing that was in memory changes. -/
import Derived.Test.YtfmehdophoejiaaGreatDoorMS
import Derived.Test.YtfmehdophoejiaaGreatDoorMG
import Derived.Test.YtfmehdophoejiaaGreatDoorMF
namespace Go.Proofs.YtfmehdophoejiaaGreatDoor
open Go.RowKit

theorem dright_0 (wk n : Int) (v : Bool) (w : World) (HV : Hid (dfB 0 wk n = v)) :
    Calls Tryz.prog 113 #[.agg #[.int .i64 0, .int .i64 wk, .int .i64 n]] w fun e w' => e = .returned (.bool v) ∧ Below w.heap.size w w' := by
  by_cases hz : wk = 0
  · subst hz
    rcases dcases n 1 31 with ⟨c1, H2⟩ | ⟨c1, c2, H2⟩ | ⟨c1, c2, H2⟩
    · obtain rfl : v = false := by rw [← HV.out]; exact dfB_not (by have := H2.out; unfold dfD; omega)
      go_enter Tryz.func113, Tryz.ntmps113
      go_wp2
      go_ret
      exact ⟨rfl, (Below.refl _ _).alloc (Nat.le_refl _) _⟩
    · obtain rfl : v = false := by rw [← HV.out]; exact dfB_not (by have := H2.out; unfold dfD; omega)
      go_enter Tryz.func113, Tryz.ntmps113
      go_wp2
      go_ret
      exact ⟨rfl, (Below.refl _ _).alloc (Nat.le_refl _) _⟩
    · obtain rfl : v = true := by rw [← HV.out]; exact dfB_iff.2 (by have := H2.out; unfold dfD; omega)
      go_enter Tryz.func113, Tryz.ntmps113
      go_wp2
      go_ret
      exact ⟨rfl, (Below.refl _ _).alloc (Nat.le_refl _) _⟩
  · have hz' : (wk == 0) = false := by simpa using hz
    obtain rfl : v = false := by rw [← HV.out]; exact dfB_not (by unfold dfD; omega)
    clear hz
    rcases dcases wk 0 6 with ⟨b1, _⟩ | ⟨b1, b2, _⟩ | ⟨b1, b2, _⟩ <;> rcases dcases n 1 31 with ⟨c1, _⟩ | ⟨c1, c2, _⟩ | ⟨c1, c2, _⟩
    all_goals
      go_enter Tryz.func113, Tryz.ntmps113
      go_wp2
      go_ret
      exact ⟨rfl, (Below.refl _ _).alloc (Nat.le_refl _) _⟩

theorem dright_1 (wk n : Int) (v : Bool) (w : World) (HV : Hid (dfB 1 wk n = v)) :
    Calls Tryz.prog 113 #[.agg #[.int .i64 1, .int .i64 wk, .int .i64 n]] w fun e w' => e = .returned (.bool v) ∧ Below w.heap.size w w' := by
  rcases dcases wk 0 6 with ⟨b1, H1⟩ | ⟨b1, b2, H1⟩ | ⟨b1, b2, H1⟩
  · obtain rfl : v = false := by rw [← HV.out]; exact dfB_not (by have := H1.out; unfold dfD; omega)
    rcases dcases n 1 31 with ⟨c1, _⟩ | ⟨c1, c2, _⟩ | ⟨c1, c2, _⟩
    all_goals
      go_enter Tryz.func113, Tryz.ntmps113
      go_wp2
      go_ret
      exact ⟨rfl, (Below.refl _ _).alloc (Nat.le_refl _) _⟩
  · obtain rfl : v = false := by rw [← HV.out]; exact dfB_not (by have := H1.out; unfold dfD; omega)
    rcases dcases n 1 31 with ⟨c1, _⟩ | ⟨c1, c2, _⟩ | ⟨c1, c2, _⟩
    all_goals
      go_enter Tryz.func113, Tryz.ntmps113
      go_wp2
      go_ret
      exact ⟨rfl, (Below.refl _ _).alloc (Nat.le_refl _) _⟩
  · by_cases hz : n = 0
    · subst hz
      obtain rfl : v = true := by rw [← HV.out]; exact dfB_iff.2 (by have := H1.out; unfold dfD; omega)
      go_enter Tryz.func113, Tryz.ntmps113
      go_wp2
      go_ret
      exact ⟨rfl, (Below.refl _ _).alloc (Nat.le_refl _) _⟩
    · have hz' : (n == 0) = false := by simpa using hz
      obtain rfl : v = false := by rw [← HV.out]; exact dfB_not (by unfold dfD; omega)
      clear hz
      rcases dcases n 1 31 with ⟨c1, _⟩ | ⟨c1, c2, _⟩ | ⟨c1, c2, _⟩
      all_goals
        go_enter Tryz.func113, Tryz.ntmps113
        go_wp2
        go_ret
        exact ⟨rfl, (Below.refl _ _).alloc (Nat.le_refl _) _⟩

theorem dright_23 (k wk n : Int) (v : Bool) (w : World) (hk : k = 2 ∨ k = 3) (HV : Hid (dfB k wk n = v)) :
    Calls Tryz.prog 113 #[.agg #[.int .i64 k, .int .i64 wk, .int .i64 n]] w fun e w' => e = .returned (.bool v) ∧ Below w.heap.size w w' := by
  rcases dcases wk 0 6 with ⟨b1, H1⟩ | ⟨b1, b2, H1⟩ | ⟨b1, b2, H1⟩
  · obtain rfl : v = false := by rw [← HV.out]; exact dfB_not (by have := H1.out; unfold dfD; omega)
    rcases hk with rfl | rfl <;> rcases dcases n 1 31 with ⟨c1, _⟩ | ⟨c1, c2, _⟩ | ⟨c1, c2, _⟩
    all_goals
      go_enter Tryz.func113, Tryz.ntmps113
      go_wp2
      go_ret
      exact ⟨rfl, (Below.refl _ _).alloc (Nat.le_refl _) _⟩
  · obtain rfl : v = false := by rw [← HV.out]; exact dfB_not (by have := H1.out; unfold dfD; omega)
    rcases hk with rfl | rfl <;> rcases dcases n 1 31 with ⟨c1, _⟩ | ⟨c1, c2, _⟩ | ⟨c1, c2, _⟩
    all_goals
      go_enter Tryz.func113, Tryz.ntmps113
      go_wp2
      go_ret
      exact ⟨rfl, (Below.refl _ _).alloc (Nat.le_refl _) _⟩
  · rcases dcases n 1 31 with ⟨c1, H2⟩ | ⟨c1, c2, H2⟩ | ⟨c1, c2, H2⟩
    · obtain rfl : v = false := by rw [← HV.out]; exact dfB_not (by have := H2.out; unfold dfD; omega)
      rcases hk with rfl | rfl
      all_goals
        go_enter Tryz.func113, Tryz.ntmps113
        go_wp2
        go_ret
        exact ⟨rfl, (Below.refl _ _).alloc (Nat.le_refl _) _⟩
    · obtain rfl : v = false := by rw [← HV.out]; exact dfB_not (by have := H2.out; unfold dfD; omega)
      rcases hk with rfl | rfl
      all_goals
        go_enter Tryz.func113, Tryz.ntmps113
        go_wp2
        go_ret
        exact ⟨rfl, (Below.refl _ _).alloc (Nat.le_refl _) _⟩
    · obtain rfl : v = true := by rw [← HV.out]; exact dfB_iff.2 (by have := H1.out; have := H2.out; unfold dfD; omega)
      rcases hk with rfl | rfl
      all_goals
        go_enter Tryz.func113, Tryz.ntmps113
        go_wp2
        go_ret
        exact ⟨rfl, (Below.refl _ _).alloc (Nat.le_refl _) _⟩

theorem dright_x (k wk n : Int) (w : World) (h0 : k ≠ 0) (h1 : k ≠ 1) (h2 : k ≠ 2) (h3 : k ≠ 3) :
    Calls Tryz.prog 113 #[.agg #[.int .i64 k, .int .i64 wk, .int .i64 n]] w fun e w' => e = .returned (.bool false) ∧ Below w.heap.size w w' := by
  have k0 : (k == 0) = false := by simpa using h0
  have k1 : (k == 1) = false := by simpa using h1
  have k2 : (k == 2) = false := by simpa using h2
  have k3 : (k == 3) = false := by simpa using h3
  clear h0 h1 h2 h3
  rcases dcases wk 0 6 with ⟨b1, _⟩ | ⟨b1, b2, _⟩ | ⟨b1, b2, _⟩ <;> rcases dcases n 1 31 with ⟨c1, _⟩ | ⟨c1, c2, _⟩ | ⟨c1, c2, _⟩
  all_goals
      go_enter Tryz.func113, Tryz.ntmps113
      go_wp2
      go_ret
      exact ⟨rfl, (Below.refl _ _).alloc (Nat.le_refl _) _⟩

/-- The reference's Right, at every day of a month. -/
theorem dright_is (k wk n : Int) (v : Bool) (w : World) (HV : Hid (dfB k wk n = v)) :
    Calls Tryz.prog 113 #[.agg #[.int .i64 k, .int .i64 wk, .int .i64 n]] w fun e w' => e = .returned (.bool v) ∧ Below w.heap.size w w' := by
  by_cases h0 : k = 0
  · subst h0; exact dright_0 wk n v w HV
  · by_cases h1 : k = 1
    · subst h1; exact dright_1 wk n v w HV
    · by_cases h2 : k = 2 ∨ k = 3
      · exact dright_23 k wk n v w h2 HV
      · obtain rfl : v = false := by rw [← HV.out]; exact dfB_not (by unfold dfD; omega)
        exact dright_x k wk n w h0 h1 (fun h => h2 (.inl h)) (fun h => h2 (.inr h))


theorem bad8 {t : List UInt8} {i : Nat} {c : UInt8} (hi : i < t.length) (hc : t.getD i 0 = c) (h : isDg c = false) : allDg t = false := by
  rw [← Bool.not_eq_true]
  intro ha
  have := List.all_eq_true.1 ha c (by rw [← hc]; simp [hi])
  rw [h] at this; cases this
theorem val_100 {t : List UInt8} {i : Nat} (h : allDg (t.take i) = true) (hl : t.length ≤ 2) : valD 0 (t.take i) < 100 := by
  have := valD_lt (t.take i) 0 h
  have h5 : 10 ^ (t.take i).length ≤ 10 ^ 2 := Nat.pow_le_pow_right (by omega) (by rw [List.length_take]; omega)
  omega

set_option maxHeartbeats 1600000 in
theorem rnum8_core (t : List UInt8) (v e0 : Int) (w : World) (b : UInt8) (hb : t.getD 0 0 = b) (hb2 : b.toNat ≠ 48) (hl1 : 1 ≤ t.length) (hl2 : t.length ≤ 2) (EB : Hid (allDg t = false → v = 0 ∧ e0 = 12)) (EG : Hid (allDg t = true → (valD 0 t ≤ 31 → v = (valD 0 t : Int) ∧ e0 = 0) ∧ (31 < valD 0 t → v = 0 ∧ e0 = 10))) :
    Calls Tryz.prog 101 #[.string ⟨t.toArray⟩] w fun e w' => e = .returned (.tuple #[.int .i64 v, .int .i64 e0]) ∧ w = w' := by
  have hz := wsize t
  have h45 : ∀ W : World, (Instr.index 9 (.string ⟨t.toArray⟩) (.int .i64 0)).run Tryz.prog W = .ok (.int .u8 (b.toNat : Int)) W := wbyte_at t 0 (by omega) b hb
  have hb' : ((b.toNat : Int) == 48) = false := by simp; omega
  have L1 : decide (t.length < 1) = false := decide_eq_false (by omega)
  have L2 : decide (2 < t.length) = false := decide_eq_false (by omega)
  have L1' : decide ((t.length : Int) < 1) = false := decide_eq_false (by omega)
  have L2' : decide (2 < (t.length : Int)) = false := decide_eq_false (by omega)
  have HL := Lib.hid (And.intro hl1 hl2)
  clear hb hb2 hl1 hl2
  go_enter Tryz.func101, Tryz.ntmps101
  go_wp2
  clear L1 L2 L1' L2' hb' h45
  go_loopw [4, 5] (fun vn vi w' => ∃ i : Nat, vi = .int .i64 i ∧ i ≤ t.length ∧ allDg (t.take i) = true ∧ vn = .int .i64 (valD 0 (t.take i)) ∧ w = w') (fun _ vi _ => t.length - (intOf vi).toNat)
  case atStart => exact ⟨0, rfl, by omega, rfl, rfl, rfl⟩
  case round =>
    obtain ⟨i, rfl, i1, i2, rfl, rfl⟩ := hrel
    by_cases hi : i < t.length
    · obtain ⟨c, hc⟩ : ∃ c, t.getD i 0 = c := ⟨_, rfl⟩
      have hix := wbyte_at t i hi c hc
      have TN := Lib.hid (take_snoc hi hc)
      have HC : Hid (isDg c = false → allDg t = false) := Lib.hid (bad8 hi hc)
      have clt := c.toNat_lt
      have nb := val_100 (i := i) i2 HL.out.2
      obtain ⟨m, hm⟩ : ∃ m, valD 0 (t.take i) = m := ⟨_, rfl⟩
      rw [hm] at nb
      have HM := Lib.hid hm
      have I2 := Lib.hid i2
      have hi' : (i : Int) < (t.length : Int) := by omega
      have hi3 : i ≤ 1 := by have := HL.out; omega
      rw [hm]
      clear hc i2 hm
      by_cases d1 : c.toNat < 48
      · have d1' : (c.toNat : Int) < 48 := by omega
        have E := Lib.hid (EB.out (HC.out (by unfold isDg; simp; omega)))
        go_wp2
        go_ret2
        rw [E.out.1, E.out.2]
        exact ⟨rfl, rfl⟩
      · by_cases d2 : 57 < c.toNat
        · have d1' : ¬ (c.toNat : Int) < 48 := by omega
          have d2' : 57 < (c.toNat : Int) := by omega
          have E := Lib.hid (EB.out (HC.out (by unfold isDg; simp; omega)))
          go_wp2
          go_ret2
          rw [E.out.1, E.out.2]
          exact ⟨rfl, rfl⟩
        · have d1' : ¬ (c.toNat : Int) < 48 := by omega
          have d2' : ¬ 57 < (c.toNat : Int) := by omega
          have V : Hid (valD 0 (t.take (i + 1)) = 10 * m + (c.toNat - 48) ∧ allDg (t.take (i + 1)) = true) := Lib.hid (by
            rw [TN.out, valD_snoc, HM.out, allDg_snoc, I2.out]
            exact ⟨rfl, by unfold isDg; simp; omega⟩)
          go_wp2
          go_roundw
          case rel =>
            refine ⟨i + 1, by go_num, by omega, V.out.2, ?_, by first | rfl | trivial⟩
            rw [V.out.1]
            congr 1; omega
          case measure => simp [intOf]; omega
    · obtain rfl : i = t.length := by omega
      have nb := val_100 (i := t.length) i2 HL.out.2
      rw [List.take_length] at i2 nb ⊢
      have E := Lib.hid (EG.out i2)
      obtain ⟨m, hm⟩ : ∃ m, valD 0 t = m := ⟨_, rfl⟩
      rw [hm] at nb E ⊢
      have hi' : ¬ ((t.length : Nat) : Int) < (t.length : Int) := by omega
      clear i2 hm
      by_cases h31 : m ≤ 31
      · have E2 := Lib.hid (E.out.1 h31)
        have h3 : ¬ (31 : Int) < (m : Int) := by omega
        clear E
        go_wp2
        go_ret2
        rw [E2.out.1, E2.out.2]
        exact ⟨rfl, by first | rfl | trivial⟩
      · have E2 := Lib.hid (E.out.2 (by omega))
        have h3 : (31 : Int) < (m : Int) := by omega
        clear E h31
        go_wp2
        go_ret2
        rw [E2.out.1, E2.out.2]
        exact ⟨rfl, by first | rfl | trivial⟩

theorem dnum_short {s : List UInt8} (h : s.length = 1 ∨ s.length = 2) (hh : s.head? ≠ some 48) : dnum s = if allDg s = true then some (valD 0 s) else none := by
  unfold dnum
  by_cases ha : allDg s = true
  · rw [if_pos ⟨h, hh, ha⟩, if_pos ha]
  · rw [if_neg (fun c => ha c.2.2), if_neg ha]
set_option maxHeartbeats 800000 in
/-- The reference's number. -/
theorem rnum8_is (s : List UInt8) (v e0 : Int) (w : World) (HV : Hid (dnV s = v ∧ dnE s = e0)) :
    Calls Tryz.prog 101 #[.string ⟨s.toArray⟩] w fun e w' => e = .returned (.tuple #[.int .i64 v, .int .i64 e0]) ∧ w = w' := by
  have hz := wsize s
  by_cases h0 : s.length = 0
  · obtain ⟨rfl, rfl⟩ : v = 0 ∧ e0 = 12 := by
      have := dn_none (s := s) (by unfold dnum; rw [if_neg (by omega)])
      have h2 := HV.out
      exact ⟨h2.1.symm.trans this.1, h2.2.symm.trans this.2⟩
    obtain rfl : s = [] := List.eq_nil_of_length_eq_zero h0
    clear HV h0 hz
    go_enter Tryz.func101, Tryz.ntmps101
    go_wp2
    go_ret2
    exact ⟨rfl, rfl⟩
  · by_cases h2 : 2 < s.length
    · obtain ⟨rfl, rfl⟩ : v = 0 ∧ e0 = 12 := by
        have := dn_none (s := s) (by unfold dnum; rw [if_neg (by omega)])
        have h2 := HV.out
        exact ⟨h2.1.symm.trans this.1, h2.2.symm.trans this.2⟩
      have L1 : decide (s.length < 1) = false := decide_eq_false (by omega)
      have L2 : decide (2 < s.length) = true := decide_eq_true (by omega)
      have L1' : decide ((s.length : Int) < 1) = false := decide_eq_false (by omega)
      have L2' : decide (2 < (s.length : Int)) = true := decide_eq_true (by omega)
      clear HV h0 h2
      go_enter Tryz.func101, Tryz.ntmps101
      go_wp2
      go_ret2
      exact ⟨rfl, rfl⟩
    · obtain ⟨b, hb⟩ : ∃ b, s.getD 0 0 = b := ⟨_, rfl⟩
      have hh : s.head? = some b := by cases s with | nil => exact absurd rfl h0 | cons c r => simpa using hb
      by_cases h48 : b.toNat = 48
      · obtain rfl : b = 48 := UInt8.toNat_inj.1 h48
        obtain ⟨rfl, rfl⟩ : v = 0 ∧ e0 = 12 := by
          have := dn_none (s := s) (by unfold dnum; rw [if_neg (fun c => c.2.1 hh)])
          have h2 := HV.out
          exact ⟨h2.1.symm.trans this.1, h2.2.symm.trans this.2⟩
        have h45 : ∀ W : World, (Instr.index 9 (.string ⟨s.toArray⟩) (.int .i64 0)).run Tryz.prog W = .ok (.int .u8 48) W := wbyte_at s 0 (by omega) 48 hb
        have L1 : decide (s.length < 1) = false := decide_eq_false (by omega)
        have L2 : decide (2 < s.length) = false := decide_eq_false (by omega)
        have L1' : decide ((s.length : Int) < 1) = false := decide_eq_false (by omega)
        have L2' : decide (2 < (s.length : Int)) = false := decide_eq_false (by omega)
        clear HV h0 h2 hb hh h48
        go_enter Tryz.func101, Tryz.ntmps101
        go_wp2
        go_ret2
        exact ⟨rfl, rfl⟩
      · have hd := dnum_short (s := s) (by omega) (by rw [hh]; intro e; injection e with e; rw [e] at h48; exact h48 rfl)
        refine rnum8_core s v e0 w b hb h48 (by omega) (by omega) (Lib.hid fun ha => ?_) (Lib.hid fun ha => ⟨fun hm => ?_, fun hm => ?_⟩)
        · rw [ha] at hd
          have := dn_none hd
          have h2 := HV.out
          exact ⟨h2.1.symm.trans this.1, h2.2.symm.trans this.2⟩
        · rw [if_pos ha] at hd
          have := dn_fine hd hm
          have h2 := HV.out
          exact ⟨h2.1.symm.trans this.1, h2.2.symm.trans this.2⟩
        · rw [if_pos ha] at hd
          have := dn_big hd hm
          have h2 := HV.out
          exact ⟨h2.1.symm.trans this.1, h2.2.symm.trans this.2⟩
end Go.Proofs.YtfmehdophoejiaaGreatDoor

namespace Go.Proofs.YtfmehdophoejiaaGreatDoor
open Go.RowKit

theorem drop_two {s : List UInt8} {i : Nat} {a b : UInt8} (h : i + 1 < s.length) (ha : s.getD i 0 = a) (hb : s.getD (i + 1) 0 = b) : s.drop i = a :: b :: s.drop (i + 2) := by
  rw [List.drop_eq_getElem_cons (show i < s.length by omega), List.drop_eq_getElem_cons h]
  have e1 : s[i]'(by omega) = a := by rw [← ha]; simp [show i < s.length by omega]
  have e2 : s[i + 1] = b := by rw [← hb]; simp [h]
  rw [e1, e2]
theorem byte_next (s : List UInt8) (i : Nat) (h : i + 1 < s.length) (c : UInt8) (hc : s.getD (i + 1) 0 = c) (W : World) : (Instr.index 9 (.string ⟨s.toArray⟩) (.int .i64 ((i : Int) + 1))).run Tryz.prog W = .ok (.int .u8 (c.toNat : Int)) W := wbyte_at s (i + 1) h c hc W
theorem u8_ne {a b : UInt8} (h : a ≠ b) : a.toNat ≠ b.toNat := fun e => h (UInt8.toNat_inj.1 e)

set_option maxHeartbeats 3200000 in
/-- Parse of a text with a sign. -/
theorem rparse_sign (s : List UInt8) (p : Nat) (c : UInt8) (f v e1 k' v' m' e0 : Int) (w : World) (hs : s.length ≤ 100) (hsg : sgnL s = some (p, c)) (HF : Hid (wantZ (findL (low (s.take p)) weeksL) = f)) (HN : Hid (dnV (s.drop (p + 2)) = v ∧ dnE (s.drop (p + 2)) = e1))
    (HR : (f < 0 ∧ Hid (k' = 0 ∧ v' = 0 ∧ m' = 0 ∧ e0 = 13)) ∨ (0 ≤ f ∧ (e1 == 0) = false ∧ Hid (k' = 0 ∧ v' = 0 ∧ m' = 0 ∧ e0 = e1)) ∨ (0 ≤ f ∧ Hid (e1 = 0 ∧ k' = (if c = 62 then 2 else 3) ∧ v' = f ∧ m' = v ∧ e0 = 0))) :
    Calls Tryz.prog 64 #[.string ⟨s.toArray⟩] w fun e w' => e = .returned (.tuple #[.agg #[.int .i64 k', .int .i64 v', .int .i64 m'], .int .i64 e0]) ∧ Below w.heap.size w w' := by
  have hz := wsize s
  have hpl := sgn_lt hsg
  obtain ⟨g1, g2, g3, g4⟩ := sgnL_some hsg
  obtain ⟨t1, ht1⟩ : ∃ t1, s.take p = t1 := ⟨_, rfl⟩
  obtain ⟨t2, ht2⟩ : ∃ t2, s.drop (p + 2) = t2 := ⟨_, rfl⟩
  have sl1 := wsub_run s p t1 ht1 (by omega)
  have sl2 := ffrom_run s ((p : Int) + 2) (p + 2) t2 (by omega) ht2 (by omega)
  rw [ht1] at HF
  rw [ht2] at HN
  have hl1 : t1.length ≤ 100 := by rw [← ht1, List.length_take]; omega
  have FD : Hid (∀ (L : Nat) (W : World), ListAt L weeksL W → Calls Tryz.prog 62 #[.string ⟨t1.toArray⟩, .slice (some ⟨L, 0, none⟩) 7 7] W fun e w' => e = .returned (.int .i64 f) ∧ Below W.heap.size W w') := Lib.hid fun L W h => rfind_is t1 weeksL L 7 f W hl1 rfl (by omega) (by decide) h HF
  have NB : Hid (∀ W, Calls Tryz.prog 101 #[.string ⟨t2.toArray⟩] W fun e w' => e = .returned (.tuple #[.int .i64 v, .int .i64 e1]) ∧ W = w') := Lib.hid fun W => rnum8_is t2 v e1 W HN
  have T0 := Lib.hid (Trp.new w 0 0 0 30)
  have G4 := Lib.hid g4
  have hb1 : s.getD (p + 1) 0 = 61 := by simp [List.getD, g2]
  have ha1 : s.getD p 0 = c := by simp [List.getD, g1]
  have HB := Lib.hid (And.intro ha1 (And.intro hb1 g3))
  have HR' := Lib.hid HR
  obtain ⟨n, hn⟩ : ∃ n, s.length = n := ⟨_, rfl⟩
  have HNL := Lib.hid hn
  have IX : Hid (∀ i, i < n → ∀ c, s.getD i 0 = c → ∀ W : World, (Instr.index 9 (.string ⟨s.toArray⟩) (.int .i64 (i : Int))).run Tryz.prog W = .ok (.int .u8 (c.toNat : Int)) W) := Lib.hid fun i h c hc W => wbyte_at s i (by omega) c hc W
  have IY : Hid (∀ i, i + 1 < n → ∀ c, s.getD (i + 1) 0 = c → ∀ W : World, (Instr.index 9 (.string ⟨s.toArray⟩) (.int .i64 ((i : Int) + 1))).run Tryz.prog W = .ok (.int .u8 (c.toNat : Int)) W) := Lib.hid fun i h c hc W => byte_next s i (by omega) c hc W
  rw [hn] at hz hpl hs
  clear hsg ht1 ht2 hl1 HF HN g1 g2 g3 g4 ha1 hb1 HR hn
  have SL := Lib.hid (And.intro sl1 sl2)
  clear sl1 sl2
  go_enter Tryz.func64, Tryz.ntmps64
  go_wp2
  go_loop [4] (fun vi => ∃ i : Nat, vi = .int .i64 (i : Int) ∧ i ≤ p) (fun vi => n - (intOf vi).toNat)
  case atStart => exact ⟨0, rfl, by omega⟩
  case round =>
    obtain ⟨i, rfl, hip⟩ := hrel
    have hi2 : (i : Int) + 1 < (n : Int) := by omega
    by_cases hlt : i < p
    · obtain ⟨a, ha⟩ : ∃ a, s.getD i 0 = a := ⟨_, rfl⟩
      obtain ⟨b, hb⟩ : ∃ b, s.getD (i + 1) 0 = b := ⟨_, rfl⟩
      have ia := IX.out i (by omega) a ha
      have ib := IY.out i (by omega) b hb
      have hns : ¬ (b = 61 ∧ (a = 62 ∨ a = 60)) := fun hc => G4.out i hlt (by
        have h1 : i < s.length := by rw [HNL.out]; omega
        have h2 : i + 1 < s.length := by rw [HNL.out]; omega
        have e1 : s[i]? = some a := by rw [← ha]; simp [List.getD, h1]
        have e2 : s[i + 1]? = some b := by rw [← hb]; simp [List.getD, h2]
        rw [signAt, e1, e2, hc.1]
        exact ⟨rfl, hc.2.imp (congrArg some) (congrArg some)⟩)
      have cases3 : ((b.toNat : Int) == 61) = false ∨ (((b.toNat : Int) == 61) = true ∧ ((a.toNat : Int) == 62) = false ∧ ((a.toNat : Int) == 60) = false) := by
        by_cases h61 : b.toNat = 61
        · have hb61 : b = 61 := UInt8.toNat_inj.1 h61
          refine .inr ⟨by simp; omega, ?_, ?_⟩
          · have := u8_ne (a := a) (b := 62) (fun e => hns ⟨hb61, .inl e⟩)
            have e62 : (62 : UInt8).toNat = 62 := rfl
            simp; omega
          · have := u8_ne (a := a) (b := 60) (fun e => hns ⟨hb61, .inr e⟩)
            have e60 : (60 : UInt8).toNat = 60 := rfl
            simp; omega
        · exact .inl (by simp; omega)
      clear hns ha hb
      rcases cases3 with h1 | ⟨h1, h2, h3⟩
      · have h1' : ((b.toNat : Int) != 61) = true := by simp only [bne, h1]; rfl
        go_wp2
        go_round
        case rel => exact ⟨i + 1, by go_num, by omega⟩
        case measure => simp [intOf]; omega
      · have h1' : ((b.toNat : Int) != 61) = false := by simp only [bne, h1]; rfl
        have h2' : ((a.toNat : Int) != 62) = true := by simp only [bne, h2]; rfl
        have h3' : ((a.toNat : Int) != 60) = true := by simp only [bne, h3]; rfl
        go_wp2
        go_round
        case rel => exact ⟨i + 1, by go_num, by omega⟩
        case measure => simp [intOf]; omega
    · obtain rfl : i = p := by omega
      obtain ⟨hb1, hb2, hb3⟩ := HB.out
      have ia := IX.out i (by omega) c hb1
      have ib : ∀ W : World, (Instr.index 9 (.string ⟨s.toArray⟩) (.int .i64 ((i : Int) + 1))).run Tryz.prog W = .ok (.int .u8 61) W := IY.out i (by omega) 61 hb2
      obtain ⟨sl1, sl2⟩ := SL.out
      clear hb1 hb2 SL
      rcases hb3 with rfl | rfl
      all_goals
        rcases HR'.out with ⟨hf, H⟩ | ⟨hf, he, H⟩ | ⟨hf, H⟩
        · obtain ⟨rfl, rfl, rfl, rfl⟩ := H.out
          clear HR' H
          go_wp2
          go_region_held3 (fun _ => True) (exact trivial)
            (first
              | (go_at_call 100; refine (rweeks_any _).mono ?_; rintro e w1 ⟨L, rfl, hL1, hL2, k1⟩)
              | (go_at_call 62; refine (FD.out L _ hL2).mono ?_; rintro e w2 ⟨rfl, k2⟩))
          have T2 := Lib.hid ((T0.out.drawn.next k1).next k2)
          clear k1 k2 hL1 hL2 T0
          have lt := T2.out.lt
          have c0 := T2.out.c0
          have c1 := T2.out.c1
          have c2 := T2.out.c2
          have f0 := T2.out.f0
          have f1 := T2.out.f1
          have f2 := T2.out.f2
          go_wp2
          refine ((T2.out.store _ _ _)).ret fun W' B2 => ?_
          clear lt c0 c1 c2 f0 f1 f2
          have c0 := B2.c0
          have c1 := B2.c1
          have c2 := B2.c2
          exact bodyPost_ret (v := .tuple #[.agg #[.int .i64 0, .int .i64 0, .int .i64 0], .int .i64 13]) (by simp [results, Tryz.results64, go_sem, c0, c1, c2]) rfl ⟨rfl, B2.bel⟩
        · obtain ⟨rfl, rfl, rfl, rfl⟩ := H.out
          have hf' : ¬ f < 0 := by omega
          have he' : (e0 != 0) = true := by simp only [bne, he]; rfl
          clear HR' H
          go_wp2
          go_region_held3 (fun _ => True) (exact trivial)
            (first
              | (go_at_call 100; refine (rweeks_any _).mono ?_; rintro e w1 ⟨L, rfl, hL1, hL2, k1⟩)
              | (go_at_call 62; refine (FD.out L _ hL2).mono ?_; rintro e w2 ⟨rfl, k2⟩))
          have T2 := Lib.hid ((T0.out.drawn.next k1).next k2)
          clear k1 k2 hL1 hL2 T0
          have lt := T2.out.lt
          have c0 := T2.out.c0
          have c1 := T2.out.c1
          have c2 := T2.out.c2
          have f0 := T2.out.f0
          have f1 := T2.out.f1
          have f2 := T2.out.f2
          go_wp2_with (go_at_call 101; refine (NB.out _).mono ?_; rintro e w3 ⟨rfl, rfl⟩)
          refine ((T2.out.store _ _ _)).ret fun W' B2 => ?_
          clear lt c0 c1 c2 f0 f1 f2
          have c0 := B2.c0
          have c1 := B2.c1
          have c2 := B2.c2
          exact bodyPost_ret (v := .tuple #[.agg #[.int .i64 0, .int .i64 0, .int .i64 0], .int .i64 e0]) (by simp [results, Tryz.results64, go_sem, c0, c1, c2]) rfl ⟨rfl, B2.bel⟩
        · obtain ⟨rfl, rfl, rfl, rfl, rfl⟩ := H.out
          have hf' : ¬ v' < 0 := by omega
          clear HR' H
          go_wp2
          go_region_held3 (fun _ => True) (exact trivial)
            (first
              | (go_at_call 100; refine (rweeks_any _).mono ?_; rintro e w1 ⟨L, rfl, hL1, hL2, k1⟩)
              | (go_at_call 62; refine (FD.out L _ hL2).mono ?_; rintro e w2 ⟨rfl, k2⟩))
          have T2 := Lib.hid ((T0.out.drawn.next k1).next k2)
          clear k1 k2 hL1 hL2 T0
          have lt := T2.out.lt
          have c0 := T2.out.c0
          have c1 := T2.out.c1
          have c2 := T2.out.c2
          have f0 := T2.out.f0
          have f1 := T2.out.f1
          have f2 := T2.out.f2
          go_wp2_with (go_at_call 101; refine (NB.out _).mono ?_; rintro e w3 ⟨rfl, rfl⟩)
          refine ((T2.out.store _ _ _)).ret fun W' B2 => ?_
          clear lt c0 c1 c2 f0 f1 f2
          have c0 := B2.c0
          have c1 := B2.c1
          have c2 := B2.c2
          exact bodyPost_ret (v := .tuple #[.agg #[.int .i64 _, .int .i64 v', .int .i64 m'], .int .i64 0]) (by simp [results, Tryz.results64, go_sem, c0, c1, c2]) rfl ⟨rfl, B2.bel⟩

theorem sign_cases {a b : UInt8} (hns : ¬ (b = 61 ∧ (a = 62 ∨ a = 60))) : ((b.toNat : Int) == 61) = false ∨ (((b.toNat : Int) == 61) = true ∧ ((a.toNat : Int) == 62) = false ∧ ((a.toNat : Int) == 60) = false) := by
  by_cases h61 : b.toNat = 61
  · have hb61 : b = 61 := UInt8.toNat_inj.1 h61
    refine .inr ⟨by simp; omega, ?_, ?_⟩
    · have := u8_ne (a := a) (b := 62) (fun e => hns ⟨hb61, .inl e⟩)
      have e62 : (62 : UInt8).toNat = 62 := rfl
      simp; omega
    · have := u8_ne (a := a) (b := 60) (fun e => hns ⟨hb61, .inr e⟩)
      have e60 : (60 : UInt8).toNat = 60 := rfl
      simp; omega
  · exact .inl (by simp; omega)
theorem find_last {t : List UInt8} (ht : t.length = 4) : wantZ (findL (low t) [lastW4]) = if low t = lastW4 then 0 else -1 := by
  have hl : (low t).length = 4 := by rw [low_len, ht]
  have e : findL (low t) [lastW4] = if lastW4 = low t then some 0 else if begins (low t) lastW4 = true then scan (low t) [] 1 1 0 else scan (low t) [] 1 0 0 := rfl
  rw [e]
  by_cases h : lastW4 = low t
  · rw [if_pos h, if_pos h.symm]; rfl
  · have hb : ¬ begins (low t) lastW4 = true := by
      rw [begins_iff]
      rintro ⟨_, hp⟩
      exact h (hp.eq_of_length (by rw [hl]; rfl)).symm
    rw [if_neg h, if_neg hb, if_neg (fun e : low t = lastW4 => h e.symm)]
    rfl

set_option maxHeartbeats 3200000 in
/-- Parse of a text without a sign that is too short for the word for a last day. -/
theorem rparse_short (s : List UInt8) (v e1 k' v' m' : Int) (w : World) (hs : s.length ≤ 100) (hsg : sgnL s = none) (h4 : s.length < 4) (HN : Hid (dnV s = v ∧ dnE s = e1))
    (HR : ((e1 == 0) = false ∧ Hid (k' = 0 ∧ v' = 0 ∧ m' = 0)) ∨ Hid (e1 = 0 ∧ k' = 0 ∧ v' = 0 ∧ m' = v)) :
    Calls Tryz.prog 64 #[.string ⟨s.toArray⟩] w fun e w' => e = .returned (.tuple #[.agg #[.int .i64 k', .int .i64 v', .int .i64 m'], .int .i64 e1]) ∧ Below w.heap.size w w' := by
  have hz := wsize s
  obtain ⟨n, hn⟩ : ∃ n, s.length = n := ⟨_, rfl⟩
  have HNL := Lib.hid hn
  have T0 := Lib.hid (Trp.new w 0 0 0 30)
  have G4 := Lib.hid (sgnF_none hsg)
  have IX : Hid (∀ i, i < n → ∀ c, s.getD i 0 = c → ∀ W : World, (Instr.index 9 (.string ⟨s.toArray⟩) (.int .i64 (i : Int))).run Tryz.prog W = .ok (.int .u8 (c.toNat : Int)) W) := Lib.hid fun i h c hc W => wbyte_at s i (by omega) c hc W
  have IY : Hid (∀ i, i + 1 < n → ∀ c, s.getD (i + 1) 0 = c → ∀ W : World, (Instr.index 9 (.string ⟨s.toArray⟩) (.int .i64 ((i : Int) + 1))).run Tryz.prog W = .ok (.int .u8 (c.toNat : Int)) W) := Lib.hid fun i h c hc W => byte_next s i (by omega) c hc W
  have NB : Hid (∀ W, Calls Tryz.prog 101 #[.string ⟨s.toArray⟩] W fun e w' => e = .returned (.tuple #[.int .i64 v, .int .i64 e1]) ∧ W = w') := Lib.hid fun W => rnum8_is s v e1 W HN
  rw [hn] at hz h4 hs
  have HR' := Lib.hid HR
  have H4 := Lib.hid h4
  clear hsg HN HR hn h4
  go_enter Tryz.func64, Tryz.ntmps64
  go_wp2
  go_loop [4] (fun vi => ∃ i : Nat, vi = .int .i64 (i : Int) ∧ i ≤ n) (fun vi => n - (intOf vi).toNat)
  case atStart => exact ⟨0, rfl, by omega⟩
  case round =>
    obtain ⟨i, rfl, hip⟩ := hrel
    by_cases hlt : i + 1 < n
    · have hi2 : (i : Int) + 1 < (n : Int) := by omega
      obtain ⟨a, ha⟩ : ∃ a, s.getD i 0 = a := ⟨_, rfl⟩
      obtain ⟨b, hb⟩ : ∃ b, s.getD (i + 1) 0 = b := ⟨_, rfl⟩
      have ia := IX.out i (by omega) a ha
      have ib := IY.out i (by omega) b hb
      have hns : ¬ (b = 61 ∧ (a = 62 ∨ a = 60)) := fun hc => G4.out i (by
        have h1 : i < s.length := by rw [HNL.out]; omega
        have h2 : i + 1 < s.length := by rw [HNL.out]; omega
        have e1 : s[i]? = some a := by rw [← ha]; simp [List.getD, h1]
        have e2 : s[i + 1]? = some b := by rw [← hb]; simp [List.getD, h2]
        rw [signAt, e1, e2, hc.1]
        exact ⟨rfl, hc.2.imp (congrArg some) (congrArg some)⟩)
      have cases3 := sign_cases hns
      clear hns ha hb
      rcases cases3 with h1 | ⟨h1, h2, h3⟩
      · have h1' : ((b.toNat : Int) != 61) = true := by simp only [bne, h1]; rfl
        go_wp2
        go_round
        case rel => exact ⟨i + 1, by go_num, by omega⟩
        case measure => simp [intOf]; omega
      · have h1' : ((b.toNat : Int) != 61) = false := by simp only [bne, h1]; rfl
        have h2' : ((a.toNat : Int) != 62) = true := by simp only [bne, h2]; rfl
        have h3' : ((a.toNat : Int) != 60) = true := by simp only [bne, h3]; rfl
        go_wp2
        go_round
        case rel => exact ⟨i + 1, by go_num, by omega⟩
        case measure => simp [intOf]; omega
    · have hi2 : ¬ (i : Int) + 1 < (n : Int) := by omega
      clear IX IY G4
      have L4 : decide (4 ≤ (n : Int)) = false := decide_eq_false (by have := H4.out; omega)
      have L4' : decide (4 ≤ n) = false := decide_eq_false (by have := H4.out; omega)
      rcases HR'.out with ⟨he, H⟩ | H
      · obtain ⟨rfl, rfl, rfl⟩ := H.out
        have he' : (e1 != 0) = true := by simp only [bne, he]; rfl
        clear HR' H
        go_wp2_with (go_at_call 101; refine (NB.out _).mono ?_; rintro e w3 ⟨rfl, rfl⟩)
        exact bodyPost_ret (v := .tuple #[.agg #[.int .i64 0, .int .i64 0, .int .i64 0], .int .i64 e1]) (by simp [results, Tryz.results64, go_sem]) rfl ⟨rfl, (Trp.new w 0 0 0 _).bel⟩
      · obtain ⟨rfl, rfl, rfl, rfl⟩ := H.out
        clear HR' H
        go_wp2_with (go_at_call 101; refine (NB.out _).mono ?_; rintro e w3 ⟨rfl, rfl⟩)
        exact bodyPost_ret (v := .tuple #[.agg #[.int .i64 0, .int .i64 0, .int .i64 m'], .int .i64 0]) (by simp [results, Tryz.results64, go_sem]) rfl ⟨rfl, (Trp.new w 0 0 m' _).bel⟩
set_option maxHeartbeats 3200000 in
/-- Parse of a text without a sign, long enough for the word for a last day. -/
theorem rparse_long (s : List UInt8) (f v e1 k' v' m' e0 : Int) (w : World) (hs : s.length ≤ 100) (hsg : sgnL s = none) (h4 : 4 ≤ s.length) (HF : Hid (wantZ (findL (low (s.drop 4)) weeksL) = f)) (HN : Hid (dnV s = v ∧ dnE s = e1))
    (HR : (bgL s ∧ f < 0 ∧ Hid (k' = 0 ∧ v' = 0 ∧ m' = 0 ∧ e0 = 13)) ∨ (bgL s ∧ 0 ≤ f ∧ Hid (k' = 1 ∧ v' = f ∧ m' = 0 ∧ e0 = 0)) ∨ (¬ bgL s ∧ (e1 == 0) = false ∧ Hid (k' = 0 ∧ v' = 0 ∧ m' = 0 ∧ e0 = e1)) ∨ (¬ bgL s ∧ Hid (e1 = 0 ∧ k' = 0 ∧ v' = 0 ∧ m' = v ∧ e0 = 0))) :
    Calls Tryz.prog 64 #[.string ⟨s.toArray⟩] w fun e w' => e = .returned (.tuple #[.agg #[.int .i64 k', .int .i64 v', .int .i64 m'], .int .i64 e0]) ∧ Below w.heap.size w w' := by
  have hz := wsize s
  obtain ⟨n, hn⟩ : ∃ n, s.length = n := ⟨_, rfl⟩
  have HNL := Lib.hid hn
  have T0 := Lib.hid (Trp.new w 0 0 0 30)
  have G4 := Lib.hid (sgnF_none hsg)
  have IX : Hid (∀ i, i < n → ∀ c, s.getD i 0 = c → ∀ W : World, (Instr.index 9 (.string ⟨s.toArray⟩) (.int .i64 (i : Int))).run Tryz.prog W = .ok (.int .u8 (c.toNat : Int)) W) := Lib.hid fun i h c hc W => wbyte_at s i (by omega) c hc W
  have IY : Hid (∀ i, i + 1 < n → ∀ c, s.getD (i + 1) 0 = c → ∀ W : World, (Instr.index 9 (.string ⟨s.toArray⟩) (.int .i64 ((i : Int) + 1))).run Tryz.prog W = .ok (.int .u8 (c.toNat : Int)) W) := Lib.hid fun i h c hc W => byte_next s i (by omega) c hc W
  have NB : Hid (∀ W, Calls Tryz.prog 101 #[.string ⟨s.toArray⟩] W fun e w' => e = .returned (.tuple #[.int .i64 v, .int .i64 e1]) ∧ W = w') := Lib.hid fun W => rnum8_is s v e1 W HN
  obtain ⟨t4, ht4⟩ : ∃ t4, s.take 4 = t4 := ⟨_, rfl⟩
  obtain ⟨t2, ht2⟩ : ∃ t2, s.drop 4 = t2 := ⟨_, rfl⟩
  have hl4 : t4.length = 4 := by rw [← ht4, List.length_take]; omega
  have hl2 : t2.length ≤ 100 := by rw [← ht2, List.length_drop]; omega
  have sl4 : ∀ W, (Instr.slice 9 (.string ⟨s.toArray⟩) none (some (.int .i64 4)) none).run Tryz.prog W = .ok (.string ⟨t4.toArray⟩) W := wsub_run s 4 t4 ht4 h4
  have sl2 := ffrom_run s 4 4 t2 rfl ht2 h4
  have SL := Lib.hid (And.intro sl4 sl2)
  have hbg : bgL s ↔ low t4 = lastW4 := by rw [← ht4]; exact ⟨fun h => h.2, fun h => ⟨h4, h⟩⟩
  obtain ⟨u, hu⟩ : ∃ u, wantZ (findL (low t4) [lastW4]) = u := ⟨_, rfl⟩
  have huv : u = if low t4 = lastW4 then 0 else -1 := hu ▸ find_last hl4
  have HU : Hid ((bgL s → u = 0) ∧ (¬ bgL s → (u == 0) = false)) := Lib.hid ⟨fun h => by rw [huv, if_pos (hbg.1 h)], fun h => by rw [huv, if_neg (fun c => h (hbg.2 c))]; rfl⟩
  have FL : Hid (∀ (L : Nat) (W : World), ListAt L [lastW4] W → Calls Tryz.prog 62 #[.string ⟨t4.toArray⟩, .slice (some ⟨L, 0, none⟩) 1 1] W fun e w' => e = .returned (.int .i64 u) ∧ Below W.heap.size W w') := Lib.hid fun L W h => rfind_is t4 [lastW4] L 1 u W (by omega) rfl (by omega) (by decide) h (Lib.hid hu)
  have NEW : Hid (ListAt (w.heap.size + 1) [lastW4] ((w.alloc (.cells #[.int .i64 0, .int .i64 0, .int .i64 0] 30)).alloc (.cells #[.string ⟨#[108, 97, 115, 116]⟩] 9))) := Lib.hid (by
    have := ListAt.new (w.alloc (.cells #[.int .i64 0, .int .i64 0, .int .i64 0] 30)) [lastW4] 9 #[.string ⟨#[108, 97, 115, 116]⟩] rfl
    rwa [World.size_alloc] at this)
  rw [ht2] at HF
  have FD : Hid (∀ (L : Nat) (W : World), ListAt L weeksL W → Calls Tryz.prog 62 #[.string ⟨t2.toArray⟩, .slice (some ⟨L, 0, none⟩) 7 7] W fun e w' => e = .returned (.int .i64 f) ∧ Below W.heap.size W w') := Lib.hid fun L W h => rfind_is t2 weeksL L 7 f W hl2 rfl (by omega) (by decide) h HF
  rw [hn] at hz h4 hs
  have HR' := Lib.hid HR
  have H4 := Lib.hid h4
  clear hsg HN HR hn h4 ht4 ht2 hl4 hl2 sl4 sl2 hbg hu huv HF
  go_enter Tryz.func64, Tryz.ntmps64
  go_wp2
  go_loop [4] (fun vi => ∃ i : Nat, vi = .int .i64 (i : Int) ∧ i ≤ n) (fun vi => n - (intOf vi).toNat)
  case atStart => exact ⟨0, rfl, by omega⟩
  case round =>
    obtain ⟨i, rfl, hip⟩ := hrel
    by_cases hlt : i + 1 < n
    · have hi2 : (i : Int) + 1 < (n : Int) := by omega
      obtain ⟨a, ha⟩ : ∃ a, s.getD i 0 = a := ⟨_, rfl⟩
      obtain ⟨b, hb⟩ : ∃ b, s.getD (i + 1) 0 = b := ⟨_, rfl⟩
      have ia := IX.out i (by omega) a ha
      have ib := IY.out i (by omega) b hb
      have hns : ¬ (b = 61 ∧ (a = 62 ∨ a = 60)) := fun hc => G4.out i (by
        have h1 : i < s.length := by rw [HNL.out]; omega
        have h2 : i + 1 < s.length := by rw [HNL.out]; omega
        have e1 : s[i]? = some a := by rw [← ha]; simp [List.getD, h1]
        have e2 : s[i + 1]? = some b := by rw [← hb]; simp [List.getD, h2]
        rw [signAt, e1, e2, hc.1]
        exact ⟨rfl, hc.2.imp (congrArg some) (congrArg some)⟩)
      have cases3 := sign_cases hns
      clear hns ha hb
      rcases cases3 with h1 | ⟨h1, h2, h3⟩
      · have h1' : ((b.toNat : Int) != 61) = true := by simp only [bne, h1]; rfl
        go_wp2
        go_round
        case rel => exact ⟨i + 1, by go_num, by omega⟩
        case measure => simp [intOf]; omega
      · have h1' : ((b.toNat : Int) != 61) = false := by simp only [bne, h1]; rfl
        have h2' : ((a.toNat : Int) != 62) = true := by simp only [bne, h2]; rfl
        have h3' : ((a.toNat : Int) != 60) = true := by simp only [bne, h3]; rfl
        go_wp2
        go_round
        case rel => exact ⟨i + 1, by go_num, by omega⟩
        case measure => simp [intOf]; omega
    · have hi2 : ¬ (i : Int) + 1 < (n : Int) := by omega
      clear IX IY G4
      have L4 : decide (4 ≤ (n : Int)) = true := decide_eq_true (by have := H4.out; omega)
      have L4' : decide (4 ≤ n) = true := decide_eq_true (by have := H4.out; omega)
      obtain ⟨sl4, sl2⟩ := SL.out
      clear SL
      rcases HR'.out with ⟨hb, hf, H⟩ | ⟨hb, hf, H⟩ | ⟨hb, he, H⟩ | ⟨hb, H⟩
      · obtain ⟨rfl, rfl, rfl, rfl⟩ := H.out
        obtain rfl : u = 0 := HU.out.1 hb
        clear HR' H hb HU
        go_wp2_with (first
          | (go_at_call 62; with_reducible refine (FL.out _ _ NEW.out).mono ?_; rintro e w1 ⟨rfl, k1⟩
             have T1 := Lib.hid ((T0.out.more _).next k1)
             clear k1 T0
             have lt := T1.out.lt
             have c0 := T1.out.c0
             have c1 := T1.out.c1
             have c2 := T1.out.c2
             have f0 := T1.out.f0
             have f1 := T1.out.f1
             have f2 := T1.out.f2))
        clear lt c0 c1 c2 f0 f1 f2
        go_region_held3 (fun _ => True) (exact trivial)
          (first
            | (go_at_call 100; refine (rweeks_any _).mono ?_; rintro e w2 ⟨L, rfl, hL1, hL2, k2⟩)
            | (go_at_call 62; refine (FD.out L _ hL2).mono ?_; rintro e w3 ⟨rfl, k3⟩))
        have T2 := Lib.hid ((T1.out.drawn.next k2).next k3)
        clear k2 k3 hL1 hL2 T1
        have lt := T2.out.lt
        have c0 := T2.out.c0
        have c1 := T2.out.c1
        have c2 := T2.out.c2
        have f0 := T2.out.f0
        have f1 := T2.out.f1
        have f2 := T2.out.f2
        go_wp2
        refine ((T2.out.store _ _ _)).ret fun W' B2 => ?_
        clear lt c0 c1 c2 f0 f1 f2
        have c0 := B2.c0
        have c1 := B2.c1
        have c2 := B2.c2
        exact bodyPost_ret (v := .tuple #[.agg #[.int .i64 0, .int .i64 0, .int .i64 0], .int .i64 13]) (by simp [results, Tryz.results64, go_sem, c0, c1, c2]) rfl ⟨rfl, B2.bel⟩
      · obtain ⟨rfl, rfl, rfl, rfl⟩ := H.out
        obtain rfl : u = 0 := HU.out.1 hb
        have hf' : ¬ v' < 0 := by omega
        clear HR' H hb HU
        go_wp2_with (first
          | (go_at_call 62; with_reducible refine (FL.out _ _ NEW.out).mono ?_; rintro e w1 ⟨rfl, k1⟩
             have T1 := Lib.hid ((T0.out.more _).next k1)
             clear k1 T0
             have lt := T1.out.lt
             have c0 := T1.out.c0
             have c1 := T1.out.c1
             have c2 := T1.out.c2
             have f0 := T1.out.f0
             have f1 := T1.out.f1
             have f2 := T1.out.f2))
        clear lt c0 c1 c2 f0 f1 f2
        go_region_held3 (fun _ => True) (exact trivial)
          (first
            | (go_at_call 100; refine (rweeks_any _).mono ?_; rintro e w2 ⟨L, rfl, hL1, hL2, k2⟩)
            | (go_at_call 62; refine (FD.out L _ hL2).mono ?_; rintro e w3 ⟨rfl, k3⟩))
        have T2 := Lib.hid ((T1.out.drawn.next k2).next k3)
        clear k2 k3 hL1 hL2 T1
        have lt := T2.out.lt
        have c0 := T2.out.c0
        have c1 := T2.out.c1
        have c2 := T2.out.c2
        have f0 := T2.out.f0
        have f1 := T2.out.f1
        have f2 := T2.out.f2
        go_wp2
        refine ((T2.out.store _ _ _)).ret fun W' B2 => ?_
        clear lt c0 c1 c2 f0 f1 f2
        have c0 := B2.c0
        have c1 := B2.c1
        have c2 := B2.c2
        exact bodyPost_ret (v := .tuple #[.agg #[.int .i64 1, .int .i64 v', .int .i64 0], .int .i64 0]) (by simp [results, Tryz.results64, go_sem, c0, c1, c2]) rfl ⟨rfl, B2.bel⟩
      · obtain ⟨rfl, rfl, rfl, rfl⟩ := H.out
        have hu := HU.out.2 hb
        have he' : (e0 != 0) = true := by simp only [bne, he]; rfl
        clear HR' H hb HU
        go_wp2_with (first
          | (go_at_call 62; with_reducible refine (FL.out _ _ NEW.out).mono ?_; rintro e w1 ⟨rfl, k1⟩
             have T1 := Lib.hid ((T0.out.more _).next k1)
             clear k1 T0
             have lt := T1.out.lt
             have c0 := T1.out.c0
             have c1 := T1.out.c1
             have c2 := T1.out.c2
             have f0 := T1.out.f0
             have f1 := T1.out.f1
             have f2 := T1.out.f2)
          | (go_at_call 101; refine (NB.out _).mono ?_; rintro e w3 ⟨rfl, rfl⟩))
        refine ((T1.out.store _ _ _)).ret fun W' B2 => ?_
        clear lt c0 c1 c2 f0 f1 f2
        have c0 := B2.c0
        have c1 := B2.c1
        have c2 := B2.c2
        exact bodyPost_ret (v := .tuple #[.agg #[.int .i64 0, .int .i64 0, .int .i64 0], .int .i64 e0]) (by simp [results, Tryz.results64, go_sem, c0, c1, c2]) rfl ⟨rfl, B2.bel⟩
      · obtain ⟨rfl, rfl, rfl, rfl, rfl⟩ := H.out
        have hu := HU.out.2 hb
        clear HR' H hb HU
        go_wp2_with (first
          | (go_at_call 62; with_reducible refine (FL.out _ _ NEW.out).mono ?_; rintro e w1 ⟨rfl, k1⟩
             have T1 := Lib.hid ((T0.out.more _).next k1)
             clear k1 T0
             have lt := T1.out.lt
             have c0 := T1.out.c0
             have c1 := T1.out.c1
             have c2 := T1.out.c2
             have f0 := T1.out.f0
             have f1 := T1.out.f1
             have f2 := T1.out.f2)
          | (go_at_call 101; refine (NB.out _).mono ?_; rintro e w3 ⟨rfl, rfl⟩))
        refine ((T1.out.store _ _ _)).ret fun W' B2 => ?_
        clear lt c0 c1 c2 f0 f1 f2
        have c0 := B2.c0
        have c1 := B2.c1
        have c2 := B2.c2
        exact bodyPost_ret (v := .tuple #[.agg #[.int .i64 0, .int .i64 0, .int .i64 m'], .int .i64 0]) (by simp [results, Tryz.results64, go_sem, c0, c1, c2]) rfl ⟨rfl, B2.bel⟩
theorem wk_want (t : List UInt8) : wantZ (findL (low t) weeksL) = wantZ (wkN t) := rfl
theorem want_some {o : Option Nat} {q : Nat} (h : o = some q) : wantZ o = q := by rw [h]; rfl
theorem want_none {o : Option Nat} (h : o = none) : wantZ o = -1 := by rw [h]; rfl
theorem e_test {e : Int} (h : e ≠ 0) : (e == 0) = false := by simpa using h
/-- The reference's Parse, of texts of up to 100 bytes. -/
theorem rdparse_is (s : List UInt8) (k v m e0 : Int) (w : World) (hs : s.length ≤ 100) (HV : Hid (parsF s = (k, v, m, e0))) :
    Calls Tryz.prog 64 #[.string ⟨s.toArray⟩] w fun e w' => e = .returned (.tuple #[.agg #[.int .i64 k, .int .i64 v, .int .i64 m], .int .i64 e0]) ∧ Below w.heap.size w w' := by
  have hv := HV.out
  unfold parsF at hv
  cases h : sgnL s with
  | some x =>
    obtain ⟨p, c⟩ := x
    rw [h] at hv
    simp only at hv
    cases hw : wkN (s.take p) with
    | none =>
      rw [hw] at hv
      simp only [Prod.mk.injEq] at hv
      obtain ⟨h1, h2, h3, h4⟩ := hv
      exact rparse_sign s p c _ _ _ k v m e0 w hs h (Lib.hid ((wk_want _).trans (want_none hw))) (Lib.hid ⟨rfl, rfl⟩) (.inl ⟨by omega, Lib.hid ⟨h1.symm, h2.symm, h3.symm, h4.symm⟩⟩)
    | some q =>
      rw [hw] at hv
      simp only at hv
      by_cases he : dnE (s.drop (p + 2)) = 0
      · rw [if_pos he] at hv
        simp only [Prod.mk.injEq] at hv
        obtain ⟨h1, h2, h3, h4⟩ := hv
        exact rparse_sign s p c _ _ _ k v m e0 w hs h (Lib.hid ((wk_want _).trans (want_some hw))) (Lib.hid ⟨rfl, rfl⟩) (.inr (.inr ⟨by omega, Lib.hid ⟨he, h1.symm, h2.symm, h3.symm, h4.symm⟩⟩))
      · rw [if_neg he] at hv
        simp only [Prod.mk.injEq] at hv
        obtain ⟨h1, h2, h3, h4⟩ := hv
        exact rparse_sign s p c _ _ _ k v m e0 w hs h (Lib.hid ((wk_want _).trans (want_some hw))) (Lib.hid ⟨rfl, rfl⟩) (.inr (.inl ⟨by omega, e_test he, Lib.hid ⟨h1.symm, h2.symm, h3.symm, h4.symm⟩⟩))
  | none =>
    rw [h] at hv
    simp only at hv
    by_cases h4 : 4 ≤ s.length
    · by_cases hb : bgL s
      · rw [if_pos (show 4 ≤ s.length ∧ low (s.take 4) = lastW4 from hb)] at hv
        cases hw : wkN (s.drop 4) with
        | none =>
          rw [hw] at hv
          simp only [Prod.mk.injEq] at hv
          obtain ⟨h1, h2, h3, h5⟩ := hv
          exact rparse_long s _ _ _ k v m e0 w hs h h4 (Lib.hid ((wk_want _).trans (want_none hw))) (Lib.hid ⟨rfl, rfl⟩) (.inl ⟨hb, by omega, Lib.hid ⟨h1.symm, h2.symm, h3.symm, h5.symm⟩⟩)
        | some q =>
          rw [hw] at hv
          simp only [Prod.mk.injEq] at hv
          obtain ⟨h1, h2, h3, h5⟩ := hv
          exact rparse_long s _ _ _ k v m e0 w hs h h4 (Lib.hid ((wk_want _).trans (want_some hw))) (Lib.hid ⟨rfl, rfl⟩) (.inr (.inl ⟨hb, by omega, Lib.hid ⟨h1.symm, h2.symm, h3.symm, h5.symm⟩⟩))
      · rw [if_neg (show ¬ (4 ≤ s.length ∧ low (s.take 4) = lastW4) from hb)] at hv
        by_cases he : dnE s = 0
        · rw [if_pos he] at hv
          simp only [Prod.mk.injEq] at hv
          obtain ⟨h1, h2, h3, h5⟩ := hv
          exact rparse_long s _ _ _ k v m e0 w hs h h4 (Lib.hid rfl) (Lib.hid ⟨rfl, rfl⟩) (.inr (.inr (.inr ⟨hb, Lib.hid ⟨he, h1.symm, h2.symm, h3.symm, h5.symm⟩⟩)))
        · rw [if_neg he] at hv
          simp only [Prod.mk.injEq] at hv
          obtain ⟨h1, h2, h3, h5⟩ := hv
          exact rparse_long s _ _ _ k v m e0 w hs h h4 (Lib.hid rfl) (Lib.hid ⟨rfl, rfl⟩) (.inr (.inr (.inl ⟨hb, e_test he, Lib.hid ⟨h1.symm, h2.symm, h3.symm, h5.symm⟩⟩)))
    · rw [if_neg (fun c => h4 c.1)] at hv
      by_cases he : dnE s = 0
      · rw [if_pos he] at hv
        simp only [Prod.mk.injEq] at hv
        obtain ⟨h1, h2, h3, rfl⟩ := hv
        exact rparse_short s _ _ k v m w hs h (by omega) (Lib.hid ⟨rfl, he⟩) (.inr (Lib.hid ⟨rfl, h1.symm, h2.symm, h3.symm⟩))
      · rw [if_neg he] at hv
        simp only [Prod.mk.injEq] at hv
        obtain ⟨h1, h2, h3, h5⟩ := hv
        exact rparse_short s _ _ k v m w hs h (by omega) (Lib.hid ⟨rfl, h5⟩) (.inl ⟨by rw [← h5]; exact e_test he, Lib.hid ⟨h1.symm, h2.symm, h3.symm⟩⟩)
end Go.Proofs.YtfmehdophoejiaaGreatDoor
