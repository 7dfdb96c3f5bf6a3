/- The contracts of the reference's Right, number and In of days of a month, and of words.WeekdayName: what each call returns; nothing that was in memory changes. -/
import Derived.Test.YtddoapenhlkamaaGreatDoorDfI
import Derived.Test.YtddoapenhlkamaaGreatDoorRefC
import Derived.Test.YtddoapenhlkamaaGreatDoorWdF
namespace Go.Proofs.YtddoapenhlkamaaGreatDoor
open Go.RowKit

theorem dright_0 (wk n : Int) (v : Bool) (w : World) (HV : Hid (dfB 0 wk n = v)) :
    Calls Tryz.prog 7 #[.agg #[.int .i64 0, .int .i64 wk, .int .i64 n]] w fun e w' => e = .returned (.bool v) ∧ Below w.heap.size w w' := by
  by_cases hz : wk = 0
  · subst hz
    rcases dcases n 1 31 with ⟨c1, H2⟩ | ⟨c1, c2, H2⟩ | ⟨c1, c2, H2⟩
    · obtain rfl : v = false := by rw [← HV.out]; exact dfB_not (by have := H2.out; unfold dfD; omega)
      go_enter Tryz.func7, Tryz.ntmps7
      go_wp2
      go_ret
      exact ⟨rfl, (Below.refl _ _).alloc (Nat.le_refl _) _⟩
    · obtain rfl : v = false := by rw [← HV.out]; exact dfB_not (by have := H2.out; unfold dfD; omega)
      go_enter Tryz.func7, Tryz.ntmps7
      go_wp2
      go_ret
      exact ⟨rfl, (Below.refl _ _).alloc (Nat.le_refl _) _⟩
    · obtain rfl : v = true := by rw [← HV.out]; exact dfB_iff.2 (by have := H2.out; unfold dfD; omega)
      go_enter Tryz.func7, Tryz.ntmps7
      go_wp2
      go_ret
      exact ⟨rfl, (Below.refl _ _).alloc (Nat.le_refl _) _⟩
  · have hz' : (wk == 0) = false := by simpa using hz
    obtain rfl : v = false := by rw [← HV.out]; exact dfB_not (by unfold dfD; omega)
    clear hz
    rcases dcases wk 0 6 with ⟨b1, _⟩ | ⟨b1, b2, _⟩ | ⟨b1, b2, _⟩ <;> rcases dcases n 1 31 with ⟨c1, _⟩ | ⟨c1, c2, _⟩ | ⟨c1, c2, _⟩
    all_goals
      go_enter Tryz.func7, Tryz.ntmps7
      go_wp2
      go_ret
      exact ⟨rfl, (Below.refl _ _).alloc (Nat.le_refl _) _⟩

theorem dright_1 (wk n : Int) (v : Bool) (w : World) (HV : Hid (dfB 1 wk n = v)) :
    Calls Tryz.prog 7 #[.agg #[.int .i64 1, .int .i64 wk, .int .i64 n]] w fun e w' => e = .returned (.bool v) ∧ Below w.heap.size w w' := by
  rcases dcases wk 0 6 with ⟨b1, H1⟩ | ⟨b1, b2, H1⟩ | ⟨b1, b2, H1⟩
  · obtain rfl : v = false := by rw [← HV.out]; exact dfB_not (by have := H1.out; unfold dfD; omega)
    rcases dcases n 1 31 with ⟨c1, _⟩ | ⟨c1, c2, _⟩ | ⟨c1, c2, _⟩
    all_goals
      go_enter Tryz.func7, Tryz.ntmps7
      go_wp2
      go_ret
      exact ⟨rfl, (Below.refl _ _).alloc (Nat.le_refl _) _⟩
  · obtain rfl : v = false := by rw [← HV.out]; exact dfB_not (by have := H1.out; unfold dfD; omega)
    rcases dcases n 1 31 with ⟨c1, _⟩ | ⟨c1, c2, _⟩ | ⟨c1, c2, _⟩
    all_goals
      go_enter Tryz.func7, Tryz.ntmps7
      go_wp2
      go_ret
      exact ⟨rfl, (Below.refl _ _).alloc (Nat.le_refl _) _⟩
  · by_cases hz : n = 0
    · subst hz
      obtain rfl : v = true := by rw [← HV.out]; exact dfB_iff.2 (by have := H1.out; unfold dfD; omega)
      go_enter Tryz.func7, Tryz.ntmps7
      go_wp2
      go_ret
      exact ⟨rfl, (Below.refl _ _).alloc (Nat.le_refl _) _⟩
    · have hz' : (n == 0) = false := by simpa using hz
      obtain rfl : v = false := by rw [← HV.out]; exact dfB_not (by unfold dfD; omega)
      clear hz
      rcases dcases n 1 31 with ⟨c1, _⟩ | ⟨c1, c2, _⟩ | ⟨c1, c2, _⟩
      all_goals
        go_enter Tryz.func7, Tryz.ntmps7
        go_wp2
        go_ret
        exact ⟨rfl, (Below.refl _ _).alloc (Nat.le_refl _) _⟩

theorem dright_23 (k wk n : Int) (v : Bool) (w : World) (hk : k = 2 ∨ k = 3) (HV : Hid (dfB k wk n = v)) :
    Calls Tryz.prog 7 #[.agg #[.int .i64 k, .int .i64 wk, .int .i64 n]] w fun e w' => e = .returned (.bool v) ∧ Below w.heap.size w w' := by
  rcases dcases wk 0 6 with ⟨b1, H1⟩ | ⟨b1, b2, H1⟩ | ⟨b1, b2, H1⟩
  · obtain rfl : v = false := by rw [← HV.out]; exact dfB_not (by have := H1.out; unfold dfD; omega)
    rcases hk with rfl | rfl <;> rcases dcases n 1 31 with ⟨c1, _⟩ | ⟨c1, c2, _⟩ | ⟨c1, c2, _⟩
    all_goals
      go_enter Tryz.func7, Tryz.ntmps7
      go_wp2
      go_ret
      exact ⟨rfl, (Below.refl _ _).alloc (Nat.le_refl _) _⟩
  · obtain rfl : v = false := by rw [← HV.out]; exact dfB_not (by have := H1.out; unfold dfD; omega)
    rcases hk with rfl | rfl <;> rcases dcases n 1 31 with ⟨c1, _⟩ | ⟨c1, c2, _⟩ | ⟨c1, c2, _⟩
    all_goals
      go_enter Tryz.func7, Tryz.ntmps7
      go_wp2
      go_ret
      exact ⟨rfl, (Below.refl _ _).alloc (Nat.le_refl _) _⟩
  · rcases dcases n 1 31 with ⟨c1, H2⟩ | ⟨c1, c2, H2⟩ | ⟨c1, c2, H2⟩
    · obtain rfl : v = false := by rw [← HV.out]; exact dfB_not (by have := H2.out; unfold dfD; omega)
      rcases hk with rfl | rfl
      all_goals
        go_enter Tryz.func7, Tryz.ntmps7
        go_wp2
        go_ret
        exact ⟨rfl, (Below.refl _ _).alloc (Nat.le_refl _) _⟩
    · obtain rfl : v = false := by rw [← HV.out]; exact dfB_not (by have := H2.out; unfold dfD; omega)
      rcases hk with rfl | rfl
      all_goals
        go_enter Tryz.func7, Tryz.ntmps7
        go_wp2
        go_ret
        exact ⟨rfl, (Below.refl _ _).alloc (Nat.le_refl _) _⟩
    · obtain rfl : v = true := by rw [← HV.out]; exact dfB_iff.2 (by have := H1.out; have := H2.out; unfold dfD; omega)
      rcases hk with rfl | rfl
      all_goals
        go_enter Tryz.func7, Tryz.ntmps7
        go_wp2
        go_ret
        exact ⟨rfl, (Below.refl _ _).alloc (Nat.le_refl _) _⟩

theorem dright_x (k wk n : Int) (w : World) (h0 : k ≠ 0) (h1 : k ≠ 1) (h2 : k ≠ 2) (h3 : k ≠ 3) :
    Calls Tryz.prog 7 #[.agg #[.int .i64 k, .int .i64 wk, .int .i64 n]] w fun e w' => e = .returned (.bool false) ∧ Below w.heap.size w w' := by
  have k0 : (k == 0) = false := by simpa using h0
  have k1 : (k == 1) = false := by simpa using h1
  have k2 : (k == 2) = false := by simpa using h2
  have k3 : (k == 3) = false := by simpa using h3
  clear h0 h1 h2 h3
  rcases dcases wk 0 6 with ⟨b1, _⟩ | ⟨b1, b2, _⟩ | ⟨b1, b2, _⟩ <;> rcases dcases n 1 31 with ⟨c1, _⟩ | ⟨c1, c2, _⟩ | ⟨c1, c2, _⟩
  all_goals
      go_enter Tryz.func7, Tryz.ntmps7
      go_wp2
      go_ret
      exact ⟨rfl, (Below.refl _ _).alloc (Nat.le_refl _) _⟩

/-- The reference's Right, at every day of a month. -/
theorem dright_is (k wk n : Int) (v : Bool) (w : World) (HV : Hid (dfB k wk n = v)) :
    Calls Tryz.prog 7 #[.agg #[.int .i64 k, .int .i64 wk, .int .i64 n]] w fun e w' => e = .returned (.bool v) ∧ Below w.heap.size w w' := by
  by_cases h0 : k = 0
  · subst h0; exact dright_0 wk n v w HV
  · by_cases h1 : k = 1
    · subst h1; exact dright_1 wk n v w HV
    · by_cases h2 : k = 2 ∨ k = 3
      · exact dright_23 k wk n v w h2 HV
      · obtain rfl : v = false := by rw [← HV.out]; exact dfB_not (by unfold dfD; omega)
        exact dright_x k wk n w h0 h1 (fun h => h2 (.inl h)) (fun h => h2 (.inr h))


theorem bad8 {t : List UInt8} {i : Nat} {c : UInt8} (hi : i < t.length) (hc : t.getD i 0 = c) (h : isDg c = false) : allDg t = false := by
  rw [← Bool.not_eq_true]
  intro ha
  have := List.all_eq_true.1 ha c (by rw [← hc]; simp [hi])
  rw [h] at this; cases this
theorem val_100 {t : List UInt8} {i : Nat} (h : allDg (t.take i) = true) (hl : t.length ≤ 2) : valD 0 (t.take i) < 100 := by
  have := valD_lt (t.take i) 0 h
  have h5 : 10 ^ (t.take i).length ≤ 10 ^ 2 := Nat.pow_le_pow_right (by omega) (by rw [List.length_take]; omega)
  omega

set_option maxHeartbeats 1600000 in
theorem rnum8_core (t : List UInt8) (v e0 : Int) (w : World) (b : UInt8) (hb : t.getD 0 0 = b) (hb2 : b.toNat ≠ 48) (hl1 : 1 ≤ t.length) (hl2 : t.length ≤ 2) (EB : Hid (allDg t = false → v = 0 ∧ e0 = 12)) (EG : Hid (allDg t = true → (valD 0 t ≤ 31 → v = (valD 0 t : Int) ∧ e0 = 0) ∧ (31 < valD 0 t → v = 0 ∧ e0 = 10))) :
    Calls Tryz.prog 22 #[.string ⟨t.toArray⟩] w fun e w' => e = .returned (.tuple #[.int .i64 v, .int .i64 e0]) ∧ w = w' := by
  have hz := wsize t
  have h45 : ∀ W : World, (Instr.index 9 (.string ⟨t.toArray⟩) (.int .i64 0)).run Tryz.prog W = .ok (.int .u8 (b.toNat : Int)) W := wbyte_at t 0 (by omega) b hb
  have hb' : ((b.toNat : Int) == 48) = false := by simp; omega
  have L1 : decide (t.length < 1) = false := decide_eq_false (by omega)
  have L2 : decide (2 < t.length) = false := decide_eq_false (by omega)
  have L1' : decide ((t.length : Int) < 1) = false := decide_eq_false (by omega)
  have L2' : decide (2 < (t.length : Int)) = false := decide_eq_false (by omega)
  have HL := Lib.hid (And.intro hl1 hl2)
  clear hb hb2 hl1 hl2
  go_enter Tryz.func22, Tryz.ntmps22
  go_wp2
  clear L1 L2 L1' L2' hb' h45
  go_loopw [4, 5] (fun vn vi w' => ∃ i : Nat, vi = .int .i64 i ∧ i ≤ t.length ∧ allDg (t.take i) = true ∧ vn = .int .i64 (valD 0 (t.take i)) ∧ w = w') (fun _ vi _ => t.length - (intOf vi).toNat)
  case atStart => exact ⟨0, rfl, by omega, rfl, rfl, rfl⟩
  case round =>
    obtain ⟨i, rfl, i1, i2, rfl, rfl⟩ := hrel
    by_cases hi : i < t.length
    · obtain ⟨c, hc⟩ : ∃ c, t.getD i 0 = c := ⟨_, rfl⟩
      have hix := wbyte_at t i hi c hc
      have TN := Lib.hid (take_snoc hi hc)
      have HC : Hid (isDg c = false → allDg t = false) := Lib.hid (bad8 hi hc)
      have clt := c.toNat_lt
      have nb := val_100 (i := i) i2 HL.out.2
      obtain ⟨m, hm⟩ : ∃ m, valD 0 (t.take i) = m := ⟨_, rfl⟩
      rw [hm] at nb
      have HM := Lib.hid hm
      have I2 := Lib.hid i2
      have hi' : (i : Int) < (t.length : Int) := by omega
      have hi3 : i ≤ 1 := by have := HL.out; omega
      rw [hm]
      clear hc i2 hm
      by_cases d1 : c.toNat < 48
      · have d1' : (c.toNat : Int) < 48 := by omega
        have E := Lib.hid (EB.out (HC.out (by unfold isDg; simp; omega)))
        go_wp2
        go_ret2
        rw [E.out.1, E.out.2]
        exact ⟨rfl, rfl⟩
      · by_cases d2 : 57 < c.toNat
        · have d1' : ¬ (c.toNat : Int) < 48 := by omega
          have d2' : 57 < (c.toNat : Int) := by omega
          have E := Lib.hid (EB.out (HC.out (by unfold isDg; simp; omega)))
          go_wp2
          go_ret2
          rw [E.out.1, E.out.2]
          exact ⟨rfl, rfl⟩
        · have d1' : ¬ (c.toNat : Int) < 48 := by omega
          have d2' : ¬ 57 < (c.toNat : Int) := by omega
          have V : Hid (valD 0 (t.take (i + 1)) = 10 * m + (c.toNat - 48) ∧ allDg (t.take (i + 1)) = true) := Lib.hid (by
            rw [TN.out, valD_snoc, HM.out, allDg_snoc, I2.out]
            exact ⟨rfl, by unfold isDg; simp; omega⟩)
          go_wp2
          go_roundw
          case rel =>
            refine ⟨i + 1, by go_num, by omega, V.out.2, ?_, by first | rfl | trivial⟩
            rw [V.out.1]
            congr 1; omega
          case measure => simp [intOf]; omega
    · obtain rfl : i = t.length := by omega
      have nb := val_100 (i := t.length) i2 HL.out.2
      rw [List.take_length] at i2 nb ⊢
      have E := Lib.hid (EG.out i2)
      obtain ⟨m, hm⟩ : ∃ m, valD 0 t = m := ⟨_, rfl⟩
      rw [hm] at nb E ⊢
      have hi' : ¬ ((t.length : Nat) : Int) < (t.length : Int) := by omega
      clear i2 hm
      by_cases h31 : m ≤ 31
      · have E2 := Lib.hid (E.out.1 h31)
        have h3 : ¬ (31 : Int) < (m : Int) := by omega
        clear E
        go_wp2
        go_ret2
        rw [E2.out.1, E2.out.2]
        exact ⟨rfl, by first | rfl | trivial⟩
      · have E2 := Lib.hid (E.out.2 (by omega))
        have h3 : (31 : Int) < (m : Int) := by omega
        clear E h31
        go_wp2
        go_ret2
        rw [E2.out.1, E2.out.2]
        exact ⟨rfl, by first | rfl | trivial⟩

theorem dnum_short {s : List UInt8} (h : s.length = 1 ∨ s.length = 2) (hh : s.head? ≠ some 48) : dnum s = if allDg s = true then some (valD 0 s) else none := by
  unfold dnum
  by_cases ha : allDg s = true
  · rw [if_pos ⟨h, hh, ha⟩, if_pos ha]
  · rw [if_neg (fun c => ha c.2.2), if_neg ha]
set_option maxHeartbeats 800000 in
/-- The reference's number. -/
theorem rnum8_is (s : List UInt8) (v e0 : Int) (w : World) (HV : Hid (dnV s = v ∧ dnE s = e0)) :
    Calls Tryz.prog 22 #[.string ⟨s.toArray⟩] w fun e w' => e = .returned (.tuple #[.int .i64 v, .int .i64 e0]) ∧ w = w' := by
  have hz := wsize s
  by_cases h0 : s.length = 0
  · obtain ⟨rfl, rfl⟩ : v = 0 ∧ e0 = 12 := by
      have := dn_none (s := s) (by unfold dnum; rw [if_neg (by omega)])
      have h2 := HV.out
      exact ⟨h2.1.symm.trans this.1, h2.2.symm.trans this.2⟩
    obtain rfl : s = [] := List.eq_nil_of_length_eq_zero h0
    clear HV h0 hz
    go_enter Tryz.func22, Tryz.ntmps22
    go_wp2
    go_ret2
    exact ⟨rfl, rfl⟩
  · by_cases h2 : 2 < s.length
    · obtain ⟨rfl, rfl⟩ : v = 0 ∧ e0 = 12 := by
        have := dn_none (s := s) (by unfold dnum; rw [if_neg (by omega)])
        have h2 := HV.out
        exact ⟨h2.1.symm.trans this.1, h2.2.symm.trans this.2⟩
      have L1 : decide (s.length < 1) = false := decide_eq_false (by omega)
      have L2 : decide (2 < s.length) = true := decide_eq_true (by omega)
      have L1' : decide ((s.length : Int) < 1) = false := decide_eq_false (by omega)
      have L2' : decide (2 < (s.length : Int)) = true := decide_eq_true (by omega)
      clear HV h0 h2
      go_enter Tryz.func22, Tryz.ntmps22
      go_wp2
      go_ret2
      exact ⟨rfl, rfl⟩
    · obtain ⟨b, hb⟩ : ∃ b, s.getD 0 0 = b := ⟨_, rfl⟩
      have hh : s.head? = some b := by cases s with | nil => exact absurd rfl h0 | cons c r => simpa using hb
      by_cases h48 : b.toNat = 48
      · obtain rfl : b = 48 := UInt8.toNat_inj.1 h48
        obtain ⟨rfl, rfl⟩ : v = 0 ∧ e0 = 12 := by
          have := dn_none (s := s) (by unfold dnum; rw [if_neg (fun c => c.2.1 hh)])
          have h2 := HV.out
          exact ⟨h2.1.symm.trans this.1, h2.2.symm.trans this.2⟩
        have h45 : ∀ W : World, (Instr.index 9 (.string ⟨s.toArray⟩) (.int .i64 0)).run Tryz.prog W = .ok (.int .u8 48) W := wbyte_at s 0 (by omega) 48 hb
        have L1 : decide (s.length < 1) = false := decide_eq_false (by omega)
        have L2 : decide (2 < s.length) = false := decide_eq_false (by omega)
        have L1' : decide ((s.length : Int) < 1) = false := decide_eq_false (by omega)
        have L2' : decide (2 < (s.length : Int)) = false := decide_eq_false (by omega)
        clear HV h0 h2 hb hh h48
        go_enter Tryz.func22, Tryz.ntmps22
        go_wp2
        go_ret2
        exact ⟨rfl, rfl⟩
      · have hd := dnum_short (s := s) (by omega) (by rw [hh]; intro e; injection e with e; rw [e] at h48; exact h48 rfl)
        refine rnum8_core s v e0 w b hb h48 (by omega) (by omega) (Lib.hid fun ha => ?_) (Lib.hid fun ha => ⟨fun hm => ?_, fun hm => ?_⟩)
        · rw [ha] at hd
          have := dn_none hd
          have h2 := HV.out
          exact ⟨h2.1.symm.trans this.1, h2.2.symm.trans this.2⟩
        · rw [if_pos ha] at hd
          have := dn_fine hd hm
          have h2 := HV.out
          exact ⟨h2.1.symm.trans this.1, h2.2.symm.trans this.2⟩
        · rw [if_pos ha] at hd
          have := dn_big hd hm
          have h2 := HV.out
          exact ⟨h2.1.symm.trans this.1, h2.2.symm.trans this.2⟩
end Go.Proofs.YtddoapenhlkamaaGreatDoor
