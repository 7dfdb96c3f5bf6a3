/- The contract of the reference's Number: which number a text is; nothing that was in memory changes. Written by wip/tools/gennum.py. -/
import Derived.Test.YtoegjbhbgnhjdaaDoorWdA
import Derived.Test.YtoegjbhbgnhjdaaDoorNmb
namespace Go.Proofs.YtoegjbhbgnhjdaaDoor
open Go.RowKit

theorem wtail_run (b : UInt8) (t : List UInt8) (W : World) : (Instr.slice 9 (.string ⟨(b :: t).toArray⟩) (some (.int .i64 1)) none none).run Tryd.prog W = .ok (.string ⟨t.toArray⟩) W := by
  rw [run_slice_string_from_if (h := Tryd.underlying9), if_pos ⟨by omega, by rw [wsize]; simp; omega⟩]
  congr 2
  simp [ByteArray.extract_mk, ByteArray.size]
theorem bad_at {t : List UInt8} {i : Nat} {c : UInt8} (hi : i < t.length) (hc : t.getD i 0 = c) (h : isDg c = false) : allDg t = false := by
  rw [← Bool.not_eq_true]
  intro ha
  have := List.all_eq_true.1 ha c (by rw [← hc]; simp [hi])
  rw [h] at this; cases this
theorem valD_bd9 {t : List UInt8} {i : Nat} (h : allDg (t.take i) = true) (hl : t.length ≤ 9) : valD 0 (t.take i) < 1000000000 := by
  have := valD_lt (t.take i) 0 h
  have h5 : 10 ^ (t.take i).length ≤ 10 ^ 9 := Nat.pow_le_pow_right (by omega) (by rw [List.length_take]; omega)
  omega

set_option maxHeartbeats 1600000 in
theorem rnum_p1 (t : List UInt8) (v : Int) (z : Bool) (w : World) (b : UInt8) (hb : t.getD 0 0 = b) (hb2 : b.toNat ≠ 45) (hl9 : t.length ≤ 9) (hl : t.length = 1) (EB : Hid (allDg t = false → v = 0 ∧ z = false)) (EG : Hid (allDg t = true → v = (valD 0 t : Int) ∧ z = true)) :
    Calls Tryd.prog 19 #[.string ⟨(t).toArray⟩] w fun e w' => e = .returned (.tuple #[.int .i64 v, .bool z]) ∧ w = w' := by
  have hz := wsize t
  have h45 : ∀ W : World, (Instr.index 9 (.string ⟨t.toArray⟩) (.int .i64 0)).run Tryd.prog W = .ok (.int .u8 (b.toNat : Int)) W := wbyte_at t 0 (by omega) b hb
  have hb' : ((b.toNat : Int) == 45) = false := by simp; omega
  clear hb hb2
  have g0 : 0 < t.length := by omega
  have g1 : ¬ 1 < t.length := by omega
  clear hl
  go_enter Tryd.func19, Tryd.ntmps19
  go_wp2
  go_loopw [5, 6] (fun vn vi w' => ∃ i : Nat, vi = .int .i64 i ∧ i ≤ t.length ∧ allDg (t.take i) = true ∧ vn = .int .i64 (valD 0 (t.take i)) ∧ w = w') (fun _ vi _ => t.length - (intOf vi).toNat)
  case atStart => exact ⟨0, rfl, by omega, rfl, rfl, rfl⟩
  case round =>
    obtain ⟨i, rfl, i1, i2, rfl, rfl⟩ := hrel
    by_cases hi : i < t.length
    · obtain ⟨c, hc⟩ : ∃ c, t.getD i 0 = c := ⟨_, rfl⟩
      have hix := wbyte_at t i hi c hc
      have TN := Lib.hid (take_snoc hi hc)
      have HC : Hid (isDg c = false → allDg t = false) := Lib.hid (bad_at hi hc)
      have clt := c.toNat_lt
      have nb := valD_bd9 (i := i) i2 hl9
      obtain ⟨m, hm⟩ : ∃ m, valD 0 (t.take i) = m := ⟨_, rfl⟩
      rw [hm] at nb
      have HM := Lib.hid hm
      have I2 := Lib.hid i2
      have hi' : (i : Int) < (t.length : Int) := by omega
      rw [hm]
      clear hc i2 hm
      by_cases d1 : c.toNat < 48
      · have d1' : (c.toNat : Int) < 48 := by omega
        have E := Lib.hid (EB.out (HC.out (by unfold isDg; simp; omega)))
        go_wp2
        go_ret2
        rw [E.out.1, E.out.2]
        exact ⟨rfl, rfl⟩
      · by_cases d2 : 57 < c.toNat
        · have d1' : ¬ (c.toNat : Int) < 48 := by omega
          have d2' : 57 < (c.toNat : Int) := by omega
          have E := Lib.hid (EB.out (HC.out (by unfold isDg; simp; omega)))
          go_wp2
          go_ret2
          rw [E.out.1, E.out.2]
          exact ⟨rfl, rfl⟩
        · have d1' : ¬ (c.toNat : Int) < 48 := by omega
          have d2' : ¬ 57 < (c.toNat : Int) := by omega
          have V : Hid (valD 0 (t.take (i + 1)) = 10 * m + (c.toNat - 48) ∧ allDg (t.take (i + 1)) = true) := Lib.hid (by
            rw [TN.out, valD_snoc, HM.out, allDg_snoc, I2.out]
            exact ⟨rfl, by unfold isDg; simp; omega⟩)
          go_wp2
          go_roundw
          case rel =>
            refine ⟨i + 1, by go_num, by omega, V.out.2, ?_, by first | rfl | trivial⟩
            rw [V.out.1]
            congr 1; omega
          case measure => simp [intOf]; omega
    · obtain rfl : i = t.length := by omega
      have nb := valD_bd9 (i := t.length) i2 hl9
      rw [List.take_length] at i2 nb ⊢
      have E := Lib.hid (EG.out i2)
      obtain ⟨m, hm⟩ : ∃ m, valD 0 t = m := ⟨_, rfl⟩
      rw [hm] at nb E ⊢
      have hi' : ¬ ((t.length : Nat) : Int) < (t.length : Int) := by omega
      clear i2 hm
      go_wp2
      go_ret2
      rw [E.out.1, E.out.2]
      exact ⟨rfl, by first | rfl | trivial⟩

set_option maxHeartbeats 1600000 in
theorem rnum_pn (t : List UInt8) (v : Int) (z : Bool) (w : World) (b : UInt8) (hb : t.getD 0 0 = b) (hb2 : b.toNat ≠ 45) (hl9 : t.length ≤ 9) (hl : 1 < t.length) (a : UInt8) (ha : t.getD 0 0 = a) (ha2 : a.toNat ≠ 48) (EB : Hid (allDg t = false → v = 0 ∧ z = false)) (EG : Hid (allDg t = true → v = (valD 0 t : Int) ∧ z = true)) :
    Calls Tryd.prog 19 #[.string ⟨(t).toArray⟩] w fun e w' => e = .returned (.tuple #[.int .i64 v, .bool z]) ∧ w = w' := by
  have hz := wsize t
  have h45 : ∀ W : World, (Instr.index 9 (.string ⟨t.toArray⟩) (.int .i64 0)).run Tryd.prog W = .ok (.int .u8 (b.toNat : Int)) W := wbyte_at t 0 (by omega) b hb
  have hb' : ((b.toNat : Int) == 45) = false := by simp; omega
  have hb0 := hb
  clear hb hb2
  obtain rfl : b = a := by rw [← ha]; exact hb0.symm
  have ha' : ((b.toNat : Int) == 48) = false := by simp; omega
  clear hb0 ha ha2
  have g0 : 0 < t.length := by omega
  go_enter Tryd.func19, Tryd.ntmps19
  go_wp2
  go_loopw [5, 6] (fun vn vi w' => ∃ i : Nat, vi = .int .i64 i ∧ i ≤ t.length ∧ allDg (t.take i) = true ∧ vn = .int .i64 (valD 0 (t.take i)) ∧ w = w') (fun _ vi _ => t.length - (intOf vi).toNat)
  case atStart => exact ⟨0, rfl, by omega, rfl, rfl, rfl⟩
  case round =>
    obtain ⟨i, rfl, i1, i2, rfl, rfl⟩ := hrel
    by_cases hi : i < t.length
    · obtain ⟨c, hc⟩ : ∃ c, t.getD i 0 = c := ⟨_, rfl⟩
      have hix := wbyte_at t i hi c hc
      have TN := Lib.hid (take_snoc hi hc)
      have HC : Hid (isDg c = false → allDg t = false) := Lib.hid (bad_at hi hc)
      have clt := c.toNat_lt
      have nb := valD_bd9 (i := i) i2 hl9
      obtain ⟨m, hm⟩ : ∃ m, valD 0 (t.take i) = m := ⟨_, rfl⟩
      rw [hm] at nb
      have HM := Lib.hid hm
      have I2 := Lib.hid i2
      have hi' : (i : Int) < (t.length : Int) := by omega
      rw [hm]
      clear hc i2 hm
      by_cases d1 : c.toNat < 48
      · have d1' : (c.toNat : Int) < 48 := by omega
        have E := Lib.hid (EB.out (HC.out (by unfold isDg; simp; omega)))
        go_wp2
        go_ret2
        rw [E.out.1, E.out.2]
        exact ⟨rfl, rfl⟩
      · by_cases d2 : 57 < c.toNat
        · have d1' : ¬ (c.toNat : Int) < 48 := by omega
          have d2' : 57 < (c.toNat : Int) := by omega
          have E := Lib.hid (EB.out (HC.out (by unfold isDg; simp; omega)))
          go_wp2
          go_ret2
          rw [E.out.1, E.out.2]
          exact ⟨rfl, rfl⟩
        · have d1' : ¬ (c.toNat : Int) < 48 := by omega
          have d2' : ¬ 57 < (c.toNat : Int) := by omega
          have V : Hid (valD 0 (t.take (i + 1)) = 10 * m + (c.toNat - 48) ∧ allDg (t.take (i + 1)) = true) := Lib.hid (by
            rw [TN.out, valD_snoc, HM.out, allDg_snoc, I2.out]
            exact ⟨rfl, by unfold isDg; simp; omega⟩)
          go_wp2
          go_roundw
          case rel =>
            refine ⟨i + 1, by go_num, by omega, V.out.2, ?_, by first | rfl | trivial⟩
            rw [V.out.1]
            congr 1; omega
          case measure => simp [intOf]; omega
    · obtain rfl : i = t.length := by omega
      have nb := valD_bd9 (i := t.length) i2 hl9
      rw [List.take_length] at i2 nb ⊢
      have E := Lib.hid (EG.out i2)
      obtain ⟨m, hm⟩ : ∃ m, valD 0 t = m := ⟨_, rfl⟩
      rw [hm] at nb E ⊢
      have hi' : ¬ ((t.length : Nat) : Int) < (t.length : Int) := by omega
      clear i2 hm
      go_wp2
      go_ret2
      rw [E.out.1, E.out.2]
      exact ⟨rfl, by first | rfl | trivial⟩

set_option maxHeartbeats 1600000 in
theorem rnum_m1 (t : List UInt8) (v : Int) (z : Bool) (w : World) (hne : t ≠ [48]) (hl9 : t.length ≤ 9) (hl : t.length = 1) (EB : Hid (allDg t = false → v = 0 ∧ z = false)) (EG : Hid (allDg t = true → v = -(valD 0 t : Int) ∧ z = true)) :
    Calls Tryd.prog 19 #[.string ⟨(45 :: t).toArray⟩] w fun e w' => e = .returned (.tuple #[.int .i64 v, .bool z]) ∧ w = w' := by
  have hz := wsize t
  have hzs := wsize (45 :: t)
  have h45 : ∀ W : World, (Instr.index 9 (.string ⟨(45 :: t).toArray⟩) (.int .i64 0)).run Tryd.prog W = .ok (.int .u8 45) W := wbyte_at (45 :: t) 0 (by simp) 45 rfl
  have htl : ∀ W : World, (Instr.slice 9 (.string ⟨(45 :: t).toArray⟩) (some (.int .i64 1)) none none).run Tryd.prog W = .ok (.string ⟨t.toArray⟩) W := wtail_run 45 t
  have hne' : (t == [48]) = false := by simp [hne]
  obtain ⟨sl, hsl⟩ : ∃ sl : Nat, (45 :: t).length = sl := ⟨_, rfl⟩
  rw [hsl] at hzs
  have hs0 : 0 < sl := by rw [← hsl]; simp
  clear hne hsl
  generalize (45 :: t) = S at hzs h45 htl
  have g0 : 0 < t.length := by omega
  have g1 : ¬ 1 < t.length := by omega
  clear hl
  go_enter Tryd.func19, Tryd.ntmps19
  go_wp2
  go_loopw [5, 6] (fun vn vi w' => ∃ i : Nat, vi = .int .i64 i ∧ i ≤ t.length ∧ allDg (t.take i) = true ∧ vn = .int .i64 (valD 0 (t.take i)) ∧ w = w') (fun _ vi _ => t.length - (intOf vi).toNat)
  case atStart => exact ⟨0, rfl, by omega, rfl, rfl, rfl⟩
  case round =>
    obtain ⟨i, rfl, i1, i2, rfl, rfl⟩ := hrel
    by_cases hi : i < t.length
    · obtain ⟨c, hc⟩ : ∃ c, t.getD i 0 = c := ⟨_, rfl⟩
      have hix := wbyte_at t i hi c hc
      have TN := Lib.hid (take_snoc hi hc)
      have HC : Hid (isDg c = false → allDg t = false) := Lib.hid (bad_at hi hc)
      have clt := c.toNat_lt
      have nb := valD_bd9 (i := i) i2 hl9
      obtain ⟨m, hm⟩ : ∃ m, valD 0 (t.take i) = m := ⟨_, rfl⟩
      rw [hm] at nb
      have HM := Lib.hid hm
      have I2 := Lib.hid i2
      have hi' : (i : Int) < (t.length : Int) := by omega
      rw [hm]
      clear hc i2 hm
      by_cases d1 : c.toNat < 48
      · have d1' : (c.toNat : Int) < 48 := by omega
        have E := Lib.hid (EB.out (HC.out (by unfold isDg; simp; omega)))
        go_wp2
        go_ret2
        rw [E.out.1, E.out.2]
        exact ⟨rfl, rfl⟩
      · by_cases d2 : 57 < c.toNat
        · have d1' : ¬ (c.toNat : Int) < 48 := by omega
          have d2' : 57 < (c.toNat : Int) := by omega
          have E := Lib.hid (EB.out (HC.out (by unfold isDg; simp; omega)))
          go_wp2
          go_ret2
          rw [E.out.1, E.out.2]
          exact ⟨rfl, rfl⟩
        · have d1' : ¬ (c.toNat : Int) < 48 := by omega
          have d2' : ¬ 57 < (c.toNat : Int) := by omega
          have V : Hid (valD 0 (t.take (i + 1)) = 10 * m + (c.toNat - 48) ∧ allDg (t.take (i + 1)) = true) := Lib.hid (by
            rw [TN.out, valD_snoc, HM.out, allDg_snoc, I2.out]
            exact ⟨rfl, by unfold isDg; simp; omega⟩)
          go_wp2
          go_roundw
          case rel =>
            refine ⟨i + 1, by go_num, by omega, V.out.2, ?_, by first | rfl | trivial⟩
            rw [V.out.1]
            congr 1; omega
          case measure => simp [intOf]; omega
    · obtain rfl : i = t.length := by omega
      have nb := valD_bd9 (i := t.length) i2 hl9
      rw [List.take_length] at i2 nb ⊢
      have E := Lib.hid (EG.out i2)
      obtain ⟨m, hm⟩ : ∃ m, valD 0 t = m := ⟨_, rfl⟩
      rw [hm] at nb E ⊢
      have hi' : ¬ ((t.length : Nat) : Int) < (t.length : Int) := by omega
      clear i2 hm
      go_wp2
      go_ret2
      rw [E.out.1, E.out.2]
      exact ⟨rfl, by first | rfl | trivial⟩

set_option maxHeartbeats 1600000 in
theorem rnum_mn (t : List UInt8) (v : Int) (z : Bool) (w : World) (hne : t ≠ [48]) (hl9 : t.length ≤ 9) (hl : 1 < t.length) (a : UInt8) (ha : t.getD 0 0 = a) (ha2 : a.toNat ≠ 48) (EB : Hid (allDg t = false → v = 0 ∧ z = false)) (EG : Hid (allDg t = true → v = -(valD 0 t : Int) ∧ z = true)) :
    Calls Tryd.prog 19 #[.string ⟨(45 :: t).toArray⟩] w fun e w' => e = .returned (.tuple #[.int .i64 v, .bool z]) ∧ w = w' := by
  have hz := wsize t
  have hzs := wsize (45 :: t)
  have h45 : ∀ W : World, (Instr.index 9 (.string ⟨(45 :: t).toArray⟩) (.int .i64 0)).run Tryd.prog W = .ok (.int .u8 45) W := wbyte_at (45 :: t) 0 (by simp) 45 rfl
  have htl : ∀ W : World, (Instr.slice 9 (.string ⟨(45 :: t).toArray⟩) (some (.int .i64 1)) none none).run Tryd.prog W = .ok (.string ⟨t.toArray⟩) W := wtail_run 45 t
  have hne' : (t == [48]) = false := by simp [hne]
  obtain ⟨sl, hsl⟩ : ∃ sl : Nat, (45 :: t).length = sl := ⟨_, rfl⟩
  rw [hsl] at hzs
  have hs0 : 0 < sl := by rw [← hsl]; simp
  clear hne hsl
  generalize (45 :: t) = S at hzs h45 htl
  have h48 : ∀ W : World, (Instr.index 9 (.string ⟨t.toArray⟩) (.int .i64 0)).run Tryd.prog W = .ok (.int .u8 (a.toNat : Int)) W := wbyte_at t 0 (by omega) a ha
  have ha' : ((a.toNat : Int) == 48) = false := by simp; omega
  clear ha ha2
  have g0 : 0 < t.length := by omega
  go_enter Tryd.func19, Tryd.ntmps19
  go_wp2
  go_loopw [5, 6] (fun vn vi w' => ∃ i : Nat, vi = .int .i64 i ∧ i ≤ t.length ∧ allDg (t.take i) = true ∧ vn = .int .i64 (valD 0 (t.take i)) ∧ w = w') (fun _ vi _ => t.length - (intOf vi).toNat)
  case atStart => exact ⟨0, rfl, by omega, rfl, rfl, rfl⟩
  case round =>
    obtain ⟨i, rfl, i1, i2, rfl, rfl⟩ := hrel
    by_cases hi : i < t.length
    · obtain ⟨c, hc⟩ : ∃ c, t.getD i 0 = c := ⟨_, rfl⟩
      have hix := wbyte_at t i hi c hc
      have TN := Lib.hid (take_snoc hi hc)
      have HC : Hid (isDg c = false → allDg t = false) := Lib.hid (bad_at hi hc)
      have clt := c.toNat_lt
      have nb := valD_bd9 (i := i) i2 hl9
      obtain ⟨m, hm⟩ : ∃ m, valD 0 (t.take i) = m := ⟨_, rfl⟩
      rw [hm] at nb
      have HM := Lib.hid hm
      have I2 := Lib.hid i2
      have hi' : (i : Int) < (t.length : Int) := by omega
      rw [hm]
      clear hc i2 hm
      by_cases d1 : c.toNat < 48
      · have d1' : (c.toNat : Int) < 48 := by omega
        have E := Lib.hid (EB.out (HC.out (by unfold isDg; simp; omega)))
        go_wp2
        go_ret2
        rw [E.out.1, E.out.2]
        exact ⟨rfl, rfl⟩
      · by_cases d2 : 57 < c.toNat
        · have d1' : ¬ (c.toNat : Int) < 48 := by omega
          have d2' : 57 < (c.toNat : Int) := by omega
          have E := Lib.hid (EB.out (HC.out (by unfold isDg; simp; omega)))
          go_wp2
          go_ret2
          rw [E.out.1, E.out.2]
          exact ⟨rfl, rfl⟩
        · have d1' : ¬ (c.toNat : Int) < 48 := by omega
          have d2' : ¬ 57 < (c.toNat : Int) := by omega
          have V : Hid (valD 0 (t.take (i + 1)) = 10 * m + (c.toNat - 48) ∧ allDg (t.take (i + 1)) = true) := Lib.hid (by
            rw [TN.out, valD_snoc, HM.out, allDg_snoc, I2.out]
            exact ⟨rfl, by unfold isDg; simp; omega⟩)
          go_wp2
          go_roundw
          case rel =>
            refine ⟨i + 1, by go_num, by omega, V.out.2, ?_, by first | rfl | trivial⟩
            rw [V.out.1]
            congr 1; omega
          case measure => simp [intOf]; omega
    · obtain rfl : i = t.length := by omega
      have nb := valD_bd9 (i := t.length) i2 hl9
      rw [List.take_length] at i2 nb ⊢
      have E := Lib.hid (EG.out i2)
      obtain ⟨m, hm⟩ : ∃ m, valD 0 t = m := ⟨_, rfl⟩
      rw [hm] at nb E ⊢
      have hi' : ¬ ((t.length : Nat) : Int) < (t.length : Int) := by omega
      clear i2 hm
      go_wp2
      go_ret2
      rw [E.out.1, E.out.2]
      exact ⟨rfl, by first | rfl | trivial⟩
end Go.Proofs.YtoegjbhbgnhjdaaDoor
