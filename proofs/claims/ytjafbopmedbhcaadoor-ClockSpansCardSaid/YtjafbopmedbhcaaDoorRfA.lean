/- The contracts of meridianlaw03's far and of meridianref03's two, Join, Split and digits: what each call returns; nothing that was in memory changes. -/
import Derived.Test.YtjafbopmedbhcaaDoorClkA
import Derived.Test.YtjafbopmedbhcaaDoorSpn
import Derived.Test.YtjafbopmedbhcaaDoorRefC
import Derived.Test.YtjafbopmedbhcaaDoorFld
namespace Go.Proofs.YtjafbopmedbhcaaDoor
open Go.RowKit

def farB (n : Int) : Bool := decide (604800 ≤ n ∨ n ≤ -604800)
theorem farB_no {n : Int} (h : farB n = false) : -604800 < n ∧ n < 604800 := by
  simp [farB] at h; omega
theorem farB_yes {n : Int} (h : farB n = true) : ¬ (-604800 < n ∧ n < 604800) := by
  simp [farB] at h; omega

theorem far_any (n : Int) (w : World) :
    Calls Tryd.prog 11 #[.int .i64 n] w fun e w' => e = .returned (.bool (farB n)) ∧ w = w' := by
  by_cases h1 : 604800 ≤ n
  · have e : farB n = true := by simp [farB, h1]
    rw [e]
    go_enter Tryd.func11, Tryd.ntmps11
    go_wp2
    go_ret
    exact ⟨rfl, rfl⟩
  · by_cases h2 : n ≤ -604800
    · have e : farB n = true := by simp [farB, h2]
      rw [e]
      go_enter Tryd.func11, Tryd.ntmps11
      go_wp2
      go_ret
      exact ⟨rfl, rfl⟩
    · have e : farB n = false := by simp [farB]; omega
      rw [e]
      go_enter Tryd.func11, Tryd.ntmps11
      go_wp2
      go_ret
      exact ⟨rfl, rfl⟩

theorem rjoin_any (y m d n : Int) (w : World) (h : okD y m d) (h1 : -604800 < n) (h2 : n < 604800) :
    Calls Tryd.prog 12 #[.agg #[.int .i64 y, .int .i64 m, .int .i64 d], .int .i64 n] w fun e w' => e = .returned (.int .i64 (dayN y m d * 86400 + n)) ∧ Below w.heap.size w w' := by
  have T := Lib.hid (Boxed.new w y m d 23)
  have HO := Lib.hid h
  have hb := day_bd h
  clear h
  generalize hD : dayN y m d = D at hb
  have HD := Lib.hid hD
  clear hD
  go_enter Tryd.func12, Tryd.ntmps12
  go_wp2_with (first
    | (go_at_call 27; refine (rdays_any _ _ _ _ HO.out).mono ?_; rintro e w1 ⟨rfl, k1⟩
       rw [HD.out]
       have T1 := Lib.hid (T.out.next k1)
       clear T k1))
  go_ret
  exact ⟨ret_i (by omega), T1.out.bel⟩

theorem td_is (n : Int) : n.tdiv 86400 = if 0 ≤ n ∨ n % 86400 = 0 then n / 86400 else n / 86400 + 1 := by
  rw [Int.tdiv_eq_ediv]
  have : ((86400 : Int) ∣ n) ↔ n % 86400 = 0 := ⟨Int.emod_eq_zero_of_dvd, Int.dvd_of_emod_eq_zero⟩
  simp only [this, show Int.sign 86400 = 1 from rfl]
  split <;> omega

theorem rsplit_any (n q r : Int) (w : World) (h1 : -9223372036854775808 ≤ n) (h2 : n ≤ 9223372036854775807) (hq : n / 86400 = q) (hr : n % 86400 = r) :
    Calls Tryd.prog 14 #[.int .i64 n] w fun e w' => e = .returned (.tuple #[.int .i64 q, .int .i64 r]) ∧ w = w' := by
  have td := td_is n
  have e3 : n = 86400 * q + r := by omega
  have rb : 0 ≤ r ∧ r < 86400 := by omega
  rw [hq, hr] at td
  have H3 := Lib.hid e3
  clear hq hr
  by_cases c : 0 ≤ n ∨ r = 0
  · rw [if_pos c] at td
    have b0 : 0 ≤ n - 86400 * q ∧ n - 86400 * q < 86400 := by omega
    have b1 : -9223372036854775808 ≤ 86400 * q ∧ 86400 * q ≤ 9223372036854775807 := by omega
    obtain ⟨b0, b2⟩ := b0
    obtain ⟨b1, b3⟩ := b1
    clear c e3
    go_enter Tryd.func14, Tryd.ntmps14
    go_wp2
    go_ret2
    have := H3.out
    have e : n - 86400 * q = r := by omega
    rw [e]
    exact ⟨rfl, rfl⟩
  · rw [if_neg c] at td
    have b0 : n - 86400 * (q + 1) < 0 ∧ -86400 ≤ n - 86400 * (q + 1) := by omega
    have b1 : -9223372036854775808 ≤ 86400 * (q + 1) ∧ 86400 * (q + 1) ≤ 9223372036854775807 := by omega
    obtain ⟨b0, b2⟩ := b0
    obtain ⟨b1, b3⟩ := b1
    have qb : -1000000000000000000 ≤ q ∧ q ≤ 1000000000000000000 := by omega
    clear c e3
    go_enter Tryd.func14, Tryd.ntmps14
    go_wp2
    go_ret2
    have := H3.out
    have e : n - 86400 * (q + 1) + 86400 = r := by omega
    rw [e]
    exact ⟨rfl, rfl⟩

def digV (s : List UInt8) : Int := if s ≠ [] ∧ allDig s = true then (numOf s : Int) else -1
/-- Some number, that of the digits, if they are few. -/
def SomeDig (s : List UInt8) (w : World) (e : Ending) (w' : World) : Prop := ∃ v : Int, (s.length ≤ 9 → v = digV s) ∧ e = .returned (.int .i64 v) ∧ w = w'

theorem byte_run (p : List UInt8) (i : Nat) (h : i < p.length) (c : UInt8) (hc : p.getD i 0 = c) (w : World) : (Instr.index 9 (.string ⟨p.toArray⟩) (.int .i64 (i : Int))).run Tryd.prog w = .ok (.int .u8 (c.toNat : Int)) w := by rw [← hc]; exact byte_at p i h w

theorem digV_bad {p : List UInt8} (h : allDig p = false) : digV p = -1 := by simp [digV, h]
theorem digV_nil : digV [] = -1 := by simp [digV]
theorem digV_ok {p : List UInt8} (h : allDig p = true) (h0 : p ≠ []) : digV p = numOf p := by simp [digV, h, h0]

set_option maxHeartbeats 800000 in
theorem rdig_any (p : List UInt8) (w : World) (hp : p.length ≤ 1000) :
    Calls Tryd.prog 38 #[.string ⟨p.toArray⟩] w (SomeDig p w) := by
  have hs : (⟨p.toArray⟩ : ByteArray).size = p.length := by simp [ByteArray.size]
  go_enter Tryd.func38, Tryd.ntmps38
  go_wp2
  go_loop [3, 4] (fun vn vi => ∃ (i : Nat) (v : Int), vi = .int .i64 i ∧ i ≤ p.length ∧ allDig (p.take i) = true ∧ vn = .int .i64 v ∧ (i ≤ 9 → v = numOf (p.take i))) (fun _ vi => p.length - (intOf vi).toNat)
  case atStart => exact ⟨0, 0, rfl, by omega, by simp [allDig], rfl, by simp [numOf]⟩
  case round =>
    obtain ⟨i, v, rfl, i1, i2, rfl, i3⟩ := hrel
    by_cases hi : i < p.length
    · have hi' : (i : Int) < (p.length : Int) := by omega
      have TN := Lib.hid (take_next p i hi)
      have HC := Lib.hid (allDig_cut hi)
      obtain ⟨c, hc⟩ : ∃ c, p.getD i 0 = c := ⟨_, rfl⟩
      have hix := byte_run p i hi c hc
      rw [hc] at TN HC
      have clt := c.toNat_lt
      clear hc
      have nb := numOf_bd _ i2 i (by rw [List.length_take]; omega)
      have I3 := Lib.hid i3
      have NB := Lib.hid nb
      have I2 := Lib.hid i2
      clear i3 nb i2
      by_cases d1 : c.toNat < 48
      · have d1' : (c.toNat : Int) < 48 := by omega
        go_wp2
        go_ret
        exact ⟨-1, fun _ => (digV_bad (HC.out (by simp [isDig]; omega))).symm, rfl, rfl⟩
      · by_cases d2 : 57 < c.toNat
        · have d1' : ¬ (c.toNat : Int) < 48 := by omega
          have d2' : 57 < (c.toNat : Int) := by omega
          go_wp2
          go_ret
          exact ⟨-1, fun _ => (digV_bad (HC.out (by simp [isDig]; omega))).symm, rfl, rfl⟩
        · have d1' : ¬ (c.toNat : Int) < 48 := by omega
          have d2' : ¬ 57 < (c.toNat : Int) := by omega
          have A1 : Hid (allDig (p.take (i + 1)) = true) := by
            show _ = _
            rw [TN.out, allDig_snoc, I2.out]; simp [isDig]; omega
          by_cases i9 : i < 9
          · have v0 : 0 ≤ v ∧ v < 1000000000 := by
              have e := I3.out (by omega)
              have := NB.out (by omega)
              have : 10 ^ i ≤ 10 ^ 9 := Nat.pow_le_pow_right (by omega) (by omega)
              omega
            go_wp2
            go_round
            case rel => exact ⟨i + 1, _, by go_num, by omega, A1.out, rfl, fun _ => by rw [TN.out, numOf_snoc, I3.out (by omega)]; omega⟩
            case measure => simp [intOf]; omega
          · go_wp2
            go_round
            case rel => exact ⟨i + 1, _, by go_num, by omega, A1.out, rfl, fun h => by omega⟩
            case measure => simp [intOf]; omega
    · have hi' : ¬ (i : Int) < (p.length : Int) := by omega
      obtain rfl : i = p.length := by omega
      rw [List.take_length] at i2 i3
      have I2 := Lib.hid i2
      have I3 := Lib.hid i3
      clear i2 i3
      by_cases h0 : p = []
      · subst h0
        go_wp2
        go_ret
        exact ⟨-1, fun _ => digV_nil.symm, rfl, rfl⟩
      · have H0 := Lib.hid h0
        have hne : p.isEmpty = false := by cases p with | nil => exact absurd rfl h0 | cons _ _ => rfl
        clear h0
        go_wp2
        go_ret
        exact ⟨v, fun h => by rw [digV_ok I2.out H0.out, I3.out h], rfl, rfl⟩
end Go.Proofs.YtjafbopmedbhcaaDoor
