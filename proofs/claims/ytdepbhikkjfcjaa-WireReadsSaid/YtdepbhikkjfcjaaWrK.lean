/- The contracts of the reference's Number and Back, and of the law's own read; nothing that was in memory changes. -/
import Derived.Test.YtdepbhikkjfcjaaWrJ
import Derived.Test.YtdepbhikkjfcjaaWrV
namespace Go.Proofs.Ytdepbhikkjfcjaa
open Go.RowKit Go.Shelf
attribute [local go_sem] Oper.semAt_some

/-- What the bits from i on, of 63, come to. -/
def bn (l : List Nat) (i : Nat) : Nat := bv ((l.take 63).drop i)
theorem bn_63 (l : List Nat) : bn l 63 = 0 := by
  have : (l.take 63).drop 63 = [] := by rw [List.drop_eq_nil_iff, List.length_take]; omega
  rw [bn, this]; rfl
theorem bn_step {l : List Nat} {i : Nat} (h : 63 ≤ l.length) (hi : i < 63) : bn l i = l.getD i 0 + 2 * bn l (i + 1) := by
  have hl : i < (l.take 63).length := by rw [List.length_take]; omega
  rw [bn, bn, List.drop_eq_getElem_cons hl, bv]
  congr 1
  simp [List.getD, List.getElem?_eq_getElem (show i < l.length by omega)]
theorem bn_lt {l : List Nat} (h : isB l) (i : Nat) : bn l i < 2 ^ (63 - i) :=
  Nat.lt_of_lt_of_le (bv_lt _ (isB_drop (isB_take h _) _)) (Nat.pow_le_pow_right (by omega) (by rw [List.length_drop, List.length_take]; omega))

set_option maxRecDepth 20000 in
set_option maxHeartbeats 1000000 in
theorem rnumber_any (a : Option Addr) (n c : Nat) (l : List Nat) (v : Nat) (w : World) (hn : l.length = n) (h63 : 63 ≤ n) (hm : n ≤ 100) (ha : Nu w a l) (hb : isB l) (hv : Hid (bn l 0 = v)) :
    Calls Try.prog 34 #[.slice a n c] w fun e w' => e = .returned (.int .i64 (v : Int)) ∧ w = w' := by
  have HA := Lib.hid ha
  have HI := Lib.hid hb
  have HN := Lib.hid hn
  clear ha hb hn
  go_enter Try.func34, Try.ntmps34
  go_wp2
  go_loop [3, 4] (fun vn vi => ∃ i : Nat, i ≤ 63 ∧ vn = .int .i64 ((bn l i : Nat) : Int) ∧ vi = .int .i64 ((i : Int) - 1)) (fun _ vi => (intOf vi + 1).toNat)
  case atStart => exact ⟨63, by omega, by rw [bn_63]; rfl, rfl⟩
  case round =>
    obtain ⟨i, hi, rfl, rfl⟩ := hrel
    cases i with
    | zero =>
      rw [hv.out]
      go_wp2
      go_ret
      exact ⟨rfl, rfl⟩
    | succ t =>
      obtain ⟨b1, o1, rfl, hb1, hc1⟩ := HA.out t (by rw [HN.out]; omega)
      have BS := Lib.hid (bn_step (l := l) (i := t) (by rw [HN.out]; omega) (by omega))
      have hlt := bn_lt HI.out (t + 1)
      have h2 : 2 ^ (63 - (t + 1)) ≤ 2 ^ 62 := Nat.pow_le_pow_right (by omega) (by omega)
      have hv1 := isB_at HI.out t
      obtain ⟨q, hq⟩ : ∃ q, bn l (t + 1) = q := ⟨_, rfl⟩
      obtain ⟨x, hx⟩ : ∃ x, l.getD t 0 = x := ⟨_, rfl⟩
      rw [hq] at BS hlt ⊢
      rw [hx] at BS hv1 hc1
      have hqb : q < 4611686018427387904 := by omega
      have hw1 : wrap64 (2 * (q : Int)) = 2 * (q : Int) := by unfold wrap64; omega
      have hw2 : wrap64 (2 * (q : Int) + (x : Int)) = 2 * (q : Int) + (x : Int) := by unfold wrap64; omega
      clear hq hx hlt h2 hb1
      go_wp2
      go_round
      case rel => exact ⟨t, by omega, by rw [BS.out]; go_num, by go_num⟩
      case measure => simp [intOf]

theorem dropI_run (a : Option Addr) (n c k : Nat) (h : k ≤ n) (W : World) : (Instr.slice 24 (.slice a n c) (some (.int .i64 (k : Int))) none none).run Try.prog W = .ok (.slice (sh a c k) (n - k) (c - k)) W := by
  have e : Try.prog.elem 24 = 3 := by kernel_rfl
  have hs : (sizeOf 3).run Try.prog W = .ok 1 W := by kernel_rfl
  rw [run_slice_l W 24 a n c (by rw [e]; exact Try.underlying24) .i64 k (by omega) (by omega), e, hs]
  simp [Result.andThen, sliced, sh]
theorem Nu.drop {w : World} {a : Option Addr} {l : List Nat} {c k : Nat} (h : Nu w a l) (hc : l.length ≤ c) : Nu w (sh a c k) (l.drop k) := fun j hj => by
  rw [List.length_drop] at hj
  obtain ⟨b, off, e, hlt, hh⟩ := h (k + j) (by omega)
  refine ⟨b, off + k, ?_, hlt, ?_⟩
  · unfold sh
    rw [if_neg (by omega), e]
    simp [Go.WideShapes.add_plain]
  · rw [show off + k + j = off + (k + j) by omega, hh]
    simp [List.getD]

set_option maxRecDepth 20000 in
theorem rback_any (a : Option Addr) (c V : Nat) (r : Int) (w : World) (hc : 64 ≤ c) (hV : V < 18446744073709551616) (ha : Nu w a (bt 64 V)) (hr : Hid (tb V = r)) :
    Calls Try.prog 33 #[.slice a 64 c] w fun e w' => e = .returned (.int .i64 r) ∧ w' = w := by
  have hd : bt 64 V = V % 2 :: bt 63 (V / 2) := rfl
  have h0 := ha 0 (by rw [bt_len]; omega)
  rw [hd, List.getD_cons_zero] at h0
  obtain ⟨b1, o1, rfl, hb1, hc1⟩ := h0
  have NB := ha.drop (c := c) (k := 1) (by rw [bt_len]; exact hc)
  rw [hd, List.drop_one, List.tail_cons] at NB
  have hbn : bn (bt 63 (V / 2)) 0 = V / 2 := by
    rw [bn, List.drop_zero, List.take_of_length_le (by rw [bt_len]; exact Nat.le_refl _), bv_bt, Nat.mod_eq_of_lt (by omega)]
  have hsl : ∀ W : World, (Instr.slice 24 (.slice (some ⟨b1, o1, none⟩) 64 c) (some (.int .i64 1)) none none).run Try.prog W = .ok (.slice (sh (some ⟨b1, o1, none⟩) c 1) 63 (c - 1)) W := dropI_run (some ⟨b1, o1, none⟩) 64 c 1 (by omega)
  obtain ⟨A, hA⟩ : ∃ A, sh (some ⟨b1, o1, none⟩) c 1 = A := ⟨_, rfl⟩
  obtain ⟨cc, hcc⟩ : ∃ cc, c - 1 = cc := ⟨_, rfl⟩
  rw [hA, hcc] at hsl
  rw [hA] at NB
  obtain ⟨q, hq⟩ : ∃ q, V / 2 = q := ⟨_, rfl⟩
  have hqb : q < 9223372036854775808 := by omega
  have RN := Lib.hid (rnumber_any A 63 cc (bt 63 (V / 2)) q w (bt_len _ _) (by omega) (by omega) NB (bt_b _ _) (Lib.hid (by rw [hbn, hq])))
  rw [Nat.add_zero] at hc1
  rcases Nat.mod_two_eq_zero_or_one V with h | h
  · have HR := Lib.hid (show r = (q : Int) by rw [← hr.out, tb, if_neg (by omega), hq])
    rw [h] at hc1
    clear hA hcc hq hbn NB hd h hr ha hV hc
    go_enter Try.func33, Try.ntmps33
    go_wp2_with (go_at_call 34; refine RN.out.mono ?_; rintro e w' ⟨rfl, rfl⟩)
    go_ret
    rw [HR.out]
    exact ⟨rfl, rfl⟩
  · have HR := Lib.hid (show r = -(q : Int) - 1 by rw [← hr.out, tb, if_pos h, hq])
    rw [h] at hc1
    have hw1 : wrap64 (-(q : Int)) = -(q : Int) := by unfold wrap64; omega
    have hw2 : wrap64 (-(q : Int) - 1) = -(q : Int) - 1 := by unfold wrap64; omega
    clear hA hcc hq hbn NB hd h hr ha hV hc
    go_enter Try.func33, Try.ntmps33
    go_wp2_with (go_at_call 34; refine RN.out.mono ?_; rintro e w' ⟨rfl, rfl⟩)
    go_ret
    rw [HR.out]
    exact ⟨rfl, rfl⟩
end Go.Proofs.Ytdepbhikkjfcjaa
