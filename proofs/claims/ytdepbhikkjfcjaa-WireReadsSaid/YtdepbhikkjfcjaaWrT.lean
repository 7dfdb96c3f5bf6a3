/- The contracts of wire.inBytes, fitting and turnedBack, and of the cursor's own calls that change nothing: At, Left, Err; of New. -/
import Derived.Test.YtdepbhikkjfcjaaWrQ
namespace Go.Proofs.Ytdepbhikkjfcjaa
open Go.RowKit Go.Shelf
attribute [local go_sem] Oper.semAt_some

theorem turnedBack_any (m : Nat) (v : Int) (w : World) (hm : m < 18446744073709551616) (hv : Hid (tb m = v)) :
    Calls Try.prog 35 #[.int .u64 (m : Int)] w fun e w' => e = .returned (.int .i64 v) ∧ w' = w := by
  have hand : bits .and .u64 (m : Int) 1 = ((m % 2 : Nat) : Int) := by
    rw [show (1 : Int) = ((1 : Nat) : Int) from rfl, bits_and_u64_nat m 1 hm (by omega), Nat.and_one_is_mod]
  obtain ⟨q, hq⟩ : ∃ q, m / 2 = q := ⟨_, rfl⟩
  have hd : (m : Int) / 2 = (q : Int) := by omega
  have hqb : q < 9223372036854775808 := by omega
  rcases Nat.mod_two_eq_zero_or_one m with h | h
  · have HV := Lib.hid (show v = (q : Int) by rw [← hv.out, tb, if_neg (by omega), hq])
    rw [h] at hand
    have hw : IntKind.i64.wrap (q : Int) = (q : Int) := by rw [IntKind.wrap_i64]; omega
    clear hv hq h hm hqb
    go_enter Try.func35, Try.ntmps35
    go_wp2
    go_ret
    rw [HV.out]
    exact ⟨rfl, rfl⟩
  · have HV := Lib.hid (show v = -(q : Int) - 1 by rw [← hv.out, tb, if_pos h, hq])
    rw [h] at hand
    have hw : IntKind.i64.wrap (q : Int) = (q : Int) := by rw [IntKind.wrap_i64]; omega
    have hx : bits .xor .i64 (-1) (q : Int) = -(q : Int) - 1 := by rw [xor_low _ (by omega) (by omega)]; omega
    clear hv hq h hm hqb
    go_enter Try.func35, Try.ntmps35
    go_wp2
    go_ret
    rw [HV.out]
    exact ⟨rfl, rfl⟩

/-- What is read, if it is a number that may be: what is wrong, then the number, then how many bytes. -/
def ftB (V E : Nat) : Prop := E = 0 ∧ 9223372036854775807 < V
instance (V E : Nat) : Decidable (ftB V E) := by unfold ftB; exact inferInstance
def ftE (V E : Nat) : Nat := if ftB V E then 11 else E
def ftV (V E x : Nat) : Nat := if ftB V E then 0 else x
theorem fitting_any (V N E V' N' E' : Nat) (w : World) (hv : Hid (ftV V E V = V' ∧ ftV V E N = N' ∧ ftE V E = E')) :
    Calls Try.prog 39 #[.int .u64 (V : Int), .int .i64 (N : Int), .int .i64 (E : Int)] w fun e w' => e = .returned (.tuple #[.int .u64 (V' : Int), .int .i64 (N' : Int), .int .i64 (E' : Int)]) ∧ w' = w := by
  by_cases hE : E = 0
  · by_cases hV : 9223372036854775807 < V
    · have HV := Lib.hid (show V' = 0 ∧ N' = 0 ∧ E' = 11 by
        have h := hv.out
        rw [ftV, ftV, ftE, if_pos ⟨hE, hV⟩, if_pos ⟨hE, hV⟩, if_pos ⟨hE, hV⟩] at h
        exact ⟨h.1.symm, h.2.1.symm, h.2.2.symm⟩)
      have h1 : ((E : Int) == 0) = true := by simp; omega
      have h2 : (V : Int) > 9223372036854775807 := by omega
      clear hv hE hV
      go_enter Try.func39, Try.ntmps39
      go_wp2
      go_ret3
      rw [HV.out.1, HV.out.2.1, HV.out.2.2]
      exact ⟨rfl, rfl⟩
    · have HV := Lib.hid (show V' = V ∧ N' = N ∧ E' = 0 by
        have h := hv.out
        have n : ¬ ftB V E := fun h => hV h.2
        rw [ftV, ftV, ftE, if_neg n, if_neg n, if_neg n] at h
        exact ⟨h.1.symm, h.2.1.symm, by rw [← h.2.2, hE]⟩)
      have h1 : ((E : Int) == 0) = true := by simp; omega
      have h2 : ¬ (V : Int) > 9223372036854775807 := by omega
      have HE := Lib.hid hE
      clear hv hE hV
      go_enter Try.func39, Try.ntmps39
      go_wp2
      go_ret3
      rw [HV.out.1, HV.out.2.1, HV.out.2.2, HE.out]
      exact ⟨rfl, rfl⟩
  · have HV := Lib.hid (show V' = V ∧ N' = N ∧ E' = E by
      have h := hv.out
      have n : ¬ ftB V E := fun h => hE h.1
      rw [ftV, ftV, ftE, if_neg n, if_neg n, if_neg n] at h
      exact ⟨h.1.symm, h.2.1.symm, h.2.2.symm⟩)
    have h1 : ((E : Int) == 0) = false := by simp; omega
    clear hv hE
    go_enter Try.func39, Try.ntmps39
    go_wp2
    go_ret3
    rw [HV.out.1, HV.out.2.1, HV.out.2.2]
    exact ⟨rfl, rfl⟩

theorem or_bytes (x i p : Nat) (hi : i ≤ 7) (hx : x < 256 ^ i) (hp : p < 256) :
    bits .or .u64 (x : Int) (((p : Int) * 2 ^ (i * 8)) % 18446744073709551616) = ((x + p * 256 ^ i : Nat) : Int) := by
  have h2 : (2 : Int) ^ (i * 8) = ((256 ^ i : Nat) : Int) := by rw [Nat.mul_comm, Int.pow_mul, Int.natCast_pow]; rfl
  have h256 : 256 ^ i = 2 ^ (8 * i) := by rw [Nat.pow_mul]
  have hle : 256 ^ i ≤ 256 ^ 7 := Nat.pow_le_pow_right (by omega) hi
  have hpm : p * 256 ^ i ≤ 255 * 256 ^ i := Nat.mul_le_mul_right _ (by omega)
  have e1 : ((p : Int) * 2 ^ (i * 8)) % 18446744073709551616 = ((p * 256 ^ i : Nat) : Int) := by
    rw [h2, ← Int.natCast_mul]; omega
  rw [e1, bits_or_u64_nat x _ (by omega) (by omega)]
  congr 1
  have hx2 : x < 2 ^ (8 * i) := by rw [← h256]; exact hx
  rw [h256, Nat.mul_comm p, Nat.or_comm, ← Nat.two_pow_add_eq_or_of_lt hx2]
  omega

theorem fv_take {b : List UInt8} {i : Nat} (h : i < b.length) : fv (b.take (i + 1)) = fv (b.take i) + (b.getD i 0).toNat * 256 ^ i := by
  rw [take_snoc h, fv_snoc, List.length_take, Nat.min_eq_left (by omega)]
theorem fv_take_lt (b : List UInt8) (i : Nat) : fv (b.take i) < 256 ^ i :=
  Nat.lt_of_lt_of_le (fv_lt _) (Nat.pow_le_pow_right (by omega) (by rw [List.length_take]; omega))

/-- Reading so many bytes: what is wrong. -/
def byE (b : List UInt8) (s : Int) : Nat := if ¬ (1 ≤ s ∧ s ≤ 8) then 1 else if (b.length : Int) < s then 20 else 0
def byX (b : List UInt8) (s : Int) (x : Nat) : Nat := if byE b s = 0 then x else 0

set_option maxRecDepth 20000 in
set_option maxHeartbeats 1000000 in
theorem inBytes_any (a : Option Addr) (n c : Nat) (b : List UInt8) (s : Int) (w : World) (hn : b.length = n) (hc : n ≤ c) (hb : By w a b) (V N E : Nat) (hv : Hid (byX b s (fv (b.take s.toNat)) = V ∧ byX b s s.toNat = N ∧ byE b s = E)) :
    Calls Try.prog 41 #[.slice a n c, .int .i64 s] w fun e w' => e = .returned (.tuple #[.int .u64 (V : Int), .int .i64 (N : Int), .int .i64 (E : Int)]) ∧ Below w.heap.size w w' := by
  subst hn
  have HB := Lib.hid hb
  clear hb
  by_cases h1 : 1 ≤ s ∧ s ≤ 8
  · have MS := Lib.hid (show decide (1 ≤ s ∧ s ≤ 8) = true by simpa using h1)
    by_cases h2 : (b.length : Int) < s
    · have he : byE b s = 20 := by rw [byE, if_neg (fun h => h h1), if_pos h2]
      have HV := Lib.hid (show V = 0 ∧ N = 0 ∧ E = 20 by
        have h := hv.out
        rw [byX, byX, he, if_neg (by omega), if_neg (by omega)] at h
        exact ⟨h.1.symm, h.2.1.symm, h.2.2.symm⟩)
      clear hv he h1
      go_enter Try.func41, Try.ntmps41
      go_wp2_with (go_at_call 31; refine (maySize_any _ true _ MS).mono ?_; rintro e w' ⟨rfl, rfl⟩)
      go_ret3
      rw [HV.out.1, HV.out.2.1, HV.out.2.2]
      exact ⟨rfl, Below.refl _ _⟩
    · obtain ⟨t, rfl⟩ : ∃ t : Nat, s = (t : Int) := ⟨s.toNat, by omega⟩
      have he : byE b t = 0 := by rw [byE, if_neg (fun h => h h1), if_neg h2]
      have HV := Lib.hid (show V = fv (b.take t) ∧ N = t ∧ E = 0 by
        have h := hv.out
        rw [byX, byX, he, if_pos rfl, if_pos rfl, Int.toNat_natCast] at h
        exact ⟨h.1.symm, h.2.1.symm, h.2.2.symm⟩)
      have ht8 : t ≤ 8 := by omega
      have htl : t ≤ b.length := by omega
      have htk := take_run2 a b.length c t (by omega)
      clear hv he h1 h2
      go_enter Try.func41, Try.ntmps41
      go_wp2_with (go_at_call 31; refine (maySize_any _ true _ MS).mono ?_; rintro e w' ⟨rfl, rfl⟩)
      clear htk MS
      go_loop [7, 21] (fun vn vi => ∃ i : Nat, vi = .int .i64 i ∧ i ≤ t ∧ vn = .int .u64 ((fv (b.take i) : Nat) : Int)) (fun _ vi => t - (intOf vi).toNat)
      case atStart => exact ⟨0, rfl, Nat.zero_le _, rfl⟩
      case round =>
        obtain ⟨i, rfl, hi, rfl⟩ := hrel
        by_cases hlt : i < t
        · obtain ⟨b1, o1, ha, hb1, hc1⟩ := HB.out i (by omega)
          have hob := or_bytes (fv (b.take i)) i (b.getD i 0).toNat (by omega) (fv_take_lt b i) (u8_bd _)
          have FT := Lib.hid (fv_take (b := b) (i := i) (by omega))
          rw [← FT.out] at hob
          have hpb := u8_bd (b.getD i 0)
          obtain ⟨x, hx⟩ : ∃ x, fv (b.take i) = x := ⟨_, rfl⟩
          obtain ⟨p, hp⟩ : ∃ p, (b.getD i 0).toNat = p := ⟨_, rfl⟩
          obtain ⟨z, hz⟩ : ∃ z, fv (b.take (i + 1)) = z := ⟨_, rfl⟩
          have HZ := Lib.hid hz
          rw [hx, hp, hz] at hob
          rw [hp] at hc1 hpb
          rw [hx]
          subst ha
          clear hb1 hx hp hz FT
          go_wp2
          refine ⟨⟨i + 1, by go_num, by omega, ?_⟩, by simp [intOf]; omega⟩
          rw [HZ.out]
          exact congrArg _ hob
        · obtain rfl : i = t := by omega
          go_wp2
          go_ret3
          rw [HV.out.1, HV.out.2.1, HV.out.2.2]
          exact ⟨rfl, Below.refl _ _⟩
  · have MS := Lib.hid (show decide (1 ≤ s ∧ s ≤ 8) = false by simpa using h1)
    have he : byE b s = 1 := by rw [byE, if_pos h1]
    have HV := Lib.hid (show V = 0 ∧ N = 0 ∧ E = 1 by
      have h := hv.out
      rw [byX, byX, he, if_neg (by omega), if_neg (by omega)] at h
      exact ⟨h.1.symm, h.2.1.symm, h.2.2.symm⟩)
    clear hv he h1
    go_enter Try.func41, Try.ntmps41
    go_wp2_with (go_at_call 31; refine (maySize_any _ false _ MS).mono ?_; rintro e w' ⟨rfl, rfl⟩)
    go_ret3
    rw [HV.out.1, HV.out.2.1, HV.out.2.2]
    exact ⟨rfl, Below.refl _ _⟩


/-- Block B is a cursor: its bytes, where it is, what is wrong. -/
def Cur (B : Nat) (v : Value) (i e : Int) (W : World) : Prop := W.heap[B]? = some (.cells #[v, .int .i64 i, .int .i64 e] 56 (0, 0))
section
variable {B : Nat} {v : Value} {i e : Int} {W W' : World}
theorem Cur.lt (h : Cur B v i e W) : B < W.heap.size := (Array.getElem?_eq_some_iff.1 h).1
theorem Cur.c0 (h : Cur B v i e W) : W.cell? ⟨B, 0, none⟩ = some v := by rw [cell_of_row W B 0 _ _ (0, 0) h]; rfl
theorem Cur.c1 (h : Cur B v i e W) : W.cell? ⟨B, 1, none⟩ = some (.int .i64 i) := by rw [cell_of_row W B 1 _ _ (0, 0) h]; rfl
theorem Cur.c2 (h : Cur B v i e W) : W.cell? ⟨B, 2, none⟩ = some (.int .i64 e) := by rw [cell_of_row W B 2 _ _ (0, 0) h]; rfl
theorem Cur.fz (h : Cur B v i e W) (j : Nat) : W.frozen? ⟨B, j, none⟩ = false := frozen_of_row W B j _ _ h
theorem Cur.next (h : Cur B v i e W) (k : Below W.heap.size W W') : Cur B v i e W' := (k.block B h.lt).trans h
theorem Cur.set1 (h : Cur B v i e W) (x : Int) : Cur B v x e (W.setCell ⟨B, 1, none⟩ (.int .i64 x)) := heap_setCell_same W B 1 _ _ (.int .i64 x) h
theorem Cur.set2 (h : Cur B v i e W) (x : Int) : Cur B v i x (W.setCell ⟨B, 2, none⟩ (.int .i64 x)) := heap_setCell_same W B 2 _ _ (.int .i64 x) h
end
/-- A cursor's call: its answer, where it is then, what is wrong then; only its own block changes. -/
def Did (B : Nat) (v : Value) (i e : Int) (r : Value) (w : World) (x : Ending) (w' : World) : Prop := x = .returned r ∧ Cur B v i e w' ∧ w.grownBy w' (some B)
theorem grown_below {w w' : World} (k : Below w.heap.size w w') (r : Option Nat) : w.grownBy w' r := ⟨k.os, k.tape, k.output, k.size, fun i hi _ => k.block i hi⟩
theorem grown_trans {a b c : World} {r : Option Nat} (h : a.grownBy b r) (k : b.grownBy c r) : a.grownBy c r :=
  ⟨k.os.trans h.os, k.tape.trans h.tape, k.output.trans h.output, Nat.le_trans h.size k.size, fun i hi hr => (k.block i (Nat.lt_of_lt_of_le hi h.size) hr).trans (h.block i hi hr)⟩
theorem grown_to {n0 B : Nat} {w w' : World} (h : w.grownBy w' (some B)) (hn : n0 ≤ w.heap.size) (hB : n0 ≤ B) : Below n0 w w' := (Below.refl n0 w).grown h hn (fun k hk => by cases hk; exact hB)

theorem err_any (B : Nat) (v : Value) (i e : Int) (w : World) (h : Cur B v i e w) :
    Calls Try.prog 23 #[.pointer (some ⟨B, 0, none⟩)] w fun x w' => x = .returned (.int .i64 e) ∧ w' = w := by
  have c2 := h.c2
  clear h
  go_enter Try.func23, Try.ntmps23
  go_wp2
  go_ret
  exact ⟨rfl, rfl⟩
theorem err_nil (w : World) : Calls Try.prog 23 #[.pointer none] w fun x w' => x = .returned (.int .i64 2) ∧ w' = w := by
  go_enter Try.func23, Try.ntmps23
  go_wp2
  go_ret
  exact ⟨rfl, rfl⟩
theorem at_any (B : Nat) (v : Value) (i e : Int) (w : World) (h : Cur B v i e w) :
    Calls Try.prog 21 #[.pointer (some ⟨B, 0, none⟩)] w fun x w' => x = .returned (.int .i64 i) ∧ w' = w := by
  have c1 := h.c1
  clear h
  go_enter Try.func21, Try.ntmps21
  go_wp2
  go_ret
  exact ⟨rfl, rfl⟩
theorem at_nil (w : World) : Calls Try.prog 21 #[.pointer none] w fun x w' => x = .returned (.int .i64 0) ∧ w' = w := by
  go_enter Try.func21, Try.ntmps21
  go_wp2
  go_ret
  exact ⟨rfl, rfl⟩
theorem left_any (B : Nat) (a : Option Addr) (n c i : Nat) (e : Int) (w : World) (h : Cur B (.slice a n c) i e w) (hi : i ≤ n) (hn : n ≤ maxLen) :
    Calls Try.prog 22 #[.pointer (some ⟨B, 0, none⟩)] w fun x w' => x = .returned (.int .i64 ((n - i : Nat) : Int)) ∧ Below w.heap.size w w' := by
  have c0 := h.c0
  have c1 := h.c1
  have hw : wrap64 ((n : Int) - (i : Int)) = ((n - i : Nat) : Int) := by unfold maxLen at hn; unfold wrap64; omega
  clear h hn
  go_enter Try.func22, Try.ntmps22
  go_wp2
  go_region
  go_wp2
  go_ret
  refine ⟨?_, ?_⟩
  · first | exact congrArg (fun z => Ending.returned (Value.int .i64 z)) hw | exact rfl
  · first | exact (Below.refl _ _).drew | exact Below.refl _ _
theorem left_nil (w : World) : Calls Try.prog 22 #[.pointer none] w fun x w' => x = .returned (.int .i64 0) ∧ w' = w := by
  go_enter Try.func22, Try.ntmps22
  go_wp2
  go_ret
  exact ⟨rfl, rfl⟩
theorem new_any (a : Option Addr) (n c : Nat) (w : World) :
    Calls Try.prog 18 #[.slice a n c] w fun x w' => x = .returned (.pointer (some ⟨w.heap.size, 0, none⟩)) ∧ Cur w.heap.size (.slice a n c) 0 0 w' ∧ Below w.heap.size w w' := by
  go_enter Try.func18, Try.ntmps18
  go_wp2
  go_ret
  exact ⟨rfl, heap_alloc_new w _, (Below.refl _ _).alloc (Nat.le_refl _) _⟩
end Go.Proofs.Ytdepbhikkjfcjaa
