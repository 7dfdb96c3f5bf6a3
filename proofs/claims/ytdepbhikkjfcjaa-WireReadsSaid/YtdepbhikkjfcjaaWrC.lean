/- The contracts of wire.Int, wire.maySize and wire.Fixed; nothing that was in memory changes. -/
import Derived.Laws.Bits64b
import Derived.Laws.MakeOwn
import Derived.Laws.OwnMore
import Derived.Laws.Shifts
import Derived.Laws.ShiftsVarLaws
import Derived.Test.YtdepbhikkjfcjaaWrB
namespace Go.Proofs.Ytdepbhikkjfcjaa
open Go.RowKit Go.Shelf
attribute [local go_sem] Oper.semAt_some

theorem or_one (k : Nat) (h : k < 9223372036854775808) : bits .or .u64 (2 * (k : Int)) 1 = ((2 * k + 1 : Nat) : Int) := by
  have := bits_or_u64_nat (2 * k) 1 (by omega) (by omega)
  rw [show (2 * (k : Int)) = ((2 * k : Nat) : Int) by omega]
  refine this.trans ?_
  have e := Nat.two_pow_add_eq_or_of_lt (i := 1) (b := 1) (by omega) k
  rw [show 2 ^ 1 * k = 2 * k by omega] at e
  rw [← e]
theorem xor_low (x : Int) (h1 : -9223372036854775808 ≤ x) (h2 : x ≤ 9223372036854775807) : bits .xor .i64 (-1) x = -1 - x := by
  have e : (BitVec.ofInt 64 (-1) ^^^ BitVec.ofInt 64 x).toNat = 18446744073709551615 - (BitVec.ofInt 64 x).toNat := by
    rw [show BitVec.ofInt 64 (-1) = BitVec.allOnes 64 by decide, BitVec.allOnes_xor, BitVec.toNat_not]
  have h : bits .xor .i64 (-1) x = IntKind.i64.wrap ((BitVec.ofInt 64 (-1) ^^^ BitVec.ofInt 64 x).toNat : Int) := rfl
  rw [h, e, IntKind.wrap_i64]
  have hx : (BitVec.ofInt 64 x).toNat = (x % 18446744073709551616).toNat := by rw [BitVec.toNat_ofInt]; rfl
  rw [hx]
  omega

theorem Coll.of {L : List UInt8} {w w' : World} {e : Ending} {A : Option Addr} {n c : Nat} (hn : L.length = n) (he : e = .returned (.slice A n c)) (h : w'.ownsRow w.heap.size 5 1 (.slice A n c) n (bcl L)) (hb : Below w.heap.size w w') : Coll L w e w' := by
  subst hn
  exact ⟨A, c, he, h, hb⟩

set_option maxRecDepth 20000 in
theorem turned_any (n : Int) (m : Nat) (w : World) (h1 : -9223372036854775808 ≤ n) (h2 : n ≤ 9223372036854775807) (hm : Hid (tz n = m)) :
    Calls Try.prog 30 #[.int .i64 n] w fun e w' => e = .returned (.int .u64 (m : Int)) ∧ w' = w := by
  by_cases h : n < 0
  · obtain ⟨k, hk⟩ : ∃ k : Nat, n = -1 - (k : Int) := ⟨(-(n + 1)).toNat, by omega⟩
    subst hk
    have hkb : k < 9223372036854775808 := by omega
    have ho := or_one k hkb
    have hx : bits .xor .i64 (-1) (-1 - (k : Int)) = (k : Int) := by rw [xor_low _ h1 h2]; omega
    have hw1 : IntKind.u64.wrap (k : Int) = (k : Int) := by rw [show IntKind.u64.wrap (k : Int) = (k : Int) % 18446744073709551616 from rfl]; omega
    have hw2 : IntKind.u64.wrap ((k : Int) * 2) = 2 * (k : Int) := by rw [show IntKind.u64.wrap ((k : Int) * 2) = ((k : Int) * 2) % 18446744073709551616 from rfl]; omega
    have HM : Hid (m = 2 * k + 1) := Lib.hid (by rw [← hm.out]; unfold tz; rw [if_pos h]; omega)
    clear h1 h2 hm hkb
    go_enter Try.func30, Try.ntmps30
    go_wp2
    go_ret
    rw [HM.out, Int.natCast_add, Int.natCast_mul]
    exact ⟨rfl, rfl⟩
  · obtain ⟨k, hk⟩ : ∃ k : Nat, n = (k : Int) := ⟨n.toNat, by omega⟩
    subst hk
    have hw1 : IntKind.u64.wrap (k : Int) = (k : Int) := by rw [show IntKind.u64.wrap (k : Int) = (k : Int) % 18446744073709551616 from rfl]; omega
    have hw2 : IntKind.u64.wrap ((k : Int) * 2) = ((2 * k : Nat) : Int) := by rw [show IntKind.u64.wrap ((k : Int) * 2) = ((k : Int) * 2) % 18446744073709551616 from rfl]; omega
    have HM : Hid (m = 2 * k) := Lib.hid (by rw [← hm.out]; unfold tz; rw [if_neg h]; omega)
    clear h1 h2 hm
    go_enter Try.func30, Try.ntmps30
    go_wp2
    go_ret
    rw [HM.out, Int.natCast_mul]
    exact ⟨rfl, rfl⟩

theorem uint_no (n : Int) (h : n < 0) (w : World) : Calls Try.prog 12 #[.int .i64 n] w (Coll [] w) := by
  go_enter Try.func12, Try.ntmps12
  go_wp2
  go_ret
  exact ⟨none, 0, rfl, World.ownsRow_nil _ _ _ _, Below.refl _ _⟩

def uL (n : Int) : List UInt8 := if n < 0 then [] else pc n.toNat
theorem uint_any (n : Int) (w : World) (h : n ≤ 9223372036854775807) : Calls Try.prog 12 #[.int .i64 n] w (Coll (uL n) w) := by
  unfold uL
  split
  · exact uint_no n ‹_› w
  · obtain ⟨k, hk⟩ : ∃ k : Nat, n = (k : Int) := ⟨n.toNat, by omega⟩
    subst hk
    exact uint_yes k (by omega) w

theorem int_any (n : Int) (w : World) (h1 : -9223372036854775808 ≤ n) (h2 : n ≤ 9223372036854775807) : Calls Try.prog 13 #[.int .i64 n] w (Coll (pc (tz n)) w) := by
  have hm := tz_lt h1 h2
  have hl : (pc (tz n)).length ≤ 1000 := by have := pc_len10 hm; omega
  obtain ⟨m, he⟩ : ∃ m, tz n = m := ⟨_, rfl⟩
  have HT : ∀ w : World, Hid (Calls Try.prog 30 #[.int .i64 n] w fun e w' => e = .returned (.int .u64 (m : Int)) ∧ w' = w) := fun w => Lib.hid (turned_any n m w h1 h2 (Lib.hid he))
  rw [he] at hl hm ⊢
  have SQ := Lib.hid (fun w w0 h => pieces_seq m hm w w0 h)
  clear hm he h1 h2
  go_enter Try.func13, Try.ntmps13
  go_wp2_with (first
    | (go_at_call 30; refine (HT _).out.mono ?_; rintro e w' ⟨rfl, rfl⟩)
    | (go_at_call 29; refine (pieces_any _ _).mono ?_; rintro e w' ⟨rfl, rfl⟩)
    | (go_at_call 28; refine (collect_any _ _ (enters_of Try.func43 (by kernel_rfl) rfl) (pc m) hl _ (SQ.out _)).mono ?_; intro e w' hC; obtain ⟨A, c, rfl, k1, k2⟩ := hC.to ((Below.refl _ _).alloc (Nat.le_refl _) _)))
  go_ret
  exact ⟨A, c, rfl, k1, k2⟩

theorem maySize_any (s : Int) (v : Bool) (w : World) (hv : Hid (decide (1 ≤ s ∧ s ≤ 8) = v)) :
    Calls Try.prog 31 #[.int .i64 s] w fun e w' => e = .returned (.bool v) ∧ w' = w := by
  by_cases h1 : 1 ≤ s
  · by_cases h2 : s ≤ 8
    · have HV : Hid (v = true) := Lib.hid (by rw [← hv.out]; simp [h1, h2])
      clear hv
      go_enter Try.func31, Try.ntmps31
      go_wp2
      go_ret
      rw [HV.out]
      exact ⟨rfl, rfl⟩
    · have HV : Hid (v = false) := Lib.hid (by rw [← hv.out]; simp [h2])
      clear hv
      go_enter Try.func31, Try.ntmps31
      go_wp2
      go_ret
      rw [HV.out]
      exact ⟨rfl, rfl⟩
  · have HV : Hid (v = false) := Lib.hid (by rw [← hv.out]; simp [h1])
    clear hv
    go_enter Try.func31, Try.ntmps31
    go_wp2
    go_ret
    rw [HV.out]
    exact ⟨rfl, rfl⟩

/-- What Fixed gives. -/
def fL (n s : Int) : List UInt8 := if 1 ≤ s ∧ s ≤ 8 ∧ 0 ≤ n ∧ n < 256 ^ s.toNat then fx s.toNat n.toNat else []

theorem fixed_no1 (n s : Int) (w : World) (h : ¬ (1 ≤ s ∧ s ≤ 8)) : Calls Try.prog 15 #[.int .i64 n, .int .i64 s] w (Coll [] w) := by
  have HV := Lib.hid (show decide (1 ≤ s ∧ s ≤ 8) = false by simpa using h)
  clear h
  go_enter Try.func15, Try.ntmps15
  go_wp2_with (go_at_call 31; refine (maySize_any _ false _ HV).mono ?_; rintro e w' ⟨rfl, rfl⟩)
  go_ret
  exact ⟨none, 0, rfl, World.ownsRow_nil _ _ _ _, Below.refl _ _⟩
theorem fixed_no2 (n s : Int) (w : World) (h : 1 ≤ s ∧ s ≤ 8) (hn : n < 0) : Calls Try.prog 15 #[.int .i64 n, .int .i64 s] w (Coll [] w) := by
  have HV := Lib.hid (show decide (1 ≤ s ∧ s ≤ 8) = true by simpa using h)
  clear h
  go_enter Try.func15, Try.ntmps15
  go_wp2_with (go_at_call 31; refine (maySize_any _ true _ HV).mono ?_; rintro e w' ⟨rfl, rfl⟩)
  go_ret
  exact ⟨none, 0, rfl, World.ownsRow_nil _ _ _ _, Below.refl _ _⟩

theorem shr_bytes (n i : Nat) : (n : Int) / 2 ^ (i * 8) = ((n / 256 ^ i : Nat) : Int) := by
  rw [Nat.mul_comm, Int.pow_mul, Int.natCast_ediv, Int.natCast_pow]
  rfl

set_option maxRecDepth 20000 in
theorem fixed_no3 (n s : Nat) (w : World) (h : 1 ≤ s) (h8 : s ≤ 8) (hb : 256 ^ s ≤ n) : Calls Try.prog 15 #[.int .i64 (n : Int), .int .i64 (s : Int)] w (Coll [] w) := by
  have HV := Lib.hid (show decide (1 ≤ (s : Int) ∧ (s : Int) ≤ 8) = true by simp; omega)
  have hs := shr_bytes n s
  obtain ⟨q, hq⟩ : ∃ q, n / 256 ^ s = q := ⟨_, rfl⟩
  have hq0 : ¬ ((q : Int) ≤ 0) := by
    have : 0 < n / 256 ^ s := Nat.div_pos hb (Nat.pow_pos (by omega))
    omega
  rw [hq] at hs
  clear h hb hq
  go_enter Try.func15, Try.ntmps15
  go_wp2_with (go_at_call 31; refine (maySize_any _ true _ HV).mono ?_; rintro e w' ⟨rfl, rfl⟩)
  go_ret
  exact ⟨none, 0, rfl, World.ownsRow_nil _ _ _ _, Below.refl _ _⟩

/-- The cells of a block that Fixed writes, i of them written. -/
def fcs (n s i : Nat) : Array Value := (bcl (fx i n ++ List.replicate (s - i) 0)).toArray
theorem fcs_size (n s i : Nat) (h : i ≤ s) : (fcs n s i).size = s := by simp [fcs, bcl_len, fx_len]; omega
theorem fcs_zero (n s : Nat) : fcs n s 0 = (List.replicate s (Value.int .u8 0)).toArray := by simp [fcs, fx, bcl]
theorem fcs_set (n s i : Nat) (h : i < s) : (fcs n s i).setIfInBounds i (.int .u8 (((UInt8.ofNat (n / 256 ^ i % 256)).toNat : Nat) : Int)) = fcs n s (i + 1) := by
  obtain ⟨m, rfl⟩ : ∃ m, s = i + (m + 1) := ⟨s - i - 1, by omega⟩
  unfold fcs
  rw [fx_snoc, show i + (m + 1) - i = m + 1 by omega, show i + (m + 1) - (i + 1) = m by omega, List.replicate_succ]
  simp only [bcl_app, List.setIfInBounds_toArray]
  congr 1
  rw [List.set_append, if_neg (by rw [bcl_len, fx_len]; omega), bcl_len, fx_len, Nat.sub_self]
  simp [bcl]
theorem fcs_last (n s : Nat) : (fcs n s s).toList = bcl (fx s n) := by simp [fcs]

set_option maxRecDepth 20000 in
set_option maxHeartbeats 1000000 in
theorem fixed_yes (n s : Nat) (w : World) (h : 1 ≤ s) (h8 : s ≤ 8) (hb : n < 256 ^ s) : Calls Try.prog 15 #[.int .i64 (n : Int), .int .i64 (s : Int)] w (Coll (fx s n) w) := by
  have HV := Lib.hid (show decide (1 ≤ (s : Int) ∧ (s : Int) ≤ 8) = true by simp; omega)
  have hs : (n : Int) / 2 ^ (s * 8) = 0 := by rw [shr_bytes, Nat.div_eq_of_lt hb]; rfl
  obtain ⟨i0, hi0, hz0, hz1, hz2⟩ := info_parts uint8_info
  have hmk : ∀ W : World, (Instr.makeSlice 22 (.int .i64 (s : Int)) (.int .i64 (s : Int))).run Try.prog W = .ok (.slice (some ⟨W.heap.size, 0, none⟩) s s) (W.alloc (.cells (fcs n s 0) 5)) := fun W => by
    rw [run_make W 22 5 i0 (.int .u8 0) Try.underlying22 hi0 hz0 .i64 .i64 s s (by omega) (by omega) (by rw [hz2]; omega) (by omega), hz1, fcs_zero]
    have e : madeCells (Value.int .u8 0).cells ((s : Int).toNat * 1) = (List.replicate s (Value.int .u8 0)).toArray := by
      apply Array.toList_inj.1
      rw [show (Value.int .u8 0).cells = #[Value.int .u8 0] from rfl, toList_madeCells_one]
      simp
    rw [e]
    simp
  clear h hb hi0 hz0 hz1 hz2 i0
  go_enter Try.func15, Try.ntmps15
  go_wp2_with (go_at_call 31; refine (maySize_any _ true _ HV).mono ?_; rintro e w' ⟨rfl, rfl⟩)
  clear hs hmk HV
  go_loopw [6, 25] (fun _ vi wr => ∃ i : Nat, vi = .int .i64 i ∧ i ≤ s ∧ wr.heap[w'.heap.size]? = some (.cells (fcs n s i) 5 (0, 0)) ∧ Below w'.heap.size w' wr) (fun _ vi _ => s - (intOf vi).toNat)
  case atStart => exact ⟨0, rfl, Nat.zero_le _, heap_alloc_new _ _, (Below.refl _ _).alloc (Nat.le_refl _) _⟩
  case round =>
    obtain ⟨i, rfl, hi, hb, hbw⟩ := hrel
    by_cases hlt : i < s
    · have hs := shr_bytes n i
      obtain ⟨q, hq⟩ : ∃ q, n / 256 ^ i = q := ⟨_, rfl⟩
      have hset := fcs_set n s i hlt
      rw [hq] at hs hset
      have hq2 : ((q : Int) % 256) = (((UInt8.ofNat (q % 256)).toNat : Nat) : Int) := by rw [u8_of _ (by omega)]; omega
      obtain ⟨c, hc⟩ : ∃ c, UInt8.ofNat (q % 256) = c := ⟨_, rfl⟩
      rw [hc] at hset hq2
      have hf : wr.frozen? ⟨w'.heap.size, i, none⟩ = false := frozen_of_row wr _ i _ _ hb
      have hcl : ∃ u, wr.cell? ⟨w'.heap.size, i, none⟩ = some u := by
        rw [cell_of_row wr _ i _ _ (0, 0) hb]
        exact ⟨_, Array.getElem?_eq_getElem (by rw [fcs_size n s i hi]; exact hlt)⟩
      obtain ⟨u, hcl⟩ := hcl
      have hsz := (Array.getElem?_eq_some_iff.1 hb).1
      have HB := Lib.hid (heap_setCell_same wr w'.heap.size i _ 5 (.int .u8 (c.toNat : Int)) hb)
      rw [hset] at HB
      clear hq hset hc
      go_wp2
      exact ⟨⟨i + 1, by go_num, by omega, HB.out, hbw.setCell (p := ⟨w'.heap.size, i, none⟩) (Nat.le_refl _) _⟩, by simp [intOf]; omega⟩
    · obtain rfl : i = s := by omega
      go_wp2
      go_ret
      refine Coll.of (n := i) (fx_len i n) rfl ⟨by rw [bcl_len, fx_len]; omega, .inr ⟨_, i, _, rfl, Nat.le_refl _, hb, Nat.le_refl _, by simp only [maxLen]; omega, by rw [fcs_size n i i (Nat.le_refl _)]; omega, ?_⟩⟩ hbw
      rw [fcs_last, List.take_of_length_le (by rw [bcl_len, fx_len]; omega)]

theorem fixed_any (n s : Int) (w : World) : Calls Try.prog 15 #[.int .i64 n, .int .i64 s] w (Coll (fL n s) w) := by
  unfold fL
  by_cases h : 1 ≤ s ∧ s ≤ 8
  · by_cases hn : n < 0
    · rw [if_neg (by omega)]; exact fixed_no2 n s w h hn
    · obtain ⟨k, rfl⟩ : ∃ k : Nat, n = (k : Int) := ⟨n.toNat, by omega⟩
      obtain ⟨t, rfl⟩ : ∃ t : Nat, s = (t : Int) := ⟨s.toNat, by omega⟩
      have e : ((256 : Int) ^ (t : Int).toNat) = ((256 ^ t : Nat) : Int) := by rw [Int.natCast_pow]; rfl
      by_cases hb : k < 256 ^ t
      · rw [if_pos ⟨h.1, h.2, by omega, by rw [e]; exact_mod_cast hb⟩]; exact fixed_yes k t w (by omega) (by omega) hb
      · rw [if_neg (fun hh => hb (by have := hh.2.2.2; rw [e] at this; exact_mod_cast this))]; exact fixed_no3 k t w (by omega) (by omega) (by omega)
  · rw [if_neg (fun hh => h ⟨hh.1, hh.2.1⟩)]; exact fixed_no1 n s w h
end Go.Proofs.Ytdepbhikkjfcjaa
