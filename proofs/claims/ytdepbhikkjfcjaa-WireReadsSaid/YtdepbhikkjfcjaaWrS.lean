/- The contract of the reference's Fixed, and the law's own awake, which is true; nothing that was in memory changes. -/
import Derived.Test.YtdepbhikkjfcjaaWrR
namespace Go.Proofs.Ytdepbhikkjfcjaa
open Go.RowKit Go.Shelf
attribute [local go_sem] Oper.semAt_some

set_option maxRecDepth 20000 in
set_option maxHeartbeats 1000000 in
theorem rfixed_any (n s : Int) (w : World) (h2 : n ≤ 9223372036854775807) : Calls Try.prog 16 #[.int .i64 n, .int .i64 s] w (Coll (fL n s) w) := by
  by_cases h : 1 ≤ s ∧ s ≤ 8 ∧ 0 ≤ n
  · obtain ⟨t, rfl⟩ : ∃ t : Nat, s = (t : Int) := ⟨s.toNat, by omega⟩
    obtain ⟨k, rfl⟩ : ∃ k : Nat, n = (k : Int) := ⟨n.toNat, by omega⟩
    have e : ((256 : Int) ^ (t : Int).toNat) = ((256 ^ t : Nat) : Int) := by rw [Int.natCast_pow]; rfl
    have hf : fL (k : Int) (t : Int) = if k < 256 ^ t then fx t k else [] := by
      unfold fL
      by_cases hb : k < 256 ^ t
      · rw [if_pos hb, if_pos ⟨h.1, h.2.1, h.2.2, by rw [e]; exact_mod_cast hb⟩]; rfl
      · rw [if_neg hb, if_neg (fun hh => hb (by have := hh.2.2.2; rw [e] at this; exact_mod_cast this))]
    obtain ⟨L, hL⟩ : ∃ L, fL (k : Int) (t : Int) = L := ⟨_, rfl⟩
    have HL := Lib.hid (hL.symm.trans hf)
    rw [hL]
    clear hL
    have h1 : ¬ ((t : Int) < 1) := by omega
    have h8 : ¬ ((t : Int) > 8) := by omega
    have h0 : ¬ ((k : Int) < 0) := by omega
    have t1 : 1 ≤ t := by omega
    have t8 : t ≤ 8 := by omega
    have hkb : k < 9223372036854775808 := by omega
    clear e hf h h2
    go_enter Try.func16, Try.ntmps16
    go_wp2
    clear h1 h8 h0
    go_loopw [0, 5, 6] (fun vn vo vi w' => ∃ (i : Nat) (A : Option Addr) (c : Nat), vn = .int .i64 ((k / 256 ^ i : Nat) : Int) ∧ vo = .slice A i c ∧ vi = .int .i64 i ∧ i ≤ t ∧ w'.ownsRow w.heap.size 5 1 (.slice A i c) i (bcl (fx i k)) ∧ Below w.heap.size w w') (fun _ _ vi _ => t - (intOf vi).toNat)
    case atStart => exact ⟨0, none, 0, by simp, rfl, rfl, by omega, World.ownsRow_nil _ _ _ _, Below.refl _ _⟩
    case round =>
      obtain ⟨i, A, c, rfl, rfl, rfl, hi, hO, hB⟩ := hrel
      have HO := Lib.hid hO
      have HB := Lib.hid hB
      have HS := Lib.hid (fx_snoc i k)
      have HD := Lib.hid (show k / 256 ^ (i + 1) = k / 256 ^ i / 256 by rw [Nat.pow_succ, Nat.div_div_eq_div_mul])
      have HZ := Lib.hid (show i = t → (k / 256 ^ i = 0 ↔ k < 256 ^ t) by rintro rfl; rw [Nat.div_eq_zero_iff]; have : 0 < 256 ^ i := Nat.pow_pos (by omega); omega)
      clear hO hB
      obtain ⟨q, hq⟩ : ∃ q, k / 256 ^ i = q := ⟨_, rfl⟩
      have hw : wrap64 ((q : Int) / 256) = (q : Int) / 256 := by
        have : k / 256 ^ i ≤ k := Nat.div_le_self _ _
        unfold wrap64
        omega
      rw [hq] at HS HD HZ ⊢
      clear hq
      by_cases hlt : i < t
      · obtain ⟨b, hb⟩ : ∃ b, UInt8.ofNat (q % 256) = b := ⟨_, rfl⟩
        have HB2 := Lib.hid (show (b.toNat : Int) = (q : Int) % 256 by rw [← hb, u8_of _ (by omega)]; omega)
        rw [hb] at HS
        clear hb
        go_wp2_with (at_builtin
                     have HO' : Hid ((wr.alloc (.cells #[.int .u8 ((q : Int) % 256)] 5)).ownsRow w.heap.size 5 1 (.slice A i c) i (bcl (fx i k))) := Lib.hid (own_keep HO.out ((Below.refl _ _).alloc (Nat.le_refl _) _))
                     refine wpList_bpush (by rfl) (.tmp 22) (.tmp 26) (by rfl) (m := i + 1) (fx_len i k) rfl HO'.out (by rfl) ⟨wr.heap.size, 0, none⟩ b (by rfl) (by rw [HB2.out]; simp) (by omega) (by have := HB.out.size; simp; omega) ?_
                     intro A2 c2 w2 o2 b2
                     have O2 := Lib.hid o2
                     have B2 := Lib.hid ((HB.out.alloc HB.out.size (.cells #[.int .u8 ((q : Int) % 256)] 5)).trans b2)
                     clear o2 b2 HO')
        go_roundw
        case rel => exact ⟨i + 1, A2, c2, by rw [HD.out]; go_num, rfl, by go_num, by omega, by rw [HS.out]; exact O2.out, B2.out⟩
        case measure => simp [intOf]; omega
      · obtain rfl : i = t := by omega
        by_cases hz : q = 0
        · subst hz
          go_wp2
          go_ret
          rw [HL.out, if_pos ((HZ.out trivial).1 trivial)]
          exact Coll.of (fx_len i k) rfl HO.out HB.out
        · have hz2 : ¬ ((q : Int) ≤ 0) := by omega
          have HN := Lib.hid hz
          clear hz
          go_wp2
          go_ret
          rw [HL.out, if_neg (fun h => HN.out ((HZ.out trivial).2 h))]
          exact Coll.of (A := none) (n := 0) (c := 0) rfl rfl (World.ownsRow_nil _ _ _ _) HB.out
  · have hf : fL n s = [] := by unfold fL; rw [if_neg (fun hh => h ⟨hh.1, hh.2.1, hh.2.2.1⟩)]
    rw [hf]
    clear hf
    by_cases h1 : s < 1
    · go_enter Try.func16, Try.ntmps16
      go_wp2
      go_ret
      exact Coll.of (A := none) (n := 0) (c := 0) rfl rfl (World.ownsRow_nil _ _ _ _) (Below.refl _ _)
    · by_cases h3 : s > 8
      · go_enter Try.func16, Try.ntmps16
        go_wp2
        go_ret
        exact Coll.of (A := none) (n := 0) (c := 0) rfl rfl (World.ownsRow_nil _ _ _ _) (Below.refl _ _)
      · have h4 : n < 0 := by omega
        clear h
        go_enter Try.func16, Try.ntmps16
        go_wp2
        go_ret
        exact Coll.of (A := none) (n := 0) (c := 0) rfl rfl (World.ownsRow_nil _ _ _ _) (Below.refl _ _)


/-- Bytes, the lengths as they stand in a frame. -/
theorem bytes_n (a b : Option Addr) (ca cb n k : Nat) (l m : List UInt8) (v : Bool) (w : World) (hn : l.length = n) (hk : m.length = k) (ha : By w a l) (hb : By w b m) (hl : n ≤ 100000) (hv : Hid (decide (l = m) = v)) :
    Calls Try.prog 11 #[.slice a n ca, .slice b k cb] w fun e w' => e = .returned (.bool v) ∧ Below w.heap.size w w' := by
  subst hn hk
  exact bytes_any a b ca cb l m v w ha hb hl hv

theorem uint300 (w : World) : Calls Try.prog 12 #[.int .i64 300] w (Coll [172, 2] w) := by
  have := uint_yes 300 (by omega) w
  rw [show pc 300 = [172, 2] by rw [pc_big (by omega), pc_small (by omega)]; rfl] at this
  exact this
theorem intm2 (w : World) : Calls Try.prog 13 #[.int .i64 (-2)] w (Coll [3] w) := by
  have := int_any (-2) w (by omega) (by omega)
  rw [show pc (tz (-2)) = [3] by rw [show tz (-2) = 3 by decide, pc_small (by omega)]; rfl] at this
  exact this
theorem fixed258 (w : World) : Calls Try.prog 15 #[.int .i64 258, .int .i64 4] w (Coll [2, 1, 0, 0] w) := by
  have := fixed_any 258 4 w
  rw [show fL 258 4 = [2, 1, 0, 0] by decide] at this
  exact this

set_option maxRecDepth 20000 in
set_option maxHeartbeats 1000000 in
theorem awake_yes (w : World) : Calls Try.prog 17 #[] w fun e w' => e = .returned (.bool true) ∧ Below w.heap.size w w' := by
  have T1 : Hid (decide (([172, 2] : List UInt8) = [172, 2]) = true) := Lib.hid (by decide)
  have T2 : Hid (decide (([3] : List UInt8) = [3]) = true) := Lib.hid (by decide)
  have T3 : Hid (decide (([2, 1, 0, 0] : List UInt8) = [2, 1, 0, 0]) = true) := Lib.hid (by decide)
  have N1 : Hid (∀ W : World, By (W.alloc (.cells #[.int .u8 172, .int .u8 2] 5)) (some ⟨W.heap.size, 0, none⟩) [172, 2]) := Lib.hid (fun W => By.new W [172, 2] _ rfl)
  have N2 : Hid (∀ W : World, By (W.alloc (.cells #[.int .u8 3] 5)) (some ⟨W.heap.size, 0, none⟩) [3]) := Lib.hid (fun W => By.new W [3] _ rfl)
  have N3 : Hid (∀ W : World, By (W.alloc (.cells #[.int .u8 2, .int .u8 1, .int .u8 0, .int .u8 0] 5)) (some ⟨W.heap.size, 0, none⟩) [2, 1, 0, 0]) := Lib.hid (fun W => By.new W [2, 1, 0, 0] _ rfl)
  go_enter Try.func17, Try.ntmps17
  go_wp2_with (first
    | (go_at_call 12; refine (uint300 _).mono ?_; rintro e w1 ⟨A1, c1, rfl, o1, k1⟩
       have Y1 := Lib.hid (By.of_own o1)
       have B1 := Lib.hid k1
       clear o1 k1
       simp only [])
    | (go_at_call 13; refine (intm2 _).mono ?_; rintro e w3 ⟨A3, c3, rfl, o3, k3⟩
       have Y3 := Lib.hid (By.of_own o3)
       have B3 := Lib.hid (B2.out.trans (k3.mono B2.out.size))
       clear o3 k3
       simp only [])
    | (go_at_call 15; refine (fixed258 _).mono ?_; rintro e w5 ⟨A5, c5, rfl, o5, k5⟩
       have Y5 := Lib.hid (By.of_own o5)
       have B5 := Lib.hid (B4.out.trans (k5.mono B4.out.size))
       clear o5 k5
       simp only [])
    | (go_at_call 11
       with_reducible refine (bytes_n A1 (some _) c1 2 2 2 [172, 2] [172, 2] true _ rfl rfl (Y1.out.next ((Below.refl _ _).alloc (Nat.le_refl _) _)) (N1.out w1) (by decide) T1).mono ?_
       rintro e w2 ⟨rfl, k2⟩
       have B2 := Lib.hid ((B1.out.alloc B1.out.size _).trans (k2.mono (by have := B1.out.size; simp; omega)))
       clear k2
       simp only [])
    | (go_at_call 11
       with_reducible refine (bytes_n A3 (some _) c3 1 1 1 [3] [3] true _ rfl rfl (Y3.out.next ((Below.refl _ _).alloc (Nat.le_refl _) _)) (N2.out w3) (by decide) T2).mono ?_
       rintro e w4 ⟨rfl, k4⟩
       have B4 := Lib.hid ((B3.out.alloc B3.out.size _).trans (k4.mono (by have := B3.out.size; simp; omega)))
       clear k4
       simp only [])
    | (go_at_call 11
       with_reducible refine (bytes_n A5 (some _) c5 4 4 4 [2, 1, 0, 0] [2, 1, 0, 0] true _ rfl rfl (Y5.out.next ((Below.refl _ _).alloc (Nat.le_refl _) _)) (N3.out w5) (by decide) T3).mono ?_
       rintro e w6 ⟨rfl, k6⟩
       have B6 := Lib.hid ((B5.out.alloc B5.out.size _).trans (k6.mono (by have := B5.out.size; simp; omega)))
       clear k6
       simp only []))
  go_ret
  exact ⟨rfl, B6.out⟩
end Go.Proofs.Ytdepbhikkjfcjaa
