/- The contract of the law's own read: what each call answers at the beginning of bytes; nothing that was in memory changes. -/
import Derived.Test.YtdepbhikkjfcjaaWrK
namespace Go.Proofs.Ytdepbhikkjfcjaa
open Go.RowKit Go.Shelf
attribute [local go_sem] Oper.semAt_some

/-- What read gives: a number, bytes, how far, what is wrong. -/
def RdL (r : Int) (L : List UInt8) (N E : Nat) (w : World) (e : Ending) (w' : World) : Prop :=
  ∃ A k cc, e = .returned (.tuple #[.int .i64 r, .slice A k cc, .int .i64 (N : Int), .int .i64 (E : Int)]) ∧ L.length = k ∧ By w' A L ∧ Below w.heap.size w w'

theorem rread_bad (a : Option Addr) (n c : Nat) (b : List UInt8) (w : World) (hn : b.length = n) (hb : By w a b) (E : Nat) (hv : rdE b = E) (hE : E ≠ 0) :
    Calls Try.prog 32 #[.slice a n c] w fun e w' => e = .returned (.tuple #[.slice none 0 0, .int .i64 0, .int .i64 (E : Int)]) ∧ Below w.heap.size w w' :=
  (rread_any a n c b w hn hb (rdV b) (rdN b) E (Lib.hid ⟨rfl, rfl, hv⟩)).mono fun e w' h => by
    rcases h with ⟨_, h1, h2⟩ | ⟨h1, _⟩
    · exact ⟨h1, h2⟩
    · exact absurd h1 hE
theorem rread_ok (a : Option Addr) (n c : Nat) (b : List UInt8) (w : World) (hn : b.length = n) (hb : By w a b) (hE : rdE b = 0) (V N : Nat) (hV : rdV b = V) (hN : rdN b = N) :
    Calls Try.prog 32 #[.slice a n c] w fun e w' => ∃ A cc, e = .returned (.tuple #[.slice A 64 cc, .int .i64 (N : Int), .int .i64 0]) ∧ 64 ≤ cc ∧ Nu w' A (bt 64 V) ∧ Below w.heap.size w w' :=
  (rread_any a n c b w hn hb V N 0 (Lib.hid ⟨hV, hN, hE⟩)).mono fun e w' h => by
    rcases h with ⟨h1, _⟩ | ⟨_, h1⟩
    · exact absurd rfl h1
    · exact h1

theorem fv_drop_le : ∀ (l : List UInt8) (i : Nat), fv (l.drop i) ≤ fv l
  | [], i => by simp
  | b :: l, 0 => Nat.le_refl _
  | b :: l, i + 1 => by have := fv_drop_le l i; rw [List.drop_succ_cons, fv]; omega
theorem fv_drop_at {l : List UInt8} {i : Nat} (h : i < l.length) : fv (l.drop i) = (l.getD i 0).toNat + 256 * fv (l.drop (i + 1)) := by
  rw [drop_at h, fv]
theorem fv_top {b : List UInt8} {t : Nat} (h : t ≤ b.length) (h8 : t ≤ 8) : 9223372036854775807 < fv (b.take t) ↔ t = 8 ∧ 128 ≤ (b.getD 7 0).toNat := by
  have hlt := fv_take_lt b t
  have hb := u8_bd (b.getD 7 0)
  by_cases e : t = 8
  · subst e
    have h7 := fv_take_lt b 7
    rw [fv_take (b := b) (i := 7) (by omega)]
    omega
  · have : 256 ^ t ≤ 256 ^ 7 := Nat.pow_le_pow_right (by omega) (by omega)
    omega

set_option maxRecDepth 20000 in
set_option maxHeartbeats 1000000 in
theorem readl_1 (a : Option Addr) (n c : Nat) (b : List UInt8) (y : Int) (w : World) (hn : b.length = n) (hb : By w a b) :
    Calls Try.prog 20 #[.slice a n c, .agg #[.int .i64 1, .int .i64 y]] w (RdL (tb (rdV b)) [] (rdN b) (rdE b) w) := by
  have hV := rdV_lt b
  by_cases hE : rdE b = 0
  · obtain ⟨V, hVe⟩ : ∃ V, rdV b = V := ⟨_, rfl⟩
    obtain ⟨N, hNe⟩ : ∃ N, rdN b = N := ⟨_, rfl⟩
    have CR := Lib.hid (fun W (k : Below w.heap.size w W) => rread_ok a n c b W hn (hb.next k) hE V N hVe hNe)
    rw [hVe] at hV
    have HV := Lib.hid hV
    rw [hVe, hNe, hE]
    obtain ⟨r, hr⟩ : ∃ r, tb V = r := ⟨_, rfl⟩
    have HR := Lib.hid hr
    rw [hr]
    clear hVe hNe hE hV hr hb hn
    go_enter Try.func20, Try.ntmps20
    go_wp2_with (first
      | (go_at_call 32; refine (CR.out _ ((Below.refl _ _).alloc (Nat.le_refl _) _)).mono ?_; rintro e w1 ⟨A, cc, rfl, hcc, hNu, k1⟩
         have NU := Lib.hid hNu
         have CC := Lib.hid hcc
         have B1 := Lib.hid (((Below.refl w.heap.size w).alloc (Nat.le_refl _) (.cells #[.int .i64 1, .int .i64 y] 38)).trans (k1.mono (by simp)))
         have o0 : w1.cell? ⟨w.heap.size, 0, none⟩ = some (.int .i64 1) := by rw [k1.cell (p := ⟨w.heap.size, 0, none⟩) (by simp)]; rw [cell_of_row _ w.heap.size 0 _ 38 (0, 0) (heap_alloc_new w _)]; rfl
         have ol : w.heap.size < w1.heap.size := Nat.lt_of_lt_of_le (by simp) k1.size
         clear hNu hcc k1
         simp only [])
      | (go_at_call 33; refine (rback_any A cc V r _ CC.out HV.out NU.out HR).mono ?_; rintro e w2 ⟨rfl, rfl⟩; simp only []))
    refine bodyPost_ret (v := .tuple #[.int .i64 r, .slice none 0 0, .int .i64 (N : Int), .int .i64 ((0 : Nat) : Int)]) (by simp [results, Try.results20, go_sem]) rfl ?_
    exact ⟨none, 0, 0, rfl, rfl, By.nil _ _, B1.out⟩
  · have hV0 : tb (rdV b) = 0 := by rw [(rdE_ne hE).1]; decide
    obtain ⟨E, hEe⟩ : ∃ E, rdE b = E := ⟨_, rfl⟩
    have CR := Lib.hid (fun W (k : Below w.heap.size w W) => rread_bad a n c b W hn (hb.next k) E hEe (hEe ▸ hE))
    have hE2 : ((E : Int) != 0) = true := by rw [hEe] at hE; simp; omega
    obtain ⟨z1, z2⟩ := rdE_ne hE
    rw [hV0, z2, hEe]
    clear hE hEe hb hn z1 z2
    go_enter Try.func20, Try.ntmps20
    go_wp2_with (first
      | (go_at_call 32; refine (CR.out _ ((Below.refl _ _).alloc (Nat.le_refl _) _)).mono ?_; rintro e w1 ⟨rfl, k1⟩
         have B1 := Lib.hid (((Below.refl w.heap.size w).alloc (Nat.le_refl _) (.cells #[.int .i64 1, .int .i64 y] 38)).trans (k1.mono (by simp)))
         clear k1
         simp only []))
    refine bodyPost_ret (v := .tuple #[.int .i64 0, .slice none 0 0, .int .i64 ((0 : Nat) : Int), .int .i64 (E : Int)]) (by simp [results, Try.results20, go_sem]) rfl ?_
    exact ⟨none, 0, 0, rfl, rfl, By.nil _ _, B1.out⟩


set_option maxRecDepth 20000 in
set_option maxHeartbeats 1000000 in
theorem readl_0 (a : Option Addr) (n c : Nat) (b : List UInt8) (y : Int) (w : World) (hn : b.length = n) (hb : By w a b) :
    Calls Try.prog 20 #[.slice a n c, .agg #[.int .i64 0, .int .i64 y]] w (RdL (uV b : Int) [] (uN b) (uE b) w) := by
  have hV := rdV_lt b
  by_cases hE : rdE b = 0
  · obtain ⟨V, hVe⟩ : ∃ V, rdV b = V := ⟨_, rfl⟩
    obtain ⟨N, hNe⟩ : ∃ N, rdN b = N := ⟨_, rfl⟩
    have CR := Lib.hid (fun W (k : Below w.heap.size w W) => rread_ok a n c b W hn (hb.next k) hE V N hVe hNe)
    rw [hVe] at hV
    by_cases hB : 9223372036854775807 < V
    · have hf : ftB V 0 := ⟨rfl, hB⟩
      have H63 := Lib.hid (show V / 2 ^ 63 % 2 = 1 by omega)
      rw [uV, uN, uE, hVe, hNe, hE, ftV, ftV, ftE, if_pos hf, if_pos hf, if_pos hf]
      clear hVe hNe hE hV hb hn hB hf
      go_enter Try.func20, Try.ntmps20
      go_wp2_with (first
        | (go_at_call 32; refine (CR.out _ ((Below.refl _ _).alloc (Nat.le_refl _) _)).mono ?_; rintro e w1 ⟨A, cc, rfl, hcc, hNu, k1⟩
           have NU := Lib.hid hNu
           have CC := Lib.hid hcc
           have B1 := Lib.hid (((Below.refl w.heap.size w).alloc (Nat.le_refl _) (.cells #[.int .i64 0, .int .i64 y] 38)).trans (k1.mono (by simp)))
           have o0 : w1.cell? ⟨w.heap.size, 0, none⟩ = some (.int .i64 0) := by rw [k1.cell (p := ⟨w.heap.size, 0, none⟩) (by simp)]; rw [cell_of_row _ w.heap.size 0 _ 38 (0, 0) (heap_alloc_new w _)]; rfl
           have ol : w.heap.size < w1.heap.size := Nat.lt_of_lt_of_le (by simp) k1.size
           obtain ⟨b63, o63, hA63, hb63, hc63⟩ := hNu 63 (by rw [bt_len]; omega)
           rw [bt_get 64 V 63 (by omega), H63.out] at hc63
           subst hA63
           clear hNu hcc k1
           simp only []))
      refine bodyPost_ret (v := .tuple #[.int .i64 0, .slice none 0 0, .int .i64 ((0 : Nat) : Int), .int .i64 ((11 : Nat) : Int)]) (by simp [results, Try.results20, go_sem]) rfl ?_
      exact ⟨none, 0, 0, rfl, rfl, By.nil _ _, B1.out⟩
    · have hf : ¬ ftB V 0 := fun h => hB h.2
      have H63 := Lib.hid (show V / 2 ^ 63 % 2 = 0 by omega)
      have HBN := Lib.hid (show bn (bt 64 V) 0 = V by
        rw [bn, List.drop_zero, bt_take 63 64 V (by omega), bv_bt, Nat.mod_eq_of_lt (by omega)])
      rw [uV, uN, uE, hVe, hNe, hE, ftV, ftV, ftE, if_neg hf, if_neg hf, if_neg hf]
      clear hVe hNe hE hV hb hn hB hf
      go_enter Try.func20, Try.ntmps20
      go_wp2_with (first
        | (go_at_call 32; refine (CR.out _ ((Below.refl _ _).alloc (Nat.le_refl _) _)).mono ?_; rintro e w1 ⟨A, cc, rfl, hcc, hNu, k1⟩
           have NU := Lib.hid hNu
           have CC := Lib.hid hcc
           have B1 := Lib.hid (((Below.refl w.heap.size w).alloc (Nat.le_refl _) (.cells #[.int .i64 0, .int .i64 y] 38)).trans (k1.mono (by simp)))
           have o0 : w1.cell? ⟨w.heap.size, 0, none⟩ = some (.int .i64 0) := by rw [k1.cell (p := ⟨w.heap.size, 0, none⟩) (by simp)]; rw [cell_of_row _ w.heap.size 0 _ 38 (0, 0) (heap_alloc_new w _)]; rfl
           have ol : w.heap.size < w1.heap.size := Nat.lt_of_lt_of_le (by simp) k1.size
           obtain ⟨b63, o63, hA63, hb63, hc63⟩ := hNu 63 (by rw [bt_len]; omega)
           rw [bt_get 64 V 63 (by omega), H63.out] at hc63
           subst hA63
           clear hNu hcc k1
           simp only [])
        | (go_at_call 34; refine (rnumber_any _ 64 cc (bt 64 V) V _ (bt_len _ _) (by omega) (by omega) NU.out (bt_b _ _) HBN).mono ?_; rintro e w2 ⟨rfl, rfl⟩; simp only []))
      refine bodyPost_ret (v := .tuple #[.int .i64 (V : Int), .slice none 0 0, .int .i64 (N : Int), .int .i64 ((0 : Nat) : Int)]) (by simp [results, Try.results20, go_sem]) rfl ?_
      exact ⟨none, 0, 0, rfl, rfl, By.nil _ _, B1.out⟩
  · have hf : ¬ ftB (rdV b) (rdE b) := fun h => hE h.1
    rw [uV, uN, uE, ftV, ftV, ftE, if_neg hf, if_neg hf, if_neg hf]
    clear hf
    obtain ⟨E, hEe⟩ : ∃ E, rdE b = E := ⟨_, rfl⟩
    have CR := Lib.hid (fun W (k : Below w.heap.size w W) => rread_bad a n c b W hn (hb.next k) E hEe (hEe ▸ hE))
    have hE2 : ((E : Int) != 0) = true := by rw [hEe] at hE; simp; omega
    obtain ⟨z1, z2⟩ := rdE_ne hE
    rw [z1, z2, hEe]
    clear hE hEe hb hn z1 z2
    go_enter Try.func20, Try.ntmps20
    go_wp2_with (first
      | (go_at_call 32; refine (CR.out _ ((Below.refl _ _).alloc (Nat.le_refl _) _)).mono ?_; rintro e w1 ⟨rfl, k1⟩
         have B1 := Lib.hid (((Below.refl w.heap.size w).alloc (Nat.le_refl _) (.cells #[.int .i64 0, .int .i64 y] 38)).trans (k1.mono (by simp)))
         clear k1
         simp only []))
    refine bodyPost_ret (v := .tuple #[.int .i64 0, .slice none 0 0, .int .i64 ((0 : Nat) : Int), .int .i64 (E : Int)]) (by simp [results, Try.results20, go_sem]) rfl ?_
    exact ⟨none, 0, 0, rfl, rfl, By.nil _ _, B1.out⟩


set_option maxRecDepth 20000 in
set_option maxHeartbeats 1000000 in
theorem readl_neg (a : Option Addr) (n c : Nat) (x y : Int) (w : World) (h0 : x ≠ 0) (h1 : x ≠ 1) (hy : y < 0) :
    Calls Try.prog 20 #[.slice a n c, .agg #[.int .i64 x, .int .i64 y]] w (RdL 0 [] 0 1 w) := by
  have b0 : (x == 0) = false := by simp [h0]
  have b1 : (x == 1) = false := by simp [h1]
  clear h0 h1
  go_enter Try.func20, Try.ntmps20
  go_wp2
  refine bodyPost_ret (v := .tuple #[.int .i64 0, .slice none 0 0, .int .i64 ((0 : Nat) : Int), .int .i64 ((1 : Nat) : Int)]) (by simp [results, Try.results20, go_sem]) rfl ?_
  exact ⟨none, 0, 0, rfl, rfl, By.nil _ _, (Below.refl _ _).alloc (Nat.le_refl _) _⟩

set_option maxRecDepth 20000 in
set_option maxHeartbeats 1000000 in
theorem readl_arg (a : Option Addr) (n c : Nat) (y : Int) (w : World) (hy0 : 0 ≤ y) (hy : y < 1 ∨ 8 < y) :
    Calls Try.prog 20 #[.slice a n c, .agg #[.int .i64 2, .int .i64 y]] w (RdL 0 [] 0 1 w) := by
  have hz : ¬ (y < 0) := by omega
  by_cases hy1 : y < 1
  · clear hy hy0
    go_enter Try.func20, Try.ntmps20
    go_wp2
    refine bodyPost_ret (v := .tuple #[.int .i64 0, .slice none 0 0, .int .i64 ((0 : Nat) : Int), .int .i64 ((1 : Nat) : Int)]) (by simp [results, Try.results20, go_sem]) rfl ?_
    exact ⟨none, 0, 0, rfl, rfl, By.nil _ _, (Below.refl _ _).alloc (Nat.le_refl _) _⟩
  have hy8 : y > 8 := by omega
  clear hy hy0
  go_enter Try.func20, Try.ntmps20
  go_wp2
  refine bodyPost_ret (v := .tuple #[.int .i64 0, .slice none 0 0, .int .i64 ((0 : Nat) : Int), .int .i64 ((1 : Nat) : Int)]) (by simp [results, Try.results20, go_sem]) rfl ?_
  exact ⟨none, 0, 0, rfl, rfl, By.nil _ _, (Below.refl _ _).alloc (Nat.le_refl _) _⟩

set_option maxRecDepth 20000 in
set_option maxHeartbeats 1000000 in
theorem readl_end2 (a : Option Addr) (n c : Nat) (y : Int) (w : World) (hy1 : 1 ≤ y) (hy8 : y ≤ 8) (hy : (n : Int) < y) :
    Calls Try.prog 20 #[.slice a n c, .agg #[.int .i64 2, .int .i64 y]] w (RdL 0 [] 0 20 w) := by
  have c1 : ¬ (y < 0) := by omega
  have c2 : ¬ (y < 1) := by omega
  have c3 : ¬ (y > 8) := by omega
  clear hy1 hy8
  go_enter Try.func20, Try.ntmps20
  go_wp2
  refine bodyPost_ret (v := .tuple #[.int .i64 0, .slice none 0 0, .int .i64 ((0 : Nat) : Int), .int .i64 ((20 : Nat) : Int)]) (by simp [results, Try.results20, go_sem]) rfl ?_
  exact ⟨none, 0, 0, rfl, rfl, By.nil _ _, (Below.refl _ _).alloc (Nat.le_refl _) _⟩

set_option maxRecDepth 20000 in
set_option maxHeartbeats 1000000 in
theorem readl_end3 (a : Option Addr) (n c : Nat) (x y : Int) (w : World) (h0 : x ≠ 0) (h1 : x ≠ 1) (h2 : x ≠ 2) (hy0 : 0 ≤ y) (hy : (n : Int) < y) :
    Calls Try.prog 20 #[.slice a n c, .agg #[.int .i64 x, .int .i64 y]] w (RdL 0 [] 0 20 w) := by
  have b0 : (x == 0) = false := by simp [h0]
  have b1 : (x == 1) = false := by simp [h1]
  have b2 : (x == 2) = false := by simp [h2]
  have c1 : ¬ (y < 0) := by omega
  clear hy0 h0 h1 h2
  go_enter Try.func20, Try.ntmps20
  go_wp2
  refine bodyPost_ret (v := .tuple #[.int .i64 0, .slice none 0 0, .int .i64 ((0 : Nat) : Int), .int .i64 ((20 : Nat) : Int)]) (by simp [results, Try.results20, go_sem]) rfl ?_
  exact ⟨none, 0, 0, rfl, rfl, By.nil _ _, (Below.refl _ _).alloc (Nat.le_refl _) _⟩

set_option maxRecDepth 20000 in
set_option maxHeartbeats 1000000 in
theorem readl_3 (a : Option Addr) (n c k : Nat) (b : List UInt8) (x : Int) (w : World) (hn : b.length = n) (hc : n ≤ c) (hb : By w a b) (h0 : x ≠ 0) (h1 : x ≠ 1) (h2 : x ≠ 2) (hk : k ≤ n) :
    Calls Try.prog 20 #[.slice a n c, .agg #[.int .i64 x, .int .i64 (k : Int)]] w (RdL 0 (b.take k) k 0 w) := by
  have b0 : (x == 0) = false := by simp [h0]
  have b1 : (x == 1) = false := by simp [h1]
  have b2 : (x == 2) = false := by simp [h2]
  have c1 : ¬ ((k : Int) < 0) := by omega
  have c2 : ¬ ((k : Int) > (n : Int)) := by omega
  have htk := take_run2 a n c k (by omega)
  have HB := Lib.hid hb
  have HL := Lib.hid (show (b.take k).length = k by rw [List.length_take, hn]; omega)
  clear hn hc hb h0 h1 h2 hk
  go_enter Try.func20, Try.ntmps20
  go_wp2
  have o1 : (w.alloc (.cells #[.int .i64 x, .int .i64 (k : Int)] 38)).cell? ⟨w.heap.size, 1, none⟩ = some (.int .i64 (k : Int)) := by rw [cell_of_row _ w.heap.size 1 _ 38 (0, 0) (heap_alloc_new w _)]; rfl
  go_region
  all_goals
    go_wp2
    refine bodyPost_ret (v := .tuple #[.int .i64 0, .slice a k c, .int .i64 (k : Int), .int .i64 ((0 : Nat) : Int)]) (by simp [results, Try.results20, go_sem]) rfl ?_
    exact ⟨a, k, c, rfl, HL.out, (HB.out.next ((Below.refl w.heap.size w).alloc (Nat.le_refl _) _).drew).take k, ((Below.refl w.heap.size w).alloc (Nat.le_refl _) _).drew⟩

set_option maxRecDepth 20000 in
set_option maxHeartbeats 1000000 in
theorem readl_over (a : Option Addr) (n c : Nat) (b : List UInt8) (w : World) (hn : b.length = n) (h8 : 8 ≤ n) (hb : By w a b) (ht : 128 ≤ (b.getD 7 0).toNat) :
    Calls Try.prog 20 #[.slice a n c, .agg #[.int .i64 2, .int .i64 8]] w (RdL 0 [] 0 11 w) := by
  obtain ⟨b1, o1, rfl, hb1, hc1⟩ := (hb.next ((Below.refl w.heap.size w).alloc (Nat.le_refl _) (.cells #[.int .i64 2, .int .i64 8] 38))) 7 (by omega)
  obtain ⟨v, hv⟩ : ∃ v, (b.getD 7 0).toNat = v := ⟨_, rfl⟩
  rw [hv] at hc1 ht
  have hg : (v : Int) > 127 := by omega
  have hn8 : ¬ ((8 : Int) > (n : Int)) := by omega
  clear hn hb hv ht
  go_enter Try.func20, Try.ntmps20
  go_wp2
  refine bodyPost_ret (v := .tuple #[.int .i64 0, .slice none 0 0, .int .i64 ((0 : Nat) : Int), .int .i64 ((11 : Nat) : Int)]) (by simp [results, Try.results20, go_sem]) rfl ?_
  exact ⟨none, 0, 0, rfl, rfl, By.nil _ _, (Below.refl _ _).alloc (Nat.le_refl _) _⟩

set_option maxRecDepth 20000 in
set_option maxHeartbeats 2000000 in
theorem readl_2 (a : Option Addr) (n c t : Nat) (b : List UInt8) (w : World) (hn : b.length = n) (h1 : 1 ≤ t) (h8 : t ≤ 8) (htn : t ≤ n) (hb : By w a b) (ht : t = 8 → (b.getD 7 0).toNat ≤ 127) :
    Calls Try.prog 20 #[.slice a n c, .agg #[.int .i64 2, .int .i64 (t : Int)]] w (RdL (fv (b.take t) : Int) [] t 0 w) := by
  have HF := Lib.hid (show fv (b.take t) ≤ 9223372036854775807 from by
    rcases Nat.lt_or_ge 9223372036854775807 (fv (b.take t)) with h | h
    · have h2 := (fv_top (by omega) h8).1 h; have := ht h2.1; omega
    · exact h)
  have HB := Lib.hid hb
  have HN := Lib.hid hn
  have kA : Below w.heap.size w (w.alloc (.cells #[.int .i64 2, .int .i64 (t : Int)] 38)) := (Below.refl _ _).alloc (Nat.le_refl _) _
  have HT := Lib.hid ht
  have c1 : ¬ ((t : Int) < 0) := by omega
  have c2 : ¬ ((t : Int) < 1) := by omega
  have c3 : ¬ ((t : Int) > 8) := by omega
  have c4 : ¬ ((t : Int) > (n : Int)) := by omega
  have fin : ∀ (u : Unit), Hid (Below w.heap.size w (w.alloc (.cells #[.int .i64 2, .int .i64 (t : Int)] 38))) := fun _ => Lib.hid kA
  have KA := fin ()
  clear hn ht hb kA fin
  have e7 : ((t : Int) == 8) = true ∨ ((t : Int) == 8) = false := by cases ((t : Int) == 8) <;> simp
  rcases e7 with e7 | e7
  focus
    have e8 : t = 8 := by
      have : (t : Int) = 8 := by simpa using e7
      omega
    obtain ⟨b1, o1, ha1, hb1, hc1⟩ := (HB.out.next KA.out) 7 (by rw [HN.out]; omega)
    obtain ⟨v, hv⟩ : ∃ v, (b.getD 7 0).toNat = v := ⟨_, rfl⟩
    have hg : ¬ ((v : Int) > 127) := by have := HT.out e8; omega
    rw [hv] at hc1
    subst ha1
    have hn8 : 8 ≤ n := by omega
    clear hv e8 hb1
    go_enter Try.func20, Try.ntmps20
    go_wp2
    clear hg hc1 hn8
  rotate_left
  focus
    go_enter Try.func20, Try.ntmps20
    go_wp2
  all_goals
    clear c1 c2 c3 c4 e7
    go_loop [11, 12] (fun vn vi => ∃ i : Nat, i ≤ t ∧ vn = .int .i64 ((fv ((b.take t).drop i) : Nat) : Int) ∧ vi = .int .i64 ((i : Int) - 1)) (fun _ vi => (intOf vi + 1).toNat)
    case atStart => exact ⟨t, Nat.le_refl _, by rw [List.drop_eq_nil_iff.2 (by rw [List.length_take]; omega)]; rfl, rfl⟩
    case round =>
      obtain ⟨i, hi, rfl, rfl⟩ := hrel
      cases i with
      | zero =>
        rw [List.drop_zero]
        have HF2 := HF
        obtain ⟨F, hF⟩ : ∃ F, fv (b.take t) = F := ⟨_, rfl⟩
        have HFe := Lib.hid hF
        rw [hF]
        clear hF
        have o1 : (w.alloc (.cells #[.int .i64 2, .int .i64 (t : Int)] 38)).cell? ⟨w.heap.size, 1, none⟩ = some (.int .i64 (t : Int)) := by rw [cell_of_row _ w.heap.size 1 _ 38 (0, 0) (heap_alloc_new w _)]; rfl
        have ol : w.heap.size < (w.alloc (.cells #[.int .i64 2, .int .i64 (t : Int)] 38)).heap.size := by simp
        go_wp2
        go_region
        all_goals
          go_wp2
          refine bodyPost_ret (v := .tuple #[.int .i64 (F : Int), .slice none 0 0, .int .i64 (t : Int), .int .i64 ((0 : Nat) : Int)]) (by simp [results, Try.results20, go_sem]) rfl ?_
          exact ⟨none, 0, 0, by rw [HFe.out], rfl, By.nil _ _, KA.out.drew⟩
      | succ j =>
        have hl : j < (b.take t).length := by rw [List.length_take, HN.out]; omega
        have FD := Lib.hid (fv_drop_at hl)
        have hle := fv_drop_le (b.take t) j
        have hF := HF.out
        obtain ⟨b1, o1, ha1, hb1, hc1⟩ := (HB.out.next KA.out) j (by rw [HN.out]; omega)
        have hge : (b.take t).getD j 0 = b.getD j 0 := by simp [List.getD, show j < t by omega]
        rw [hge] at FD
        obtain ⟨q, hq⟩ : ∃ q, fv ((b.take t).drop (j + 1)) = q := ⟨_, rfl⟩
        obtain ⟨v, hv⟩ : ∃ v, (b.getD j 0).toNat = v := ⟨_, rfl⟩
        rw [hq, hv] at FD
        rw [hq]
        rw [hv] at hc1
        have hvb : v < 256 := by rw [← hv]; exact u8_bd _
        have hqb : v + 256 * q ≤ 9223372036854775807 := by have := FD.out; omega
        have hw1 : wrap64 (256 * (q : Int)) = 256 * (q : Int) := by unfold wrap64; omega
        have hw2 : wrap64 (256 * (q : Int) + (v : Int)) = 256 * (q : Int) + (v : Int) := by unfold wrap64; omega
        cases ha1
        clear hl hle hF hge hq hv hb1 hqb
        go_wp2
        go_round
        case rel => exact ⟨j, by omega, by rw [FD.out]; go_num, by go_num⟩
        case measure => simp [intOf]
end Go.Proofs.Ytdepbhikkjfcjaa
