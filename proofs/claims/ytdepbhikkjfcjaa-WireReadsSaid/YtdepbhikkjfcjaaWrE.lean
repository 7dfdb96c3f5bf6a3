/- For every bytes and every calls the law WireReads returns true, and nothing that was in memory changes. -/
import Derived.Deep.RegionWith
import Derived.Test.YtdepbhikkjfcjaaWrX
import Derived.Test.YtdepbhikkjfcjaaWrL
import Derived.Test.YtdepbhikkjfcjaaWrS
import Derived.Test.YtdepbhikkjfcjaaWrO
namespace Go.Proofs.Ytdepbhikkjfcjaa
open Go.RowKit Go.Shelf
attribute [local go_sem] Oper.semAt_some

/-- What a call does at a cursor that stands at p. -/
def DoL (a : Option Addr) (n c p : Nat) (full : List UInt8) (x y : Int) (r : Int) (L : List UInt8) (N E : Nat) : Prop :=
  ∀ (W : World) (B : Nat), Cur B (.slice a n c) p 0 W → By W a full → Calls Try.prog 19 #[.pointer (some ⟨B, 0, none⟩), .agg #[.int .i64 x, .int .i64 y]] W fun e w' =>
    ∃ A k cc, e = .returned (.tuple #[.int .i64 r, .slice A k cc]) ∧ L.length = k ∧ (∀ W', By W' a full → By W' A L) ∧ Cur B (.slice a n c) (p + N : Nat) E w' ∧ W.grownBy w' (some B)
def ReL (a : Option Addr) (n c p : Nat) (full : List UInt8) (x y : Int) (r : Int) (L : List UInt8) (N E : Nat) : Prop :=
  ∀ W, By W (sh a c p) (full.drop p) → Calls Try.prog 20 #[.slice (sh a c p) (n - p) (c - p), .agg #[.int .i64 x, .int .i64 y]] W (RdL r L N E W)

theorem does_nil {B n c q : Nat} {a : Option Addr} {full : List UInt8} {r : Int} {E : Nat} {W : World} {e : Ending} {w' : World}
    (h : e = .returned (.tuple #[.int .i64 r, .slice none 0 0]) ∧ ∃ W2, Below W.heap.size W W2 ∧ (Cur B (.slice a n c) (q : Nat) E w' ∧ W2.grownBy w' (some B))) :
    ∃ A k cc, e = .returned (.tuple #[.int .i64 r, .slice A k cc]) ∧ ([] : List UInt8).length = k ∧ (∀ W', By W' a full → By W' A []) ∧ Cur B (.slice a n c) (q : Nat) E w' ∧ W.grownBy w' (some B) := by
  obtain ⟨h1, W2, k, h2, h3⟩ := h
  exact ⟨none, 0, 0, h1, rfl, fun W' _ => By.nil _ _, h2, grown_trans (grown_below k _) h3⟩

theorem ans (a : Option Addr) (n c p : Nat) (full : List UInt8) (x y : Int) (hn : full.length = n) (hc : n ≤ c) (hp : p ≤ n) (hm : n ≤ 200) :
    ∃ (r : Int) (L : List UInt8) (N E : Nat), p + N ≤ n ∧ L.length ≤ n ∧ DoL a n c p full x y r L N E ∧ ReL a n c p full x y r L N E := by
  have hd : (full.drop p).length = n - p := by rw [List.length_drop, hn]
  by_cases h0 : x = 0
  · subst h0
    refine ⟨uV (full.drop p), [], uN (full.drop p), uE (full.drop p), by have := uN_le (full.drop p); omega, by simp, fun W B h hb => ?_, fun W hb => readl_0 _ _ _ _ y W hd hb⟩
    exact (does0 _ y _ (fun W w' => Cur B (.slice a n c) (p + uN (full.drop p) : Nat) (uE (full.drop p)) w' ∧ W.grownBy w' (some B)) W (fun W2 k => cU_is B n c p a full W2 (h.next k) hn hc hp (by omega) (hb.next k) _ _ _ (Lib.hid ⟨rfl, rfl, rfl⟩)) ⟨_, rfl⟩).mono fun e w' h => does_nil h
  by_cases h1 : x = 1
  · subst h1
    refine ⟨tb (rdV (full.drop p)), [], rdN (full.drop p), rdE (full.drop p), by have := rdN_le (full.drop p); omega, by simp, fun W B h hb => ?_, fun W hb => readl_1 _ _ _ _ y W hd hb⟩
    exact (does1 _ y _ (fun W w' => Cur B (.slice a n c) (p + rdN (full.drop p) : Nat) (rdE (full.drop p)) w' ∧ W.grownBy w' (some B)) W (fun W2 k => cI_is B n c p a full W2 (h.next k) hn hc hp (by omega) (hb.next k) _ _ _ _ (Lib.hid ⟨rfl, rfl, rfl⟩) (Lib.hid rfl)) ⟨_, rfl⟩).mono fun e w' h => does_nil h
  by_cases h2 : x = 2
  · subst h2
    have D : DoL a n c p full 2 y (xR (full.drop p) y) [] (xN (full.drop p) y) (xE (full.drop p) y) := fun W B h hb =>
      (does2 _ y _ (fun W w' => Cur B (.slice a n c) (p + xN (full.drop p) y : Nat) (xE (full.drop p) y) w' ∧ W.grownBy w' (some B)) W (fun W2 k => cF_is B n c p a full y W2 (h.next k) hn hc hp (by omega) (hb.next k) _ _ _ (Lib.hid ⟨rfl, rfl, rfl⟩)) ⟨_, rfl⟩).mono fun e w' h => does_nil h
    refine ⟨_, [], _, _, by have := xN_le (full.drop p) y; omega, by simp, D, fun W hb => ?_⟩
    by_cases hy : 1 ≤ y ∧ y ≤ 8
    · by_cases hl : ((full.drop p).length : Int) < y
      · have e : byE (full.drop p) y = 20 := by rw [byE, if_neg (fun h => h hy), if_pos hl]
        have f : ¬ ftB (xV (full.drop p) y) 20 := fun h => by have := h.1; omega
        rw [xR, xN, xE, e, ftV, ftV, ftE, if_neg f, if_neg f, if_neg f, xV, byX, byX, e, if_neg (by omega), if_neg (by omega)]
        exact readl_end2 _ _ _ y W hy.1 hy.2 (by rw [hd] at hl; exact hl)
      · obtain ⟨t, rfl⟩ : ∃ t : Nat, y = (t : Int) := ⟨y.toNat, by omega⟩
        have e : byE (full.drop p) t = 0 := by rw [byE, if_neg (fun h => h hy), if_neg hl]
        have ht : t ≤ (full.drop p).length := by omega
        have v : xV (full.drop p) t = fv ((full.drop p).take t) := by rw [xV, byX, if_pos e, Int.toNat_natCast]
        have top := fv_top ht (by omega)
        by_cases hF : 9223372036854775807 < fv ((full.drop p).take t)
        · have f : ftB (fv ((full.drop p).take t)) 0 := ⟨rfl, hF⟩
          obtain ⟨t8, h7⟩ := top.1 hF
          rw [xR, xN, xE, e, v, ftV, ftV, ftE, if_pos f, if_pos f, if_pos f]
          subst t8
          exact readl_over _ _ _ _ W hd (by omega) hb h7
        · have f : ¬ ftB (fv ((full.drop p).take t)) 0 := fun h => hF h.2
          rw [xR, xN, xE, e, v, ftV, ftV, ftE, if_neg f, if_neg f, if_neg f, byX, if_pos e, Int.toNat_natCast]
          exact readl_2 _ _ _ t _ W hd (by omega) (by omega) (by omega) hb (fun h8 => by
            rcases Nat.lt_or_ge 127 ((full.drop p).getD 7 0).toNat with h | h
            · exact absurd (top.2 ⟨h8, h⟩) hF
            · exact h)
    · have e : byE (full.drop p) y = 1 := by rw [byE, if_pos hy]
      have f : ¬ ftB (xV (full.drop p) y) 1 := fun h => by have := h.1; omega
      rw [xR, xN, xE, e, ftV, ftV, ftE, if_neg f, if_neg f, if_neg f, xV, byX, byX, e, if_neg (by omega), if_neg (by omega)]
      by_cases hy0 : y < 0
      · exact readl_neg _ _ _ 2 y W (by omega) (by omega) hy0
      · exact readl_arg _ _ _ y W (by omega) (by omega)
  by_cases hy : y < 0
  · refine ⟨0, [], 0, 1, by omega, by simp, fun W B h hb => ?_, fun W hb => readl_neg _ _ _ x y W h0 h1 hy⟩
    exact (does3 _ x y _ (fun W w' => Cur B (.slice a n c) (p + 0 : Nat) (1 : Nat) w' ∧ W.grownBy w' (some B)) W h0 h1 h2 (fun W2 k => cB_neg B (.slice a n c) p y W2 (h.next k) hy) ⟨_, _, _, rfl⟩).mono fun e w' h => does_nil h
  obtain ⟨k, rfl⟩ : ∃ k : Nat, y = (k : Int) := ⟨y.toNat, by omega⟩
  by_cases hk : n - p < k
  · refine ⟨0, [], 0, 20, by omega, by simp, fun W B h hb => ?_, fun W hb => readl_end3 _ _ _ x k W h0 h1 h2 (by omega) (by omega)⟩
    exact (does3 _ x k _ (fun W w' => Cur B (.slice a n c) (p + 0 : Nat) (20 : Nat) w' ∧ W.grownBy w' (some B)) W h0 h1 h2 (fun W2 k2 => cB_end B n c p k a W2 (h.next k2) hp (by omega) hk) ⟨_, _, _, rfl⟩).mono fun e w' h => does_nil h
  · refine ⟨0, (full.drop p).take k, k, 0, by omega, by rw [List.length_take, hd]; omega, fun W B h hb => ?_, fun W hb => readl_3 _ _ _ k _ x W hd (by omega) hb h0 h1 h2 (by omega)⟩
    refine (does3 _ x k _ (fun W w' => Cur B (.slice a n c) (p + k : Nat) 0 w' ∧ W.grownBy w' (some B)) W h0 h1 h2 (fun W2 k2 => cB_ok B n c p k a W2 (h.next k2) hc (by omega) (by omega)) ⟨_, _, _, rfl⟩).mono fun e w' ⟨g1, W2, g2, g3, g4⟩ => ?_
    exact ⟨_, _, _, g1, by rw [List.length_take, hd]; omega, fun W' hb' => By.part hb' (by omega), g3, grown_trans (grown_below g2 _) g4⟩
end Go.Proofs.Ytdepbhikkjfcjaa
