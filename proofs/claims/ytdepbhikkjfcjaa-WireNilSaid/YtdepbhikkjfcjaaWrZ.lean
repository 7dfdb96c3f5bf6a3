/- For every call, every bytes and every number the law WireNil returns true, and nothing that was in memory changes. -/
import Derived.ArgAppend
import Derived.Laws.AppendOwnNone
import Derived.Test.YtdepbhikkjfcjaaWrX
import Derived.Test.YtdepbhikkjfcjaaWrS
import Derived.Test.YtdepbhikkjfcjaaWrO
namespace Go.Proofs.Ytdepbhikkjfcjaa
open Go.RowKit Go.Shelf
attribute [local go_sem] Oper.semAt_some

theorem own_none {w : World} {base n c : Nat} {A : Option Addr} {e : TypeId} {xs : List Value} (h : w.ownsRow base e 1 (.slice A n c) n xs) : A = none → n = 0 ∧ c = 0 := by
  rintro rfl
  rcases h.2 with ⟨hv, h0⟩ | ⟨g', cap, cur, hv, _⟩
  · injection hv with e1 e2 e3; exact ⟨h0, e3⟩
  · injection hv with e1; cases e1
theorem own_le {w : World} {base n c : Nat} {A : Option Addr} {e : TypeId} {xs : List Value} (h : w.ownsRow base e 1 (.slice A n c) n xs) : n ≤ c := by
  rcases h.2 with ⟨h1, h2⟩ | ⟨g', cap, cur, hv, hb, hg, h1, h2, h3, h4⟩
  · omega
  · injection hv with e1 e2 e3; omega
theorem By.cells {w : World} {ad : Addr} {l : List UInt8} (h : By w (some ad) l) : ∀ (j : Nat) (u : Value), (bcl l)[j]? = some u → w.cell? (ad.add j) = some u := by
  intro j u hu
  have hj : j < l.length := by
    rcases Nat.lt_or_ge j l.length with h1 | h1
    · exact h1
    · rw [List.getElem?_eq_none (by rw [bcl_len]; exact h1)] at hu; cases hu
  obtain ⟨b, off, he, _, hc⟩ := h j hj
  injection he with he
  subst he
  rw [Go.WideShapes.add_plain, hc, ← hu, bcl, List.getElem?_map, List.getElem?_eq_getElem hj]
  simp [List.getD, List.getElem?_eq_getElem hj]

/-- Bytes, nil or not, behind a list of bytes that the call made itself. -/
theorem wpList_bapp {w : World} {ops : Array Oper} {rest : List Oper} {o : Oper} {a : Act} {Q : Exit → Act → World → Prop} (hgd : o.guard = none) (s x : Operand)
    (ho : o.op = .call { callee := .builtin .append, args := #[s, x], argTypes := #[22, 22] }) {base n c n2 c2 m : Nat} {A A2 : Option Addr} {l l2 : List UInt8} (hn2 : l2.length = n2) (hm : n + n2 = m) (X : w.ownsRow base 5 1 (.slice A n c) n (bcl l))
    (hs : a.eval s = .slice A n c) (hx : a.eval x = .slice A2 n2 c2) (h2 : By w A2 l2) (hc2 : A2 = none → c2 = 0) (hl : m ≤ 100000) (hbase : base ≤ w.heap.size)
    (h : ∀ A' c' w', w'.ownsRow base 5 1 (.slice A' m c') m (bcl (l ++ l2)) → Below base w w' → wpList Try.prog ops Q rest (a.put o.dst (.slice A' m c')) w') : wpList Try.prog ops Q (o :: rest) a w := by
  obtain ⟨i0, hi0, hz0, hz1, hz2⟩ := info_parts uint8_info
  subst hn2 hm
  cases A2 with
  | none =>
    have hl2 : l2 = [] := by
      cases l2 with
      | nil => rfl
      | cons y ys => obtain ⟨_, _, h, _⟩ := h2 0 (by simp); cases h
    subst hl2
    rw [hc2 rfl] at hx
    have key := h A c w (by rw [List.append_nil]; exact X) (Below.refl _ _)
    exact wpList_append_own_none hgd s x 22 ho base 5 i0 1 Try.underlying22 hi0 _ n (bcl l) hs X hx key
  | some ad =>
    refine wpList_append_own w hgd s x 22 ho base 5 i0 (.int .u8 0) 1 1 Try.underlying22 hi0 hz0 hz1 hz2 rfl (by omega) _ n (bcl l) hs X ad l2.length c2 (bcl l2) hx (by rw [bcl_len]; omega) h2.cells (bcl_one _) (by unfold maxLen; omega) (by omega) hbase fun v' w' k2 k3 _ => ?_
    obtain ⟨A', c', rfl⟩ := own_form k2
    rw [← bcl_app] at k2
    exact h A' c' w' k2 ((Below.refl base w).grown k3 hbase (fun k hk => (X.lt k hk).1))

namespace wireNil
set_option maxRecDepth 20000 in
theorem walk_out (x y n : Int) (a : Option Addr) (c : Nat) (l : List UInt8) (w : World) (hn : 60 < l.length ∨ n < 0 ∨ (l.length : Int) < n) :
    Calls Try.prog 8 #[.agg #[.int .i64 x, .int .i64 y], .slice a l.length c, .int .i64 n] w fun e w' => e = .returned (.bool true) ∧ Below w.heap.size w w' := by
  have DZ : Hid (∀ W, Calls Try.prog 19 #[.pointer none, .agg #[.int .i64 x, .int .i64 y]] W fun e w' => e = .returned (.tuple #[.int .i64 0, .slice none 0 0]) ∧ Below W.heap.size W w') := Lib.hid fun W => does_zero (.pointer none) x y W (fun r W _ => number_nil r W) (fun W _ => cB_nil y W)
  by_cases h1 : (l.length : Int) > 60
  · have hd : True := trivial
    clear hn
    go_enter Try.func8, Try.ntmps8
    go_wp2_with (first
      | (go_at_call 19; refine (DZ.out _).mono ?_; rintro e w1 ⟨rfl, k1⟩
         have B1 := Lib.hid (((Below.refl w.heap.size w).alloc (Nat.le_refl _) (.cells #[.int .i64 x, .int .i64 y] 38)).trans (k1.mono (by simp)))
         clear k1
         simp only [])
      | (go_at_call 23; (with_reducible refine (err_nil _).mono ?_); rintro e w' ⟨rfl, rfl⟩; simp only [])
      | (go_at_call 21; (with_reducible refine (at_nil _).mono ?_); rintro e w' ⟨rfl, rfl⟩; simp only [])
      | (go_at_call 22; (with_reducible refine (left_nil _).mono ?_); rintro e w' ⟨rfl, rfl⟩; simp only [])
      | (go_at_call 17; refine (awake_yes _).mono ?_; rintro e w9 ⟨rfl, k9⟩
         have B9 := Lib.hid (B1.out.trans (k9.mono B1.out.size))
         clear k9
         simp only []))
    go_ret
    exact ⟨rfl, B9.out⟩
  by_cases h2 : n < 0
  · have hd : True := trivial
    clear hn
    go_enter Try.func8, Try.ntmps8
    go_wp2_with (first
      | (go_at_call 19; refine (DZ.out _).mono ?_; rintro e w1 ⟨rfl, k1⟩
         have B1 := Lib.hid (((Below.refl w.heap.size w).alloc (Nat.le_refl _) (.cells #[.int .i64 x, .int .i64 y] 38)).trans (k1.mono (by simp)))
         clear k1
         simp only [])
      | (go_at_call 23; (with_reducible refine (err_nil _).mono ?_); rintro e w' ⟨rfl, rfl⟩; simp only [])
      | (go_at_call 21; (with_reducible refine (at_nil _).mono ?_); rintro e w' ⟨rfl, rfl⟩; simp only [])
      | (go_at_call 22; (with_reducible refine (left_nil _).mono ?_); rintro e w' ⟨rfl, rfl⟩; simp only [])
      | (go_at_call 17; refine (awake_yes _).mono ?_; rintro e w9 ⟨rfl, k9⟩
         have B9 := Lib.hid (B1.out.trans (k9.mono B1.out.size))
         clear k9
         simp only []))
    go_ret
    exact ⟨rfl, B9.out⟩
  · have h3 : n > (l.length : Int) := by rcases hn with h | h | h <;> omega
    clear hn
    go_enter Try.func8, Try.ntmps8
    go_wp2_with (first
      | (go_at_call 19; refine (DZ.out _).mono ?_; rintro e w1 ⟨rfl, k1⟩
         have B1 := Lib.hid (((Below.refl w.heap.size w).alloc (Nat.le_refl _) (.cells #[.int .i64 x, .int .i64 y] 38)).trans (k1.mono (by simp)))
         clear k1
         simp only [])
      | (go_at_call 23; (with_reducible refine (err_nil _).mono ?_); rintro e w' ⟨rfl, rfl⟩; simp only [])
      | (go_at_call 21; (with_reducible refine (at_nil _).mono ?_); rintro e w' ⟨rfl, rfl⟩; simp only [])
      | (go_at_call 22; (with_reducible refine (left_nil _).mono ?_); rintro e w' ⟨rfl, rfl⟩; simp only [])
      | (go_at_call 17; refine (awake_yes _).mono ?_; rintro e w9 ⟨rfl, k9⟩
         have B9 := Lib.hid (B1.out.trans (k9.mono B1.out.size))
         clear k9
         simp only []))
    go_ret
    exact ⟨rfl, B9.out⟩

set_option maxRecDepth 20000 in
set_option maxHeartbeats 4000000 in
theorem walk_few (x y : Int) (k : Nat) (a : Option Addr) (c : Nat) (l : List UInt8) (w : World) (hl : l.length ≤ 60) (hk : k ≤ l.length) (hc : a = none → c = 0) (hb : By w a l) :
    Calls Try.prog 8 #[.agg #[.int .i64 x, .int .i64 y], .slice a l.length c, .int .i64 (k : Int)] w fun e w' => e = .returned (.bool true) ∧ Below w.heap.size w w' := by
  have DZ : Hid (∀ W, Calls Try.prog 19 #[.pointer none, .agg #[.int .i64 x, .int .i64 y]] W fun e w' => e = .returned (.tuple #[.int .i64 0, .slice none 0 0]) ∧ Below W.heap.size W w') := Lib.hid fun W => does_zero (.pointer none) x y W (fun r W _ => number_nil r W) (fun W _ => cB_nil y W)
  obtain ⟨i0, hi0, hz0, hz1, hz2⟩ := info_parts uint8_info
  have I0 := Lib.hid (And.intro hi0 (And.intro hz0 (And.intro hz1 hz2)))
  have HB := Lib.hid hb
  have HC := Lib.hid hc
  have TT : Hid (decide (l = l) = true) := Lib.hid (by simp)
  have n1 : ¬ ((l.length : Int) > 60) := by omega
  have n3 : ¬ ((k : Int) > (l.length : Int)) := by omega
  obtain ⟨n, hn⟩ : ∃ n, l.length = n := ⟨_, rfl⟩
  have HN := Lib.hid hn
  rw [hn] at n1 n3 hl hk
  have NW : Hid (0 + k = k) := Lib.hid (by omega)
  clear hc hb hn hi0 hz0 hz1 hz2
  have go : Calls Try.prog 8 #[.agg #[.int .i64 x, .int .i64 y], .slice a n c, .int .i64 (k : Int)] w fun e w' => e = .returned (.bool true) ∧ Below w.heap.size w w' := by
    go_enter Try.func8, Try.ntmps8
    go_wp2_with (first
      | (go_at_call 19; refine (DZ.out _).mono ?_; rintro e w1 ⟨rfl, k1⟩
         have B1 := Lib.hid (((Below.refl w.heap.size w).alloc (Nat.le_refl _) (.cells #[.int .i64 x, .int .i64 y] 38)).trans (k1.mono (by simp)))
         clear k1
         simp only [])
      | (go_at_call 23; (with_reducible refine (err_nil _).mono ?_); rintro e w' ⟨rfl, rfl⟩; simp only [])
      | (go_at_call 21; (with_reducible refine (at_nil _).mono ?_); rintro e w' ⟨rfl, rfl⟩; simp only [])
      | (go_at_call 22; (with_reducible refine (left_nil _).mono ?_); rintro e w' ⟨rfl, rfl⟩; simp only [])
      | (at_builtin
         refine wpList_bapp (l := []) (base := w.heap.size) (by rfl) (.tmp 56) (.tmp 57) (by rfl) HN.out (Nat.zero_add n) (World.ownsRow_nil _ _ _ _) (by rfl) (by rfl) (HB.out.next B1.out) HC.out (by omega) B1.out.size ?_
         intro A2 c2 w2 o2 k2
         have Y2 := Lib.hid (By.of_own (l := l) o2)
         have B2 := Lib.hid (B1.out.trans k2)
         have L2 := Lib.hid (own_le o2)
         have N2 := Lib.hid (own_none o2)
         clear o2 k2)
      | (go_at_call 18; refine (new_any A2 n c2 _).mono ?_; rintro e w3 ⟨rfl, H, k3⟩
         have H3 := Lib.hid H
         have K3 := Lib.hid k3
         have B3 := Lib.hid (B2.out.trans (k3.mono B2.out.size))
         obtain ⟨A3, hA3⟩ : ∃ A3, sh A2 (0 + k) 0 = A3 := ⟨_, rfl⟩
         have CB : Hid (∀ W, Cur w2.heap.size (.slice A2 n c2) 0 0 W → Calls Try.prog 27 #[.pointer (some ⟨w2.heap.size, 0, none⟩), .int .i64 (k : Int)] W (Did w2.heap.size (.slice A2 n c2) (k : Nat) 0 (.slice A3 k k) W)) := Lib.hid fun W h => (by
           have := cB_ok w2.heap.size n c2 0 k A2 W h L2.out (by omega) (by omega)
           rw [hA3, NW.out] at this
           exact this)
         have YA : Hid (∀ W, By W A2 l → By W A3 (l.take k)) := Lib.hid fun W h => (by
           have := By.part (i := 0) (k := k) h (by rw [HN.out]; omega)
           rw [hA3, List.drop_zero] at this
           exact this)
         have NA : Hid (A3 = none → k = 0) := Lib.hid fun h => (by
           have h2 : sh A2 (0 + k) 0 = none := hA3.trans h
           unfold sh at h2
           by_cases h5 : 0 + k = 0
           · omega
           · rw [if_neg h5] at h2
             have := (N2.out (by cases A2 <;> simp at h2 ⊢)).1
             omega)
         clear k3 H hA3
         simp only [])
      | (go_at_call 27; refine (CB.out _ H3.out).mono ?_; rintro e w4 ⟨rfl, H, g4⟩
         have H4 := Lib.hid H
         have K4 := Lib.hid (show Below w2.heap.size w2 w4 from K3.out.trans (grown_to g4 K3.out.size (Nat.le_refl _)))
         have B4 := Lib.hid (B2.out.trans (K4.out.mono B2.out.size))
         clear g4 H
         simp only [])
      | (at_builtin
         have KB : Hid (Below w4.heap.size w4 (w4.alloc (.cells #[.int .u8 77, .int .u8 78] 5))) := Lib.hid ((Below.refl _ _).alloc (Nat.le_refl _) _)
         have Y5 := Lib.hid (((YA.out _ (Y2.out.next K4.out))).next KB.out)
         refine wpList_append_grows _ (by rfl) (.tmp 66) (.tmp 67) 22 (by rfl) 5 i0 (.int .u8 0) 1 1 Try.underlying22 I0.out.1 I0.out.2.1 I0.out.2.2.1 I0.out.2.2.2 rfl (by omega) A3 k k (bcl (l.take k)) (by rfl) (fun h => ⟨NA.out h, NA.out h⟩) (by rw [bcl_len, List.length_take, HN.out]; omega) (fun b hb => by subst hb; exact Y5.out.cells) ⟨w4.heap.size, 0, none⟩ 2 2 (bcl [77, 78]) (by rfl) rfl ((By.new w4 [77, 78] _ rfl).cells) (bcl_one _) (by omega) (by simp only [maxLen]; omega) (by omega) ?_
         intro v' w5 o5 g5
         obtain ⟨A5, c5, rfl⟩ := own_form o5
         have K5 := Lib.hid (KB.out.trans ((show Below (w4.alloc (.cells #[.int .u8 77, .int .u8 78] 5)).heap.size _ w5 from ⟨g5.os, g5.tape, g5.output, g5.size, fun i hi => g5.block i hi (by simp)⟩).mono KB.out.size))
         have B5 := Lib.hid (B4.out.trans (K5.out.mono B4.out.size))
         have H5 := Lib.hid (H4.out.next K5.out)
         have Z5 := Lib.hid ((Y2.out.next K4.out).next K5.out)
         have X5 := Lib.hid (((HB.out.next B4.out)).next K5.out)
         clear o5 g5 Y5 KB)
      | (go_at_call 11; (with_reducible refine (bytes_n A2 a c2 c n n l l true _ HN.out HN.out Z5.out X5.out (by omega) TT).mono ?_); rintro e w6 ⟨rfl, k6⟩
         have H6 := Lib.hid (H5.out.next k6)
         have B6 := Lib.hid (B5.out.trans (k6.mono B5.out.size))
         clear k6
         simp only [])
      | (go_at_call 23; (with_reducible refine (err_any w2.heap.size _ _ 0 _ H6.out).mono ?_); rintro e w' ⟨rfl, rfl⟩; simp only [])
      | (go_at_call 17; refine (awake_yes _).mono ?_; rintro e w9 ⟨rfl, k9⟩
         have B9 := Lib.hid (B6.out.trans (k9.mono B6.out.size))
         clear k9
         simp only []))
    go_ret
    exact ⟨rfl, B9.out⟩
  rw [HN.out]
  exact go

theorem walk (x y : Int) (a : Option Addr) (c : Nat) (l : List UInt8) (n : Int) (w : World) (_ : in64 x) (_ : in64 y) (_ : l.length ≤ c) (_ : c ≤ maxLen) (hc : a = none → c = 0) (hb : By w a l) (_ : in64 n) :
    Calls Try.prog 8 #[.agg #[.int .i64 x, .int .i64 y], .slice a l.length c, .int .i64 n] w fun e w' => e = .returned (.bool true) ∧ Below w.heap.size w w' := by
  by_cases h : 60 < l.length ∨ n < 0 ∨ (l.length : Int) < n
  · exact walk_out x y n a c l w h
  · obtain ⟨k, rfl⟩ : ∃ k : Nat, n = (k : Int) := ⟨n.toNat, by omega⟩
    exact walk_few x y k a c l w (by omega) (by omega) hc hb
end wireNil
end Go.Proofs.Ytdepbhikkjfcjaa
