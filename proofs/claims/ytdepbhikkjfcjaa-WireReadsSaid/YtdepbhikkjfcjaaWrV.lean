/- The contracts of the cursor's Uint, Int, Fixed and Bytes; and of the law's own does; nothing but the cursor changes. -/
import Derived.Test.YtdepbhikkjfcjaaWrU
namespace Go.Proofs.Ytdepbhikkjfcjaa
open Go.RowKit Go.Shelf
attribute [local go_sem] Oper.semAt_some

/-- What a call answers at the bytes b: what is wrong (0: nothing), the number, how far it goes on. Kinds: 0 Uint, 1 Int, 2 Fixed of s. -/
def uE (b : List UInt8) : Nat := ftE (rdV b) (rdE b)
def uV (b : List UInt8) : Nat := ftV (rdV b) (rdE b) (rdV b)
def uN (b : List UInt8) : Nat := ftV (rdV b) (rdE b) (rdN b)
def xV (b : List UInt8) (s : Int) : Nat := byX b s (fv (b.take s.toNat))
def xE (b : List UInt8) (s : Int) : Nat := ftE (xV b s) (byE b s)
def xR (b : List UInt8) (s : Int) : Nat := ftV (xV b s) (byE b s) (xV b s)
def xN (b : List UInt8) (s : Int) : Nat := ftV (xV b s) (byE b s) (byX b s s.toNat)

theorem readU_is (a : Option Addr) (n c : Nat) (b : List UInt8) (w : World) (hn : b.length = n) (hc : n ≤ c) (hb : By w a b) (V N E : Nat) (hv : Hid (uV b = V ∧ uN b = N ∧ uE b = E)) :
    Calls Try.prog 38 #[.slice a n c] w fun e w' => e = .returned (.tuple #[.int .u64 (V : Int), .int .i64 (N : Int), .int .i64 (E : Int)]) ∧ Below w.heap.size w w' := by
  obtain ⟨V1, h1⟩ : ∃ V1, rdV b = V1 := ⟨_, rfl⟩
  obtain ⟨N1, h2⟩ : ∃ N1, rdN b = N1 := ⟨_, rfl⟩
  obtain ⟨E1, h3⟩ : ∃ E1, rdE b = E1 := ⟨_, rfl⟩
  have R := Lib.hid (inPieces_is a n c b w hn hc hb V1 N1 E1 (Lib.hid ⟨h1, h2, h3⟩))
  have F : Hid (ftV V1 E1 V1 = V ∧ ftV V1 E1 N1 = N ∧ ftE V1 E1 = E) := Lib.hid (by
    have h := hv.out
    rw [uV, uN, uE, h1, h2, h3] at h
    exact h)
  clear hv h1 h2 h3 hb hn
  go_enter Try.func38, Try.ntmps38
  go_wp2_with (first
    | (go_at_call 37; refine R.out.mono ?_; rintro x w1 ⟨rfl, k1⟩
       have K := Lib.hid k1
       clear k1
       simp only [])
    | (go_at_call 39; refine (fitting_any V1 N1 E1 V N E _ F).mono ?_; rintro x w2 ⟨rfl, rfl⟩; simp only []))
  go_ret3
  exact ⟨rfl, K.out⟩

theorem readF_is (a : Option Addr) (n c S : Nat) (s : Int) (b : List UInt8) (w : World) (hn : b.length = n) (hc : n ≤ c) (hb : By w a b) (hS : Go.Boxed w S 3 (.int .i64 s)) (V N E : Nat) (hv : Hid (xR b s = V ∧ xN b s = N ∧ xE b s = E)) :
    Calls Try.prog 40 #[.slice a n c, .pointer (some ⟨S, 0, none⟩)] w fun e w' => e = .returned (.tuple #[.int .u64 (V : Int), .int .i64 (N : Int), .int .i64 (E : Int)]) ∧ Below w.heap.size w w' := by
  obtain ⟨V1, h1⟩ : ∃ V1, xV b s = V1 := ⟨_, rfl⟩
  obtain ⟨N1, h2⟩ : ∃ N1, byX b s s.toNat = N1 := ⟨_, rfl⟩
  obtain ⟨E1, h3⟩ : ∃ E1, byE b s = E1 := ⟨_, rfl⟩
  have R := Lib.hid (inBytes_any a n c b s w hn hc hb V1 N1 E1 (Lib.hid ⟨h1, h2, h3⟩))
  have F : Hid (ftV V1 E1 V1 = V ∧ ftV V1 E1 N1 = N ∧ ftE V1 E1 = E) := Lib.hid (by
    have h := hv.out
    rw [xR, xN, xE, h1, h2, h3] at h
    exact h)
  have hc0 := hS.cell
  clear hv h1 h2 h3 hb hn hS
  go_enter Try.func40, Try.ntmps40
  go_wp2_with (first
    | (go_at_call 41; refine R.out.mono ?_; rintro x w1 ⟨rfl, k1⟩
       have K := Lib.hid k1
       clear k1 hc0
       simp only [])
    | (go_at_call 39; refine (fitting_any V1 N1 E1 V N E _ F).mono ?_; rintro x w2 ⟨rfl, rfl⟩; simp only []))
  go_ret3
  exact ⟨rfl, K.out⟩

theorem ft_cases (V E : Nat) : ftE V E = 0 → ¬ ftB V E ∧ E = 0 := by
  intro h
  unfold ftE at h
  split at h
  · omega
  · exact ⟨‹_›, h⟩
theorem uN_le (b : List UInt8) : uN b ≤ b.length := by
  have := rdN_le b
  unfold uN ftV; split <;> omega
theorem uV_lt (b : List UInt8) : uV b < 9223372036854775808 := by
  unfold uV ftV
  by_cases h : ftB (rdV b) (rdE b)
  · rw [if_pos h]; omega
  · rw [if_neg h]
    by_cases he : rdE b = 0
    · have : ¬ 9223372036854775807 < rdV b := fun h2 => h ⟨he, h2⟩
      omega
    · rw [rdV, if_neg he]; omega
theorem uE_ne {b : List UInt8} (h : uE b ≠ 0) : uV b = 0 ∧ uN b = 0 := by
  unfold uV uN ftV
  unfold uE ftE at h
  split
  · exact ⟨rfl, rfl⟩
  · rename_i h2
    rw [if_neg h2] at h
    rw [rdV, rdN, if_neg h, if_neg h]
    exact ⟨rfl, rfl⟩
theorem rdE_ne {b : List UInt8} (h : rdE b ≠ 0) : rdV b = 0 ∧ rdN b = 0 := by rw [rdV, rdN, if_neg h, if_neg h]; exact ⟨rfl, rfl⟩
theorem byE_ok {b : List UInt8} {s : Int} (h : byE b s = 0) : 1 ≤ s ∧ s ≤ 8 ∧ s ≤ b.length := by
  unfold byE at h
  by_cases h1 : ¬ (1 ≤ s ∧ s ≤ 8)
  · rw [if_pos h1] at h; omega
  · by_cases h2 : (b.length : Int) < s
    · rw [if_neg h1, if_pos h2] at h; omega
    · omega
theorem xN_le (b : List UInt8) (s : Int) : xN b s ≤ b.length := by
  unfold xN ftV
  by_cases h : ftB (xV b s) (byE b s)
  · rw [if_pos h]; omega
  · rw [if_neg h, byX]
    by_cases he : byE b s = 0
    · rw [if_pos he]; have := byE_ok he; omega
    · rw [if_neg he]; omega
theorem xR_lt (b : List UInt8) (s : Int) : xR b s < 9223372036854775808 := by
  unfold xR ftV
  by_cases h : ftB (xV b s) (byE b s)
  · rw [if_pos h]; omega
  · rw [if_neg h]
    by_cases he : byE b s = 0
    · have : ¬ 9223372036854775807 < xV b s := fun h2 => h ⟨he, h2⟩
      omega
    · rw [xV, byX, if_neg he]; omega
theorem xE_ne {b : List UInt8} {s : Int} (h : xE b s ≠ 0) : xR b s = 0 ∧ xN b s = 0 := by
  unfold xR xN ftV
  unfold xE ftE at h
  split
  · exact ⟨rfl, rfl⟩
  · rename_i h2
    rw [if_neg h2] at h
    rw [xV, byX, byX, if_neg h, if_neg h]
    exact ⟨rfl, rfl⟩

theorem By.dropN {w : World} {a : Option Addr} {b : List UInt8} {n c i : Nat} (h : By w a b) (hn : b.length = n) (hc : n ≤ c) : By w (sh a c i) (b.drop i) := h.drop (by omega)

theorem cU_is (B n c i : Nat) (a : Option Addr) (b : List UInt8) (w : World) (h : Cur B (.slice a n c) i 0 w) (hn : b.length = n) (hc : n ≤ c) (hi : i ≤ n) (hm : n ≤ 100000) (hb : By w a b) (V N E : Nat) (hv : Hid (uV (b.drop i) = V ∧ uN (b.drop i) = N ∧ uE (b.drop i) = E)) :
    Calls Try.prog 25 #[.pointer (some ⟨B, 0, none⟩)] w (Did B (.slice a n c) (i + N : Nat) E (.int .i64 (V : Int)) w) := by
  have hN := uN_le (b.drop i)
  have hV := uV_lt (b.drop i)
  have hne := @uE_ne (b.drop i)
  have hd : (b.drop i).length = n - i := by rw [List.length_drop, hn]
  have RD : ∀ W, Below w.heap.size w W → Calls Try.prog 38 #[.slice (sh a c i) (n - i) (c - i)] W fun e w' => e = .returned (.tuple #[.int .u64 (V : Int), .int .i64 (N : Int), .int .i64 (E : Int)]) ∧ Below W.heap.size W w' :=
    fun W k => readU_is _ _ _ (b.drop i) W hd (by omega) ((hb.next k).dropN hn hc) V N E hv
  rw [hv.out.1, hv.out.2.1, hv.out.2.2] at hne
  rw [hv.out.1] at hV
  rw [hv.out.2.1, hd] at hN
  have hw : IntKind.i64.wrap (V : Int) = (V : Int) := by rw [IntKind.wrap_i64]; omega
  have NB : Hid (Calls Try.prog 36 #[.pointer (some ⟨B, 0, none⟩), .func (.func 38) #[] #[]] w (Did B (.slice a n c) (i + N : Nat) E (.int .u64 (V : Int)) w)) := Lib.hid (by
    by_cases hE : E = 0
    · subst hE
      exact numberU_ok B n c i V N 0 a w h hi rfl (by omega) RD
    · obtain ⟨rfl, rfl⟩ := hne hE
      exact numberU_bad B n c i 0 0 E a w h hi hE RD)
  clear hv hN hV hne hd RD h hb hn hc hi hm
  go_enter Try.func25, Try.ntmps25
  go_wp2_with (go_at_call 36; refine NB.out.mono ?_; rintro x w1 ⟨rfl, h1, g1⟩)
  go_ret
  exact ⟨rfl, h1, g1⟩

theorem cI_is (B n c i : Nat) (a : Option Addr) (b : List UInt8) (w : World) (h : Cur B (.slice a n c) i 0 w) (hn : b.length = n) (hc : n ≤ c) (hi : i ≤ n) (hm : n ≤ 100000) (hb : By w a b) (V N E : Nat) (r : Int) (hv : Hid (rdV (b.drop i) = V ∧ rdN (b.drop i) = N ∧ rdE (b.drop i) = E)) (hr : Hid (tb V = r)) :
    Calls Try.prog 24 #[.pointer (some ⟨B, 0, none⟩)] w (Did B (.slice a n c) (i + N : Nat) E (.int .i64 r) w) := by
  have hN := rdN_le (b.drop i)
  have hV := rdV_lt (b.drop i)
  have hne := @rdE_ne (b.drop i)
  have hd : (b.drop i).length = n - i := by rw [List.length_drop, hn]
  have RD : ∀ W, Below w.heap.size w W → Calls Try.prog 37 #[.slice (sh a c i) (n - i) (c - i)] W fun e w' => e = .returned (.tuple #[.int .u64 (V : Int), .int .i64 (N : Int), .int .i64 (E : Int)]) ∧ Below W.heap.size W w' :=
    fun W k => inPieces_is _ _ _ (b.drop i) W hd (by omega) ((hb.next k).dropN hn hc) V N E hv
  rw [hv.out.1, hv.out.2.1, hv.out.2.2] at hne
  rw [hv.out.1] at hV
  rw [hv.out.2.1, hd] at hN
  have NB : Hid (Calls Try.prog 36 #[.pointer (some ⟨B, 0, none⟩), .func (.func 37) #[] #[]] w (Did B (.slice a n c) (i + N : Nat) E (.int .u64 (V : Int)) w)) := Lib.hid (by
    by_cases hE : E = 0
    · subst hE
      exact numberI_ok B n c i V N 0 a w h hi rfl (by omega) RD
    · obtain ⟨rfl, rfl⟩ := hne hE
      exact numberI_bad B n c i 0 0 E a w h hi hE RD)
  have HV := Lib.hid hV
  clear hv hN hV hne hd RD h hb hn hc hi hm
  go_enter Try.func24, Try.ntmps24
  go_wp2_with (first
    | (go_at_call 36; refine NB.out.mono ?_; rintro x w1 ⟨rfl, h1, g1⟩)
    | (go_at_call 35; refine (turnedBack_any V r _ HV.out hr).mono ?_; rintro x w2 ⟨rfl, rfl⟩))
  go_ret
  exact ⟨rfl, h1, g1⟩

theorem cF_is (B n c i : Nat) (a : Option Addr) (b : List UInt8) (s : Int) (w : World) (h : Cur B (.slice a n c) i 0 w) (hn : b.length = n) (hc : n ≤ c) (hi : i ≤ n) (hm : n ≤ 100000) (hb : By w a b) (V N E : Nat) (hv : Hid (xR (b.drop i) s = V ∧ xN (b.drop i) s = N ∧ xE (b.drop i) s = E)) :
    Calls Try.prog 26 #[.pointer (some ⟨B, 0, none⟩), .int .i64 s] w (Did B (.slice a n c) (i + N : Nat) E (.int .i64 (V : Int)) w) := by
  have hN := xN_le (b.drop i) s
  have hV := xR_lt (b.drop i) s
  have hne := @xE_ne (b.drop i) s
  have hd : (b.drop i).length = n - i := by rw [List.length_drop, hn]
  obtain ⟨w0, hw0⟩ : ∃ w0, w.alloc (.cells #[.int .i64 s] 3) = w0 := ⟨_, rfl⟩
  have k0 : Below w.heap.size w w0 := by rw [← hw0]; exact (Below.refl _ w).alloc (Nat.le_refl _) _
  have hS : Go.Boxed w0 w.heap.size 3 (.int .i64 s) := by rw [← hw0]; exact Go.Boxed.new w _ _
  have hb0 := hb.next k0
  have RD : ∀ W, Below w0.heap.size w0 W → Calls Try.prog 40 #[.slice (sh a c i) (n - i) (c - i), .pointer (some ⟨w.heap.size, 0, none⟩)] W fun e w' => e = .returned (.tuple #[.int .u64 (V : Int), .int .i64 (N : Int), .int .i64 (E : Int)]) ∧ Below W.heap.size W w' :=
    fun W k => readF_is _ _ _ w.heap.size s (b.drop i) W hd (by omega) ((hb0.next k).dropN hn hc) ((k.block _ hS.lt).trans hS) V N E hv
  rw [hv.out.1, hv.out.2.1, hv.out.2.2] at hne
  rw [hv.out.1] at hV
  rw [hv.out.2.1, hd] at hN
  have hw : IntKind.i64.wrap (V : Int) = (V : Int) := by rw [IntKind.wrap_i64]; omega
  have h0 := h.next k0
  have NB : Hid (Calls Try.prog 36 #[.pointer (some ⟨B, 0, none⟩), .func (.func 40) #[] #[.pointer (some ⟨w.heap.size, 0, none⟩)]] w0 (Did B (.slice a n c) (i + N : Nat) E (.int .u64 (V : Int)) w0)) := Lib.hid (by
    by_cases hE : E = 0
    · subst hE
      exact numberF_ok B w.heap.size n c i V N 0 a w0 h0 hi rfl (by omega) RD
    · obtain ⟨rfl, rfl⟩ := hne hE
      exact numberF_bad B w.heap.size n c i 0 0 E a w0 h0 hi hE RD)
  have K0 := Lib.hid k0
  have hmf : ∀ (fn : Fn) (first cap : Array Value) (w : World), (Instr.makeFunc fn first cap).run Try.prog w = .ok (.func fn first cap) w := fun _ _ _ _ => rfl
  rw [← hw0] at NB K0
  clear hv hN hV hne hd RD h hb hn hc hi hm hw0 k0 hS hb0 h0
  go_enter Try.func26, Try.ntmps26
  go_wp2_with (go_at_call 36; refine NB.out.mono ?_; rintro x w1 ⟨rfl, h1, g1⟩)
  go_ret
  exact ⟨rfl, h1, grown_trans (grown_below K0.out _) g1⟩
end Go.Proofs.Ytdepbhikkjfcjaa
