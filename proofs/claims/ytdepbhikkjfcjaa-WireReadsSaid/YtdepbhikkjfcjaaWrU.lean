/- The contracts of the cursor's reading calls: Uint, Int, Fixed, Bytes: the answer, and the cursor behind it; nothing else that was in memory changes. -/
import Derived.Deep.RegionWith
import Derived.Deep.RegionHeld3
import Derived.Test.YtdepbhikkjfcjaaWrT
namespace Go.Proofs.Ytdepbhikkjfcjaa
open Go.RowKit Go.Shelf
attribute [local go_sem] Oper.semAt_some

theorem grown_cell (W : World) (B j : Nat) (v : Value) : W.grownBy (W.setCell ⟨B, j, none⟩ v) (some B) :=
  ⟨rfl, rfl, rfl, (KeepsWalks.setCell W _ v).size, fun k _ hk => Below.heap_setCell _ _ _ k (fun e => hk (by rw [e]))⟩

/-- number, where something is wrong already. -/
theorem number_err (B : Nat) (v : Value) (i e : Int) (r : Value) (w : World) (h : Cur B v i e w) (he : e ≠ 0) :
    Calls Try.prog 36 #[.pointer (some ⟨B, 0, none⟩), r] w fun x w' => x = .returned (.int .u64 0) ∧ w' = w := by
  have H := Lib.hid h
  have h0 : (e != 0) = true := by simp [he]
  clear h he
  go_enter Try.func36, Try.ntmps36
  go_wp2_with (go_at_call 23; refine (err_any B v i e _ H.out).mono ?_; rintro x w' ⟨rfl, rfl⟩)
  go_ret
  exact ⟨rfl, rfl⟩
theorem number_nil (r : Value) (w : World) :
    Calls Try.prog 36 #[.pointer none, r] w fun x w' => x = .returned (.int .u64 0) ∧ w' = w := by
  go_enter Try.func36, Try.ntmps36
  go_wp2_with (go_at_call 23; refine (err_nil _).mono ?_; rintro x w' ⟨rfl, rfl⟩)
  go_ret
  exact ⟨rfl, rfl⟩

set_option maxRecDepth 20000 in
set_option maxHeartbeats 2000000 in
theorem numberI_bad (B n c i V N E : Nat) (a : Option Addr) (w : World) (h : Cur B (.slice a n c) i 0 w) (hi : i ≤ n) (hE : E ≠ 0)
    (hr : ∀ W, Below w.heap.size w W → Calls Try.prog 37 #[.slice (sh a c i) (n - i) (c - i)] W fun e w' => e = .returned (.tuple #[.int .u64 (V : Int), .int .i64 (N : Int), .int .i64 (E : Int)]) ∧ Below W.heap.size W w') :
    Calls Try.prog 36 #[.pointer (some ⟨B, 0, none⟩), .func (.func 37) #[] #[]] w (Did B (.slice a n c) i E (.int .u64 0) w) := by
  have H := Lib.hid h
  have c0 := h.c0
  have c1 := h.c1
  have lt := h.lt
  have hd := drop_run a n c i hi
  have HR := Lib.hid hr
  have hE2 : ((E : Int) != 0) = true := by simp; omega
  obtain ⟨A, hA⟩ : ∃ A, sh a c i = A := ⟨_, rfl⟩
  obtain ⟨n1, hn1⟩ : ∃ n1, n - i = n1 := ⟨_, rfl⟩
  obtain ⟨c1', hc1⟩ : ∃ c1', c - i = c1' := ⟨_, rfl⟩
  rw [hA, hn1, hc1] at hd HR
  clear h hr hE hA hn1 hc1 hi
  go_enter Try.func36, Try.ntmps36
  go_wp2_with (go_at_call 23; refine (err_any B _ i 0 _ H.out).mono ?_; rintro x w' ⟨rfl, rfl⟩)
  go_region_with (go_at_call 37; refine (HR.out _ (Below.refl _ _).drew).mono ?_; rintro x w1 ⟨rfl, k1⟩; simp only [])
  all_goals
    have K := Lib.hid (show Below w'.heap.size w' w1 from (Below.refl _ _).drew.trans k1)
    have H1 := Lib.hid (H.out.next K.out)
    have d1 := H1.out.c1
    have lt1 := H1.out.lt
    have d2 := H1.out.c2
    have f1 := H1.out.fz 1
    have f2 := H1.out.fz 2
    clear k1 hd c0 c1
    go_wp2
    go_ret
    refine ⟨rfl, H1.out.set2 _, grown_trans (grown_below K.out _) (grown_cell _ _ _ _)⟩
set_option maxRecDepth 20000 in
set_option maxHeartbeats 2000000 in
theorem numberI_ok (B n c i V N E : Nat) (a : Option Addr) (w : World) (h : Cur B (.slice a n c) i 0 w) (hi : i ≤ n) (hE : E = 0) (hN : i + N ≤ 9223372036854775807)
    (hr : ∀ W, Below w.heap.size w W → Calls Try.prog 37 #[.slice (sh a c i) (n - i) (c - i)] W fun e w' => e = .returned (.tuple #[.int .u64 (V : Int), .int .i64 (N : Int), .int .i64 (E : Int)]) ∧ Below W.heap.size W w') :
    Calls Try.prog 36 #[.pointer (some ⟨B, 0, none⟩), .func (.func 37) #[] #[]] w (Did B (.slice a n c) (i + N : Nat) 0 (.int .u64 (V : Int)) w) := by
  have H := Lib.hid h
  have c0 := h.c0
  have c1 := h.c1
  have lt := h.lt
  have hd := drop_run a n c i hi
  have HR := Lib.hid hr
  have hE2 : ((E : Int) != 0) = false := by simp; omega
  have hw : wrap64 ((i : Int) + (N : Int)) = ((i + N : Nat) : Int) := by unfold wrap64; omega
  obtain ⟨A, hA⟩ : ∃ A, sh a c i = A := ⟨_, rfl⟩
  obtain ⟨n1, hn1⟩ : ∃ n1, n - i = n1 := ⟨_, rfl⟩
  obtain ⟨c1', hc1⟩ : ∃ c1', c - i = c1' := ⟨_, rfl⟩
  rw [hA, hn1, hc1] at hd HR
  clear h hr hE hA hn1 hc1 hi
  go_enter Try.func36, Try.ntmps36
  go_wp2_with (go_at_call 23; refine (err_any B _ i 0 _ H.out).mono ?_; rintro x w' ⟨rfl, rfl⟩)
  go_region_with (go_at_call 37; refine (HR.out _ (Below.refl _ _).drew).mono ?_; rintro x w1 ⟨rfl, k1⟩; simp only [])
  all_goals
    have K := Lib.hid (show Below w'.heap.size w' w1 from (Below.refl _ _).drew.trans k1)
    have H1 := Lib.hid (H.out.next K.out)
    have d1 := H1.out.c1
    have lt1 := H1.out.lt
    have d2 := H1.out.c2
    have f1 := H1.out.fz 1
    have f2 := H1.out.fz 2
    clear k1 hd c0 c1
    go_wp2
    go_ret
    refine ⟨rfl, by have := H1.out.set1 ((i + N : Nat) : Int); rwa [Int.natCast_add] at this ⊢, grown_trans (grown_below K.out _) (grown_cell _ _ _ _)⟩
set_option maxRecDepth 20000 in
set_option maxHeartbeats 2000000 in
theorem numberU_bad (B n c i V N E : Nat) (a : Option Addr) (w : World) (h : Cur B (.slice a n c) i 0 w) (hi : i ≤ n) (hE : E ≠ 0)
    (hr : ∀ W, Below w.heap.size w W → Calls Try.prog 38 #[.slice (sh a c i) (n - i) (c - i)] W fun e w' => e = .returned (.tuple #[.int .u64 (V : Int), .int .i64 (N : Int), .int .i64 (E : Int)]) ∧ Below W.heap.size W w') :
    Calls Try.prog 36 #[.pointer (some ⟨B, 0, none⟩), .func (.func 38) #[] #[]] w (Did B (.slice a n c) i E (.int .u64 0) w) := by
  have H := Lib.hid h
  have c0 := h.c0
  have c1 := h.c1
  have lt := h.lt
  have hd := drop_run a n c i hi
  have HR := Lib.hid hr
  have hE2 : ((E : Int) != 0) = true := by simp; omega
  obtain ⟨A, hA⟩ : ∃ A, sh a c i = A := ⟨_, rfl⟩
  obtain ⟨n1, hn1⟩ : ∃ n1, n - i = n1 := ⟨_, rfl⟩
  obtain ⟨c1', hc1⟩ : ∃ c1', c - i = c1' := ⟨_, rfl⟩
  rw [hA, hn1, hc1] at hd HR
  clear h hr hE hA hn1 hc1 hi
  go_enter Try.func36, Try.ntmps36
  go_wp2_with (go_at_call 23; refine (err_any B _ i 0 _ H.out).mono ?_; rintro x w' ⟨rfl, rfl⟩)
  go_region_with (go_at_call 38; refine (HR.out _ (Below.refl _ _).drew).mono ?_; rintro x w1 ⟨rfl, k1⟩; simp only [])
  all_goals
    have K := Lib.hid (show Below w'.heap.size w' w1 from (Below.refl _ _).drew.trans k1)
    have H1 := Lib.hid (H.out.next K.out)
    have d1 := H1.out.c1
    have lt1 := H1.out.lt
    have d2 := H1.out.c2
    have f1 := H1.out.fz 1
    have f2 := H1.out.fz 2
    clear k1 hd c0 c1
    go_wp2
    go_ret
    refine ⟨rfl, H1.out.set2 _, grown_trans (grown_below K.out _) (grown_cell _ _ _ _)⟩
set_option maxRecDepth 20000 in
set_option maxHeartbeats 2000000 in
theorem numberU_ok (B n c i V N E : Nat) (a : Option Addr) (w : World) (h : Cur B (.slice a n c) i 0 w) (hi : i ≤ n) (hE : E = 0) (hN : i + N ≤ 9223372036854775807)
    (hr : ∀ W, Below w.heap.size w W → Calls Try.prog 38 #[.slice (sh a c i) (n - i) (c - i)] W fun e w' => e = .returned (.tuple #[.int .u64 (V : Int), .int .i64 (N : Int), .int .i64 (E : Int)]) ∧ Below W.heap.size W w') :
    Calls Try.prog 36 #[.pointer (some ⟨B, 0, none⟩), .func (.func 38) #[] #[]] w (Did B (.slice a n c) (i + N : Nat) 0 (.int .u64 (V : Int)) w) := by
  have H := Lib.hid h
  have c0 := h.c0
  have c1 := h.c1
  have lt := h.lt
  have hd := drop_run a n c i hi
  have HR := Lib.hid hr
  have hE2 : ((E : Int) != 0) = false := by simp; omega
  have hw : wrap64 ((i : Int) + (N : Int)) = ((i + N : Nat) : Int) := by unfold wrap64; omega
  obtain ⟨A, hA⟩ : ∃ A, sh a c i = A := ⟨_, rfl⟩
  obtain ⟨n1, hn1⟩ : ∃ n1, n - i = n1 := ⟨_, rfl⟩
  obtain ⟨c1', hc1⟩ : ∃ c1', c - i = c1' := ⟨_, rfl⟩
  rw [hA, hn1, hc1] at hd HR
  clear h hr hE hA hn1 hc1 hi
  go_enter Try.func36, Try.ntmps36
  go_wp2_with (go_at_call 23; refine (err_any B _ i 0 _ H.out).mono ?_; rintro x w' ⟨rfl, rfl⟩)
  go_region_with (go_at_call 38; refine (HR.out _ (Below.refl _ _).drew).mono ?_; rintro x w1 ⟨rfl, k1⟩; simp only [])
  all_goals
    have K := Lib.hid (show Below w'.heap.size w' w1 from (Below.refl _ _).drew.trans k1)
    have H1 := Lib.hid (H.out.next K.out)
    have d1 := H1.out.c1
    have lt1 := H1.out.lt
    have d2 := H1.out.c2
    have f1 := H1.out.fz 1
    have f2 := H1.out.fz 2
    clear k1 hd c0 c1
    go_wp2
    go_ret
    refine ⟨rfl, by have := H1.out.set1 ((i + N : Nat) : Int); rwa [Int.natCast_add] at this ⊢, grown_trans (grown_below K.out _) (grown_cell _ _ _ _)⟩
set_option maxRecDepth 20000 in
set_option maxHeartbeats 2000000 in
theorem numberF_bad (B S n c i V N E : Nat) (a : Option Addr) (w : World) (h : Cur B (.slice a n c) i 0 w) (hi : i ≤ n) (hE : E ≠ 0)
    (hr : ∀ W, Below w.heap.size w W → Calls Try.prog 40 #[.slice (sh a c i) (n - i) (c - i), .pointer (some ⟨S, 0, none⟩)] W fun e w' => e = .returned (.tuple #[.int .u64 (V : Int), .int .i64 (N : Int), .int .i64 (E : Int)]) ∧ Below W.heap.size W w') :
    Calls Try.prog 36 #[.pointer (some ⟨B, 0, none⟩), .func (.func 40) #[] #[.pointer (some ⟨S, 0, none⟩)]] w (Did B (.slice a n c) i E (.int .u64 0) w) := by
  have H := Lib.hid h
  have c0 := h.c0
  have c1 := h.c1
  have lt := h.lt
  have hd := drop_run a n c i hi
  have HR := Lib.hid hr
  have hE2 : ((E : Int) != 0) = true := by simp; omega
  obtain ⟨A, hA⟩ : ∃ A, sh a c i = A := ⟨_, rfl⟩
  obtain ⟨n1, hn1⟩ : ∃ n1, n - i = n1 := ⟨_, rfl⟩
  obtain ⟨c1', hc1⟩ : ∃ c1', c - i = c1' := ⟨_, rfl⟩
  rw [hA, hn1, hc1] at hd HR
  clear h hr hE hA hn1 hc1 hi
  go_enter Try.func36, Try.ntmps36
  go_wp2_with (go_at_call 23; refine (err_any B _ i 0 _ H.out).mono ?_; rintro x w' ⟨rfl, rfl⟩)
  go_region_with (go_at_call 40; refine (HR.out _ (Below.refl _ _).drew).mono ?_; rintro x w1 ⟨rfl, k1⟩; simp only [])
  all_goals
    have K := Lib.hid (show Below w'.heap.size w' w1 from (Below.refl _ _).drew.trans k1)
    have H1 := Lib.hid (H.out.next K.out)
    have d1 := H1.out.c1
    have lt1 := H1.out.lt
    have d2 := H1.out.c2
    have f1 := H1.out.fz 1
    have f2 := H1.out.fz 2
    clear k1 hd c0 c1
    go_wp2
    go_ret
    refine ⟨rfl, H1.out.set2 _, grown_trans (grown_below K.out _) (grown_cell _ _ _ _)⟩
set_option maxRecDepth 20000 in
set_option maxHeartbeats 2000000 in
theorem numberF_ok (B S n c i V N E : Nat) (a : Option Addr) (w : World) (h : Cur B (.slice a n c) i 0 w) (hi : i ≤ n) (hE : E = 0) (hN : i + N ≤ 9223372036854775807)
    (hr : ∀ W, Below w.heap.size w W → Calls Try.prog 40 #[.slice (sh a c i) (n - i) (c - i), .pointer (some ⟨S, 0, none⟩)] W fun e w' => e = .returned (.tuple #[.int .u64 (V : Int), .int .i64 (N : Int), .int .i64 (E : Int)]) ∧ Below W.heap.size W w') :
    Calls Try.prog 36 #[.pointer (some ⟨B, 0, none⟩), .func (.func 40) #[] #[.pointer (some ⟨S, 0, none⟩)]] w (Did B (.slice a n c) (i + N : Nat) 0 (.int .u64 (V : Int)) w) := by
  have H := Lib.hid h
  have c0 := h.c0
  have c1 := h.c1
  have lt := h.lt
  have hd := drop_run a n c i hi
  have HR := Lib.hid hr
  have hE2 : ((E : Int) != 0) = false := by simp; omega
  have hw : wrap64 ((i : Int) + (N : Int)) = ((i + N : Nat) : Int) := by unfold wrap64; omega
  obtain ⟨A, hA⟩ : ∃ A, sh a c i = A := ⟨_, rfl⟩
  obtain ⟨n1, hn1⟩ : ∃ n1, n - i = n1 := ⟨_, rfl⟩
  obtain ⟨c1', hc1⟩ : ∃ c1', c - i = c1' := ⟨_, rfl⟩
  rw [hA, hn1, hc1] at hd HR
  clear h hr hE hA hn1 hc1 hi
  go_enter Try.func36, Try.ntmps36
  go_wp2_with (go_at_call 23; refine (err_any B _ i 0 _ H.out).mono ?_; rintro x w' ⟨rfl, rfl⟩)
  go_region_with (go_at_call 40; refine (HR.out _ (Below.refl _ _).drew).mono ?_; rintro x w1 ⟨rfl, k1⟩; simp only [])
  all_goals
    have K := Lib.hid (show Below w'.heap.size w' w1 from (Below.refl _ _).drew.trans k1)
    have H1 := Lib.hid (H.out.next K.out)
    have d1 := H1.out.c1
    have lt1 := H1.out.lt
    have d2 := H1.out.c2
    have f1 := H1.out.fz 1
    have f2 := H1.out.fz 2
    clear k1 hd c0 c1
    go_wp2
    go_ret
    refine ⟨rfl, by have := H1.out.set1 ((i + N : Nat) : Int); rwa [Int.natCast_add] at this ⊢, grown_trans (grown_below K.out _) (grown_cell _ _ _ _)⟩
end Go.Proofs.Ytdepbhikkjfcjaa
