/- The contract of the cursor's Bytes, and of the law's own does at a cursor and at none; nothing but the cursor changes. -/
import Derived.Test.YtdepbhikkjfcjaaWrV
namespace Go.Proofs.Ytdepbhikkjfcjaa
open Go.RowKit Go.Shelf
attribute [local go_sem] Oper.semAt_some

theorem slice3_run (a : Option Addr) (n c i j : Nat) (h1 : i ≤ j) (h2 : j ≤ c) (W : World) : (Instr.slice 22 (.slice a n c) (some (.int .i64 (i : Int))) (some (.int .i64 (j : Int))) (some (.int .i64 (j : Int)))).run Try.prog W = .ok (.slice (sh a j i) (j - i) (j - i)) W := by
  have e : Try.prog.elem 22 = 5 := by kernel_rfl
  have hs : (sizeOf 5).run Try.prog W = .ok 1 W := by kernel_rfl
  rw [run_slice_lhm W 22 a n c (by rw [e]; exact Try.underlying22) .i64 .i64 .i64 i j j (by omega) (by omega) (by omega) (by omega), e, hs]
  simp [Result.andThen, sliced, sh]
theorem By.part {w : World} {a : Option Addr} {b : List UInt8} {i k : Nat} (h : By w a b) (hk : i + k ≤ b.length) : By w (sh a (i + k) i) ((b.drop i).take k) := by
  rcases Nat.eq_zero_or_pos k with rfl | h0
  · rw [List.take_zero]; exact By.nil _ _
  · have := (h.drop (c := b.length) (k := i) (Nat.le_refl _)).take k
    have e : sh a (i + k) i = sh a b.length i := by unfold sh; rw [if_neg (by omega), if_neg (by omega)]
    rw [e]; exact this

set_option maxRecDepth 20000 in
set_option maxHeartbeats 1000000 in
theorem cB_ok (B n c i k : Nat) (a : Option Addr) (w : World) (h : Cur B (.slice a n c) i 0 w) (hc : n ≤ c) (hi : i + k ≤ n) (hm : n ≤ 100000) :
    Calls Try.prog 27 #[.pointer (some ⟨B, 0, none⟩), .int .i64 (k : Int)] w (Did B (.slice a n c) (i + k : Nat) 0 (.slice (sh a (i + k) i) k k) w) := by
  have H := Lib.hid h
  have s3 := slice3_run a n c i (i + k) (by omega) (by omega)
  rw [Nat.add_sub_cancel_left] at s3
  obtain ⟨A, hA⟩ : ∃ A, sh a (i + k) i = A := ⟨_, rfl⟩
  obtain ⟨j, hj⟩ : ∃ j, i + k = j := ⟨_, rfl⟩
  rw [hA, hj] at s3
  rw [hA, hj]
  have hw : (i : Int) + (k : Int) = (j : Int) := by omega
  have hjb : j ≤ 100000 := by omega
  have hib : i ≤ 100000 := by omega
  have hkb : k ≤ 100000 := by omega
  have hk : ¬ ((k : Int) > ((n - i : Nat) : Int)) := by omega
  have LF : Hid (∀ W, Cur B (.slice a n c) i 0 W → Calls Try.prog 22 #[.pointer (some ⟨B, 0, none⟩)] W fun x w' => x = .returned (.int .i64 ((n - i : Nat) : Int)) ∧ Below W.heap.size W w') := Lib.hid fun W h => left_any B a n c i 0 W h (by omega) (by simp only [maxLen]; omega)
  obtain ⟨m, hmm⟩ : ∃ m, n - i = m := ⟨_, rfl⟩
  rw [hmm] at hk LF
  clear h hA hj hmm hi hc hm
  go_enter Try.func27, Try.ntmps27
  go_wp2_with (first
    | (go_at_call 23; refine (err_any B _ i 0 _ H.out).mono ?_; rintro x w' ⟨rfl, rfl⟩)
    | (go_at_call 22; refine (LF.out _ H.out).mono ?_; rintro x w1 ⟨rfl, k1⟩
       have K := Lib.hid k1
       have H1 := Lib.hid (H.out.next k1)
       have d0 := H1.out.c0
       have d1 := H1.out.c1
       have lt1 := H1.out.lt
       have f1 := H1.out.fz 1
       clear k1))
  obtain ⟨w2, hw2⟩ : ∃ w2, w1.setCell ⟨B, 1, none⟩ (.int .i64 (j : Int)) = w2 := ⟨_, rfl⟩
  have H2 : Hid (Cur B (.slice a n c) (j : Int) 0 w2) := Lib.hid (by rw [← hw2]; exact H1.out.set1 _)
  have G2 : Hid (w1.grownBy w2 (some B)) := Lib.hid (by rw [← hw2]; exact grown_cell _ _ _ _)
  have e0 := H2.out.c0
  have e1 := H2.out.c1
  rw [hw2]
  clear d0 d1 lt1 f1 hw hw2
  go_region
  all_goals
    go_wp2
    go_ret
    exact ⟨rfl, H2.out.next (Below.refl _ _).drew, grown_trans (grown_trans (grown_below K.out _) G2.out) (grown_below (Below.refl _ _).drew _)⟩

theorem cB_neg (B : Nat) (v : Value) (i s : Int) (w : World) (h : Cur B v i 0 w) (hs : s < 0) :
    Calls Try.prog 27 #[.pointer (some ⟨B, 0, none⟩), .int .i64 s] w (Did B v i 1 (.slice none 0 0) w) := by
  have H := Lib.hid h
  have d2 := h.c2
  have lt1 := h.lt
  have f2 := h.fz 2
  clear h
  go_enter Try.func27, Try.ntmps27
  go_wp2_with (go_at_call 23; refine (err_any B _ i 0 _ H.out).mono ?_; rintro x w' ⟨rfl, rfl⟩)
  go_ret
  exact ⟨rfl, H.out.set2 _, grown_cell _ _ _ _⟩
theorem cB_end (B n c i k : Nat) (a : Option Addr) (w : World) (h : Cur B (.slice a n c) i 0 w) (hi : i ≤ n) (hm : n ≤ 100000) (hk : n - i < k) :
    Calls Try.prog 27 #[.pointer (some ⟨B, 0, none⟩), .int .i64 (k : Int)] w (Did B (.slice a n c) i 20 (.slice none 0 0) w) := by
  have H := Lib.hid h
  have hk2 : (k : Int) > ((n - i : Nat) : Int) := by omega
  have LF : Hid (∀ W, Cur B (.slice a n c) i 0 W → Calls Try.prog 22 #[.pointer (some ⟨B, 0, none⟩)] W fun x w' => x = .returned (.int .i64 ((n - i : Nat) : Int)) ∧ Below W.heap.size W w') := Lib.hid fun W h => left_any B a n c i 0 W h hi (by simp only [maxLen]; omega)
  obtain ⟨m, hmm⟩ : ∃ m, n - i = m := ⟨_, rfl⟩
  rw [hmm] at hk2 LF
  clear h hmm hi hm hk
  go_enter Try.func27, Try.ntmps27
  go_wp2_with (first
    | (go_at_call 23; refine (err_any B _ i 0 _ H.out).mono ?_; rintro x w' ⟨rfl, rfl⟩)
    | (go_at_call 22; refine (LF.out _ H.out).mono ?_; rintro x w1 ⟨rfl, k1⟩
       have K := Lib.hid k1
       have H1 := Lib.hid (H.out.next k1)
       have d2 := H1.out.c2
       have lt1 := H1.out.lt
       have f2 := H1.out.fz 2
       clear k1))
  go_ret
  exact ⟨rfl, H1.out.set2 _, grown_trans (grown_below K.out _) (grown_cell _ _ _ _)⟩
theorem cB_err (B : Nat) (v : Value) (i e s : Int) (w : World) (h : Cur B v i e w) (he : e ≠ 0) :
    Calls Try.prog 27 #[.pointer (some ⟨B, 0, none⟩), .int .i64 s] w fun x w' => x = .returned (.slice none 0 0) ∧ w' = w := by
  have H := Lib.hid h
  have h0 : (e != 0) = true := by simp [he]
  clear h he
  go_enter Try.func27, Try.ntmps27
  go_wp2_with (go_at_call 23; refine (err_any B v i e _ H.out).mono ?_; rintro x w' ⟨rfl, rfl⟩)
  go_ret
  exact ⟨rfl, rfl⟩
theorem cB_nil (s : Int) (w : World) :
    Calls Try.prog 27 #[.pointer none, .int .i64 s] w fun x w' => x = .returned (.slice none 0 0) ∧ w' = w := by
  go_enter Try.func27, Try.ntmps27
  go_wp2_with (go_at_call 23; refine (err_nil _).mono ?_; rintro x w' ⟨rfl, rfl⟩)
  go_ret
  exact ⟨rfl, rfl⟩

set_option maxRecDepth 20000 in
theorem does0 (p : Value) (y : Int) (r : Value) (P : World → World → Prop) (w : World) (M : ∀ W, Below w.heap.size w W → Calls Try.prog 25 #[p] W fun x w' => x = .returned r ∧ P W w') (hr : ∃ z, r = .int .i64 z) :
    Calls Try.prog 19 #[p, .agg #[.int .i64 0, .int .i64 y]] w fun x w' => x = .returned (.tuple #[r, .slice none 0 0]) ∧ ∃ W, Below w.heap.size w W ∧ P W w' := by
  have HM := Lib.hid M
  obtain ⟨z, rfl⟩ := hr
  clear M
  go_enter Try.func19, Try.ntmps19
  go_wp2_with (go_at_call 25; refine (HM.out _ ((Below.refl _ _).alloc (Nat.le_refl _) _)).mono ?_; rintro x w1 ⟨rfl, hP⟩)
  go_ret2
  exact ⟨rfl, _, (Below.refl _ _).alloc (Nat.le_refl _) _, hP⟩

set_option maxRecDepth 20000 in
theorem does1 (p : Value) (y : Int) (r : Value) (P : World → World → Prop) (w : World) (M : ∀ W, Below w.heap.size w W → Calls Try.prog 24 #[p] W fun x w' => x = .returned r ∧ P W w') (hr : ∃ z, r = .int .i64 z) :
    Calls Try.prog 19 #[p, .agg #[.int .i64 1, .int .i64 y]] w fun x w' => x = .returned (.tuple #[r, .slice none 0 0]) ∧ ∃ W, Below w.heap.size w W ∧ P W w' := by
  have HM := Lib.hid M
  obtain ⟨z, rfl⟩ := hr
  clear M
  go_enter Try.func19, Try.ntmps19
  go_wp2_with (go_at_call 24; refine (HM.out _ ((Below.refl _ _).alloc (Nat.le_refl _) _)).mono ?_; rintro x w1 ⟨rfl, hP⟩)
  go_ret2
  exact ⟨rfl, _, (Below.refl _ _).alloc (Nat.le_refl _) _, hP⟩

set_option maxRecDepth 20000 in
theorem does2 (p : Value) (y : Int) (r : Value) (P : World → World → Prop) (w : World) (M : ∀ W, Below w.heap.size w W → Calls Try.prog 26 #[p, .int .i64 y] W fun x w' => x = .returned r ∧ P W w') (hr : ∃ z, r = .int .i64 z) :
    Calls Try.prog 19 #[p, .agg #[.int .i64 2, .int .i64 y]] w fun x w' => x = .returned (.tuple #[r, .slice none 0 0]) ∧ ∃ W, Below w.heap.size w W ∧ P W w' := by
  have HM := Lib.hid M
  obtain ⟨z, rfl⟩ := hr
  clear M
  go_enter Try.func19, Try.ntmps19
  go_wp2_with (go_at_call 26; refine (HM.out _ ((Below.refl _ _).alloc (Nat.le_refl _) _)).mono ?_; rintro x w1 ⟨rfl, hP⟩)
  go_ret2
  exact ⟨rfl, _, (Below.refl _ _).alloc (Nat.le_refl _) _, hP⟩

set_option maxRecDepth 20000 in
theorem does3 (p : Value) (x y : Int) (r : Value) (P : World → World → Prop) (w : World) (h0 : x ≠ 0) (h1 : x ≠ 1) (h2 : x ≠ 2) (M : ∀ W, Below w.heap.size w W → Calls Try.prog 27 #[p, .int .i64 y] W fun x w' => x = .returned r ∧ P W w') (hr : ∃ a n c, r = .slice a n c) :
    Calls Try.prog 19 #[p, .agg #[.int .i64 x, .int .i64 y]] w fun x w' => x = .returned (.tuple #[.int .i64 0, r]) ∧ ∃ W, Below w.heap.size w W ∧ P W w' := by
  have HM := Lib.hid M
  obtain ⟨sa, sn, sc, rfl⟩ := hr
  have b0 : (x == 0) = false := by simp [h0]
  have b1 : (x == 1) = false := by simp [h1]
  have b2 : (x == 2) = false := by simp [h2]
  clear h0 h1 h2
  clear M
  go_enter Try.func19, Try.ntmps19
  go_wp2_with (go_at_call 27; refine (HM.out _ ((Below.refl _ _).alloc (Nat.le_refl _) _)).mono ?_; rintro x w1 ⟨rfl, hP⟩)
  go_ret2
  exact ⟨rfl, _, (Below.refl _ _).alloc (Nat.le_refl _) _, hP⟩

/-- A cursor's number-reading calls, where number itself answers nought. -/
theorem tb_zero : Hid (tb 0 = 0) := Lib.hid (by decide)
theorem cU_zero (p : Value) (w : World) (M : ∀ r W, Below w.heap.size w W → Calls Try.prog 36 #[p, r] W fun x w' => x = .returned (.int .u64 0) ∧ w' = W) :
    Calls Try.prog 25 #[p] w fun x w' => x = .returned (.int .i64 0) ∧ Below w.heap.size w w' := by
  have HM := Lib.hid M
  clear M
  go_enter Try.func25, Try.ntmps25
  go_wp2_with (go_at_call 36; refine (HM.out _ _ (Below.refl _ _)).mono ?_; rintro x w' ⟨rfl, rfl⟩)
  go_ret
  exact ⟨rfl, Below.refl _ _⟩
theorem cI_zero (p : Value) (w : World) (M : ∀ r W, Below w.heap.size w W → Calls Try.prog 36 #[p, r] W fun x w' => x = .returned (.int .u64 0) ∧ w' = W) :
    Calls Try.prog 24 #[p] w fun x w' => x = .returned (.int .i64 0) ∧ Below w.heap.size w w' := by
  have HM := Lib.hid M
  have TZ := tb_zero
  clear M
  go_enter Try.func24, Try.ntmps24
  go_wp2_with (first
    | (go_at_call 36; refine (HM.out _ _ (Below.refl _ _)).mono ?_; rintro x w' ⟨rfl, rfl⟩)
    | (go_at_call 35; refine (turnedBack_any 0 0 _ (by omega) TZ).mono ?_; rintro x w2 ⟨rfl, rfl⟩))
  go_ret
  exact ⟨rfl, Below.refl _ _⟩
theorem cF_zero (p : Value) (s : Int) (w : World) (M : ∀ r W, Below w.heap.size w W → Calls Try.prog 36 #[p, r] W fun x w' => x = .returned (.int .u64 0) ∧ w' = W) :
    Calls Try.prog 26 #[p, .int .i64 s] w fun x w' => x = .returned (.int .i64 0) ∧ Below w.heap.size w w' := by
  have HM := Lib.hid M
  have hmf : ∀ (fn : Fn) (first cap : Array Value) (w : World), (Instr.makeFunc fn first cap).run Try.prog w = .ok (.func fn first cap) w := fun _ _ _ _ => rfl
  clear M
  go_enter Try.func26, Try.ntmps26
  go_wp2_with (go_at_call 36; refine (HM.out _ _ ((Below.refl _ _).alloc (Nat.le_refl _) _)).mono ?_; rintro x w' ⟨rfl, rfl⟩)
  go_ret
  exact ⟨rfl, (Below.refl _ _).alloc (Nat.le_refl _) _⟩
theorem does_zero (p : Value) (x y : Int) (w : World) (M : ∀ r W, Below w.heap.size w W → Calls Try.prog 36 #[p, r] W fun x w' => x = .returned (.int .u64 0) ∧ w' = W)
    (MB : ∀ W, Below w.heap.size w W → Calls Try.prog 27 #[p, .int .i64 y] W fun x w' => x = .returned (.slice none 0 0) ∧ w' = W) :
    Calls Try.prog 19 #[p, .agg #[.int .i64 x, .int .i64 y]] w fun e w' => e = .returned (.tuple #[.int .i64 0, .slice none 0 0]) ∧ Below w.heap.size w w' := by
  have M2 : ∀ W, Below w.heap.size w W → ∀ r W', Below W.heap.size W W' → Calls Try.prog 36 #[p, r] W' fun x w' => x = .returned (.int .u64 0) ∧ w' = W' := fun W h r W' h' => M r W' (h.trans (h'.mono h.size))
  have fin : ∀ (e : Ending) (w' : World), (∃ W, Below w.heap.size w W ∧ Below W.heap.size W w') → Below w.heap.size w w' := fun _ _ ⟨W, h1, h2⟩ => h1.trans (h2.mono h1.size)
  by_cases h0 : x = 0
  · subst h0
    exact (does0 p y _ (fun W w' => Below W.heap.size W w') w (fun W h => cU_zero p W (M2 W h)) ⟨_, rfl⟩).mono fun e w' h => ⟨h.1, fin e w' h.2⟩
  · by_cases h1 : x = 1
    · subst h1
      exact (does1 p y _ (fun W w' => Below W.heap.size W w') w (fun W h => cI_zero p W (M2 W h)) ⟨_, rfl⟩).mono fun e w' h => ⟨h.1, fin e w' h.2⟩
    · by_cases h2 : x = 2
      · subst h2
        exact (does2 p y _ (fun W w' => Below W.heap.size W w') w (fun W h => cF_zero p y W (M2 W h)) ⟨_, rfl⟩).mono fun e w' h => ⟨h.1, fin e w' h.2⟩
      · exact (does3 p x y _ (fun W w' => Below W.heap.size W w') w h0 h1 h2 (fun W h => (MB W h).mono fun e w' hh => ⟨hh.1, hh.2 ▸ Below.refl _ _⟩) ⟨none, 0, 0, rfl⟩).mono fun e w' h => ⟨h.1, fin e w' h.2⟩
end Go.Proofs.Ytdepbhikkjfcjaa
