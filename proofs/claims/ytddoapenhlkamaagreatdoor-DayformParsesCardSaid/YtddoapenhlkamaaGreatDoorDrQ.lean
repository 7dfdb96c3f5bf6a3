/- The law DayformParses, walked: it returns true for every input, and nothing that was in memory changes. -/
import Derived.Test.YtddoapenhlkamaaGreatDoorDrP
namespace Go.Proofs.YtddoapenhlkamaaGreatDoor
open Go.RowKit

theorem wk_lt {t : List UInt8} {q : Nat} (h : wkN t = some q) : q < 7 := by
  have hs : ∀ (b : List UInt8) (ws : List (List UInt8)) (i many found p : Nat), (many = 1 → found < i + ws.length) → scan b ws i many found = some p → p < i + ws.length := by
    intro b ws
    induction ws with
    | nil =>
      intro i many found p hf h
      simp only [scan] at h
      split at h
      · rename_i hm
        injection h with h
        have := hf hm
        omega
      · cases h
    | cons w ws ih =>
      intro i many found p hf h
      simp only [scan] at h
      rw [List.length_cons] at hf ⊢
      split at h
      · injection h with h
        omega
      · split at h
        · have := ih (i + 1) (many + 1) i p (by omega) h
          omega
        · have := ih (i + 1) many found p (by omega) h
          omega
  have := hs (low t) weeks7 0 0 0 q (by omega) h
  exact this
theorem dn_bound {t : List UInt8} (h : dnE t = 0) : 1 ≤ dnV t ∧ dnV t ≤ 31 := by
  unfold dnE at h
  unfold dnV
  cases hd : dnum t with
  | none => rw [hd] at h; cases h
  | some n =>
    have := dnum_some hd
    rw [hd] at h
    simp only at h ⊢
    split at h
    · rename_i hn
      rw [if_pos hn]; omega
    · cases h
/-- A day that a text is may be. -/
theorem pars_may {s : List UInt8} {k v m : Int} (h : parsF s = (k, v, m, 0)) : dfD k v m := by
  unfold parsF at h
  split at h
  · rename_i p c hs
    split at h
    · cases h
    · rename_i q hw
      have hq := wk_lt hw
      split at h
      · rename_i he
        have hb := dn_bound he
        simp only [Prod.mk.injEq] at h
        obtain ⟨rfl, rfl, rfl, _⟩ := h
        unfold dfD
        split <;> omega
      · rename_i he
        simp only [Prod.mk.injEq] at h
        exact absurd h.2.2.2 he
  · split at h
    · split at h
      · cases h
      · rename_i q hw
        have hq := wk_lt hw
        simp only [Prod.mk.injEq] at h
        obtain ⟨rfl, rfl, rfl, _⟩ := h
        unfold dfD; omega
    · split at h
      · rename_i he
        have hb := dn_bound he
        simp only [Prod.mk.injEq] at h
        obtain ⟨rfl, rfl, rfl, _⟩ := h
        unfold dfD; omega
      · rename_i he
        simp only [Prod.mk.injEq] at h
        exact absurd h.2.2.2 he

set_option maxHeartbeats 3200000 in
theorem dayformParses_walk (s : List UInt8) (w : World) (hA : LaidF w) :
    Calls Tryz.prog 4 #[.string ⟨s.toArray⟩] w fun e w' => e = .returned (.bool true) ∧ Below w.heap.size w w' := by
  have hz := wsize s
  have HA := Lib.hid hA
  clear hA
  by_cases h40 : s.length ≤ 40
  · obtain ⟨n, hn⟩ : ∃ n, s.length = n := ⟨_, rfl⟩
    obtain ⟨⟨k, v, m, e0⟩, hp⟩ : ∃ r, parsF s = r := ⟨_, rfl⟩
    have PP : Hid (∀ W, LaidF W → Calls Tryz.prog 10 #[.string ⟨s.toArray⟩] W fun e w' => e = .returned (.tuple #[.agg #[.int .i64 k, .int .i64 v, .int .i64 m], .int .i64 e0]) ∧ Below W.heap.size W w') := Lib.hid fun W h => dparse_is s k v m e0 W (by omega) h (Lib.hid hp)
    have RP : Hid (∀ W, Calls Tryz.prog 12 #[.string ⟨s.toArray⟩] W fun e w' => e = .returned (.tuple #[.agg #[.int .i64 k, .int .i64 v, .int .i64 m], .int .i64 e0]) ∧ Below W.heap.size W w') := Lib.hid fun W => rparse_is s k v m e0 W (by omega) (Lib.hid hp)
    have L1 : decide (40 < (n : Int)) = false := decide_eq_false (by omega)
    have L2 : decide (40 < n) = false := decide_eq_false (by omega)
    rw [hn] at hz
    have CK : Hid (e0 = 0 → ∀ W, Calls Tryz.prog 8 #[.agg #[.int .i64 k, .int .i64 v, .int .i64 m]] W fun e w' => e = .returned (.int .i64 0) ∧ Below W.heap.size W w') := Lib.hid fun he W => dcheck_is k v m 0 W (Lib.hid (dfE_yes (pars_may (by rw [hp, he]))))
    have hee : e0 = 0 ∨ (e0 == 0) = false := by
      by_cases h : e0 = 0
      · exact .inl h
      · exact .inr (e_test h)
    clear hp hn h40
    rcases hee with rfl | he
    · have CK1 := Lib.hid (CK.out rfl)
      clear CK
      go_enter Tryz.func4, Tryz.ntmps4
      go_wp2_with (first
        | (go_at_call 10; with_reducible refine (PP.out _ HA.out).mono ?_; rintro e w1 ⟨rfl, k1⟩
           have X1 := Lib.hid (Trp.make k1 k v m 23)
           clear k1)
        | (go_at_call 12; with_reducible refine (RP.out _).mono ?_; rintro e w2 ⟨rfl, k2⟩
           have X2 := Lib.hid (X1.out.next k2)
           have Y2 := Lib.hid (Trp.make X2.out.bel k v m 23)
           clear k2 X1
           have xlt := X2.out.lt
           have xc0 := X2.out.c0
           have xc1 := X2.out.c1
           have xc2 := X2.out.c2)
        | (go_at_call 8; with_reducible refine (CK1.out _).mono ?_; rintro e w3 ⟨rfl, k3⟩
           have Y3 := Lib.hid (Y2.out.next k3)
           clear k3)
        | (go_at_call 9; refine (dawake_any _ (HA.out.next Y3.out.bel)).mono ?_; rintro e w4 ⟨rfl, k4⟩
           have Y4 := Lib.hid (Y3.out.next k4)
           clear k4))
      go_ret
      exact ⟨rfl, Y4.out.bel⟩
    · have he2 : (e0 != 0) = true := by simp only [bne, he]; rfl
      clear CK
      go_enter Tryz.func4, Tryz.ntmps4
      go_wp2_with (first
        | (go_at_call 10; with_reducible refine (PP.out _ HA.out).mono ?_; rintro e w1 ⟨rfl, k1⟩
           have X1 := Lib.hid (Trp.make k1 k v m 23)
           clear k1)
        | (go_at_call 12; with_reducible refine (RP.out _).mono ?_; rintro e w2 ⟨rfl, k2⟩
           have X2 := Lib.hid (X1.out.next k2)
           have Y2 := Lib.hid (Trp.make X2.out.bel k v m 23)
           clear k2 X1
           have xlt := X2.out.lt
           have xc0 := X2.out.c0
           have xc1 := X2.out.c1
           have xc2 := X2.out.c2)
        | (go_at_call 9; refine (dawake_any _ (HA.out.next Y2.out.bel)).mono ?_; rintro e w4 ⟨rfl, k4⟩
           have Y4 := Lib.hid (Y2.out.next k4)
           clear k4))
      go_ret
      exact ⟨rfl, Y4.out.bel⟩
  · have L1 : decide (40 < (s.length : Int)) = true := decide_eq_true (by omega)
    have L2 : decide (40 < s.length) = true := decide_eq_true (by omega)
    clear h40
    go_enter Tryz.func4, Tryz.ntmps4
    go_wp2_with (go_at_call 9; refine (dawake_any _ HA.out).mono ?_; rintro e w4 ⟨rfl, k4⟩)
    go_ret
    exact ⟨rfl, k4⟩
end Go.Proofs.YtddoapenhlkamaaGreatDoor
