/- The walk of the law LexerJoins. -/
import Derived.Test.YtomiopdmgdidnaaDoorLxT
import Derived.Test.YtomiopdmgdidnaaDoorLxK
import Derived.Test.YtomiopdmgdidnaaDoorLxJ
namespace Go.Proofs.YtomiopdmgdidnaaDoor
open Go.RowKit
attribute [local go_sem] Oper.semAt_some

theorem tailG_len : ∀ (ws : List (List UInt8)) (f : Bool) (k : Nat), (∀ p ∈ ws, p.length ≤ k) → (tailG f ws).length ≤ ws.length * (k + 3)
  | [], _, _, _ => Nat.zero_le _
  | w :: ws, f, k, h => by
    have h1 := tailG_len ws false k (fun p hp => h p (by simp [hp]))
    have h2 := putQ_len w
    have h3 := h w (by simp)
    rw [tailG, List.length_append, List.length_append, List.length_cons, Nat.succ_mul]
    have : (if f = true then [] else [(32 : UInt8)]).length ≤ 1 := by cases f <;> simp
    omega

set_option maxHeartbeats 4000000 in
theorem lexerJoins_walk (A : Option Addr) (c : Nat) (ws : List (List UInt8)) (w : World) (_ : ws.length ≤ maxLen) (hW : Ws w A ws) : Calls Tryd.prog 4 #[.slice A ws.length c] w fun e w' => e = .returned (.bool true) ∧ Below w.heap.size w w' := by
  have AW := Lib.hid lxawake
  obtain ⟨n, hn⟩ : ∃ n, ws.length = n := ⟨_, rfl⟩
  rw [hn]
  have HN := Lib.hid hn
  have HW := Lib.hid hW
  clear hW hn
  by_cases h40 : 40 < n
  · have h40' : (40 : Int) < (n : Int) := by omega
    clear h40
    go_enter Tryd.func4, Tryd.ntmps4
    go_wp2_with (first
      | (go_at_call 9; refine (AW.out _).mono ?_; rintro e w1 ⟨rfl, k1⟩
         have K1 := Lib.hid k1
         clear k1
         simp only []))
    go_ret
    exact ⟨rfl, K1.out⟩
  · have h40' : ¬ (40 : Int) < (n : Int) := by omega
    have hn40 : n ≤ 40 := by omega
    clear h40
    go_enter Tryd.func4, Tryd.ntmps4
    go_wp2
    go_loopw [3] (fun v w' => ∃ i : Nat, v = .int .i64 i ∧ i ≤ n ∧ (∀ p ∈ ws.take i, p.length ≤ 40) ∧ w' = w) (fun v _ => n - (intOf v).toNat)
    case atStart => exact ⟨0, rfl, Nat.zero_le _, fun p hp => by simp at hp, rfl⟩
    case round =>
      obtain ⟨i, rfl, hi, hp, rfl⟩ := hrel
      have HP := Lib.hid hp
      clear hp
      by_cases hlt : i < n
      · obtain ⟨p, hp⟩ : ∃ p, ws[i]? = some p := ⟨_, List.getElem?_eq_getElem (by rw [HN.out]; exact hlt)⟩
        obtain ⟨g, o, rfl, hgl, hcell⟩ := HW.out i p hp
        have hii : (i : Int) < (n : Int) := by omega
        have hz := lxsize p
        have HQ := Lib.hid hp
        clear hp
        by_cases hpl : 40 < p.length
        · have hpl' : (40 : Int) < (p.length : Int) := by omega
          clear hpl
          go_wp2_with (first
            | (go_at_call 9; refine (AW.out _).mono ?_; rintro e w1 ⟨rfl, k1⟩
               have K1 := Lib.hid k1
               clear k1
               simp only []))
          go_ret
          exact ⟨rfl, K1.out⟩
        · have hpl' : ¬ (40 : Int) < (p.length : Int) := by omega
          have HP2 : Hid (∀ q ∈ ws.take (i + 1), q.length ≤ 40) := Lib.hid (fun q hq => by
            rw [List.take_add_one, HQ.out] at hq
            rcases List.mem_append.1 hq with hq | hq
            · exact HP.out q hq
            · obtain rfl : q = p := by simpa using hq
              omega)
          clear hpl
          go_wp2
          go_roundw
          case rel => exact ⟨i + 1, by go_num, by omega, HP2.out, by first | rfl | trivial⟩
          case measure => simp [intOf]; omega
      · obtain rfl : i = n := by omega
        have HP2 : Hid (∀ p ∈ ws, p.length ≤ 40) := Lib.hid (by have := HP.out; rwa [List.take_of_length_le (by rw [HN.out]; exact Nat.le_refl _)] at this)
        have hii : ¬ (i : Int) < (i : Int) := by omega
        obtain ⟨er, her⟩ : ∃ er, joinE ws = er := ⟨_, rfl⟩
        obtain ⟨t, ht⟩ : ∃ t, joinL ws = t := ⟨_, rfl⟩
        have J1 := Lib.hid (join_is A i c ws er t wr HW.out HN.out (fun p hp => by have := HP2.out p hp; omega) (Lib.hid ⟨her, ht⟩))
        have J2 := Lib.hid (fun W k => rjoin_is A i c ws er t W (HW.out.next k) HN.out (fun p hp => by have := HP2.out p hp; omega) (Lib.hid ⟨her, ht⟩))
        have hne : (t == t) = true := by simp
        by_cases h0 : er = 0
        · subst h0
          have hs := joined_back her
          rw [ht] at hs
          have htl : t.length ≤ 2000 := by
            have e1 := joinE_zero her
            have e2 := tailG_len ws true 40 HP2.out
            rw [← ht, joinL, if_pos her]
            have : ws.length * (40 + 3) ≤ 32 * 43 := Nat.mul_le_mul e1.1 (by omega)
            omega
          have VW := Lib.hid (fun W => words_is t ws 0 W htl (Lib.hid hs))
          clear her ht hs htl
          go_wp2_with (first
            | (go_at_call 13; refine J1.out.mono ?_; rintro e w1 ⟨rfl, k1⟩
               have K1 := Lib.hid k1
               clear k1
               simp only [])
            | (go_at_call 14; refine (J2.out _ K1.out).mono ?_; rintro e w2 ⟨rfl, rfl⟩; simp only [])
            | (go_at_call 10; refine (VW.out _).mono ?_; rintro e w3 ⟨A3, c3, rfl, o3, k3⟩
               have K3 := Lib.hid (K1.out.trans (k3.mono K1.out.size))
               have X1 := Lib.hid (texts_is A3 A ws.length c3 c ws ws true w3 (Ws.of_own o3) (HW.out.next (K1.out.trans (k3.mono K1.out.size))) (by rw [HN.out]; omega) i rfl HN.out (Lib.hid (decide_eq_true rfl)))
               clear o3 k3
               simp only [])
            | (go_at_call 12; with_reducible refine X1.out.mono ?_; rintro e w4 ⟨rfl, k4⟩
               have K4 := Lib.hid (K3.out.trans (k4.mono K3.out.size))
               clear k4
               simp only [])
            | (go_at_call 9; refine (AW.out _).mono ?_; rintro e w5 ⟨rfl, k5⟩
               have K5 := Lib.hid (K4.out.trans (k5.mono K4.out.size))
               clear k5
               simp only []))
          go_ret
          exact ⟨rfl, K5.out⟩
        · have h0' : (er == 0) = false := by simpa using h0
          clear h0 her ht
          go_wp2_with (first
            | (go_at_call 13; refine J1.out.mono ?_; rintro e w1 ⟨rfl, k1⟩
               have K1 := Lib.hid k1
               clear k1
               simp only [])
            | (go_at_call 14; refine (J2.out _ K1.out).mono ?_; rintro e w2 ⟨rfl, rfl⟩; simp only [])
            | (go_at_call 9; refine (AW.out _).mono ?_; rintro e w5 ⟨rfl, k5⟩
               have K5 := Lib.hid (K1.out.trans (k5.mono K1.out.size))
               clear k5
               simp only []))
          go_ret
          exact ⟨rfl, K5.out⟩
end Go.Proofs.YtomiopdmgdidnaaDoor
