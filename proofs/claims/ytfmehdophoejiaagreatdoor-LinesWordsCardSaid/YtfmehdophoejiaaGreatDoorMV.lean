/- The contracts of meridianref03's two and Text: what each call returns; nothing that was in memory changes. -/
import Derived.Test.YtfmehdophoejiaaGreatDoorMI
import Derived.Test.YtfmehdophoejiaaGreatDoorMG
namespace Go.Proofs.YtfmehdophoejiaaGreatDoor
open Go.RowKit

theorem two_bytes (W : World) (x y : UInt8) : (convert 116 9 (.slice (some ⟨W.heap.size, 0, none⟩) 2 2)).run Tryz.prog (W.alloc (.cells #[.int .u8 (x.toNat : Int), .int .u8 (y.toNat : Int)] 5)) = .ok (.string ⟨[x, y].toArray⟩) (W.alloc (.cells #[.int .u8 (x.toNat : Int), .int .u8 (y.toNat : Int)] 5)) :=
  run_convert_bytes_back _ _ _ 5 ⟨W.heap.size, 0, none⟩ 2 [x, y] Tryz.underlying116 Tryz.underlying5 Tryz.underlying9 (fun j hj => by
    rcases j with _ | _ | j
    · simp [Addr.add]
    · simp [Addr.add]
    · simp at hj; omega)
theorem pd2_is {n : Nat} (h : n < 100) : pd 2 n = [dgt (n / 10), dgt n] := by
  rw [pd_step (by omega), pd_step (by omega), show n / 10 / 10 = 0 by omega, show 2 - 1 - 1 = 0 from rfl, pd_nil]; rfl

theorem two_any (n : Nat) (T : List UInt8) (w : World) (h : n < 100) (hT : Hid (pd 2 n = T)) :
    Calls Tryz.prog 133 #[.int .i64 n] w fun e w' => e = .returned (.string ⟨T.toArray⟩) ∧ Below w.heap.size w w' := by
  have e1 : 48 + (n : Int) / 10 = ((dgt (n / 10)).toNat : Int) := by rw [digit_u8]; omega
  have e2 : 48 + (n : Int) % 10 = ((dgt n).toNat : Int) := by rw [digit_u8]
  have hcv := two_bytes w (dgt (n / 10)) (dgt n)
  have HP : Hid (T = [dgt (n / 10), dgt n]) := Lib.hid (by rw [← hT.out, pd2_is h])
  go_enter Tryz.func133, Tryz.ntmps133
  go_wp2
  go_ret
  rw [HP.out]
  exact ⟨rfl, (Below.refl _ _).alloc (Nat.le_refl _) _⟩

set_option maxHeartbeats 1600000 in
theorem rtext_pos0 (h m s : Nat) (T : List UInt8) (w : World) (hT : Hid (([] : List UInt8) ++ hms h m s = T)) (hh : h < 168) (hm : m < 60) (_ : s < 60) (hz : s = 0) :
    Calls Tryz.prog 115 #[.int .i64 (3600 * h + 60 * m + s)] w fun e w' => e = .returned (.string ⟨T.toArray⟩) ∧ Below w.heap.size w w' := by
  have HZ := Lib.hid hz
  obtain ⟨n, hn⟩ : ∃ n : Nat, 3600 * h + 60 * m + s = n := ⟨_, rfl⟩
  have e0 : (3600 * h + 60 * m + s : Int) = (n : Int) := by omega
  rw [e0]
  have e1 : (n : Int) / 3600 = (h : Int) := by omega
  have e2 : (n : Int) / 60 % 60 = (m : Int) := by omega
  have e3 : (n : Int) % 60 = (s : Int) := by omega
  have nb : n < 1000000 := by omega
  have l1 := pd1_len (n := h) (by omega)
  have l2 := pd2_len (n := m) (by omega)
  have l3 := pd2_len (n := s) (by omega)
  have mb : m < 100 := by omega
  have sb : s < 100 := by omega
  obtain ⟨M, hM⟩ : ∃ M, pd 2 m = M := ⟨_, rfl⟩
  obtain ⟨S, hS⟩ : ∃ S, pd 2 s = S := ⟨_, rfl⟩
  obtain ⟨x1, q1⟩ : ∃ x1, ([] : List UInt8) ++ pd 1 h = x1 := ⟨_, rfl⟩
  obtain ⟨x2, q2⟩ : ∃ x2, x1 ++ [58] = x2 := ⟨_, rfl⟩
  obtain ⟨x3, q3⟩ : ∃ x3, x2 ++ M = x3 := ⟨_, rfl⟩
  obtain ⟨x4, q4⟩ : ∃ x4, x3 ++ [58] = x4 := ⟨_, rfl⟩
  obtain ⟨x5, q5⟩ : ∃ x5, x4 ++ S = x5 := ⟨_, rfl⟩
  have c1 : x1.length ≤ 10 := by rw [← q1, List.length_append]; simp; omega
  have c2 : x2.length ≤ 11 := by rw [← q2, List.length_append]; simp; omega
  have c3 : x3.length ≤ 20 := by rw [← q3, List.length_append, ← hM]; omega
  have c4 : x4.length ≤ 21 := by rw [← q4, List.length_append]; simp; omega
  have a1 := add_lists ([] : List UInt8) (pd 1 h) (by simp) (by omega)
  have a2 := add_lists x1 [58] (by omega) (by simp)
  have a3 := add_lists x2 M (by omega) (by rw [← hM]; omega)
  have a4 := add_lists x3 [58] (by omega) (by simp)
  have a5 := add_lists x4 S (by omega) (by rw [← hS]; omega)
  rw [q1] at a1
  rw [q2] at a2
  rw [q3] at a3
  rw [q4] at a4
  rw [q5] at a5
  have FIN : Hid (T = x3) := Lib.hid (by
    rw [← hT.out, ← q3, ← q2, ← q1, ← hM]
    unfold hms
    rw [if_pos hz]
    simp)
  have HM := Lib.hid hM
  have HS := Lib.hid hS
  generalize hX : pd 1 h = X at a1
  have HX := Lib.hid hX
  have b3 : decide ((n : Int) < 0) = false := by simp only [decide_eq_false_iff_not]; omega
  clear hn e0 hz hM hS q1 q2 q3 q4 q5 c1 c2 c3 c4 l1 l2 l3 hX nb
  go_enter Tryz.func115, Tryz.ntmps115
  go_wp2
  clear b3
  go_loopw [4, 5] (fun t u w' => ∃ (k : Nat) (x : List UInt8), k < 1000 ∧ x.length ≤ 5 ∧ pd 1 h = pd (1 - x.length) k ++ x ∧ t = .int .i64 k ∧ u = .string ⟨x.toArray⟩ ∧ Below w.heap.size w w') (fun t u _ => (intOf t).toNat + (1 - strN u))
  case atStart => exact ⟨h, [], by omega, by simp, by simp, rfl, rfl, Below.refl _ _⟩
  case round =>
    obtain ⟨k, x, k1, k2, k3, rfl, rfl, kb⟩ := hrel
    have K3 := Lib.hid k3
    have hcv := one_byte wr k
    have KB := Lib.hid kb
    clear k3 kb
    have done : Hid (¬ (k = 0 ∧ 1 - x.length = 0) → ∃ (k' : Nat) (x' : List UInt8), k' < 1000 ∧ x'.length ≤ 5 ∧ pd 1 h = pd (1 - x'.length) k' ++ x' ∧ Value.int .i64 ((k : Int) / 10) = .int .i64 k' ∧ Value.string (⟨[dgt k].toArray⟩ ++ ⟨x.toArray⟩) = .string ⟨x'.toArray⟩ ∧ Below w.heap.size w (wr.alloc (.cells #[.int .u8 (48 + (k : Int) % 10)] 5))) := Lib.hid fun hk => by
      have e := pd_next K3.out hk
      have l1 := pd1_len (n := h) (by omega)
      refine ⟨k / 10, _, by omega, ?_, e, by simp, by rw [ByteArray.mk_append_mk]; rfl, KB.out.alloc KB.out.size _⟩
      have e2 := congrArg List.length e
      rw [List.length_append] at e2
      omega
    by_cases hk : 0 < k
    · have hkz : 0 < (k : Int) := by omega
      go_wp2
      go_roundw
      case rel => exact done.out (by omega)
      case measure => simp [intOf, strN, ByteArray.size]; omega
    · by_cases hx : x = []
      · subst hx
        obtain rfl : k = 0 := by omega
        have D := Lib.hid (done.out (by simp))
        have hcv : (convert 116 9 (.slice (some ⟨wr.heap.size, 0, none⟩) 1 1)).run Tryz.prog (wr.alloc (.cells #[.int .u8 48] 5)) = .ok (.string ⟨#[48]⟩) (wr.alloc (.cells #[.int .u8 48] 5)) := one_byte wr 0
        clear hk k1 k2 K3 done
        go_wp2
        go_roundw
        case rel => exact D.out
        case measure => simp [intOf, strN, ByteArray.size]
      · obtain rfl : k = 0 := by omega
        have hne : x.isEmpty = false := by cases x with | nil => exact absurd rfl hx | cons _ _ => rfl
        have xl : 1 ≤ x.length := by cases x with | nil => exact absurd rfl hx | cons _ _ => simp
        have e : x = X := by
          have := K3.out
          rw [show 1 - x.length = 0 by omega, pd_nil, List.nil_append] at this
          rw [← HX.out, this]
        subst e
        clear hk hx xl hcv done k1 k2 K3
        have b5 : (s : Int) = 0 := by have := HZ.out; omega
        go_wp2_with (first
    | (go_at_call 133; ((with_reducible refine (two_any m M _ mb HM).mono ?_)); rintro e w2 ⟨rfl, k2⟩; simp only []
       have K2 := Lib.hid (KB.out.trans (k2.mono KB.out.size))
       clear k2))
        go_ret
        rw [FIN.out]
        exact ⟨rfl, K2.out⟩

set_option maxHeartbeats 1600000 in
theorem rtext_poss (h m s : Nat) (T : List UInt8) (w : World) (hT : Hid (([] : List UInt8) ++ hms h m s = T)) (hh : h < 168) (hm : m < 60) (hs : s < 60) (hz : 0 < s) :
    Calls Tryz.prog 115 #[.int .i64 (3600 * h + 60 * m + s)] w fun e w' => e = .returned (.string ⟨T.toArray⟩) ∧ Below w.heap.size w w' := by
  have HZ := Lib.hid hz
  obtain ⟨n, hn⟩ : ∃ n : Nat, 3600 * h + 60 * m + s = n := ⟨_, rfl⟩
  have e0 : (3600 * h + 60 * m + s : Int) = (n : Int) := by omega
  rw [e0]
  have e1 : (n : Int) / 3600 = (h : Int) := by omega
  have e2 : (n : Int) / 60 % 60 = (m : Int) := by omega
  have e3 : (n : Int) % 60 = (s : Int) := by omega
  have nb : n < 1000000 := by omega
  have l1 := pd1_len (n := h) (by omega)
  have l2 := pd2_len (n := m) (by omega)
  have l3 := pd2_len (n := s) (by omega)
  have mb : m < 100 := by omega
  have sb : s < 100 := by omega
  obtain ⟨M, hM⟩ : ∃ M, pd 2 m = M := ⟨_, rfl⟩
  obtain ⟨S, hS⟩ : ∃ S, pd 2 s = S := ⟨_, rfl⟩
  obtain ⟨x1, q1⟩ : ∃ x1, ([] : List UInt8) ++ pd 1 h = x1 := ⟨_, rfl⟩
  obtain ⟨x2, q2⟩ : ∃ x2, x1 ++ [58] = x2 := ⟨_, rfl⟩
  obtain ⟨x3, q3⟩ : ∃ x3, x2 ++ M = x3 := ⟨_, rfl⟩
  obtain ⟨x4, q4⟩ : ∃ x4, x3 ++ [58] = x4 := ⟨_, rfl⟩
  obtain ⟨x5, q5⟩ : ∃ x5, x4 ++ S = x5 := ⟨_, rfl⟩
  have c1 : x1.length ≤ 10 := by rw [← q1, List.length_append]; simp; omega
  have c2 : x2.length ≤ 11 := by rw [← q2, List.length_append]; simp; omega
  have c3 : x3.length ≤ 20 := by rw [← q3, List.length_append, ← hM]; omega
  have c4 : x4.length ≤ 21 := by rw [← q4, List.length_append]; simp; omega
  have a1 := add_lists ([] : List UInt8) (pd 1 h) (by simp) (by omega)
  have a2 := add_lists x1 [58] (by omega) (by simp)
  have a3 := add_lists x2 M (by omega) (by rw [← hM]; omega)
  have a4 := add_lists x3 [58] (by omega) (by simp)
  have a5 := add_lists x4 S (by omega) (by rw [← hS]; omega)
  rw [q1] at a1
  rw [q2] at a2
  rw [q3] at a3
  rw [q4] at a4
  rw [q5] at a5
  have FIN : Hid (T = x5) := Lib.hid (by
    rw [← hT.out, ← q5, ← q4, ← q3, ← q2, ← q1, ← hM, ← hS]
    unfold hms
    rw [if_neg (by omega)]
    simp)
  have HM := Lib.hid hM
  have HS := Lib.hid hS
  generalize hX : pd 1 h = X at a1
  have HX := Lib.hid hX
  have b3 : decide ((n : Int) < 0) = false := by simp only [decide_eq_false_iff_not]; omega
  clear hn e0 hz hM hS q1 q2 q3 q4 q5 c1 c2 c3 c4 l1 l2 l3 hX nb
  go_enter Tryz.func115, Tryz.ntmps115
  go_wp2
  clear b3
  go_loopw [4, 5] (fun t u w' => ∃ (k : Nat) (x : List UInt8), k < 1000 ∧ x.length ≤ 5 ∧ pd 1 h = pd (1 - x.length) k ++ x ∧ t = .int .i64 k ∧ u = .string ⟨x.toArray⟩ ∧ Below w.heap.size w w') (fun t u _ => (intOf t).toNat + (1 - strN u))
  case atStart => exact ⟨h, [], by omega, by simp, by simp, rfl, rfl, Below.refl _ _⟩
  case round =>
    obtain ⟨k, x, k1, k2, k3, rfl, rfl, kb⟩ := hrel
    have K3 := Lib.hid k3
    have hcv := one_byte wr k
    have KB := Lib.hid kb
    clear k3 kb
    have done : Hid (¬ (k = 0 ∧ 1 - x.length = 0) → ∃ (k' : Nat) (x' : List UInt8), k' < 1000 ∧ x'.length ≤ 5 ∧ pd 1 h = pd (1 - x'.length) k' ++ x' ∧ Value.int .i64 ((k : Int) / 10) = .int .i64 k' ∧ Value.string (⟨[dgt k].toArray⟩ ++ ⟨x.toArray⟩) = .string ⟨x'.toArray⟩ ∧ Below w.heap.size w (wr.alloc (.cells #[.int .u8 (48 + (k : Int) % 10)] 5))) := Lib.hid fun hk => by
      have e := pd_next K3.out hk
      have l1 := pd1_len (n := h) (by omega)
      refine ⟨k / 10, _, by omega, ?_, e, by simp, by rw [ByteArray.mk_append_mk]; rfl, KB.out.alloc KB.out.size _⟩
      have e2 := congrArg List.length e
      rw [List.length_append] at e2
      omega
    by_cases hk : 0 < k
    · have hkz : 0 < (k : Int) := by omega
      go_wp2
      go_roundw
      case rel => exact done.out (by omega)
      case measure => simp [intOf, strN, ByteArray.size]; omega
    · by_cases hx : x = []
      · subst hx
        obtain rfl : k = 0 := by omega
        have D := Lib.hid (done.out (by simp))
        have hcv : (convert 116 9 (.slice (some ⟨wr.heap.size, 0, none⟩) 1 1)).run Tryz.prog (wr.alloc (.cells #[.int .u8 48] 5)) = .ok (.string ⟨#[48]⟩) (wr.alloc (.cells #[.int .u8 48] 5)) := one_byte wr 0
        clear hk k1 k2 K3 done
        go_wp2
        go_roundw
        case rel => exact D.out
        case measure => simp [intOf, strN, ByteArray.size]
      · obtain rfl : k = 0 := by omega
        have hne : x.isEmpty = false := by cases x with | nil => exact absurd rfl hx | cons _ _ => rfl
        have xl : 1 ≤ x.length := by cases x with | nil => exact absurd rfl hx | cons _ _ => simp
        have e : x = X := by
          have := K3.out
          rw [show 1 - x.length = 0 by omega, pd_nil, List.nil_append] at this
          rw [← HX.out, this]
        subst e
        clear hk hx xl hcv done k1 k2 K3
        have b5 : 0 < (s : Int) := by have := HZ.out; omega
        go_wp2_with (first
    | (go_at_call 133; ((with_reducible refine (two_any m M _ mb HM).mono ?_)); rintro e w2 ⟨rfl, k2⟩; simp only []
       have K2 := Lib.hid (KB.out.trans (k2.mono KB.out.size))
       clear k2)
    | (go_at_call 133; ((with_reducible refine (two_any s S _ sb HS).mono ?_)); rintro e w3 ⟨rfl, k3⟩; simp only []
       have K3 := Lib.hid (K2.out.trans (k3.mono K2.out.size))
       clear k3))
        go_ret
        rw [FIN.out]
        exact ⟨rfl, K3.out⟩

set_option maxHeartbeats 1600000 in
theorem rtext_neg0 (h m s : Nat) (T : List UInt8) (w : World) (hT : Hid ([45] ++ hms h m s = T)) (hh : h < 168) (hm : m < 60) (hs : s < 60) (hz : s = 0) (h0 : 0 < 3600 * h + 60 * m + s) :
    Calls Tryz.prog 115 #[.int .i64 (-(3600 * h + 60 * m + s))] w fun e w' => e = .returned (.string ⟨T.toArray⟩) ∧ Below w.heap.size w w' := by
  have HZ := Lib.hid hz
  obtain ⟨n, hn⟩ : ∃ n : Nat, 3600 * h + 60 * m + s = n := ⟨_, rfl⟩
  have e0 : (3600 * h + 60 * m + s : Int) = (n : Int) := by omega
  rw [e0]
  have e1 : (n : Int) / 3600 = (h : Int) := by omega
  have e2 : (n : Int) / 60 % 60 = (m : Int) := by omega
  have e3 : (n : Int) % 60 = (s : Int) := by omega
  have nb : n < 1000000 := by omega
  have l1 := pd1_len (n := h) (by omega)
  have l2 := pd2_len (n := m) (by omega)
  have l3 := pd2_len (n := s) (by omega)
  have mb : m < 100 := by omega
  have sb : s < 100 := by omega
  obtain ⟨M, hM⟩ : ∃ M, pd 2 m = M := ⟨_, rfl⟩
  obtain ⟨S, hS⟩ : ∃ S, pd 2 s = S := ⟨_, rfl⟩
  obtain ⟨x1, q1⟩ : ∃ x1, [45] ++ pd 1 h = x1 := ⟨_, rfl⟩
  obtain ⟨x2, q2⟩ : ∃ x2, x1 ++ [58] = x2 := ⟨_, rfl⟩
  obtain ⟨x3, q3⟩ : ∃ x3, x2 ++ M = x3 := ⟨_, rfl⟩
  obtain ⟨x4, q4⟩ : ∃ x4, x3 ++ [58] = x4 := ⟨_, rfl⟩
  obtain ⟨x5, q5⟩ : ∃ x5, x4 ++ S = x5 := ⟨_, rfl⟩
  have c1 : x1.length ≤ 10 := by rw [← q1, List.length_append]; simp; omega
  have c2 : x2.length ≤ 11 := by rw [← q2, List.length_append]; simp; omega
  have c3 : x3.length ≤ 20 := by rw [← q3, List.length_append, ← hM]; omega
  have c4 : x4.length ≤ 21 := by rw [← q4, List.length_append]; simp; omega
  have a1 := add_lists [45] (pd 1 h) (by simp) (by omega)
  have a2 := add_lists x1 [58] (by omega) (by simp)
  have a3 := add_lists x2 M (by omega) (by rw [← hM]; omega)
  have a4 := add_lists x3 [58] (by omega) (by simp)
  have a5 := add_lists x4 S (by omega) (by rw [← hS]; omega)
  rw [q1] at a1
  rw [q2] at a2
  rw [q3] at a3
  rw [q4] at a4
  rw [q5] at a5
  have FIN : Hid (T = x3) := Lib.hid (by
    rw [← hT.out, ← q3, ← q2, ← q1, ← hM]
    unfold hms
    rw [if_pos hz]
    simp)
  have HM := Lib.hid hM
  have HS := Lib.hid hS
  generalize hX : pd 1 h = X at a1
  have HX := Lib.hid hX
  have b3 : 0 < (n : Int) := by omega
  clear hn e0 hz hM hS q1 q2 q3 q4 q5 c1 c2 c3 c4 l1 l2 l3 hX nb h0
  go_enter Tryz.func115, Tryz.ntmps115
  go_wp2
  clear b3
  go_loopw [4, 5] (fun t u w' => ∃ (k : Nat) (x : List UInt8), k < 1000 ∧ x.length ≤ 5 ∧ pd 1 h = pd (1 - x.length) k ++ x ∧ t = .int .i64 k ∧ u = .string ⟨x.toArray⟩ ∧ Below w.heap.size w w') (fun t u _ => (intOf t).toNat + (1 - strN u))
  case atStart => exact ⟨h, [], by omega, by simp, by simp, rfl, rfl, Below.refl _ _⟩
  case round =>
    obtain ⟨k, x, k1, k2, k3, rfl, rfl, kb⟩ := hrel
    have K3 := Lib.hid k3
    have hcv := one_byte wr k
    have KB := Lib.hid kb
    clear k3 kb
    have done : Hid (¬ (k = 0 ∧ 1 - x.length = 0) → ∃ (k' : Nat) (x' : List UInt8), k' < 1000 ∧ x'.length ≤ 5 ∧ pd 1 h = pd (1 - x'.length) k' ++ x' ∧ Value.int .i64 ((k : Int) / 10) = .int .i64 k' ∧ Value.string (⟨[dgt k].toArray⟩ ++ ⟨x.toArray⟩) = .string ⟨x'.toArray⟩ ∧ Below w.heap.size w (wr.alloc (.cells #[.int .u8 (48 + (k : Int) % 10)] 5))) := Lib.hid fun hk => by
      have e := pd_next K3.out hk
      have l1 := pd1_len (n := h) (by omega)
      refine ⟨k / 10, _, by omega, ?_, e, by simp, by rw [ByteArray.mk_append_mk]; rfl, KB.out.alloc KB.out.size _⟩
      have e2 := congrArg List.length e
      rw [List.length_append] at e2
      omega
    by_cases hk : 0 < k
    · have hkz : 0 < (k : Int) := by omega
      go_wp2
      go_roundw
      case rel => exact done.out (by omega)
      case measure => simp [intOf, strN, ByteArray.size]; omega
    · by_cases hx : x = []
      · subst hx
        obtain rfl : k = 0 := by omega
        have D := Lib.hid (done.out (by simp))
        have hcv : (convert 116 9 (.slice (some ⟨wr.heap.size, 0, none⟩) 1 1)).run Tryz.prog (wr.alloc (.cells #[.int .u8 48] 5)) = .ok (.string ⟨#[48]⟩) (wr.alloc (.cells #[.int .u8 48] 5)) := one_byte wr 0
        clear hk k1 k2 K3 done
        go_wp2
        go_roundw
        case rel => exact D.out
        case measure => simp [intOf, strN, ByteArray.size]
      · obtain rfl : k = 0 := by omega
        have hne : x.isEmpty = false := by cases x with | nil => exact absurd rfl hx | cons _ _ => rfl
        have xl : 1 ≤ x.length := by cases x with | nil => exact absurd rfl hx | cons _ _ => simp
        have e : x = X := by
          have := K3.out
          rw [show 1 - x.length = 0 by omega, pd_nil, List.nil_append] at this
          rw [← HX.out, this]
        subst e
        clear hk hx xl hcv done k1 k2 K3
        have b5 : (s : Int) = 0 := by have := HZ.out; omega
        go_wp2_with (first
    | (go_at_call 133; ((with_reducible refine (two_any m M _ mb HM).mono ?_)); rintro e w2 ⟨rfl, k2⟩; simp only []
       have K2 := Lib.hid (KB.out.trans (k2.mono KB.out.size))
       clear k2))
        go_ret
        rw [FIN.out]
        exact ⟨rfl, K2.out⟩

set_option maxHeartbeats 1600000 in
theorem rtext_negs (h m s : Nat) (T : List UInt8) (w : World) (hT : Hid ([45] ++ hms h m s = T)) (hh : h < 168) (hm : m < 60) (hs : s < 60) (hz : 0 < s) (h0 : 0 < 3600 * h + 60 * m + s) :
    Calls Tryz.prog 115 #[.int .i64 (-(3600 * h + 60 * m + s))] w fun e w' => e = .returned (.string ⟨T.toArray⟩) ∧ Below w.heap.size w w' := by
  have HZ := Lib.hid hz
  obtain ⟨n, hn⟩ : ∃ n : Nat, 3600 * h + 60 * m + s = n := ⟨_, rfl⟩
  have e0 : (3600 * h + 60 * m + s : Int) = (n : Int) := by omega
  rw [e0]
  have e1 : (n : Int) / 3600 = (h : Int) := by omega
  have e2 : (n : Int) / 60 % 60 = (m : Int) := by omega
  have e3 : (n : Int) % 60 = (s : Int) := by omega
  have nb : n < 1000000 := by omega
  have l1 := pd1_len (n := h) (by omega)
  have l2 := pd2_len (n := m) (by omega)
  have l3 := pd2_len (n := s) (by omega)
  have mb : m < 100 := by omega
  have sb : s < 100 := by omega
  obtain ⟨M, hM⟩ : ∃ M, pd 2 m = M := ⟨_, rfl⟩
  obtain ⟨S, hS⟩ : ∃ S, pd 2 s = S := ⟨_, rfl⟩
  obtain ⟨x1, q1⟩ : ∃ x1, [45] ++ pd 1 h = x1 := ⟨_, rfl⟩
  obtain ⟨x2, q2⟩ : ∃ x2, x1 ++ [58] = x2 := ⟨_, rfl⟩
  obtain ⟨x3, q3⟩ : ∃ x3, x2 ++ M = x3 := ⟨_, rfl⟩
  obtain ⟨x4, q4⟩ : ∃ x4, x3 ++ [58] = x4 := ⟨_, rfl⟩
  obtain ⟨x5, q5⟩ : ∃ x5, x4 ++ S = x5 := ⟨_, rfl⟩
  have c1 : x1.length ≤ 10 := by rw [← q1, List.length_append]; simp; omega
  have c2 : x2.length ≤ 11 := by rw [← q2, List.length_append]; simp; omega
  have c3 : x3.length ≤ 20 := by rw [← q3, List.length_append, ← hM]; omega
  have c4 : x4.length ≤ 21 := by rw [← q4, List.length_append]; simp; omega
  have a1 := add_lists [45] (pd 1 h) (by simp) (by omega)
  have a2 := add_lists x1 [58] (by omega) (by simp)
  have a3 := add_lists x2 M (by omega) (by rw [← hM]; omega)
  have a4 := add_lists x3 [58] (by omega) (by simp)
  have a5 := add_lists x4 S (by omega) (by rw [← hS]; omega)
  rw [q1] at a1
  rw [q2] at a2
  rw [q3] at a3
  rw [q4] at a4
  rw [q5] at a5
  have FIN : Hid (T = x5) := Lib.hid (by
    rw [← hT.out, ← q5, ← q4, ← q3, ← q2, ← q1, ← hM, ← hS]
    unfold hms
    rw [if_neg (by omega)]
    simp)
  have HM := Lib.hid hM
  have HS := Lib.hid hS
  generalize hX : pd 1 h = X at a1
  have HX := Lib.hid hX
  have b3 : 0 < (n : Int) := by omega
  clear hn e0 hz hM hS q1 q2 q3 q4 q5 c1 c2 c3 c4 l1 l2 l3 hX nb h0
  go_enter Tryz.func115, Tryz.ntmps115
  go_wp2
  clear b3
  go_loopw [4, 5] (fun t u w' => ∃ (k : Nat) (x : List UInt8), k < 1000 ∧ x.length ≤ 5 ∧ pd 1 h = pd (1 - x.length) k ++ x ∧ t = .int .i64 k ∧ u = .string ⟨x.toArray⟩ ∧ Below w.heap.size w w') (fun t u _ => (intOf t).toNat + (1 - strN u))
  case atStart => exact ⟨h, [], by omega, by simp, by simp, rfl, rfl, Below.refl _ _⟩
  case round =>
    obtain ⟨k, x, k1, k2, k3, rfl, rfl, kb⟩ := hrel
    have K3 := Lib.hid k3
    have hcv := one_byte wr k
    have KB := Lib.hid kb
    clear k3 kb
    have done : Hid (¬ (k = 0 ∧ 1 - x.length = 0) → ∃ (k' : Nat) (x' : List UInt8), k' < 1000 ∧ x'.length ≤ 5 ∧ pd 1 h = pd (1 - x'.length) k' ++ x' ∧ Value.int .i64 ((k : Int) / 10) = .int .i64 k' ∧ Value.string (⟨[dgt k].toArray⟩ ++ ⟨x.toArray⟩) = .string ⟨x'.toArray⟩ ∧ Below w.heap.size w (wr.alloc (.cells #[.int .u8 (48 + (k : Int) % 10)] 5))) := Lib.hid fun hk => by
      have e := pd_next K3.out hk
      have l1 := pd1_len (n := h) (by omega)
      refine ⟨k / 10, _, by omega, ?_, e, by simp, by rw [ByteArray.mk_append_mk]; rfl, KB.out.alloc KB.out.size _⟩
      have e2 := congrArg List.length e
      rw [List.length_append] at e2
      omega
    by_cases hk : 0 < k
    · have hkz : 0 < (k : Int) := by omega
      go_wp2
      go_roundw
      case rel => exact done.out (by omega)
      case measure => simp [intOf, strN, ByteArray.size]; omega
    · by_cases hx : x = []
      · subst hx
        obtain rfl : k = 0 := by omega
        have D := Lib.hid (done.out (by simp))
        have hcv : (convert 116 9 (.slice (some ⟨wr.heap.size, 0, none⟩) 1 1)).run Tryz.prog (wr.alloc (.cells #[.int .u8 48] 5)) = .ok (.string ⟨#[48]⟩) (wr.alloc (.cells #[.int .u8 48] 5)) := one_byte wr 0
        clear hk k1 k2 K3 done
        go_wp2
        go_roundw
        case rel => exact D.out
        case measure => simp [intOf, strN, ByteArray.size]
      · obtain rfl : k = 0 := by omega
        have hne : x.isEmpty = false := by cases x with | nil => exact absurd rfl hx | cons _ _ => rfl
        have xl : 1 ≤ x.length := by cases x with | nil => exact absurd rfl hx | cons _ _ => simp
        have e : x = X := by
          have := K3.out
          rw [show 1 - x.length = 0 by omega, pd_nil, List.nil_append] at this
          rw [← HX.out, this]
        subst e
        clear hk hx xl hcv done k1 k2 K3
        have b5 : 0 < (s : Int) := by have := HZ.out; omega
        go_wp2_with (first
    | (go_at_call 133; ((with_reducible refine (two_any m M _ mb HM).mono ?_)); rintro e w2 ⟨rfl, k2⟩; simp only []
       have K2 := Lib.hid (KB.out.trans (k2.mono KB.out.size))
       clear k2)
    | (go_at_call 133; ((with_reducible refine (two_any s S _ sb HS).mono ?_)); rintro e w3 ⟨rfl, k3⟩; simp only []
       have K3 := Lib.hid (K2.out.trans (k3.mono K2.out.size))
       clear k3))
        go_ret
        rw [FIN.out]
        exact ⟨rfl, K3.out⟩

theorem rtext_any (n : Int) (T : List UInt8) (w : World) (h1 : -604800 < n) (h2 : n < 604800) (hT : Hid (textL n = T)) :
    Calls Tryz.prog 115 #[.int .i64 n] w fun e w' => e = .returned (.string ⟨T.toArray⟩) ∧ Below w.heap.size w w' := by
  by_cases h : n < 0
  · obtain ⟨k, hk⟩ := Int.eq_ofNat_of_zero_le (show 0 ≤ -n by omega)
    obtain rfl : n = -(k : Int) := by omega
    have e : (k : Int) = 3600 * (k / 3600 : Nat) + 60 * (k % 3600 / 60 : Nat) + (k % 60 : Nat) := by omega
    have hT2 : [45] ++ hms (k / 3600) (k % 3600 / 60) (k % 60) = T := by rw [← hT.out]; unfold textL textN; rw [if_pos h]; simp
    rw [e]
    rcases Nat.eq_zero_or_pos (k % 60) with h0 | h0
    · exact rtext_neg0 _ _ _ T w (Lib.hid hT2) (by omega) (by omega) (by omega) h0 (by omega)
    · exact rtext_negs _ _ _ T w (Lib.hid hT2) (by omega) (by omega) (by omega) h0 (by omega)
  · obtain ⟨k, rfl⟩ := Int.eq_ofNat_of_zero_le (show 0 ≤ n by omega)
    have e : (k : Int) = 3600 * (k / 3600 : Nat) + 60 * (k % 3600 / 60 : Nat) + (k % 60 : Nat) := by omega
    have hT2 : ([] : List UInt8) ++ hms (k / 3600) (k % 3600 / 60) (k % 60) = T := by rw [← hT.out]; unfold textL textN; rw [if_neg h]; simp
    rw [e]
    rcases Nat.eq_zero_or_pos (k % 60) with h0 | h0
    · exact rtext_pos0 _ _ _ T w (Lib.hid hT2) (by omega) (by omega) (by omega) h0
    · exact rtext_poss _ _ _ T w (Lib.hid hT2) (by omega) (by omega) (by omega) h0
end Go.Proofs.YtfmehdophoejiaaGreatDoor
