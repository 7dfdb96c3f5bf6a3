/- The contract of the reference's Join: the line of words, byte by byte; nothing that was in memory changes. -/
import Derived.Test.YtomiopdmgdidnaaDoorLxR
namespace Go.Proofs.YtomiopdmgdidnaaDoor
open Go.RowKit
attribute [local go_sem] Oper.semAt_some

theorem rputQ_len (p : List UInt8) : (putQ p).length ≤ p.length + 2 := by
  unfold putQ
  split
  · simp
  · omega
theorem rtail_take {ws : List (List UInt8)} {i : Nat} {p : List UInt8} (h : ws[i]? = some p) : tailG true (ws.take (i + 1)) = tailG true (ws.take i) ++ ((if i = 0 then [] else [32]) ++ putQ p) := by
  have hi := (List.getElem?_eq_some_iff.1 h).1
  rw [show ws.take (i + 1) = ws.take i ++ [p] by rw [List.take_add_one, h]; rfl, tailG_snoc]
  congr 2
  by_cases h0 : i = 0
  · subst h0; simp
  · have : (ws.take i).isEmpty = false := by
      cases hh : ws.take i with
      | nil => have := congrArg List.length hh; rw [List.length_take, List.length_nil] at this; omega
      | cons _ _ => rfl
    rw [this, if_neg h0]; rfl
theorem rbad_take {ws : List (List UInt8)} {i : Nat} {p : List UInt8} (h : ws[i]? = some p) : (ws.take (i + 1)).any (·.any badB) = ((ws.take i).any (·.any badB) || p.any badB) := by
  rw [show ws.take (i + 1) = ws.take i ++ [p] by rw [List.take_add_one, h]; rfl, List.any_append]; simp

set_option maxRecDepth 20000 in
set_option maxHeartbeats 8000000 in
theorem rjoin_is (A : Option Addr) (n cp : Nat) (ws : List (List UInt8)) (er : Int) (t : List UInt8) (w : World) (hW : Ws w A ws) (hn : ws.length = n) (hp : ∀ p ∈ ws, p.length ≤ 1000) (HV : Hid (joinE ws = er ∧ joinL ws = t)) :
    Calls Tryd.prog 14 #[.slice A n cp] w fun e w' => e = .returned (.tuple #[.string ⟨t.toArray⟩, .int .i64 er]) ∧ w' = w := by
  have HW := Lib.hid hW
  have HN := Lib.hid hn
  have HP := Lib.hid hp
  clear hW hp
  by_cases h32 : 32 < n
  · have E : Hid (er = 14 ∧ t = []) := Lib.hid (by
      have e1 : joinE ws = 14 := by unfold joinE; rw [hn, if_pos h32]
      exact ⟨by rw [← HV.out.1, e1], by rw [← HV.out.2]; unfold joinL; rw [e1]; rfl⟩)
    have h32' : (32 : Int) < (n : Int) := by omega
    clear hn h32
    go_enter Tryd.func14, Tryd.ntmps14
    go_wp2
    go_ret2
    rw [E.out.1, E.out.2]
    exact ⟨rfl, rfl⟩
  · have h32' : ¬ (32 : Int) < (n : Int) := by omega
    have hn32 : n ≤ 32 := by omega
    clear hn h32
    go_enter Tryd.func14, Tryd.ntmps14
    go_wp2
    go_loopw [4, 5] (fun vs v w' => ∃ (i : Nat) (l : List UInt8), v = .int .i64 i ∧ vs = .string ⟨l.toArray⟩ ∧ i ≤ n ∧ (ws.take i).any (·.any badB) = false ∧ tailG true (ws.take i) = l ∧ l.length ≤ 2000 * i ∧ w' = w) (fun _ v _ => n - (intOf v).toNat)
    case atStart => exact ⟨0, [], rfl, rfl, Nat.zero_le _, rfl, rfl, Nat.zero_le _, rfl⟩
    case round =>
      obtain ⟨i, l, rfl, rfl, hi, hb, ht, hl, rfl⟩ := hrel
      have HB := Lib.hid hb
      have HT := Lib.hid ht
      clear hb ht
      by_cases hlt : i < n
      · obtain ⟨p, hp⟩ : ∃ p, ws[i]? = some p := ⟨_, List.getElem?_eq_getElem (by rw [HN.out]; exact hlt)⟩
        obtain ⟨g, o, rfl, hgl, hcell⟩ := HW.out i p hp
        have hpl : p.length ≤ 1000 := HP.out p (List.mem_of_getElem? hp)
        have hii : (i : Int) < (n : Int) := by omega
        have TT := Lib.hid (rtail_take hp)
        have BT := Lib.hid (rbad_take hp)
        have hpq := rputQ_len p
        have HPm := Lib.hid (List.mem_of_getElem? hp)
        have hz := lxsize p
        obtain ⟨w0, hw0⟩ : ∃ w0, w0 = wr := ⟨_, rfl⟩
        clear hp
        go_wp2
        go_loopw [6, 7] (fun vq vk w' => ∃ (k : Nat) (q : Bool), vk = .int .i64 k ∧ vq = .bool q ∧ k ≤ p.length ∧ (p.take k).any badB = false ∧ (p.isEmpty || (p.take k).any endB) = q ∧ w' = w0) (fun _ vk _ => p.length - (intOf vk).toNat)
        case atStart => exact ⟨0, p.isEmpty, rfl, (by first | rfl | simp), Nat.zero_le _, rfl, by simp, hw0.symm⟩
        case round =>
          obtain ⟨k, q, rfl, rfl, hk, hkb, hq, hw1⟩ := hrel
          subst hw0
          subst hw1
          have HKB := Lib.hid hkb
          have HQ := Lib.hid hq
          clear hkb hq
          by_cases hkl : k < p.length
          · obtain ⟨c, hc⟩ : ∃ c, p.getD k 0 = c := ⟨_, rfl⟩
            have hix := lxbyte_at p k hkl c hc
            have hkk : (k : Int) < (p.length : Int) := by omega
            have HC := Lib.hid hc
            have out : badB c = true → er = 12 ∧ t = [] := fun h => by
              have e0 : ws.any (·.any badB) = true := List.any_eq_true.2 ⟨p, HPm.out, take_hit badB hkl HC.out h⟩
              have e1 : joinE ws = 12 := by unfold joinE; rw [HN.out, if_neg (by omega), e0, if_pos rfl]
              exact ⟨by rw [← HV.out.1, e1], by rw [← HV.out.2]; unfold joinL; rw [e1]; rfl⟩
            clear hc
            cases h0 : c == 0
            · have t0 := byte_ne 0 0 rfl h0
              cases h10 : c == 10
              · have t10 := byte_ne 10 10 rfl h10
                cases h13 : c == 13
                · have t13 := byte_ne 13 13 rfl h13
                  cases h34 : c == 34
                  · have t34 := byte_ne 34 34 rfl h34
                    have hbn : badB c = false := by unfold badB; rw [h0, h10, h13, h34]; rfl
                    have HN2 : Hid ((p.take (k + 1)).any badB = false) := Lib.hid (by rw [take_any badB hkl HC.out, HKB.out, hbn]; rfl)
                    have HE := Lib.hid (take_any endB hkl HC.out)
                    clear out hbn
                    cases q
                    · cases h32 : c == 32
                      · have t32 := byte_ne 32 32 rfl h32
                        cases h9 : c == 9
                        · have t9 := byte_ne 9 9 rfl h9
                          cases h35 : c == 35
                          · have t35 := byte_ne 35 35 rfl h35
                            have HQ2 : Hid ((p.isEmpty || (p.take (k + 1)).any endB) = false) := Lib.hid (by rw [HE.out, ← Bool.or_assoc, HQ.out]; unfold endB; rw [h32, h9, h35]; rfl)
                            go_wp2
                            go_roundw
                            case rel => exact ⟨k + 1, false, by go_num, rfl, by omega, HN2.out, HQ2.out, by first | rfl | trivial⟩
                            case measure => simp [intOf]; omega
                          · have t35 := byte_eq 35 35 rfl h35
                            have HQ2 : Hid ((p.isEmpty || (p.take (k + 1)).any endB) = true) := Lib.hid (by rw [HE.out, ← Bool.or_assoc, HQ.out]; unfold endB; rw [h35, Bool.or_true]; rfl)
                            go_wp2
                            go_roundw
                            case rel => exact ⟨k + 1, true, by go_num, rfl, by omega, HN2.out, HQ2.out, by first | rfl | trivial⟩
                            case measure => simp [intOf]; omega
                        · have t9 := byte_eq 9 9 rfl h9
                          have HQ2 : Hid ((p.isEmpty || (p.take (k + 1)).any endB) = true) := Lib.hid (by rw [HE.out, ← Bool.or_assoc, HQ.out]; unfold endB; rw [h9, Bool.or_true, Bool.true_or]; rfl)
                          go_wp2
                          go_roundw
                          case rel => exact ⟨k + 1, true, by go_num, rfl, by omega, HN2.out, HQ2.out, by first | rfl | trivial⟩
                          case measure => simp [intOf]; omega
                      · have t32 := byte_eq 32 32 rfl h32
                        have HQ2 : Hid ((p.isEmpty || (p.take (k + 1)).any endB) = true) := Lib.hid (by rw [HE.out, ← Bool.or_assoc, HQ.out]; unfold endB; rw [h32, Bool.true_or, Bool.true_or]; rfl)
                        go_wp2
                        go_roundw
                        case rel => exact ⟨k + 1, true, by go_num, rfl, by omega, HN2.out, HQ2.out, by first | rfl | trivial⟩
                        case measure => simp [intOf]; omega
                    · have HQ2 : Hid ((p.isEmpty || (p.take (k + 1)).any endB) = true) := Lib.hid (by rw [HE.out, ← Bool.or_assoc, HQ.out]; exact Bool.true_or _)
                      go_wp2
                      go_roundw
                      case rel => exact ⟨k + 1, true, by go_num, rfl, by omega, HN2.out, HQ2.out, by first | rfl | trivial⟩
                      case measure => simp [intOf]; omega
                  · have t34 := byte_eq 34 34 rfl h34
                    obtain ⟨rfl, rfl⟩ := out (by unfold badB; rw [h34, Bool.or_true])
                    go_wp2
                    go_ret2
                    exact ⟨rfl, rfl⟩
                · have t13 := byte_eq 13 13 rfl h13
                  obtain ⟨rfl, rfl⟩ := out (by unfold badB; rw [h13, Bool.or_true, Bool.true_or])
                  go_wp2
                  go_ret2
                  exact ⟨rfl, rfl⟩
              · have t10 := byte_eq 10 10 rfl h10
                obtain ⟨rfl, rfl⟩ := out (by unfold badB; rw [h10, Bool.or_true, Bool.true_or, Bool.true_or])
                go_wp2
                go_ret2
                exact ⟨rfl, rfl⟩
            · have t0 := byte_eq 0 0 rfl h0
              obtain ⟨rfl, rfl⟩ := out (by unfold badB; rw [h0, Bool.true_or, Bool.true_or, Bool.true_or])
              go_wp2
              go_ret2
              exact ⟨rfl, rfl⟩
          · obtain rfl : k = p.length := by omega
            have hkk : ¬ ((p.length : Nat) : Int) < (p.length : Int) := by omega
            have e1 : p.any badB = false := by have := HKB.out; rwa [List.take_length] at this
            have e2 : needQ p = q := by have := HQ.out; rwa [List.take_length] at this
            have hbn : Hid ((ws.take (i + 1)).any (·.any badB) = false) := Lib.hid (by rw [BT.out, HB.out, e1]; rfl)
            clear HKB HQ e1 hk hkl
            by_cases h0 : i = 0
            · subst h0
              rw [Nat.add_zero] at hcell
              have h0' : ¬ (0 : Int) < ((0 : Nat) : Int) := by omega
              cases q
              · have hue : putQ p = p := by unfold putQ; rw [if_neg (by rw [e2]; decide)]
                have ad1 := lxadd l p (by omega) (by omega)
                have hl2 : Hid (tailG true (ws.take (0 + 1)) = l ++ p) := Lib.hid (by rw [TT.out, HT.out, hue, if_pos rfl]; simp)
                clear hue e2
                go_wp2
                go_roundw
                case rel => exact ⟨0 + 1, l ++ p, by go_num, rfl, by omega, hbn.out, hl2.out, by simp; omega, by first | rfl | trivial⟩
                case measure => simp [intOf]; omega
              · have hue : putQ p = 34 :: (p ++ [34]) := by unfold putQ; rw [if_pos e2]
                have ad1 : ∀ W, (Op.stringOp .add ⟨(l).toArray⟩ ⟨([34]).toArray⟩).run Tryd.prog W = .ok (.string ⟨(l ++ [34]).toArray⟩) W := fun W => by
                  have := lxadd (l) ([34]) (by first | omega | (simp; omega)) (by first | omega | simp) W
                  rwa [show (l) ++ ([34]) = l ++ [34] from by simp] at this
                have ad2 : ∀ W, (Op.stringOp .add ⟨(l ++ [34]).toArray⟩ ⟨(p).toArray⟩).run Tryd.prog W = .ok (.string ⟨(l ++ 34 :: p).toArray⟩) W := fun W => by
                  have := lxadd (l ++ [34]) (p) (by first | omega | (simp; omega)) (by first | omega | simp) W
                  rwa [show (l ++ [34]) ++ (p) = l ++ 34 :: p from by simp] at this
                have ad3 : ∀ W, (Op.stringOp .add ⟨(l ++ 34 :: p).toArray⟩ ⟨([34]).toArray⟩).run Tryd.prog W = .ok (.string ⟨(l ++ 34 :: (p ++ [34])).toArray⟩) W := fun W => by
                  have := lxadd (l ++ 34 :: p) ([34]) (by first | omega | (simp; omega)) (by first | omega | simp) W
                  rwa [show (l ++ 34 :: p) ++ ([34]) = l ++ 34 :: (p ++ [34]) from by simp] at this
                have hl2 : Hid (tailG true (ws.take (0 + 1)) = l ++ 34 :: (p ++ [34])) := Lib.hid (by rw [TT.out, HT.out, hue, if_pos rfl]; simp)
                clear hue e2
                go_wp2
                go_roundw
                case rel => exact ⟨0 + 1, l ++ 34 :: (p ++ [34]), by go_num, rfl, by omega, hbn.out, hl2.out, by simp; omega, by first | rfl | trivial⟩
                case measure => simp [intOf]; omega
            · have h0' : (0 : Int) < (i : Int) := by omega
              have had := lxadd l [32] (by omega) (by simp)
              cases q
              · have hue : putQ p = p := by unfold putQ; rw [if_neg (by rw [e2]; decide)]
                have ad1 : ∀ W, (Op.stringOp .add ⟨(l ++ [32]).toArray⟩ ⟨(p).toArray⟩).run Tryd.prog W = .ok (.string ⟨(l ++ 32 :: p).toArray⟩) W := fun W => by
                  have := lxadd (l ++ [32]) (p) (by first | omega | (simp; omega)) (by first | omega | simp) W
                  rwa [show (l ++ [32]) ++ (p) = l ++ 32 :: p from by simp] at this
                have hl2 : Hid (tailG true (ws.take (i + 1)) = l ++ 32 :: p) := Lib.hid (by rw [TT.out, HT.out, hue, if_neg h0]; simp)
                clear hue e2
                go_wp2
                go_roundw
                case rel => exact ⟨i + 1, l ++ 32 :: p, by go_num, rfl, by omega, hbn.out, hl2.out, by simp; omega, by first | rfl | trivial⟩
                case measure => simp [intOf]; omega
              · have hue : putQ p = 34 :: (p ++ [34]) := by unfold putQ; rw [if_pos e2]
                have ad1 : ∀ W, (Op.stringOp .add ⟨(l ++ [32]).toArray⟩ ⟨([34]).toArray⟩).run Tryd.prog W = .ok (.string ⟨(l ++ [32, 34]).toArray⟩) W := fun W => by
                  have := lxadd (l ++ [32]) ([34]) (by first | omega | (simp; omega)) (by first | omega | simp) W
                  rwa [show (l ++ [32]) ++ ([34]) = l ++ [32, 34] from by simp] at this
                have ad2 : ∀ W, (Op.stringOp .add ⟨(l ++ [32, 34]).toArray⟩ ⟨(p).toArray⟩).run Tryd.prog W = .ok (.string ⟨(l ++ 32 :: 34 :: p).toArray⟩) W := fun W => by
                  have := lxadd (l ++ [32, 34]) (p) (by first | omega | (simp; omega)) (by first | omega | simp) W
                  rwa [show (l ++ [32, 34]) ++ (p) = l ++ 32 :: 34 :: p from by simp] at this
                have ad3 : ∀ W, (Op.stringOp .add ⟨(l ++ 32 :: 34 :: p).toArray⟩ ⟨([34]).toArray⟩).run Tryd.prog W = .ok (.string ⟨(l ++ 32 :: 34 :: (p ++ [34])).toArray⟩) W := fun W => by
                  have := lxadd (l ++ 32 :: 34 :: p) ([34]) (by first | omega | (simp; omega)) (by first | omega | simp) W
                  rwa [show (l ++ 32 :: 34 :: p) ++ ([34]) = l ++ 32 :: 34 :: (p ++ [34]) from by simp] at this
                have hl2 : Hid (tailG true (ws.take (i + 1)) = l ++ 32 :: 34 :: (p ++ [34])) := Lib.hid (by rw [TT.out, HT.out, hue, if_neg h0]; simp)
                clear hue e2
                go_wp2
                go_roundw
                case rel => exact ⟨i + 1, l ++ 32 :: 34 :: (p ++ [34]), by go_num, rfl, by omega, hbn.out, hl2.out, by simp; omega, by first | rfl | trivial⟩
                case measure => simp [intOf]; omega
      · obtain rfl : i = n := by omega
        have E : Hid (er = 0 ∧ t = l) := Lib.hid (by
          have e0 := HB.out
          have e2 := HT.out
          rw [List.take_of_length_le (by rw [HN.out]; exact Nat.le_refl _)] at e0 e2
          have e1 : joinE ws = 0 := by unfold joinE; rw [HN.out, if_neg (by omega), e0, if_neg (by decide)]
          exact ⟨by rw [← HV.out.1, e1], by rw [← HV.out.2]; unfold joinL; rw [if_pos e1, e2]⟩)
        have hii : ¬ (i : Int) < (i : Int) := by omega
        go_wp2
        go_ret2
        rw [E.out.1, E.out.2]
        exact ⟨rfl, rfl⟩
end Go.Proofs.YtomiopdmgdidnaaDoor
