/- What abbr.All's iterator hands to whatever loop it is ranged over by. -/
import Derived.Test.YtcfmmllegaddhaaDoorAbG
namespace Go.Proofs.YtcfmmllegaddhaaDoor
open Go.RowKit Go.Shelf
attribute [local go_sem] Oper.semAt_some

theorem two_ix0 (W : World) : (Instr.index 56 (.agg #[.bool false, .bool true]) (.int .i64 0)).run Tryd.prog W = .ok (.bool false) W := by kernel_rfl
theorem two_ix1 (W : World) : (Instr.index 56 (.agg #[.bool false, .bool true]) (.int .i64 1)).run Tryd.prog W = .ok (.bool true) W := by kernel_rfl
theorem grownN {W W1 : World} (h : Below W.heap.size W W1) : W.grownBy W1 none := ⟨h.os, h.tape, h.output, h.size, fun i hi _ => h.block i hi⟩

set_option maxRecDepth 20000 in
set_option maxHeartbeats 4000000 in
theorem all_seq (n : Nat) (hn : 1 ≤ n) (n0 Bl Bf Bo : Nat) (A : Option Addr) (m c : Nat) (f : List UInt8) (off : Int) (ls : List (List UInt8)) (w : World) (hm : ls.length = m) (h10 : m ≤ 10) (hf : f.length ≤ 100) (hls : ∀ l ∈ ls, l.length ≤ 100) (hA : AllAt n0 Bl Bf Bo A m c f off ls w) :
    SeqKp n Tryd.prog 28 #[.pointer (some ⟨Bl, 0, none⟩), .pointer (some ⟨Bf, 0, none⟩), .pointer (some ⟨Bo, 0, none⟩)] encE (okE f off ls) n0 (fun _ _ => True) (fun xs : List El => xs.length = cntE f off ls) (fun _ : List El => True) w := by
  intro l J Jx W hW hJ hJx hY h0
  have HM := Lib.hid hm
  have HF : Hid (f.length ≤ 1000) := Lib.hid (by omega)
  have HL := Lib.hid hls
  have HJ := Lib.hid hJ
  have HY := Lib.hid hY
  have H0 := Lib.hid h0
  have AA := Lib.hid (hA.next hW)
  obtain ⟨e0, he0⟩ : ∃ e0, shE f off = e0 := ⟨_, rfl⟩
  have E0 := Lib.hid he0
  have CN : Hid (∀ k : Nat, k = (if e0 = 0 then 2 * m else 0) → k = cntE f off ls) := Lib.hid fun k h => by unfold cntE; rw [he0, hm]; exact h
  have bl := AA.out.cl
  have ar0 := two_ix0
  have ar1 := two_ix1
  clear hm hf hls hA hW hJ hJx hY h0 he0
  refine callsIn_of_wp Tryd.func28 rfl trivial ?_ rfl
  simp only [Tryd.ntmps28, List.size_toArray, List.length_cons, List.length_nil, Nat.reduceAdd, Nat.reduceSub, Array.replicate_succ, Array.replicate_zero, List.push_toArray, List.append_toArray, List.nil_append, List.cons_append]
  gi_wp2
  gi_loopw [13] (fun v wr => ∃ (pre : List El) (i : Nat), v = .int .i64 (i : Int) ∧ i ≤ m ∧ pre.length = (if e0 = 0 then 2 * i else 0) ∧ AllAt n0 Bl Bf Bo A m c f off ls wr ∧ W.heap.size ≤ wr.heap.size ∧ J pre wr) (fun v _ => m - (intOf v).toNat)
  case atStart => exact ⟨[], 0, rfl, Nat.zero_le _, by simp, AA.out, Nat.le_refl _, H0.out⟩
  case round =>
    obtain ⟨pre, i, rfl, hi, hp, hA, hs, hJ⟩ := hrel
    have HP := Lib.hid hp
    have AR := Lib.hid hA
    have HJP := Lib.hid hJ
    have HS := Lib.hid hs
    clear hp hA hJ hs bl AA H0
    by_cases hlt : i < m
    · have hlt' : (i : Int) < (m : Int) := by omega
      obtain ⟨q, hq⟩ : ∃ q, ls[i]? = some q := ⟨_, List.getElem?_eq_getElem (by rw [HM.out]; exact hlt)⟩
      obtain ⟨b, o, rfl, hb, hc⟩ := AR.out.rows i q hq
      have HQ := Lib.hid hq
      have QL : Hid (q.length ≤ 100) := Lib.hid (HL.out q (List.mem_of_getElem? hq))
      have QD : Hid (ls.getD i [] = q) := Lib.hid (by simp [List.getD, hq])
      clear hq
      gi_wp2
      gi_loopw [18] (fun v wr2 => ∃ (pre2 : List El) (d : Nat), v = .int .i64 (d : Int) ∧ d ≤ 2 ∧ pre2.length = (if e0 = 0 then 2 * i + d else 0) ∧ AllAt n0 Bl Bf Bo (some ⟨b, o, none⟩) m c f off ls wr2 ∧ W.heap.size ≤ wr2.heap.size ∧ J pre2 wr2) (fun v _ => 2 - (intOf v).toNat)
      case atStart => exact ⟨pre, 0, rfl, by omega, HP.out, AR.out, HS.out, HJP.out⟩
      case round =>
      obtain ⟨pre2, d, rfl, hd, hp2, hA2, hs2, hJ2⟩ := hrel
      have P2 := Lib.hid hp2
      have AR2 := Lib.hid hA2
      have J2 := Lib.hid hJ2
      have S2 := Lib.hid hs2
      clear hp2 hA2 hJ2 hs2 HP AR HJP HS hc
      have V : d = 0 ∨ d = 1 ∨ d = 2 := by omega
      rcases V with rfl | rfl | rfl
      · have cf := AR2.out.cf
        have co := AR2.out.co
        have SH : Hid (∀ Y, LaidB Y → Calls Tryd.prog 17 #[.string ⟨f.toArray⟩, .int .i64 off, .bool false, .string ⟨q.toArray⟩] Y fun e Y' => e = .returned (.tuple #[.string ⟨(shS f off false q).toArray⟩, .int .i64 e0]) ∧ Below Y.heap.size Y Y') := Lib.hid fun Y h => show_is f q _ off e0 false Y (Lib.hid h) (Lib.hid ⟨HF.out, QL.out⟩) (Lib.hid ⟨rfl, E0.out⟩)
        obtain ⟨T, hT⟩ : ∃ T, shS f off false q = T := ⟨_, rfl⟩
        rw [hT] at SH
        have WT := Lib.hid hT
        clear hT
        by_cases z : e0 = 0
        · subst z
          have NQ : Hid (pre2.length = 2 * i + 0) := Lib.hid (by have := P2.out; rw [if_pos rfl] at this; exact this)
          have OK : Hid (okE f off ls pre2 (false, T)) := Lib.hid ⟨E0.out, by rw [NQ.out, HM.out]; omega, by
            have e1 : decide ((2 * i + 0) % 2 = 1) = false := by rw [decide_eq_false_iff_not]; omega
            have e2 : (2 * i + 0) / 2 = i := by omega
            unfold elE; rw [NQ.out, e1, e2, QD.out, WT.out]⟩
          gi_wp2_with (refine ⟨trivial, ?_⟩; gi_at_call 17; refine (callsIn_wide.2 (SH.out _ AR2.out.laid)).mono ?_; rintro e w2 ⟨rfl, k2⟩; have K2 := Lib.hid k2; clear k2 SH
                       obtain ⟨fn, tmps, assign, body, hy, hR⟩ := HY.out pre2 (false, T) w2 (HJ.out _ _ _ none J2.out (grownN K2.out) (by simp)) OK.out (Nat.le_trans S2.out K2.out.size)
                       simp only [encE] at hy)
          refine hR.mono ?_
          rintro e W3 (⟨rfl, hJ3, hk3, -⟩ | ⟨rfl, hJx3⟩)
          · have HJ3 := Lib.hid hJ3
            have HK3 := Lib.hid hk3
            clear hJ3 hk3
            gi_wp2
            go_roundw
            case rel => exact ⟨pre2 ++ [(false, T)], 1, rfl, by omega, by rw [List.length_append, NQ.out]; rfl, (AR2.out.next K2.out).below HK3.out, Nat.le_trans (Nat.le_trans S2.out K2.out.size) HK3.out.size, HJ3.out⟩
            case measure => simp [intOf]
          · gi_wp2
            exact bodyPost_ret (results_none rfl _ _ _) rfl ⟨⟨_, rfl⟩, .inr ⟨_, trivial, hJx3⟩⟩
        · have z1 : (e0 == 0) = false := by simpa using z
          have NQ : Hid (pre2.length = 0) := Lib.hid (by have := P2.out; rw [if_neg z] at this; exact this)
          gi_wp2_with (refine ⟨trivial, ?_⟩; gi_at_call 17; refine (callsIn_wide.2 (SH.out _ AR2.out.laid)).mono ?_; rintro e w2 ⟨rfl, k2⟩; have K2 := Lib.hid k2; clear k2 SH)
          refine ⟨fun _ h => (by cases h), ?_⟩
          gi_wp2
          go_roundw
          case rel => exact ⟨pre2, 1, rfl, by omega, by rw [if_neg z]; exact NQ.out, AR2.out.next K2.out, Nat.le_trans S2.out K2.out.size, HJ.out _ _ _ none J2.out (grownN K2.out) (by simp)⟩
          case measure => simp [intOf]
      · have cf := AR2.out.cf
        have co := AR2.out.co
        have SH : Hid (∀ Y, LaidB Y → Calls Tryd.prog 17 #[.string ⟨f.toArray⟩, .int .i64 off, .bool true, .string ⟨q.toArray⟩] Y fun e Y' => e = .returned (.tuple #[.string ⟨(shS f off true q).toArray⟩, .int .i64 e0]) ∧ Below Y.heap.size Y Y') := Lib.hid fun Y h => show_is f q _ off e0 true Y (Lib.hid h) (Lib.hid ⟨HF.out, QL.out⟩) (Lib.hid ⟨rfl, E0.out⟩)
        obtain ⟨T, hT⟩ : ∃ T, shS f off true q = T := ⟨_, rfl⟩
        rw [hT] at SH
        have WT := Lib.hid hT
        clear hT
        by_cases z : e0 = 0
        · subst z
          have NQ : Hid (pre2.length = 2 * i + 1) := Lib.hid (by have := P2.out; rw [if_pos rfl] at this; exact this)
          have OK : Hid (okE f off ls pre2 (true, T)) := Lib.hid ⟨E0.out, by rw [NQ.out, HM.out]; omega, by
            have e1 : decide ((2 * i + 1) % 2 = 1) = true := by rw [decide_eq_true_iff]; omega
            have e2 : (2 * i + 1) / 2 = i := by omega
            unfold elE; rw [NQ.out, e1, e2, QD.out, WT.out]⟩
          gi_wp2_with (refine ⟨trivial, ?_⟩; gi_at_call 17; refine (callsIn_wide.2 (SH.out _ AR2.out.laid)).mono ?_; rintro e w2 ⟨rfl, k2⟩; have K2 := Lib.hid k2; clear k2 SH
                       obtain ⟨fn, tmps, assign, body, hy, hR⟩ := HY.out pre2 (true, T) w2 (HJ.out _ _ _ none J2.out (grownN K2.out) (by simp)) OK.out (Nat.le_trans S2.out K2.out.size)
                       simp only [encE] at hy)
          refine hR.mono ?_
          rintro e W3 (⟨rfl, hJ3, hk3, -⟩ | ⟨rfl, hJx3⟩)
          · have HJ3 := Lib.hid hJ3
            have HK3 := Lib.hid hk3
            clear hJ3 hk3
            gi_wp2
            go_roundw
            case rel => exact ⟨pre2 ++ [(true, T)], 2, rfl, by omega, by rw [List.length_append, NQ.out]; rfl, (AR2.out.next K2.out).below HK3.out, Nat.le_trans (Nat.le_trans S2.out K2.out.size) HK3.out.size, HJ3.out⟩
            case measure => simp [intOf]
          · gi_wp2
            exact bodyPost_ret (results_none rfl _ _ _) rfl ⟨⟨_, rfl⟩, .inr ⟨_, trivial, hJx3⟩⟩
        · have z1 : (e0 == 0) = false := by simpa using z
          have NQ : Hid (pre2.length = 0) := Lib.hid (by have := P2.out; rw [if_neg z] at this; exact this)
          gi_wp2_with (refine ⟨trivial, ?_⟩; gi_at_call 17; refine (callsIn_wide.2 (SH.out _ AR2.out.laid)).mono ?_; rintro e w2 ⟨rfl, k2⟩; have K2 := Lib.hid k2; clear k2 SH)
          refine ⟨fun _ h => (by cases h), ?_⟩
          gi_wp2
          go_roundw
          case rel => exact ⟨pre2, 2, rfl, by omega, by rw [if_neg z]; exact NQ.out, AR2.out.next K2.out, Nat.le_trans S2.out K2.out.size, HJ.out _ _ _ none J2.out (grownN K2.out) (by simp)⟩
          case measure => simp [intOf]
      · have NQ : Hid (pre2.length = if e0 = 0 then 2 * (i + 1) else 0) := Lib.hid (by rw [P2.out]; split <;> omega)
        gi_wp2
        go_roundw
        case rel => exact ⟨pre2, i + 1, by go_num, by omega, NQ.out, AR2.out, S2.out, J2.out⟩
        case measure => simp [intOf]; omega
    · obtain rfl : i = m := by omega
      have hlt' : ¬ (i : Int) < (i : Int) := by omega
      gi_wp2
      go_end0
      exact ⟨⟨_, rfl⟩, .inl ⟨pre, CN.out _ HP.out, HJP.out⟩⟩
end Go.Proofs.YtcfmmllegaddhaaDoor
