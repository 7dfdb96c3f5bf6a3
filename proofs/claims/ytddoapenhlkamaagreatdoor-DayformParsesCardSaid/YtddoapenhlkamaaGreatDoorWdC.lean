/- The contract of words.meant's closure: it hands the places of the words that a word is short for to whatever loop it is ranged over by. -/
import Derived.RangeFuncNested
import Derived.RangeFuncBound
import Derived.RangeFuncCalls
import Derived.RangeFuncLeaves
import Derived.Shelf.Abstract
import Derived.OwnWalkIn
import Derived.TacticsInMore
import Derived.LoopNIn
import Derived.LoopIn
import Derived.WalkMore
import Derived.Test.YtddoapenhlkamaaGreatDoorWdB
import Derived.Test.YtddoapenhlkamaaGreatDoorRdF
namespace Go.Proofs.YtddoapenhlkamaaGreatDoor
open Go.RowKit Go.Shelf
attribute [local go_sem] Oper.semAt_some

abbrev Pl : Type := { x : Nat × Bool // x.1 < 1000000 }
def plV (x : Pl) : Array Value := #[.int .i64 x.1.1, .bool x.1.2]

/-- What a round that goes on keeps: all but the two variables at g and g + 1. -/
structure Keeps2 (g n : Nat) (W W' : World) : Prop where
  bel : Below g W W'
  up : ∀ j, g + 2 ≤ j → j < n → W'.heap[j]? = W.heap[j]?
theorem Keeps2.trans {g n : Nat} {A B C : World} (h : Keeps2 g n A B) (k : Keeps2 g n B C) : Keeps2 g n A C := ⟨h.bel.trans k.bel, fun j h1 h2 => (k.up j h1 h2).trans (h.up j h1 h2)⟩
theorem Keeps2.cell {g n b o : Nat} {W W' : World} (h : Keeps2 g n W W') (h1 : g + 2 ≤ b) (h2 : b < n) : W'.cell? ⟨b, o, none⟩ = W.cell? ⟨b, o, none⟩ := by
  simp only [World.cell?, h.up b h1 h2]

theorem hp_is (p b : List UInt8) (v : Bool) (w : World) (h : Hid (b.isPrefixOf p = v)) : Calls Tryz.prog 84 #[.string ⟨p.toArray⟩, .string ⟨b.toArray⟩] w fun e w' => e = .returned (.bool v) ∧ w' = w := by
  have := Tryz.strings_HasPrefix ⟨p.toArray⟩ ⟨b.toArray⟩ w
  have e : Lib.hasPrefix p b = v := h.out
  rw [show (⟨p.toArray⟩ : ByteArray).data.toList = p from rfl, show (⟨b.toArray⟩ : ByteArray).data.toList = b from rfl, e] at this
  exact this

theorem meantL_at {b p : List UInt8} {ws : List (List UInt8)} {i : Nat} (hp : ws[i]? = some p) : meantL b (ws.drop i) i = (if begins b p then [(i, decide (b = p))] else []) ++ meantL b (ws.drop (i + 1)) (i + 1) := by
  rw [wdrop_at hp]
  simp only [meantL]
  split <;> rfl

set_option maxHeartbeats 2000000 in
theorem meant_in (F : Fence) (hF : F = Fence.wide) (n : Nat) (hn : 1 ≤ n) (l Bl Bw g N L m : Nat) (b : List UInt8) (ws : List (List UInt8)) (hm : ws.length = m) (hm2 : m ≤ 100) (J Jx : List Pl → World → Prop)
    (W : World) (hA : AbidesFrom W.heap.size J)
    (hY : ∀ pre x W1, J pre W1 → pre.length < (meantL b ws 0).length → YieldAt F (n - 1) Tryz.prog l (plV x) W1 fun e W' =>
      (e = .returned (.bool true) ∧ J (pre ++ [x]) W' ∧ Keeps2 g N W1 W') ∨ (e = .returned (.bool false) ∧ Jx (pre ++ [x]) W'))
    (hBl : W.cell? ⟨Bl, 0, none⟩ = some (.slice (some ⟨L, 0, none⟩) m m)) (hBw : W.cell? ⟨Bw, 0, none⟩ = some (.string ⟨b.toArray⟩)) (hw1 : g + 2 ≤ Bw) (hw2 : Bw < N) (hL : ListAt L ws W) (hLg : L < g) (h0 : J [] W) :
    CallsIn F n Tryz.prog 83 #[.func (.yield l) #[] #[], .pointer (some ⟨Bl, 0, none⟩), .pointer (some ⟨Bw, 0, none⟩)] W fun e W' => (∃ v, e = .returned v) ∧
      ((∃ xs : List Pl, xs.map Subtype.val = meantL b ws 0 ∧ J xs W') ∨ (∃ pre : List Pl, pre.map Subtype.val <+: meantL b ws 0 ∧ Jx pre W')) := by
  subst hF
  refine callsIn_of_wp Tryz.func83 rfl trivial ?_ rfl
  simp only [Tryz.ntmps83, List.size_toArray, List.length_cons, List.length_nil, Nat.reduceAdd, Nat.reduceSub, Array.replicate_succ, Array.replicate_zero, List.push_toArray, List.append_toArray, List.nil_append, List.cons_append]
  have HM := Lib.hid hm
  have HL := Lib.hid hL
  have HBW := Lib.hid hBw
  have H0 := Lib.hid h0
  have HA := Lib.hid hA
  have HY := Lib.hid hY
  have hBls := wcell_lt hBl
  clear hm hL h0 hA hY hBw
  gi_wp2
  gi_loopw [9] (fun vi wr => ∃ (pre : List Pl) (i : Nat), vi = .int .i64 i ∧ i ≤ m ∧ pre.map Subtype.val ++ meantL b (ws.drop i) i = meantL b ws 0 ∧ wr.cell? ⟨Bw, 0, none⟩ = some (.string ⟨b.toArray⟩) ∧ ListAt L ws wr ∧ J pre wr) (fun vi _ => m - (intOf vi).toNat)
  case atStart => exact ⟨[], 0, rfl, by omega, by simp, HBW.out, HL.out, H0.out⟩
  case round =>
    obtain ⟨pre, i, rfl, i1, e, hbw, hl, hJ⟩ := hrel
    have E := Lib.hid e
    have HLr := Lib.hid hl
    have HJ := Lib.hid hJ
    clear e hl hJ HL HBW H0 hBl
    have hBws := wcell_lt hbw
    by_cases hi : i < m
    · obtain ⟨p, hp⟩ : ∃ p, ws[i]? = some p := ⟨_, List.getElem?_eq_getElem (by rw [HM.out]; exact hi)⟩
      have MA := Lib.hid (meantL_at (b := b) hp)
      have hpc := HLr.out.cell i p hp
      have hLs := HLr.out.lt
      have hi' : (i : Int) < (m : Int) := by omega
      clear hp
      by_cases hbg : begins b p = true
      · have b0 : b.isEmpty = false := by have := (begins_iff.1 hbg).1; cases b <;> simp_all
        have HP : Hid (b.isPrefixOf p = true) := Lib.hid (by unfold begins at hbg; rw [Bool.and_eq_true] at hbg; exact hbg.2)
        have hk : i < 1000000 := by omega
        have MB : Hid (meantL b (ws.drop i) i = (i, decide (b = p)) :: meantL b (ws.drop (i + 1)) (i + 1)) := Lib.hid (by rw [MA.out, if_pos hbg]; rfl)
        have hln : pre.length < (meantL b ws 0).length := by
          have := congrArg List.length E.out
          rw [List.length_append, List.length_map, MB.out, List.length_cons] at this
          omega
        obtain ⟨z, hz⟩ : ∃ z : Bool, decide (b = p) = z := ⟨_, rfl⟩
        have hz' : (b == p) = z := by rw [← hz]; by_cases h : b = p <;> simp [h]
        have MC : Hid (pre.map Subtype.val ++ (i, z) :: meantL b (ws.drop (i + 1)) (i + 1) = meantL b ws 0) := Lib.hid (by rw [← E.out, MB.out, hz])
        obtain ⟨fn, tmps, assign, body, hy, hR⟩ := HY.out pre ⟨(i, z), hk⟩ wr HJ.out hln
        simp only [plV] at hy
        clear hz hbg hln
        cases z with
        | true =>
          gi_wp2_with (refine ⟨trivial, ?_⟩; gi_at_call 84; refine (callsIn_wide.2 (hp_is p b true _ HP)).mono ?_; rintro e w' ⟨rfl, rfl⟩)
          refine hR.mono ?_
          rintro e W3 (⟨rfl, hJ3, hk3⟩ | ⟨rfl, hJx3⟩)
          · have HJ3 := Lib.hid hJ3
            have HK3 := Lib.hid hk3
            clear hJ3 hk3
            gi_wp2
            go_roundw
            case rel => exact ⟨pre ++ [⟨(i, true), hk⟩], i + 1, by go_num, by omega, by rw [List.map_append, List.append_assoc]; exact MC.out, by rw [HK3.out.cell hw1 hw2]; exact hbw, HLr.out.below HK3.out.bel hLg, HJ3.out⟩
            case measure => simp [intOf]; omega
          · gi_wp2
            exact bodyPost_ret (results_none rfl _ _ _) rfl ⟨⟨_, rfl⟩, .inr ⟨_, ⟨_, by rw [← MC.out, List.map_append, List.append_assoc]; rfl⟩, hJx3⟩⟩
        | false =>
          gi_wp2_with (refine ⟨trivial, ?_⟩; gi_at_call 84; refine (callsIn_wide.2 (hp_is p b true _ HP)).mono ?_; rintro e w' ⟨rfl, rfl⟩)
          refine hR.mono ?_
          rintro e W3 (⟨rfl, hJ3, hk3⟩ | ⟨rfl, hJx3⟩)
          · have HJ3 := Lib.hid hJ3
            have HK3 := Lib.hid hk3
            clear hJ3 hk3
            gi_wp2
            go_roundw
            case rel => exact ⟨pre ++ [⟨(i, false), hk⟩], i + 1, by go_num, by omega, by rw [List.map_append, List.append_assoc]; exact MC.out, by rw [HK3.out.cell hw1 hw2]; exact hbw, HLr.out.below HK3.out.bel hLg, HJ3.out⟩
            case measure => simp [intOf]; omega
          · gi_wp2
            exact bodyPost_ret (results_none rfl _ _ _) rfl ⟨⟨_, rfl⟩, .inr ⟨_, ⟨_, by rw [← MC.out, List.map_append, List.append_assoc]; rfl⟩, hJx3⟩⟩
      · have MB : Hid (pre.map Subtype.val ++ meantL b (ws.drop (i + 1)) (i + 1) = meantL b ws 0) := Lib.hid (by rw [← E.out, MA.out, if_neg hbg]; rfl)
        by_cases b0 : b = []
        · subst b0
          clear hbg
          gi_wp2_with (refine ⟨trivial, ?_⟩)
          refine ⟨fun _ h => (by cases h), ?_⟩
          gi_wp2
          go_roundw
          case rel => exact ⟨pre, i + 1, by go_num, by omega, MB.out, hbw, HLr.out, HJ.out⟩
          case measure => simp [intOf]; omega
        · have HP : Hid (b.isPrefixOf p = false) := Lib.hid (by
            have h1 : begins b p = false := by simpa using hbg
            unfold begins at h1
            have h2 : b.isEmpty = false := by cases b <;> simp_all
            simpa [h2] using h1)
          have b0' : b.isEmpty = false := by cases b <;> simp_all
          clear hbg b0
          gi_wp2_with (refine ⟨trivial, ?_⟩; gi_at_call 84; refine (callsIn_wide.2 (hp_is p b false _ HP)).mono ?_; rintro e w' ⟨rfl, rfl⟩)
          refine ⟨fun _ h => (by cases h), ?_⟩
          gi_wp2
          go_roundw
          case rel => exact ⟨pre, i + 1, by go_num, by omega, MB.out, hbw, HLr.out, HJ.out⟩
          case measure => simp [intOf]; omega
    · obtain rfl : i = m := by omega
      have hi' : ¬ ((i : Int) < (i : Int)) := by omega
      have E2 : Hid (pre.map Subtype.val = meantL b ws 0) := Lib.hid (by
        have := E.out
        rw [← HM.out, List.drop_length] at this
        simpa [meantL] using this)
      gi_wp2
      go_end0
      exact ⟨⟨_, rfl⟩, .inl ⟨_, E2.out, HJ.out⟩⟩
end Go.Proofs.YtddoapenhlkamaaGreatDoor
