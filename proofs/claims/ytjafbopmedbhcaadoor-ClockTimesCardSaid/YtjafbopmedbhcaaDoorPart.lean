/- The contract of clock.parts' closure: it hands the parts between colons, with their places, to whatever loop it is ranged over by; the contract of clock.parts. -/
import Derived.RangeFuncNested
import Derived.RangeFuncBound
import Derived.RangeFuncCalls
import Derived.RangeFuncLeaves
import Derived.Shelf.Abstract
import Derived.WalkKit
import Derived.OwnWalkIn
import Derived.TacticsInMore
import Derived.LoopNIn
import Derived.LoopIn
import Derived.Test.YtjafbopmedbhcaaDoorShl
namespace Go.Proofs.YtjafbopmedbhcaaDoor
open Go.RowKit Go.Shelf
attribute [local go_sem] Oper.semAt_some

abbrev Pt : Type := { x : Nat × List UInt8 // x.1 < 1000000 ∧ x.2.length < 1000000 }
def ptV (x : Pt) : Array Value := #[.int .i64 x.1.1, .string ⟨x.1.2.toArray⟩]

theorem grown_drewN (W : World) (n : Nat) : W.grownBy (W.drewN n) none := have h := below_drewN (Below.refl W.heap.size W) n; ⟨h.os, h.tape, h.output, h.size, fun i hi _ => h.block i hi⟩

def strL (v : Value) : Nat := match v with | .string s => s.size | _ => 0
def boolN (v : Value) : Nat := match v with | .bool true => 1 | _ => 0

set_option maxHeartbeats 2000000 in
theorem part_in (F : Fence) (hF : F = Fence.wide) (n : Nat) (hn : 1 ≤ n) (l Bs n₀ : Nat) (s : List UInt8) (hs : s.length ≤ 1000) (J Jx : List Pt → World → Prop)
    (hn0 : 5 < n₀)
    (W : World) (hA : AbidesFrom W.heap.size J)
    (hY : ∀ pre x W1, J pre W1 → pre.length < (pcs [] s).length → YieldAt F (n - 1) Tryd.prog l (ptV x) W1 fun e W' =>
      (e = .returned (.bool true) ∧ J (pre ++ [x]) W' ∧ Below n₀ W1 W') ∨ (e = .returned (.bool false) ∧ Jx (pre ++ [x]) W'))
    (hB : W.cell? ⟨Bs, 0, none⟩ = some (.string ⟨s.toArray⟩)) (hM : MaxAt W) (h0 : J [] W) :
    CallsIn F n Tryd.prog 58 #[.func (.yield l) #[] #[], .pointer (some ⟨Bs, 0, none⟩)] W fun e W' => (∃ v, e = .returned v) ∧
      ((∃ xs : List Pt, xs.map Subtype.val = ix 0 (pcs [] s) ∧ J xs W') ∨ (∃ pre : List Pt, pre.map Subtype.val <+: ix 0 (pcs [] s) ∧ Jx pre W')) := by
  subst hF
  refine callsIn_of_wp Tryd.func58 rfl trivial ?_ rfl
  simp only [Tryd.ntmps58, List.size_toArray, List.length_cons, List.length_nil, Nat.reduceAdd, Nat.reduceSub, Array.replicate_succ, Array.replicate_zero, List.push_toArray, List.append_toArray, List.nil_append, List.cons_append]
  have fin : ∀ (pre : List Pt) (k : Nat) (p r : List UInt8) (more : Bool) (hk : k < 1000000 ∧ p.length < 1000000), pre.map Subtype.val ++ (k, p) :: (if more then ix (k + 1) (pcs [] r) else []) = ix 0 (pcs [] s) →
      (pre ++ [(⟨(k, p), hk⟩ : Pt)]).map Subtype.val <+: ix 0 (pcs [] s) ∧ (more = false → (pre ++ [(⟨(k, p), hk⟩ : Pt)]).map Subtype.val = ix 0 (pcs [] s)) ∧ pre.length < (pcs [] s).length := by
    intro pre k p r more hk e
    refine ⟨⟨_, by rw [← e, List.map_append, List.append_assoc]; rfl⟩, ?_, ?_⟩
    · rintro rfl; rw [← e]; simp
    · have := congrArg List.length e
      rw [ix_len] at this
      simp at this
      omega
  have FIN := Lib.hid fin
  clear fin
  have hsz := hM.lt
  gi_wp2_with (refine ⟨trivial, ?_⟩; gi_at_call 59; refine (callsIn_wide.2 (cut_any s _ hs hM)).mono ?_; rintro e w' ⟨rfl, m, rfl⟩)
  gi_loopw [3, 4, 5, 6] (fun vp vr vm vk wr => ∃ (pre : List Pt) (k : Nat) (p r : List UInt8) (more : Bool), vp = .string ⟨p.toArray⟩ ∧ vr = .string ⟨r.toArray⟩ ∧ vm = .bool more ∧ vk = .int .i64 k ∧ k + (r.length + if more then 1 else 0) ≤ s.length ∧ p.length ≤ s.length ∧
      pre.map Subtype.val ++ (k, p) :: (if more then ix (k + 1) (pcs [] r) else []) = ix 0 (pcs [] s) ∧ MaxAt wr ∧ J pre wr) (fun _ vr vm _ _ => strL vr + boolN vm)
  case atStart =>
    refine ⟨[], 0, hd1 s, tl1 s, mo1 s, rfl, rfl, rfl, rfl, ?_, hd1_len s, ?_, ?_, hA _ _ _ none h0 (grown_drewN _ _) (fun r e => by cases e)⟩
    · rw [Nat.zero_add]; exact tl1_len s
    · rw [pcs_cut s []]
      cases mo1 s <;> simp [ix]
    · exact hM.next (below_drewN (Below.refl _ _) m)
  case round =>
    obtain ⟨pre, k, p, r, more, rfl, rfl, rfl, rfl, kb, pb, e, hMr, hJ⟩ := hrel
    have hk : k < 1000000 ∧ p.length < 1000000 := by omega
    have hr : r.length ≤ 1000 := by omega
    obtain ⟨f1, f2, f3⟩ := FIN.out pre k p r more hk e
    obtain ⟨fn, tmps, assign, body, hy, hR⟩ := hY pre ⟨(k, p), hk⟩ wr hJ f3
    have E := Lib.hid e
    have F1 := Lib.hid f1
    have F2 := Lib.hid f2
    simp only [ptV] at hy
    have HA := Lib.hid hA
    clear e f1 f2 hA hY hM hB h0
    gi_wp2
    refine hR.mono ?_
    rintro e W3 (⟨rfl, hJ3, hk3⟩ | ⟨rfl, hJx3⟩)
    · have hM3 : MaxAt W3 := hMr.below hk3 hn0
      have HJ3 := Lib.hid hJ3
      clear hJ3 hk3
      cases more with
      | true =>
        gi_wp2_with (refine ⟨trivial, ?_⟩; gi_at_call 59; refine (callsIn_wide.2 (cut_any r _ hr hM3)).mono ?_; rintro e w' ⟨rfl, m, rfl⟩)
        go_roundw
        case rel =>
          have a1 := tl1_len r
          have a2 := hd1_len r
          refine ⟨pre ++ [⟨(k, p), hk⟩], k + 1, hd1 r, tl1 r, mo1 r, rfl, rfl, rfl, by go_num, ?_, by omega, ?_, hM3.next (below_drewN (Below.refl _ _) m), HA.out _ _ _ none HJ3.out (grown_drewN _ _) (fun r e => by cases e)⟩
          · simp only [if_true] at kb; omega
          · rw [← E.out, if_pos trivial, pcs_cut r []]
            cases mo1 r <;> simp [ix]
        case measure =>
          have a1 := tl1_len r
          simp only [strL, boolN, ByteArray.size]
          cases h : mo1 r <;> simp [h] at a1 ⊢ <;> omega
      | false =>
        gi_wp2
        go_end0
        exact ⟨⟨_, rfl⟩, .inl ⟨_, F2.out trivial, HJ3.out⟩⟩
    · gi_wp2
      go_end0
      exact ⟨⟨_, rfl⟩, .inr ⟨_, F1.out, hJx3⟩⟩
end Go.Proofs.YtjafbopmedbhcaaDoor
