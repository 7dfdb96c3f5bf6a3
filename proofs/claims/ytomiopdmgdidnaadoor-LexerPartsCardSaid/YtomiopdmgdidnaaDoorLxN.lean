/- The contract of lexer.numbered's closure: it hands a text's lines, with their numbers, to whatever loop it is ranged over by; the contract of numbered. -/
import Derived.RangeFuncNested
import Derived.RangeFuncBound
import Derived.RangeFuncCalls
import Derived.RangeFuncLeaves
import Derived.RangeFuncBox
import Derived.Shelf.Abstract
import Derived.OwnWalkIn
import Derived.TacticsInMore
import Derived.LoopNIn
import Derived.LoopIn
import Derived.WalkMore
import Derived.Test.YtomiopdmgdidnaaDoorLxM
import Derived.Test.YtomiopdmgdidnaaDoorLxC
namespace Go.Proofs.YtomiopdmgdidnaaDoor
open Go.RowKit Go.Shelf
attribute [local go_sem] Oper.semAt_some

abbrev Nl : Type := { x : Nat × List UInt8 // x.1 < 1000000 ∧ x.2.length ≤ 1000 }
def nlV (x : Nl) : Array Value := #[.int .i64 x.1.1, .string ⟨x.1.2.toArray⟩]
def ixF : Nat → List (List UInt8) → List (Nat × List UInt8)
  | _, [] => []
  | n, l :: ls => (n, l) :: ixF (n + 1) ls
theorem ixF_len : ∀ (ls : List (List UInt8)) (n : Nat), (ixF n ls).length = ls.length
  | [], _ => rfl
  | _ :: ls, n => by simp [ixF, ixF_len ls (n + 1)]
theorem ixF_cut (s : List UInt8) (n : Nat) : ixF n (splitF s) = (n, (cutF s).1) :: (if (cutF s).2.2 then ixF (n + 1) (splitF (cutF s).2.1) else []) := by
  rw [splitF_cut]
  cases (cutF s).2.2 <;> simp [ixF]
def nstrL (v : Value) : Nat := match v with | .string s => s.size | _ => 0
def nboolN (v : Value) : Nat := match v with | .bool true => 1 | _ => 0

set_option maxHeartbeats 2000000 in
theorem numb_in (F : Fence) (hF : F = Fence.wide) (n : Nat) (hn : 1 ≤ n) (l Bs n₀ : Nat) (s : List UInt8) (hs : s.length ≤ 1000) (J Jx : List Nl → World → Prop)
    (hn0 : 0 < n₀)
    (W : World) (hA : AbidesFrom W.heap.size J)
    (hY : ∀ pre x W1, J pre W1 → (pre ++ [x]).map Subtype.val <+: ixF 1 (splitF s) → YieldAt F (n - 1) Tryd.prog l (nlV x) W1 fun e W' =>
      (e = .returned (.bool true) ∧ J (pre ++ [x]) W' ∧ Below n₀ W1 W') ∨ (e = .returned (.bool false) ∧ Jx (pre ++ [x]) W'))
    (hB : W.cell? ⟨Bs, 0, none⟩ = some (.string ⟨s.toArray⟩)) (hM : MaxIs W) (h0 : J [] W) :
    CallsIn F n Tryd.prog 38 #[.func (.yield l) #[] #[], .pointer (some ⟨Bs, 0, none⟩)] W fun e W' => (∃ v, e = .returned v) ∧
      ((∃ xs : List Nl, xs.map Subtype.val = ixF 1 (splitF s) ∧ J xs W') ∨ (∃ pre : List Nl, pre.map Subtype.val <+: ixF 1 (splitF s) ∧ Jx pre W')) := by
  subst hF
  refine callsIn_of_wp Tryd.func38 rfl trivial ?_ rfl
  simp only [Tryd.ntmps38, List.size_toArray, List.length_cons, List.length_nil, Nat.reduceAdd, Nat.reduceSub, Array.replicate_succ, Array.replicate_zero, List.push_toArray, List.append_toArray, List.nil_append, List.cons_append]
  have FIN : Hid (∀ (pre : List Nl) (k : Nat) (p r : List UInt8) (more : Bool) (hk : k < 1000000 ∧ p.length ≤ 1000), pre.map Subtype.val ++ (k, p) :: (if more then ixF (k + 1) (splitF r) else []) = ixF 1 (splitF s) →
      (pre ++ [(⟨(k, p), hk⟩ : Nl)]).map Subtype.val <+: ixF 1 (splitF s) ∧ (more = false → (pre ++ [(⟨(k, p), hk⟩ : Nl)]).map Subtype.val = ixF 1 (splitF s)) ∧ pre.length < (splitF s).length) := Lib.hid (by
    intro pre k p r more hk e
    refine ⟨⟨_, by rw [← e, List.map_append, List.append_assoc]; rfl⟩, ?_, ?_⟩
    · rintro rfl; rw [← e]; simp
    · have := congrArg List.length e
      rw [ixF_len] at this
      simp at this
      omega)
  have hsz := hM.lt
  obtain ⟨l1, r1, m1, hc1⟩ : ∃ l1 r1 m1, cutF s = (l1, r1, m1) := ⟨_, _, _, rfl⟩
  have CU := Lib.hid (fun W hm => feedCut_is s l1 r1 m1 W (by omega) hm (Lib.hid hc1))
  have E1 : Hid ((1, l1) :: (if m1 then ixF (1 + 1) (splitF r1) else []) = ixF 1 (splitF s)) := Lib.hid (by rw [ixF_cut s 1, hc1])
  have L1 : Hid (l1.length ≤ s.length ∧ r1.length + (if m1 then 1 else 0) ≤ s.length) := Lib.hid (by have := cutF_len s; rw [hc1] at this; exact this)
  have H0 := Lib.hid h0
  have HA := Lib.hid hA
  have HY := Lib.hid hY
  clear hc1 h0 hA hY
  gi_wp2_with (first
    | (refine ⟨trivial, ?_⟩; gi_at_call 39; refine (callsIn_wide.2 (CU.out _ hM)).mono ?_; rintro e w1 ⟨rfl, k1⟩
       have K1 := Lib.hid k1
       have M1 := Lib.hid (hM.next k1)
       have J1 := Lib.hid (HA.out _ _ _ none H0.out (lxgrown k1 none) (fun r e => by cases e))
       clear k1
       simp only []))
  gi_loopw [3, 4, 5, 6] (fun vp vr vm vk wr => ∃ (pre : List Nl) (k : Nat) (p r : List UInt8) (more : Bool), vp = .string ⟨p.toArray⟩ ∧ vr = .string ⟨r.toArray⟩ ∧ vm = .bool more ∧ vk = .int .i64 k ∧ k + (r.length + if more then 1 else 0) ≤ s.length + 1 ∧ p.length ≤ s.length ∧
      pre.map Subtype.val ++ (k, p) :: (if more then ixF (k + 1) (splitF r) else []) = ixF 1 (splitF s) ∧ MaxIs wr ∧ J pre wr) (fun _ vr vm _ _ => nstrL vr + nboolN vm)
  case atStart => exact ⟨[], 1, l1, r1, m1, rfl, rfl, rfl, rfl, by have := L1.out.2; omega, L1.out.1, E1.out, M1.out, J1.out⟩
  case round =>
    obtain ⟨pre, k, p, r, more, rfl, rfl, rfl, rfl, kb, pb, e, hMr, hJ⟩ := hrel
    have hk : k < 1000000 ∧ p.length ≤ 1000 := by omega
    have hr : r.length ≤ 1000 := by
      have : k + r.length ≤ s.length + 1 := by omega
      have hk1 : 1 ≤ k ∨ k = 0 := by omega
      rcases hk1 with hk1 | hk1
      · omega
      · exfalso
        have e2 := congrArg (fun l : List (Nat × List UInt8) => l.map (·.1)) e
        subst hk1
        have hge : ∀ (ls : List (List UInt8)) (n : Nat), ∀ x ∈ ixF n ls, n ≤ x.1 := by
          intro ls
          induction ls with
          | nil => intro n x hx; simp [ixF] at hx
          | cons a ls ih =>
            intro n x hx
            rcases List.mem_cons.1 hx with rfl | hx
            · exact Nat.le_refl _
            · have := ih (n + 1) x hx; omega
        have := hge (splitF s) 1 (0, p) (by rw [← e]; simp)
        simp at this
    obtain ⟨f1, f2, f3⟩ := FIN.out pre k p r more hk e
    obtain ⟨fn, tmps, assign, body, hy, hR⟩ := HY.out pre ⟨(k, p), hk⟩ wr hJ f1
    have E := Lib.hid e
    have F1 := Lib.hid f1
    have F2 := Lib.hid f2
    simp only [nlV] at hy
    clear e f1 f2 hM hB
    gi_wp2
    refine hR.mono ?_
    rintro e W3 (⟨rfl, hJ3, hk3⟩ | ⟨rfl, hJx3⟩)
    · have hM3 : MaxIs W3 := hMr.below hk3 hn0
      have HJ3 := Lib.hid hJ3
      clear hJ3 hk3
      cases more with
      | true =>
        obtain ⟨l2, r2, m2, hc2⟩ : ∃ l2 r2 m2, cutF r = (l2, r2, m2) := ⟨_, _, _, rfl⟩
        have CU2 := Lib.hid (fun W hm => feedCut_is r l2 r2 m2 W (by omega) hm (Lib.hid hc2))
        have L2 : Hid (l2.length ≤ r.length ∧ r2.length + (if m2 then 1 else 0) ≤ r.length) := Lib.hid (by have := cutF_len r; rw [hc2] at this; exact this)
        have E2 : Hid ((pre ++ [(⟨(k, p), hk⟩ : Nl)]).map Subtype.val ++ (k + 1, l2) :: (if m2 then ixF (k + 1 + 1) (splitF r2) else []) = ixF 1 (splitF s)) := Lib.hid (by
          rw [← E.out, if_pos rfl, ixF_cut r (k + 1), hc2]; simp)
        clear hc2
        gi_wp2_with (first
          | (refine ⟨trivial, ?_⟩; gi_at_call 39; refine (callsIn_wide.2 (CU2.out _ hM3)).mono ?_; rintro e w4 ⟨rfl, k4⟩
             have M4 := Lib.hid (hM3.next k4)
             have J4 := Lib.hid (HA.out _ _ _ none HJ3.out (lxgrown k4 none) (fun r e => by cases e))
             clear k4
             simp only []))
        go_roundw
        case rel =>
          refine ⟨pre ++ [⟨(k, p), hk⟩], k + 1, l2, r2, m2, rfl, rfl, rfl, by go_num, ?_, by have := L2.out.1; simp at kb; omega, E2.out, M4.out, J4.out⟩
          have := L2.out.2
          simp only [if_true] at kb
          omega
        case measure =>
          have := L2.out.2
          simp only [nstrL, nboolN, lxsize]
          cases m2 <;> simp at this ⊢ <;> omega
      | false =>
        gi_wp2
        go_end0
        exact ⟨⟨_, rfl⟩, .inl ⟨_, F2.out trivial, HJ3.out⟩⟩
    · gi_wp2
      go_end0
      exact ⟨⟨_, rfl⟩, .inr ⟨_, F1.out, hJx3⟩⟩

theorem numbered_any (l : List UInt8) (w : World) :
    Calls Tryd.prog 29 #[.string ⟨l.toArray⟩] w fun e w' => e = .returned (.func (.func 38) #[] #[.pointer (some ⟨w.heap.size, 0, none⟩)]) ∧ w' = w.alloc (.cells #[.string ⟨l.toArray⟩] 9) := by
  have hmf : ∀ (fn : Fn) (first cap : Array Value) (w : World), (Instr.makeFunc fn first cap).run Tryd.prog w = .ok (.func fn first cap) w := fun _ _ _ _ => rfl
  go_enter Tryd.func29, Tryd.ntmps29
  go_wp2
  go_ret
  exact ⟨rfl, rfl⟩
theorem numb_ok (n : Nat) (hn : 1 ≤ n) (Bs n₀ : Nat) (s : List UInt8) (hs : s.length ≤ 1000) (w : World) (hB : Bs < w.heap.size) (hc : w.cell? ⟨Bs, 0, none⟩ = some (.string ⟨s.toArray⟩)) (hM : MaxIs w) (hn0 : 0 < n₀) :
    SeqOk n Tryd.prog 38 #[.pointer (some ⟨Bs, 0, none⟩)] nlV (fun (pre : List Nl) x => (pre ++ [x]).map Subtype.val <+: ixF 1 (splitF s)) n₀ (fun xs : List Nl => xs.map Subtype.val = ixF 1 (splitF s)) (fun pre : List Nl => pre.map Subtype.val <+: ixF 1 (splitF s)) w := fun l J Jx W hW hJ _ hY h0 =>
  numb_in Fence.wide rfl n hn l Bs n₀ s hs J Jx hn0 W hJ hY ((hW.cell (p := ⟨Bs, 0, none⟩) hB).trans hc) (hM.next hW) h0
end Go.Proofs.YtomiopdmgdidnaaDoor
