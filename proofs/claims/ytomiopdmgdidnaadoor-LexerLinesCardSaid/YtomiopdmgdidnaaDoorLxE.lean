/- The contract of wordsIn's closure: it hands a line's words, each with whether its quotes end, to whatever loop it is ranged over by. -/
import Derived.RangeFuncNested
import Derived.RangeFuncBound
import Derived.RangeFuncCalls
import Derived.RangeFuncLeaves
import Derived.RangeFuncBox
import Derived.Shelf.Abstract
import Derived.OwnWalkIn
import Derived.TacticsInMore
import Derived.LoopNIn
import Derived.LoopIn
import Derived.WalkMore
import Derived.Test.YtomiopdmgdidnaaDoorLxD
namespace Go.Proofs.YtomiopdmgdidnaaDoor
open Go.RowKit Go.Shelf
attribute [local go_sem] Oper.semAt_some

abbrev Wd : Type := List UInt8 × Bool
def wdV (x : Wd) : Array Value := #[.string ⟨x.1.toArray⟩, .bool x.2]

def wrest (r : List UInt8) : List Wd := if r = [] then [] else ((cutQ r false).1, (cutQ r false).2.2) :: wlist (cutQ r false).2.1
theorem wlist_rest (l : List UInt8) : wlist l = wrest (fromQ l) := by
  unfold wrest
  by_cases h : fromQ l = []
  · rw [if_pos h, wlist_nil h]
  · rw [if_neg h, wlist_cons h]
theorem rest_lt {l l2 : List UInt8} (h : fromQ l ≠ []) (e : (cutQ (fromQ l) false).2.1 = l2) : (fromQ l2).length < (fromQ l).length := by
  obtain ⟨c, r, hc⟩ : ∃ c r, fromQ l = c :: r := by cases hf : fromQ l with | nil => exact absurd hf h | cons c r => exact ⟨c, r, rfl⟩
  have hh := fromQ_head hc
  have h1 := fromQ_len l2
  rw [hc] at e ⊢
  have : (cutQ (c :: r) false).2.1.length ≤ r.length := by
    unfold cutQ
    split
    · exact cutQ_len r _
    · rw [hh]; exact cutQ_len r _
  rw [e] at this
  simp only [List.length_cons]; omega
def strLen (v : Value) : Nat := match v with | .string s => s.size | _ => 0

set_option maxHeartbeats 2000000 in
theorem words_in (F : Fence) (hF : F = Fence.wide) (n : Nat) (hn : 1 ≤ n) (l Bs : Nat) (s : List UInt8) (hs : s.length ≤ 2000) (Kp : World → World → Prop) (J Jx : List Wd → World → Prop)
    (W : World) (hA : AbidesFrom W.heap.size J)
    (hY : ∀ pre x W1, J pre W1 → pre.length < (wlist s).length → YieldAt F (n - 1) Tryd.prog l (wdV x) W1 fun e W' =>
      (e = .returned (.bool true) ∧ J (pre ++ [x]) W' ∧ Kp W1 W') ∨ (e = .returned (.bool false) ∧ Jx (pre ++ [x]) W'))
    (hB : W.cell? ⟨Bs, 0, none⟩ = some (.string ⟨s.toArray⟩)) (h0 : J [] W) :
    CallsIn F n Tryd.prog 24 #[.func (.yield l) #[] #[], .pointer (some ⟨Bs, 0, none⟩)] W fun e W' => (∃ v, e = .returned v) ∧
      ((∃ xs : List Wd, xs = wlist s ∧ J xs W') ∨ (∃ pre : List Wd, pre <+: wlist s ∧ Jx pre W')) := by
  subst hF
  refine callsIn_of_wp Tryd.func24 rfl trivial ?_ rfl
  simp only [Tryd.ntmps24, List.size_toArray, List.length_cons, List.length_nil, Nat.reduceAdd, Nat.reduceSub, Array.replicate_succ, Array.replicate_zero, List.push_toArray, List.append_toArray, List.nil_append, List.cons_append]
  have HA := Lib.hid hA
  have HY := Lib.hid hY
  have H0 := Lib.hid h0
  clear hA hY h0
  obtain ⟨r0, hr0⟩ : ∃ r0, fromQ s = r0 := ⟨_, rfl⟩
  have FW := Lib.hid (fun W => fromWord_is s r0 W (Lib.hid hr0))
  have E0 : Hid (wlist s = wrest r0) := Lib.hid (by rw [wlist_rest, hr0])
  have L0 : Hid (r0.length ≤ 2000) := Lib.hid (by rw [← hr0]; have := fromQ_len s; omega)
  have HR0 := Lib.hid hr0
  clear hr0
  gi_wp2_with (first
    | (refine ⟨trivial, ?_⟩; gi_at_call 25; refine (callsIn_wide.2 (FW.out _)).mono ?_; rintro e w1 ⟨rfl, k1⟩
       have K1 := Lib.hid k1
       clear k1
       simp only []))
  gi_loopw [3] (fun v wr => ∃ (pre : List Wd) (r l2 : List UInt8), v = .string ⟨r.toArray⟩ ∧ r.length ≤ 2000 ∧ fromQ l2 = r ∧ pre ++ wrest r = wlist s ∧ J pre wr) (fun v _ => strLen v)
  case atStart => exact ⟨[], r0, s, rfl, L0.out, HR0.out, by rw [E0.out]; rfl, HA.out _ _ _ none H0.out (lxgrown K1.out none) (fun r e => by cases e)⟩
  case round =>
    obtain ⟨pre, r, l2, rfl, hrl, hl2, hE, hJ⟩ := hrel
    have E := Lib.hid hE
    have HJ := Lib.hid hJ
    have HL2 := Lib.hid hl2
    have hz := lxsize r
    clear hE hJ hl2
    by_cases h0 : r = []
    · subst h0
      gi_wp2
      go_end0
      exact ⟨⟨_, rfl⟩, .inl ⟨_, by rw [← E.out]; simp [wrest], HJ.out⟩⟩
    · obtain ⟨word, rest, ends, hc⟩ : ∃ word rest ends, cutQ r false = (word, rest, ends) := ⟨_, _, _, rfl⟩
      obtain ⟨r2, hr2⟩ : ∃ r2, fromQ rest = r2 := ⟨_, rfl⟩
      have CU := Lib.hid (fun W => cut_is r word rest ends W hrl (Lib.hid hc))
      have FW2 := Lib.hid (fun W => fromWord_is rest r2 W (Lib.hid hr2))
      have E2 : Hid ((pre ++ [(word, ends)]) ++ wrest r2 = wlist s) := Lib.hid (by
        have e : wrest r = (word, ends) :: wrest r2 := by rw [wrest, if_neg h0, hc]; simp only []; rw [wlist_rest rest, hr2]
        rw [← E.out, e, List.append_assoc]; rfl)
      have hlt : r2.length < r.length := by
        have := rest_lt (l := l2) (l2 := rest) (by rw [HL2.out]; exact h0) (by rw [HL2.out, hc])
        rw [hr2, HL2.out] at this
        exact this
      have hln : pre.length < (wlist s).length := by
        have := congrArg List.length E2.out
        simp only [List.length_append, List.length_cons, List.length_nil] at this
        omega
      have HR2 := Lib.hid hr2
      have h0' : r.isEmpty = false := by cases r <;> simp_all
      clear hc hr2 h0
      gi_wp2_with (first
        | (refine ⟨trivial, ?_⟩; gi_at_call 26; refine (callsIn_wide.2 (CU.out _)).mono ?_; rintro e w2 ⟨rfl, k2⟩
           have J2 := Lib.hid (HA.out _ _ _ none HJ.out (lxgrown k2 none) (fun r e => by cases e))
           obtain ⟨fn, tmps, assign, body, hy, hR⟩ := HY.out pre (word, ends) w2 J2.out hln
           simp only [wdV] at hy
           clear k2
           simp only []))
      refine hR.mono ?_
      rintro e W3 (⟨rfl, hJ3, _⟩ | ⟨rfl, hJx3⟩)
      · have HJ3 := Lib.hid hJ3
        clear hJ3
        gi_wp2_with (first
          | (refine ⟨trivial, ?_⟩; gi_at_call 25; refine (callsIn_wide.2 (FW2.out _)).mono ?_; rintro e w4 ⟨rfl, k4⟩
             have J4 := Lib.hid (HA.out _ _ _ none HJ3.out (lxgrown k4 none) (fun r e => by cases e))
             clear k4
             simp only []))
        go_roundw
        case rel => exact ⟨pre ++ [(word, ends)], r2, rest, rfl, by omega, HR2.out, E2.out, J4.out⟩
        case measure => simp only [strLen, lxsize]; omega
      · gi_wp2
        exact bodyPost_ret (results_none rfl _ _ _) rfl ⟨⟨_, rfl⟩, .inr ⟨_, ⟨_, E2.out⟩, hJx3⟩⟩

theorem words_stops (Kp : World → World → Prop) (n : Nat) (hn : 1 ≤ n) (Bs : Nat) (s : List UInt8) (hs : s.length ≤ 2000) (w : World) (hB : w.cell? ⟨Bs, 0, none⟩ = some (.string ⟨s.toArray⟩)) (hb : Bs < w.heap.size) :
    SeqStopsK Fence.wide n Tryd.prog 24 #[.pointer (some ⟨Bs, 0, none⟩)] wdV Kp (fun xs : List Wd => xs = wlist s) (fun pre : List Wd => pre <+: wlist s) (wlist s).length w := fun l J Jx W hW hA _ hY h0 =>
  words_in Fence.wide rfl n hn l Bs s hs Kp J Jx W hA hY ((hW.cell (p := ⟨Bs, 0, none⟩) hb).trans hB) h0
end Go.Proofs.YtomiopdmgdidnaaDoor
