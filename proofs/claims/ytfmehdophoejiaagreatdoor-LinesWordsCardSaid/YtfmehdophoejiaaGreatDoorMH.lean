/- The library's contracts of strings.Cut, CutPrefix and CutSuffix, at a colon, at a minus sign and at a letter. The variable internal/bytealg.MaxLen holds some number.
The contract of clock.parts' closure: it hands the parts between colons, with their places, to whatever loop it is ranged over by; the contract of clock.parts.
The contract of clock.readField: whether a part is as it has to be, and the seconds that it is; nothing that was in memory changes. The table of parts reads as it is laid.
The contract of clock.read: the seconds of a span's text without its sign, or that it is wrong; nothing that was in memory changes.
The contract of clock.kindOf: what stands ahead of a time's letter, and the kind; nothing that was in memory changes. The table of letters reads as it is laid. -/
import Derived.Test.YtfmehdophoejiaaGreatDoorMG
import Derived.Test.YtfmehdophoejiaaGreatDoorMD
import Derived.Test.YtfmehdophoejiaaGreatDoorShelf
import Derived.RangeFuncNested
import Derived.RangeFuncBound
import Derived.RangeFuncCalls
import Derived.RangeFuncLeaves
import Derived.Shelf.Abstract
import Derived.WalkKit
import Derived.OwnWalkIn
import Derived.TacticsInMore
import Derived.LoopNIn
import Derived.LoopIn
import Derived.WalkMore
import Derived.BigQuiet
import Derived.Deep.QuietTactic
namespace Go.Proofs.YtfmehdophoejiaaGreatDoor
open Go.RowKit

def MaxAt (w : World) : Prop := ∃ m : Int, w.cell? ⟨7, 0, none⟩ = some (.int .i64 m)
theorem MaxAt.lt {w : World} (h : MaxAt w) : 7 < w.heap.size := by obtain ⟨m, h⟩ := h; exact cell_lt h
theorem MaxAt.below {w w' : World} {B : Nat} (h : MaxAt w) (k : Below B w w') (hB : 7 < B) : MaxAt w' := by
  obtain ⟨m, h⟩ := h; exact ⟨m, by rw [k.cell hB]; exact h⟩
theorem MaxAt.next {w w' : World} (h : MaxAt w) (k : Below w.heap.size w w') : MaxAt w' := h.below k h.lt

theorem cut_any (s : List UInt8) (w : World) (hs : s.length ≤ 1000) (hm : MaxAt w) :
    Calls Tryz.prog 41 #[.string ⟨s.toArray⟩, .string ⟨#[58]⟩] w fun e w' => e = .returned (.tuple #[.string ⟨(hd1 s).toArray⟩, .string ⟨(tl1 s).toArray⟩, .bool (mo1 s)]) ∧ ∃ n, w' = w.drewN n := by
  obtain ⟨m, hm⟩ := hm
  have := Tryz.strings_Cut ⟨s.toArray⟩ ⟨#[58]⟩ m w (by simp [ByteArray.size]; omega) hm
  simpa only [cut_colon] using this

theorem cutPre_any (s : List UInt8) (w : World) :
    Calls Tryz.prog 127 #[.string ⟨s.toArray⟩, .string ⟨#[45]⟩] w fun e w' => e = .returned (.tuple #[.string ⟨(Lib.trimPrefix s [45]).toArray⟩, .bool (Lib.hasPrefix s [45])]) ∧ w' = w :=
  Tryz.strings_CutPrefix ⟨s.toArray⟩ ⟨#[45]⟩ w

theorem suf_last (s : List UInt8) (b : UInt8) : Lib.hasSuffix s [b] = decide (s.getLast? = some b) := by
  unfold Lib.hasSuffix
  by_cases h : s.getLast? = some b
  · rw [decide_eq_true h, List.isSuffixOf_iff_suffix]
    obtain ⟨q, rfl⟩ := List.getLast?_eq_some_iff.1 h
    exact ⟨q, rfl⟩
  · rw [decide_eq_false h, ← Bool.not_eq_true, List.isSuffixOf_iff_suffix]
    rintro ⟨q, rfl⟩
    exact h (by simp)
theorem suf_trim {s : List UInt8} {b : UInt8} (h : s.getLast? = some b) : Lib.trimSuffix s [b] = s.dropLast := by
  unfold Lib.trimSuffix
  rw [suf_last, decide_eq_true h, if_pos rfl, List.dropLast_eq_take]; rfl

theorem cutSuf_yes (s : List UInt8) (b : UInt8) (w : World) (hs : s.length ≤ 1000000) (h : Hid (s.getLast? = some b)) :
    Calls Tryz.prog 126 #[.string ⟨s.toArray⟩, .string ⟨#[b]⟩] w fun e w' => e = .returned (.tuple #[.string ⟨s.dropLast.toArray⟩, .bool true]) ∧ w' = w := by
  have := Tryz.strings_CutSuffix ⟨s.toArray⟩ ⟨#[b]⟩ w (by simp [ByteArray.size]; omega)
  simpa only [suf_last, suf_trim h.out, h.out, decide_true] using this
theorem cutSuf_no (s : List UInt8) (b : UInt8) (w : World) (hs : s.length ≤ 1000000) (h : Hid (s.getLast? ≠ some b)) :
    Calls Tryz.prog 126 #[.string ⟨s.toArray⟩, .string ⟨#[b]⟩] w fun e w' => e = .returned (.tuple #[.string ⟨s.toArray⟩, .bool false]) ∧ w' = w := by
  have := Tryz.strings_CutSuffix ⟨s.toArray⟩ ⟨#[b]⟩ w (by simp [ByteArray.size]; omega)
  simpa only [suf_last, Lib.trimSuffix, h.out, decide_false, Bool.false_eq_true, if_false] using this
end Go.Proofs.YtfmehdophoejiaaGreatDoor

namespace Go.Proofs.YtfmehdophoejiaaGreatDoor
open Go.RowKit Go.Shelf
attribute [local go_sem] Oper.semAt_some

abbrev Pt : Type := { x : Nat × List UInt8 // x.1 < 1000000 ∧ x.2.length < 1000000 }
def ptV (x : Pt) : Array Value := #[.int .i64 x.1.1, .string ⟨x.1.2.toArray⟩]

theorem grown_drewN (W : World) (n : Nat) : W.grownBy (W.drewN n) none := have h := below_drewN (Below.refl W.heap.size W) n; ⟨h.os, h.tape, h.output, h.size, fun i hi _ => h.block i hi⟩

def strL (v : Value) : Nat := match v with | .string s => s.size | _ => 0
def boolN (v : Value) : Nat := match v with | .bool true => 1 | _ => 0

set_option maxHeartbeats 2000000 in
theorem part_in (F : Fence) (hF : F = Fence.wide) (n : Nat) (hn : 1 ≤ n) (l Bs n₀ : Nat) (s : List UInt8) (hs : s.length ≤ 1000) (J Jx : List Pt → World → Prop)
    (hn0 : 7 < n₀)
    (W : World) (hA : AbidesFrom W.heap.size J)
    (hY : ∀ pre x W1, J pre W1 → pre.length < (pcs [] s).length → YieldAt F (n - 1) Tryz.prog l (ptV x) W1 fun e W' =>
      (e = .returned (.bool true) ∧ J (pre ++ [x]) W' ∧ Below n₀ W1 W') ∨ (e = .returned (.bool false) ∧ Jx (pre ++ [x]) W'))
    (hB : W.cell? ⟨Bs, 0, none⟩ = some (.string ⟨s.toArray⟩)) (hM : MaxAt W) (h0 : J [] W) :
    CallsIn F n Tryz.prog 168 #[.func (.yield l) #[] #[], .pointer (some ⟨Bs, 0, none⟩)] W fun e W' => (∃ v, e = .returned v) ∧
      ((∃ xs : List Pt, xs.map Subtype.val = ix 0 (pcs [] s) ∧ J xs W') ∨ (∃ pre : List Pt, pre.map Subtype.val <+: ix 0 (pcs [] s) ∧ Jx pre W')) := by
  subst hF
  refine callsIn_of_wp Tryz.func168 rfl trivial ?_ rfl
  simp only [Tryz.ntmps168, List.size_toArray, List.length_cons, List.length_nil, Nat.reduceAdd, Nat.reduceSub, Array.replicate_succ, Array.replicate_zero, List.push_toArray, List.append_toArray, List.nil_append, List.cons_append]
  have fin : ∀ (pre : List Pt) (k : Nat) (p r : List UInt8) (more : Bool) (hk : k < 1000000 ∧ p.length < 1000000), pre.map Subtype.val ++ (k, p) :: (if more then ix (k + 1) (pcs [] r) else []) = ix 0 (pcs [] s) →
      (pre ++ [(⟨(k, p), hk⟩ : Pt)]).map Subtype.val <+: ix 0 (pcs [] s) ∧ (more = false → (pre ++ [(⟨(k, p), hk⟩ : Pt)]).map Subtype.val = ix 0 (pcs [] s)) ∧ pre.length < (pcs [] s).length := by
    intro pre k p r more hk e
    refine ⟨⟨_, by rw [← e, List.map_append, List.append_assoc]; rfl⟩, ?_, ?_⟩
    · rintro rfl; rw [← e]; simp
    · have := congrArg List.length e
      rw [ix_len] at this
      simp at this
      omega
  have FIN := Lib.hid fin
  clear fin
  have hsz := hM.lt
  gi_wp2_with (refine ⟨trivial, ?_⟩; gi_at_call 41; refine (callsIn_wide.2 (cut_any s _ hs hM)).mono ?_; rintro e w' ⟨rfl, m, rfl⟩)
  gi_loopw [3, 4, 5, 6] (fun vp vr vm vk wr => ∃ (pre : List Pt) (k : Nat) (p r : List UInt8) (more : Bool), vp = .string ⟨p.toArray⟩ ∧ vr = .string ⟨r.toArray⟩ ∧ vm = .bool more ∧ vk = .int .i64 k ∧ k + (r.length + if more then 1 else 0) ≤ s.length ∧ p.length ≤ s.length ∧
      pre.map Subtype.val ++ (k, p) :: (if more then ix (k + 1) (pcs [] r) else []) = ix 0 (pcs [] s) ∧ MaxAt wr ∧ J pre wr) (fun _ vr vm _ _ => strL vr + boolN vm)
  case atStart =>
    refine ⟨[], 0, hd1 s, tl1 s, mo1 s, rfl, rfl, rfl, rfl, ?_, hd1_len s, ?_, ?_, hA _ _ _ none h0 (grown_drewN _ _) (fun r e => by cases e)⟩
    · rw [Nat.zero_add]; exact tl1_len s
    · rw [pcs_cut s []]
      cases mo1 s <;> simp [ix]
    · exact hM.next (below_drewN (Below.refl _ _) m)
  case round =>
    obtain ⟨pre, k, p, r, more, rfl, rfl, rfl, rfl, kb, pb, e, hMr, hJ⟩ := hrel
    have hk : k < 1000000 ∧ p.length < 1000000 := by omega
    have hr : r.length ≤ 1000 := by omega
    obtain ⟨f1, f2, f3⟩ := FIN.out pre k p r more hk e
    obtain ⟨fn, tmps, assign, body, hy, hR⟩ := hY pre ⟨(k, p), hk⟩ wr hJ f3
    have E := Lib.hid e
    have F1 := Lib.hid f1
    have F2 := Lib.hid f2
    simp only [ptV] at hy
    have HA := Lib.hid hA
    clear e f1 f2 hA hY hM hB h0
    gi_wp2
    refine hR.mono ?_
    rintro e W3 (⟨rfl, hJ3, hk3⟩ | ⟨rfl, hJx3⟩)
    · have hM3 : MaxAt W3 := hMr.below hk3 hn0
      have HJ3 := Lib.hid hJ3
      clear hJ3 hk3
      cases more with
      | true =>
        gi_wp2_with (refine ⟨trivial, ?_⟩; gi_at_call 41; refine (callsIn_wide.2 (cut_any r _ hr hM3)).mono ?_; rintro e w' ⟨rfl, m, rfl⟩)
        go_roundw
        case rel =>
          have a1 := tl1_len r
          have a2 := hd1_len r
          refine ⟨pre ++ [⟨(k, p), hk⟩], k + 1, hd1 r, tl1 r, mo1 r, rfl, rfl, rfl, by go_num, ?_, by omega, ?_, hM3.next (below_drewN (Below.refl _ _) m), HA.out _ _ _ none HJ3.out (grown_drewN _ _) (fun r e => by cases e)⟩
          · simp only [if_true] at kb; omega
          · rw [← E.out, if_pos trivial, pcs_cut r []]
            cases mo1 r <;> simp [ix]
        case measure =>
          have a1 := tl1_len r
          simp only [strL, boolN, ByteArray.size]
          cases h : mo1 r <;> simp [h] at a1 ⊢ <;> omega
      | false =>
        gi_wp2
        go_end0
        exact ⟨⟨_, rfl⟩, .inl ⟨_, F2.out trivial, HJ3.out⟩⟩
    · gi_wp2
      go_end0
      exact ⟨⟨_, rfl⟩, .inr ⟨_, F1.out, hJx3⟩⟩
end Go.Proofs.YtfmehdophoejiaaGreatDoor

namespace Go.Proofs.YtfmehdophoejiaaGreatDoor
open Go.RowKit

def FldAt (w : World) : Prop := ∀ k : Nat, k < 3 → w.cell? ⟨10, 4 * k, none⟩ = some (.int .i64 (fw k)) ∧ w.cell? ⟨10, 4 * k + 1, none⟩ = some (.int .i64 (mo k)) ∧ w.cell? ⟨10, 4 * k + 2, none⟩ = some (.int .i64 (bl k)) ∧ w.cell? ⟨10, 4 * k + 3, none⟩ = some (.int .i64 (un k))
theorem FldAt.lt {w : World} (h : FldAt w) : 10 < w.heap.size := cell_lt (h 0 (by omega)).1
theorem FldAt.below {w w' : World} {B : Nat} (h : FldAt w) (k : Below B w w') (hB : 10 < B) : FldAt w' := fun i hi => by
  rw [k.cell hB, k.cell hB, k.cell hB, k.cell hB]; exact h i hi
theorem FldAt.next {w w' : World} (h : FldAt w) (k : Below w.heap.size w w') : FldAt w' := h.below k h.lt

theorem fld_far (k : Nat) (p : List UInt8) (w : World) (hk : 3 ≤ k) :
    Calls Tryz.prog 148 #[.int .i64 k, .string ⟨p.toArray⟩] w fun e w' => e = .returned (.tuple #[.int .i64 0, .bool false]) ∧ Below w.heap.size w w' := by
  have hk' : (3 : Int) ≤ (k : Int) := by omega
  go_enter Tryz.func148, Tryz.ntmps148
  go_wp2
  go_ret2
  exact ⟨rfl, Below.refl _ _⟩

theorem byte_at (p : List UInt8) (i : Nat) (h : i < p.length) (w : World) : (Instr.index 9 (.string ⟨p.toArray⟩) (.int .i64 (i : Int))).run Tryz.prog w = .ok (.int .u8 ((p.getD i 0).toNat : Int)) w := by
  have hs : (⟨p.toArray⟩ : ByteArray).size = p.length := by simp [ByteArray.size]
  rw [run_index_string w _ _ _ _ Tryz.underlying9, dif_pos ⟨by omega, by omega⟩]
  have : (⟨p.toArray⟩ : ByteArray)[(i : Int).toNat]'(by rw [hs]; simpa using h) = p.getD i 0 := by
    simp [ByteArray.getElem_eq_getElem_data, h]
  rw [this]

/-- The table's row at place k: four numbers. -/
structure RowIs (k f m b u : Nat) (w : World) : Prop where
  c0 : w.cell? ⟨10, 4 * k, none⟩ = some (.int .i64 f)
  c1 : w.cell? ⟨10, 4 * k + 1, none⟩ = some (.int .i64 m)
  c2 : w.cell? ⟨10, 4 * k + 2, none⟩ = some (.int .i64 b)
  c3 : w.cell? ⟨10, 4 * k + 3, none⟩ = some (.int .i64 u)

theorem fld_short (k f m b u : Nat) (p : List UInt8) (w : World) (ht : RowIs k f m b u w) (hk : k = 0 ∨ k = 1 ∨ k = 2) (h : p.length < f) :
    Calls Tryz.prog 148 #[.int .i64 k, .string ⟨p.toArray⟩] w fun e w' => e = .returned (.tuple #[.int .i64 0, .bool false]) ∧ Below w.heap.size w w' := by
  obtain ⟨c0, c1, c2, c3⟩ := ht
  have hlt := cell_lt c0
  have hs : (⟨p.toArray⟩ : ByteArray).size = p.length := by simp [ByteArray.size]
  have h' : (p.length : Int) < (f : Int) := by omega
  rcases hk with rfl | rfl | rfl
  all_goals
    simp only [Nat.reduceMul, Nat.reduceAdd] at c0 c1 c2 c3
    go_enter Tryz.func148, Tryz.ntmps148
    go_wp2
    go_ret2
    exact ⟨rfl, (Below.refl _ _).alloc (Nat.le_refl _) _⟩

theorem fld_long (k f m b u : Nat) (p : List UInt8) (w : World) (ht : RowIs k f m b u w) (hk : k = 0 ∨ k = 1 ∨ k = 2) (h1 : f ≤ p.length) (h : m < p.length) :
    Calls Tryz.prog 148 #[.int .i64 k, .string ⟨p.toArray⟩] w fun e w' => e = .returned (.tuple #[.int .i64 0, .bool false]) ∧ Below w.heap.size w w' := by
  obtain ⟨c0, c1, c2, c3⟩ := ht
  have hlt := cell_lt c0
  have hs : (⟨p.toArray⟩ : ByteArray).size = p.length := by simp [ByteArray.size]
  have h1' : ¬ (p.length : Int) < (f : Int) := by omega
  have h' : (m : Int) < (p.length : Int) := by omega
  rcases hk with rfl | rfl | rfl
  all_goals
    simp only [Nat.reduceMul, Nat.reduceAdd] at c0 c1 c2 c3
    go_enter Tryz.func148, Tryz.ntmps148
    go_wp2
    go_ret2
    exact ⟨rfl, (Below.refl _ _).alloc (Nat.le_refl _) _⟩

theorem take_next (p : List UInt8) (i : Nat) (h : i < p.length) : p.take (i + 1) = p.take i ++ [p.getD i 0] := by
  rw [List.take_succ_eq_append_getElem h]; simp [h]
theorem numOf_snoc (l : List UInt8) (b : UInt8) : numOf (l ++ [b]) = 10 * numOf l + (b.toNat - 48) := by simp [numOf]
theorem allDig_snoc (l : List UInt8) (b : UInt8) : allDig (l ++ [b]) = (allDig l && isDig b) := by simp [allDig]
theorem numOf_bd (l : List UInt8) (h : allDig l = true) : ∀ n : Nat, l.length ≤ n → n ≤ 12 → numOf l < 10 ^ n := by
  intro n hn h12
  have : ∀ l : List UInt8, allDig l = true → numOf l < 10 ^ l.length := by
    intro l
    induction hl : l.length generalizing l with
    | zero => intro _; obtain rfl : l = [] := by simpa using hl
              simp [numOf]
    | succ k ih =>
      intro hd
      obtain ⟨q, c, rfl⟩ : ∃ q c, l = q ++ [c] := ⟨l.dropLast, l.getLast (by intro e; simp [e] at hl), (List.dropLast_concat_getLast _).symm⟩
      rw [allDig_snoc, Bool.and_eq_true] at hd
      have := ih q (by simpa using hl) hd.1
      rw [numOf_snoc, Nat.pow_succ]
      have h2 := hd.2
      simp only [isDig, Bool.and_eq_true, decide_eq_true_eq] at h2
      omega
  exact Nat.lt_of_lt_of_le (this l h) (Nat.pow_le_pow_right (by omega) hn)

theorem allDig_cut {p : List UInt8} {i : Nat} (h : i < p.length) (hd : isDig (p.getD i 0) = false) : allDig p = false := by
  have e : p.getD i 0 = p[i] := by simp [h]
  rw [allDig, List.all_eq_false]
  exact ⟨p[i], List.getElem_mem h, by rw [← e, hd]; simp⟩

theorem no_dig {p : List UInt8} {b u : Nat} {v : Int} {ok : Bool} (h : ok = (allDig p && decide (numOf p < b)) ∧ v = if ok = true then ((numOf p * u : Nat) : Int) else 0) (hd : allDig p = false) : ok = false ∧ v = 0 := by
  obtain ⟨rfl, rfl⟩ := h
  simp [hd]
theorem all_dig {p : List UInt8} {b u : Nat} {v : Int} {ok : Bool} (h : ok = (allDig p && decide (numOf p < b)) ∧ v = if ok = true then ((numOf p * u : Nat) : Int) else 0) (hd : allDig p = true) : (numOf p < b → ok = true ∧ v = (numOf p : Int) * (u : Int)) ∧ (¬ numOf p < b → ok = false ∧ v = 0) := by
  obtain ⟨rfl, rfl⟩ := h
  constructor <;> intro h <;> simp [hd, h]

set_option maxHeartbeats 1600000 in
theorem fld_in (k f m b u : Nat) (p : List UInt8) (w : World) (ht : RowIs k f m b u w) (hk : k = 0 ∨ k = 1 ∨ k = 2) (h1 : f ≤ p.length) (h2 : p.length ≤ m) (hm : m ≤ 3) (_hb : b ≤ 1000) (hu : u ≤ 3600) (v : Int) (ok : Bool) (HV : Hid (ok = (allDig p && decide (numOf p < b)) ∧ v = if ok = true then ((numOf p * u : Nat) : Int) else 0)) :
    Calls Tryz.prog 148 #[.int .i64 k, .string ⟨p.toArray⟩] w fun e w' => e = .returned (.tuple #[.int .i64 v, .bool ok]) ∧ Below w.heap.size w w' := by
  obtain ⟨c0, c1, c2, c3⟩ := ht
  have hlt := cell_lt c0
  have hs : (⟨p.toArray⟩ : ByteArray).size = p.length := by simp [ByteArray.size]
  have h1' : ¬ (p.length : Int) < (f : Int) := by omega
  have h2' : ¬ (m : Int) < (p.length : Int) := by omega
  rcases hk with rfl | rfl | rfl
  all_goals
    simp only [Nat.reduceMul, Nat.reduceAdd] at c0 c1 c2 c3
    go_enter Tryz.func148, Tryz.ntmps148
    go_wp2
    go_loop [7, 28] (fun vn vi => ∃ i : Nat, vi = .int .i64 i ∧ i ≤ p.length ∧ allDig (p.take i) = true ∧ vn = .int .i64 (numOf (p.take i))) (fun _ vi => p.length - (intOf vi).toNat)
    case atStart => exact ⟨0, rfl, by omega, by simp [allDig], by simp [numOf]⟩
    case round =>
      obtain ⟨i, rfl, i1, i2, rfl⟩ := hrel
      have nb := numOf_bd _ i2 3 (by rw [List.length_take]; omega) (by omega)
      by_cases hi : i < p.length
      · have hi' : (i : Int) < (p.length : Int) := by omega
        have hix := byte_at p i hi
        have TN := Lib.hid (take_next p i hi)
        have HC := Lib.hid (allDig_cut hi)
        generalize hc : p.getD i 0 = c at hix TN HC
        have clt := c.toNat_lt
        generalize hn : numOf (p.take i) = n at nb
        have HN := Lib.hid hn
        clear hn hc
        by_cases d1 : c.toNat < 48
        · have d1' : (c.toNat : Int) < 48 := by omega
          have HD : Hid (ok = false ∧ v = 0) := (no_dig HV.out (HC.out (by simp [isDig]; omega)))
          go_wp2
          go_ret2
          rw [HD.out.1, HD.out.2]
          exact ⟨rfl, (Below.refl _ _).alloc (Nat.le_refl _) _⟩
        · by_cases d2 : 57 < c.toNat
          · have d1' : ¬ (c.toNat : Int) < 48 := by omega
            have d2' : 57 < (c.toNat : Int) := by omega
            have HD : Hid (ok = false ∧ v = 0) := (no_dig HV.out (HC.out (by simp [isDig]; omega)))
            go_wp2
            go_ret2
            rw [HD.out.1, HD.out.2]
            exact ⟨rfl, (Below.refl _ _).alloc (Nat.le_refl _) _⟩
          · have d1' : ¬ (c.toNat : Int) < 48 := by omega
            have d2' : ¬ 57 < (c.toNat : Int) := by omega
            have HD : Hid (allDig (p.take (i + 1)) = true ∧ numOf (p.take (i + 1)) = 10 * n + (c.toNat - 48)) := by
              show _ ∧ _
              rw [TN.out, allDig_snoc, numOf_snoc, i2, HN.out]
              refine ⟨?_, rfl⟩
              simp [isDig]; omega
            go_wp2
            go_round
            case rel => exact ⟨i + 1, by go_num, by omega, HD.out.1, by rw [HD.out.2]; go_num⟩
            case measure => simp [intOf]; omega
      · have hi' : ¬ (i : Int) < (p.length : Int) := by omega
        obtain rfl : i = p.length := by omega
        rw [List.take_length] at i2 nb ⊢
        have HD := Lib.hid (all_dig HV.out i2)
        clear i2 HV
        generalize hn : numOf p = n at nb HD ⊢
        by_cases hb2 : n < b
        · have hb' : ¬ (b : Int) ≤ (n : Int) := by omega
          have hmul : (n : Int) * (u : Int) ≤ 1000 * 3600 := Int.mul_le_mul (by omega) (by omega) (by omega) (by omega)
          have hmul0 : 0 ≤ (n : Int) * (u : Int) := Int.mul_nonneg (by omega) (by omega)
          have HE : Hid (ok = true ∧ v = (n : Int) * (u : Int)) := HD.out.1 hb2
          go_wp2
          go_ret2
          rw [HE.out.1, HE.out.2]
          exact ⟨rfl, (Below.refl _ _).alloc (Nat.le_refl _) _⟩
        · have hb' : (b : Int) ≤ (n : Int) := by omega
          have HE : Hid (ok = false ∧ v = 0) := HD.out.2 hb2
          go_wp2
          go_ret2
          rw [HE.out.1, HE.out.2]
          exact ⟨rfl, (Below.refl _ _).alloc (Nat.le_refl _) _⟩

theorem fld_any (k : Nat) (p : List UInt8) (w : World) (ht : FldAt w) :
    Calls Tryz.prog 148 #[.int .i64 k, .string ⟨p.toArray⟩] w fun e w' => e = .returned (.tuple #[.int .i64 (fvI k p), .bool (fldOk k p)]) ∧ Below w.heap.size w w' := by
  by_cases hk : k < 3
  · have hr : RowIs k (fw k) (mo k) (bl k) (un k) w := ⟨(ht k hk).1, (ht k hk).2.1, (ht k hk).2.2.1, (ht k hk).2.2.2⟩
    have h3 : k = 0 ∨ k = 1 ∨ k = 2 := by omega
    have hb : mo k ≤ 3 ∧ bl k ≤ 1000 ∧ un k ≤ 3600 := by unfold mo bl un; refine ⟨?_, ?_, ?_⟩ <;> (repeat' split) <;> omega
    by_cases h1 : p.length < fw k
    · have e : fldOk k p = false := by simp [fldOk]; omega
      have := fld_short k _ _ _ _ p w hr h3 h1
      rwa [show fvI k p = 0 by simp [fvI, e], e]
    · by_cases h2 : mo k < p.length
      · have e : fldOk k p = false := by simp [fldOk]; omega
        have := fld_long k _ _ _ _ p w hr h3 (by omega) h2
        rwa [show fvI k p = 0 by simp [fvI, e], e]
      · have e : fldOk k p = (allDig p && decide (numOf p < bl k)) := by simp [fldOk, hk, show fw k ≤ p.length by omega, show p.length ≤ mo k by omega]
        exact fld_in k _ _ _ _ p w hr h3 (by omega) (by omega) hb.1 hb.2.1 hb.2.2 _ _ ⟨e, rfl⟩
  · have e : fldOk k p = false := by simp [fldOk]; omega
    have := fld_far k p w (by omega)
    rwa [show fvI k p = 0 by simp [fvI, e], e]
end Go.Proofs.YtfmehdophoejiaaGreatDoor

namespace Go.Proofs.YtfmehdophoejiaaGreatDoor
open Go.RowKit Go.Shelf
attribute [local go_sem] Oper.semAt_some

theorem parts_any (s : List UInt8) (w : World) :
    Calls Tryz.prog 147 #[.string ⟨s.toArray⟩] w fun e w' => e = .returned (.func (.func 168) #[] #[.pointer (some ⟨w.heap.size, 0, none⟩)]) ∧ w' = w.alloc (.cells #[.string ⟨s.toArray⟩] 9) := by
  have hmf : ∀ (fn : Fn) (first cap : Array Value) (w : World), (Instr.makeFunc fn first cap).run Tryz.prog w = .ok (.func fn first cap) w := fun _ _ _ _ => rfl
  go_enter Tryz.func147, Tryz.ntmps147
  go_wp2
  go_ret
  exact ⟨rfl, rfl⟩

theorem parts_stops (n : Nat) (hn : 1 ≤ n) (Bs n₀ : Nat) (s : List UInt8) (hs : s.length ≤ 1000) (w : World) (hB : Bs < w.heap.size) (hc : w.cell? ⟨Bs, 0, none⟩ = some (.string ⟨s.toArray⟩)) (hM : MaxAt w) (hn0 : 7 < n₀) :
    SeqStopsK Fence.wide n Tryz.prog 168 #[.pointer (some ⟨Bs, 0, none⟩)] ptV (Below n₀) (fun xs : List Pt => xs.map Subtype.val = ix 0 (pcs [] s)) (fun pre : List Pt => pre.map Subtype.val <+: ix 0 (pcs [] s)) (pcs [] s).length w := fun l J Jx W hW hJ _ hY h0 =>
  part_in Fence.wide rfl n hn l Bs n₀ s hs J Jx hn0 W hJ hY ((hW.cell (p := ⟨Bs, 0, none⟩) hB).trans hc) (hM.next hW) h0

theorem scope_in {c : Code} {n : Nat} {Q : Exit → Act → World → Prop} {a : Act} {w : World} (h : c.wpIn Fence.wide n Tryz.prog (Exit.noGoto Q) a w) : (Code.scope c).wpIn Fence.wide n Tryz.prog Q a w := wpIn_wide.2 (wp_scope_straight (wpIn_wide.1 h))

/-- What the two variables of read hold. -/
structure Two (g : Nat) (a b : Int) (W : World) : Prop where
  x : Go.Boxed W g 3 (.int .i64 a)
  y : Go.Boxed W (g + 1) 24 (.int .i64 b)

theorem Two.next {g : Nat} {a b : Int} {W W1 : World} (h : Two g a b W) (k : Below W.heap.size W W1) : Two g a b W1 := ⟨(k.block g h.x.lt).trans h.x, (k.block (g + 1) h.y.lt).trans h.y⟩
theorem Two.set {g : Nat} {a b : Int} {W : World} (h : Two g a b W) (v : Int) : Two g v b (W.setCell ⟨g, 0, none⟩ (.int .i64 v)) := ⟨h.x.set _, h.y.other (by omega) _⟩
theorem Two.set2 {g : Nat} {a b : Int} {W : World} (h : Two g a b W) (v : Int) : Two g a v (W.setCell ⟨g + 1, 0, none⟩ (.int .i64 v)) := ⟨h.x.other (by omega) _, h.y.set _⟩
theorem keeps_below {W W1 : World} (k : Below W.heap.size W W1) : KeepsOthers W W1 := ⟨k.size, fun _ _ h _ => (k.block _ (Array.getElem?_eq_some_iff.1 h).1).trans h⟩

theorem two_own {β : Type} (g B : Nat) (f h : β → Int) : OwnFrom B (fun s W => Two g (f s) (h s) W) := fun s X Y row hs hg hrow =>
  ⟨Own.from (boxed_own g 3 (fun s => .int .i64 (f s))) B s X Y row hs.x hg hrow, Own.from (boxed_own (g + 1) 24 (fun s => .int .i64 (h s))) B s X Y row hs.y hg hrow⟩

theorem okP_pre {l m : List (Nat × List UInt8)} (h : l <+: m) (ho : okP l = false) : okP m = false := by
  obtain ⟨q, rfl⟩ := h
  simp only [okP, List.all_append] at ho ⊢
  rw [ho]; rfl

set_option maxHeartbeats 2000000 in
theorem read_in (s : List UInt8) (w : World) (hs : s.length ≤ 1000) (hM : MaxAt w) (hF : FldAt w) (n : Nat) (hn : n = 5) (v : Int) (e0 : Int) (HV : Hid ((readOk s = true → v = readV s ∧ e0 = 0) ∧ (readOk s = false → v = 0 ∧ e0 = 12))) :
    CallsIn Fence.wide n Tryz.prog 128 #[.string ⟨s.toArray⟩] w fun e w' => e = .returned (.tuple #[.int .i64 v, .int .i64 e0]) ∧ Below w.heap.size w w' := by
  have h1 : 1 ≤ n := by omega
  refine callsIn_of_wp_marks Tryz.func128 rfl trivial ?_ rfl
  simp only [Tryz.ntmps128, List.size_toArray, List.length_cons, List.length_nil, Nat.reduceAdd, Nat.reduceSub, Array.replicate_succ, Array.replicate_zero, List.push_toArray, List.append_toArray, List.nil_append, List.cons_append]
  gi_wp2
  refine scope_in ?_
  gi_wp2
  refine wpIn_label ?_
  gi_wp2_with (refine ⟨trivial, ?_⟩; gi_at_call 147; refine (callsIn_wide.2 (parts_any s _)).mono ?_; rintro e w' ⟨rfl, rfl⟩)
  obtain ⟨W0, hW0⟩ : ∃ W0, ((w.alloc (.cells #[.int .i64 0] 3)).alloc (.cells #[.int .i64 0] 24)).alloc (.cells #[.string ⟨s.toArray⟩] 9) = W0 := ⟨_, rfl⟩
  have hsz : W0.heap.size = w.heap.size + 3 := by rw [← hW0]; simp
  have hB0 : Below w.heap.size w W0 := by rw [← hW0]; exact (((Below.refl _ w).alloc (Nat.le_refl _) _).alloc (by simp) _).alloc (by simp; omega) _
  have hT0 : Two w.heap.size 0 0 W0 := by
    rw [← hW0]
    refine ⟨((Go.Boxed.new w _ _).alloc _).alloc _, ?_⟩
    have := Go.Boxed.new (w.alloc (.cells #[.int .i64 0] 3)) 24 (.int .i64 0)
    rw [World.size_alloc] at this
    exact this.alloc _
  have hS0 : W0.cell? ⟨w.heap.size + 2, 0, none⟩ = some (.string ⟨s.toArray⟩) := by
    rw [← hW0]
    have := (Go.Boxed.new ((w.alloc (.cells #[.int .i64 0] 3)).alloc (.cells #[.int .i64 0] 24)) 9 (.string ⟨s.toArray⟩)).cell
    simpa [World.size_alloc] using this
  rw [hW0]
  clear hW0
  have hMl := hM.lt
  refine wpIn_rangeFunc_ownF rfl h1 (gf := 168) (lb := #[.pointer (some ⟨w.heap.size + 2, 0, none⟩)]) rfl trivial (enters_of Tryz.func168 (by kernel_rfl) rfl)
    (parts_stops (n - 1) (by omega) (w.heap.size + 2) w.heap.size s hs W0 (by omega) hS0 (hM.next hB0) hMl) belowK_t (belowK_b (by omega)) (Below.refl _ _) (fun _ => rfl)
    (fun pre W => (okP (pre.map Subtype.val) = true ∧ Two w.heap.size (sumP (pre.map Subtype.val)) 0 W) ∧ Below w.heap.size w W)
    (fun c pre W => (c = .exit 0 ∧ okP (pre.map Subtype.val) = false ∧ Two w.heap.size 0 12 W) ∧ Below w.heap.size w W)
    ?hI ?hIx ⟨⟨rfl, hT0⟩, hB0⟩
    (fun x => { tmps := #[.string ⟨s.toArray⟩, undef, .int .i64 0, .int .i64 0, .pointer (some ⟨w.heap.size, 0, none⟩), .pointer (some ⟨w.heap.size + 1, 0, none⟩), .int .i64 x.1.1, .string ⟨x.1.2.toArray⟩, undef, undef, .string ⟨s.toArray⟩, .func (.func 168) #[] #[.pointer (some ⟨w.heap.size + 2, 0, none⟩)], .int .i64 x.1.1, .string ⟨x.1.2.toArray⟩, undef, undef, undef, undef, undef, undef, undef, undef, undef, undef, undef, undef, undef], defers := [] }) ?assign ?body ?done ?stop
  case hI =>
    exact OwnFrom.and (OwnFrom.and (ownFrom_pure _ _) (two_own _ _ _ _)) (ownFrom_below (Nat.le_refl _) (by omega))
  case hIx =>
    intro c
    exact OwnFrom.and (OwnFrom.and (ownFrom_pure _ _) (OwnFrom.and (ownFrom_pure _ _) (two_own _ _ (fun _ => 0) (fun _ => 12)))) (ownFrom_below (Nat.le_refl _) (by omega))
  case assign =>
    intro l x W K hK
    simp only [ptV]
    gi_wp2
    exact hK
  case body =>
    rintro l pre x W ⟨⟨hok, hT⟩, hB⟩ hlen
    have hnb := sumP_bd hok
    rw [List.length_map] at hnb
    have hpl := pcs_len s []
    have hF1 := hF.next hB
    have hn1 : 1 ≤ n - 1 - 1 := by omega
    generalize hS1 : sumP (pre.map Subtype.val) = S1 at hnb hT
    have HT := Lib.hid hT
    have HB := Lib.hid hB
    have HO := Lib.hid (And.intro hok hS1)
    generalize hv : fvI x.1.1 x.1.2 = v1
    clear hT hB hok hS1
    cases ho : fldOk x.1.1 x.1.2 with
    | true =>
      have hv2 : v1 = (fldV x.1.1 x.1.2 : Int) := by rw [← hv]; simp [fvI, ho]
      have hvb := fldV_bd ho
      generalize hf : fldV x.1.1 x.1.2 = f at hv2 hvb
      have HF := Lib.hid hf
      clear hf
      subst hv2
      gi_wp2_with (refine ⟨trivial, ?_⟩; gi_at_call 148; refine (CallsIn.inRound l (callsIn_wide.2 (fld_any x.1.1 x.1.2 _ hF1))).mono ?_; rintro e w' ⟨rfl, k1⟩; rw [ho, hv]
                   have T1 := Lib.hid (HT.out.next k1)
                   have K1 := Lib.hid k1
                   clear k1
                   have hx := T1.out.x.cell
                   have hfx := T1.out.x.frozen
                   have hsx := T1.out.x.lt)
      have e : ((pre ++ [x]).map Subtype.val) = pre.map Subtype.val ++ [x.1] := by simp
      refine ⟨(keeps_below K1.out).trans (KeepsOthers.setCell _ _ _), ?_, ?_⟩
      · exact (K1.out.mono HB.out.size).setCell (p := ⟨w.heap.size, 0, none⟩) (Nat.le_refl _) _
      · show (okP ((pre ++ [x]).map Subtype.val) = true ∧ Two w.heap.size (sumP ((pre ++ [x]).map Subtype.val) : Nat) 0 _) ∧ Below w.heap.size w _
        rw [e]
        refine ⟨⟨by rw [okP_snoc, HO.out.1, ho]; rfl, ?_⟩, (HB.out.trans (K1.out.mono HB.out.size)).setCell (p := ⟨w.heap.size, 0, none⟩) (Nat.le_refl _) _⟩
        rw [sumP_snoc, HO.out.2, HF.out, Int.natCast_add]
        exact T1.out.set _
    | false =>
      have hv2 : v1 = 0 := by rw [← hv]; simp [fvI, ho]
      subst hv2
      gi_wp2_with (refine ⟨trivial, ?_⟩; gi_at_call 148; refine (CallsIn.inRound l (callsIn_wide.2 (fld_any x.1.1 x.1.2 _ hF1))).mono ?_; rintro e w' ⟨rfl, k1⟩; rw [ho, hv]
                   have T1 := Lib.hid (HT.out.next k1)
                   have K1 := Lib.hid k1
                   clear k1
                   have hx := T1.out.x.cell
                   have hfx := T1.out.x.frozen
                   have hsx := T1.out.x.lt
                   have hy := T1.out.y.cell
                   have hfy := T1.out.y.frozen
                   have hsy := T1.out.y.lt)
      have e : ((pre ++ [x]).map Subtype.val) = pre.map Subtype.val ++ [x.1] := by simp
      refine ⟨((keeps_below K1.out).trans (KeepsOthers.setCell _ _ _)).trans (KeepsOthers.setCell _ _ _), ⟨rfl, ?_, (T1.out.set 0).set2 12⟩, ?_⟩
      · rw [e, okP_snoc, ho, Bool.and_false]
      · exact ((HB.out.trans (K1.out.mono HB.out.size)).setCell (p := ⟨w.heap.size, 0, none⟩) (Nat.le_refl _) _).setCell (p := ⟨w.heap.size + 1, 0, none⟩) (by show w.heap.size ≤ w.heap.size + 1; omega) _
  case done =>
    rintro D xs W hD hS ⟨⟨hok, hT⟩, hB⟩ hK
    have hx := hT.x.cell
    have hy := hT.y.cell
    rw [hS] at hok hx hT
    have HE : Hid (v = (sumP (ix 0 (pcs [] s)) : Int) ∧ e0 = 0) := HV.out.1 hok
    generalize hS1 : sumP (ix 0 (pcs [] s)) = S1 at hx HE
    clear hok hT hS hS1
    have hK2 : W.drew.heap[D]? = some (.deferred (some [])) := hK
    gi_wp2
    refine wpIn_wide.2 ?_
    go_region
    gi_wp2
    refine ⟨by simp, .inl ⟨_, _, rfl, run_takeDeferred hK2, ?_⟩⟩
    refine ⟨_, results_tmp2 rfl _ _ _, ?_⟩
    rw [HE.out.1, HE.out.2]
    exact ⟨rfl, (hB.drew).trans (belowK_b (w := w) (Nat.le_refl _) W.drew D _ _ (by omega) hK2 rfl rfl)⟩
  case stop =>
    rintro D c pre W hD hSp ⟨⟨rfl, hok, hT⟩, hB⟩ hK
    have hx := hT.x.cell
    have hy := hT.y.cell
    have HE : Hid (v = 0 ∧ e0 = 12) := HV.out.2 (okP_pre hSp hok)
    clear hok hT hSp
    have hK2 : W.drew.heap[D]? = some (.deferred (some [])) := hK
    gi_wp2
    refine wpIn_wide.2 ?_
    go_region
    gi_wp2
    refine ⟨by simp, .inl ⟨_, _, rfl, run_takeDeferred hK2, ?_⟩⟩
    refine ⟨_, results_tmp2 rfl _ _ _, ?_⟩
    rw [HE.out.1, HE.out.2]
    exact ⟨rfl, (hB.drew).trans (belowK_b (w := w) (Nat.le_refl _) W.drew D _ _ (by omega) hK2 rfl rfl)⟩

theorem read_is (s : List UInt8) (v e0 : Int) (w : World) (hs : s.length ≤ 1000) (hM : MaxAt w) (hF : FldAt w) (HV : Hid ((readOk s = true → v = readV s ∧ e0 = 0) ∧ (readOk s = false → v = 0 ∧ e0 = 12))) :
    Calls Tryz.prog 128 #[.string ⟨s.toArray⟩] w fun e w' => e = .returned (.tuple #[.int .i64 v, .int .i64 e0]) ∧ Below w.heap.size w w' :=
  callsIn_wide.1 (read_in s w hs hM hF 5 rfl v e0 HV)
end Go.Proofs.YtfmehdophoejiaaGreatDoor

namespace Go.Proofs.YtfmehdophoejiaaGreatDoor
open Go.RowKit

def letB (k : Nat) : UInt8 := if k = 0 then 119 else if k = 1 then 115 else if k = 2 then 117 else if k = 3 then 103 else 122
def letK (k : Nat) : Int := if k = 0 then 0 else if k = 1 then 1 else 2
structure LetAt (w : World) : Prop where
  b0 : w.cell? ⟨5, 0, none⟩ = some (.string ⟨#[119]⟩)
  k0 : w.cell? ⟨5, 1, none⟩ = some (.int .i64 0)
  b1 : w.cell? ⟨5, 2, none⟩ = some (.string ⟨#[115]⟩)
  k1 : w.cell? ⟨5, 3, none⟩ = some (.int .i64 1)
  b2 : w.cell? ⟨5, 4, none⟩ = some (.string ⟨#[117]⟩)
  k2 : w.cell? ⟨5, 5, none⟩ = some (.int .i64 2)
  b3 : w.cell? ⟨5, 6, none⟩ = some (.string ⟨#[103]⟩)
  k3 : w.cell? ⟨5, 7, none⟩ = some (.int .i64 2)
  b4 : w.cell? ⟨5, 8, none⟩ = some (.string ⟨#[122]⟩)
  k4 : w.cell? ⟨5, 9, none⟩ = some (.int .i64 2)
theorem LetAt.lt {w : World} (h : LetAt w) : 5 < w.heap.size := cell_lt h.b0
theorem LetAt.next {w w' : World} (h : LetAt w) (k : Below w.heap.size w w') : LetAt w' :=
  ⟨by rw [k.cell h.lt]; exact h.b0, by rw [k.cell h.lt]; exact h.k0, by rw [k.cell h.lt]; exact h.b1, by rw [k.cell h.lt]; exact h.k1, by rw [k.cell h.lt]; exact h.b2, by rw [k.cell h.lt]; exact h.k2, by rw [k.cell h.lt]; exact h.b3, by rw [k.cell h.lt]; exact h.k3, by rw [k.cell h.lt]; exact h.b4, by rw [k.cell h.lt]; exact h.k4⟩

/-- Which letter a text ends with: the place in the table; 5: none. -/
def kJ (s : List UInt8) : Nat := if s.getLast? = some 119 then 0 else if s.getLast? = some 115 then 1 else if s.getLast? = some 117 then 2 else if s.getLast? = some 103 then 3 else if s.getLast? = some 122 then 4 else 5
def kS (s : List UInt8) : List UInt8 := if kJ s < 5 then s.dropLast else s
def kN (s : List UInt8) : Int := if kJ s < 5 then letK (kJ s) else 0

theorem kJ_le (s : List UInt8) : kJ s ≤ 5 := by unfold kJ; (repeat' split) <;> omega
theorem kJ_no {s : List UInt8} {i : Nat} (h : i < kJ s) : s.getLast? ≠ some (letB i) := by
  unfold kJ at h
  unfold letB
  repeat' split at h
  all_goals
    obtain h | h | h | h | h : i = 0 ∨ i = 1 ∨ i = 2 ∨ i = 3 ∨ i = 4 := by omega
  all_goals subst h
  all_goals simp_all
theorem kJ_yes {s : List UInt8} (h : kJ s < 5) : s.getLast? = some (letB (kJ s)) := by
  unfold kJ at h ⊢
  repeat' split
  all_goals simp_all [letB]

theorem let_ix0 (W : World) : (Instr.index 134 (.agg #[.string ⟨#[119]⟩, .int .i64 0, .string ⟨#[115]⟩, .int .i64 1, .string ⟨#[117]⟩, .int .i64 2, .string ⟨#[103]⟩, .int .i64 2, .string ⟨#[122]⟩, .int .i64 2]) (.int .i64 0)).run Tryz.prog W = .ok (.agg #[.string ⟨#[119]⟩, .int .i64 0]) W := by
  kernel_rfl
theorem let_ix1 (W : World) : (Instr.index 134 (.agg #[.string ⟨#[119]⟩, .int .i64 0, .string ⟨#[115]⟩, .int .i64 1, .string ⟨#[117]⟩, .int .i64 2, .string ⟨#[103]⟩, .int .i64 2, .string ⟨#[122]⟩, .int .i64 2]) (.int .i64 1)).run Tryz.prog W = .ok (.agg #[.string ⟨#[115]⟩, .int .i64 1]) W := by
  kernel_rfl
theorem let_ix2 (W : World) : (Instr.index 134 (.agg #[.string ⟨#[119]⟩, .int .i64 0, .string ⟨#[115]⟩, .int .i64 1, .string ⟨#[117]⟩, .int .i64 2, .string ⟨#[103]⟩, .int .i64 2, .string ⟨#[122]⟩, .int .i64 2]) (.int .i64 2)).run Tryz.prog W = .ok (.agg #[.string ⟨#[117]⟩, .int .i64 2]) W := by
  kernel_rfl
theorem let_ix3 (W : World) : (Instr.index 134 (.agg #[.string ⟨#[119]⟩, .int .i64 0, .string ⟨#[115]⟩, .int .i64 1, .string ⟨#[117]⟩, .int .i64 2, .string ⟨#[103]⟩, .int .i64 2, .string ⟨#[122]⟩, .int .i64 2]) (.int .i64 3)).run Tryz.prog W = .ok (.agg #[.string ⟨#[103]⟩, .int .i64 2]) W := by
  kernel_rfl
theorem let_ix4 (W : World) : (Instr.index 134 (.agg #[.string ⟨#[119]⟩, .int .i64 0, .string ⟨#[115]⟩, .int .i64 1, .string ⟨#[117]⟩, .int .i64 2, .string ⟨#[103]⟩, .int .i64 2, .string ⟨#[122]⟩, .int .i64 2]) (.int .i64 4)).run Tryz.prog W = .ok (.agg #[.string ⟨#[122]⟩, .int .i64 2]) W := by
  kernel_rfl

set_option maxRecDepth 100000 in
set_option maxHeartbeats 800000 in
theorem kind_any (s : List UInt8) (w : World) (hs : s.length ≤ 1000) (ht : LetAt w) :
    Calls Tryz.prog 94 #[.string ⟨s.toArray⟩] w fun e w' => e = .returned (.tuple #[.string ⟨(kS s).toArray⟩, .int .i64 (kN s)]) ∧ Below w.heap.size w w' := by
  have jl := kJ_le s
  have NO := Lib.hid (fun i (h : i < kJ s) => kJ_no h)
  have YES := Lib.hid (kJ_yes (s := s))
  generalize hj : kJ s = j at jl NO YES
  have HJ := Lib.hid hj
  clear hj
  obtain ⟨b0, k0, b1, k1, b2, k2, b3, k3, b4, k4⟩ := ht
  go_enter Tryz.func94, Tryz.ntmps94
  go_wp2
  go_loopw [9] (fun vi w' => ∃ i : Nat, vi = .int .i64 i ∧ i ≤ j ∧ Below w.heap.size w w') (fun vi _ => j - (intOf vi).toNat)
  case atStart => exact ⟨0, rfl, by omega, Below.refl _ _⟩
  case round =>
    obtain ⟨i, rfl, hi, hB⟩ := hrel
    clear b0 k0 b1 k1 b2 k2 b3 k3 b4 k4
    have HB := Lib.hid hB
    have HI := Lib.hid hi
    clear hB hi
    rcases Nat.lt_or_ge i j with h | h
    · have hi5 : i = 0 ∨ i = 1 ∨ i = 2 ∨ i = 3 ∨ i = 4 := by omega
      rcases hi5 with rfl | rfl | rfl | rfl | rfl
      · have hli := let_ix0
        have NI : Hid (s.getLast? ≠ some 119) := NO.out 0 h
        go_wp2_with (go_at_call 126; refine (cutSuf_no s 119 _ (by omega) NI).mono ?_; rintro e w' ⟨rfl, rfl⟩)
        go_roundw
        case rel => exact ⟨1, rfl, by omega, HB.out.alloc HB.out.size _⟩
        case measure => simp [intOf]; omega
      · have hli := let_ix1
        have NI : Hid (s.getLast? ≠ some 115) := NO.out 1 h
        go_wp2_with (go_at_call 126; refine (cutSuf_no s 115 _ (by omega) NI).mono ?_; rintro e w' ⟨rfl, rfl⟩)
        go_roundw
        case rel => exact ⟨2, rfl, by omega, HB.out.alloc HB.out.size _⟩
        case measure => simp [intOf]; omega
      · have hli := let_ix2
        have NI : Hid (s.getLast? ≠ some 117) := NO.out 2 h
        go_wp2_with (go_at_call 126; refine (cutSuf_no s 117 _ (by omega) NI).mono ?_; rintro e w' ⟨rfl, rfl⟩)
        go_roundw
        case rel => exact ⟨3, rfl, by omega, HB.out.alloc HB.out.size _⟩
        case measure => simp [intOf]; omega
      · have hli := let_ix3
        have NI : Hid (s.getLast? ≠ some 103) := NO.out 3 h
        go_wp2_with (go_at_call 126; refine (cutSuf_no s 103 _ (by omega) NI).mono ?_; rintro e w' ⟨rfl, rfl⟩)
        go_roundw
        case rel => exact ⟨4, rfl, by omega, HB.out.alloc HB.out.size _⟩
        case measure => simp [intOf]; omega
      · have hli := let_ix4
        have NI : Hid (s.getLast? ≠ some 122) := NO.out 4 h
        go_wp2_with (go_at_call 126; refine (cutSuf_no s 122 _ (by omega) NI).mono ?_; rintro e w' ⟨rfl, rfl⟩)
        go_roundw
        case rel => exact ⟨5, rfl, by omega, HB.out.alloc HB.out.size _⟩
        case measure => simp [intOf]; omega
    · obtain rfl : i = j := by have := HI.out; omega
      by_cases h5 : i < 5
      · have YE := YES.out h5
        have E : Hid (kS s = s.dropLast ∧ kN s = letK i) := by
          show _ ∧ _
          rw [kS, kN, HJ.out, if_pos h5, if_pos h5]; exact ⟨rfl, rfl⟩
        have hi5 : i = 0 ∨ i = 1 ∨ i = 2 ∨ i = 3 ∨ i = 4 := by omega
        rcases hi5 with rfl | rfl | rfl | rfl | rfl
        · have hli := let_ix0
          have YI : Hid (s.getLast? = some 119) := YE
          clear YE
          go_wp2_with (go_at_call 126; refine (cutSuf_yes s 119 _ (by omega) YI).mono ?_; rintro e w' ⟨rfl, rfl⟩)
          go_quiet (fail)
          go_wp2
          go_ret2
          rw [E.out.1, E.out.2]
          exact ⟨rfl, below_drewN (HB.out.alloc HB.out.size _) _⟩
        · have hli := let_ix1
          have YI : Hid (s.getLast? = some 115) := YE
          clear YE
          go_wp2_with (go_at_call 126; refine (cutSuf_yes s 115 _ (by omega) YI).mono ?_; rintro e w' ⟨rfl, rfl⟩)
          go_quiet (fail)
          go_wp2
          go_ret2
          rw [E.out.1, E.out.2]
          exact ⟨rfl, below_drewN (HB.out.alloc HB.out.size _) _⟩
        · have hli := let_ix2
          have YI : Hid (s.getLast? = some 117) := YE
          clear YE
          go_wp2_with (go_at_call 126; refine (cutSuf_yes s 117 _ (by omega) YI).mono ?_; rintro e w' ⟨rfl, rfl⟩)
          go_quiet (fail)
          go_wp2
          go_ret2
          rw [E.out.1, E.out.2]
          exact ⟨rfl, below_drewN (HB.out.alloc HB.out.size _) _⟩
        · have hli := let_ix3
          have YI : Hid (s.getLast? = some 103) := YE
          clear YE
          go_wp2_with (go_at_call 126; refine (cutSuf_yes s 103 _ (by omega) YI).mono ?_; rintro e w' ⟨rfl, rfl⟩)
          go_quiet (fail)
          go_wp2
          go_ret2
          rw [E.out.1, E.out.2]
          exact ⟨rfl, below_drewN (HB.out.alloc HB.out.size _) _⟩
        · have hli := let_ix4
          have YI : Hid (s.getLast? = some 122) := YE
          clear YE
          go_wp2_with (go_at_call 126; refine (cutSuf_yes s 122 _ (by omega) YI).mono ?_; rintro e w' ⟨rfl, rfl⟩)
          go_quiet (fail)
          go_wp2
          go_ret2
          rw [E.out.1, E.out.2]
          exact ⟨rfl, below_drewN (HB.out.alloc HB.out.size _) _⟩
      · obtain rfl : i = 5 := by omega
        have E : Hid (kS s = s ∧ kN s = 0) := by
          show _ ∧ _
          rw [kS, kN, HJ.out]; exact ⟨rfl, rfl⟩
        go_wp2
        go_ret2
        rw [E.out.1, E.out.2]
        exact ⟨rfl, HB.out⟩
end Go.Proofs.YtfmehdophoejiaaGreatDoor
