/- The contracts of wire.Uint and wire.Int: a number's pieces, in a slice of the call's own; nothing that was in memory changes. -/
import Derived.RangeFuncNested
import Derived.RangeFuncBound
import Derived.RangeFuncCalls
import Derived.RangeFuncLeaves
import Derived.RangeFuncBox
import Derived.Shelf.Abstract
import Derived.OwnWalkIn
import Derived.TacticsInMore
import Derived.LoopNIn
import Derived.LoopIn
import Derived.WalkMore
import Derived.Laws.BitsLemmas
import Derived.Laws.Bits128
import Derived.Test.YtdepbhikkjfcjaaWrA
namespace Go.Proofs.Ytdepbhikkjfcjaa
open Go.RowKit Go.Shelf
attribute [local go_sem] Oper.semAt_some

theorem own_form {W : World} {v' : Value} {base n : Nat} {e : TypeId} {xs : List Value} (h : W.ownsRow base e 1 v' n xs) : ∃ A c, v' = .slice A n c := by
  rcases h.2 with ⟨rfl, rfl⟩ | ⟨g, cap, _, rfl, _⟩
  · exact ⟨none, 0, rfl⟩
  · exact ⟨_, cap, rfl⟩

theorem one_new (W : World) (v : Value) (t : TypeId) : ∀ (j : Nat) (u : Value), [v][j]? = some u → (W.alloc (.cells #[v] t)).cell? (Addr.add ⟨W.heap.size, 0, none⟩ j) = some u := by
  intro j u hu
  rcases j with _ | j
  · obtain rfl : v = u := by simpa using hu
    rw [Go.WideShapes.add_plain]
    exact (Boxed.new W t v).cell
  · simp at hu

def byV (x : UInt8) : Array Value := #[.int .u8 (x.toNat : Int)]

theorem pc_bits (m : Nat) : bits .or .u8 ((m : Int) % 256) 128 = ((UInt8.ofNat (m % 128 + 128)).toNat : Int) := by
  rw [u8_of _ (by omega)]
  have h1 : ((m : Int) % 256) = ((m % 256 : Nat) : Int) := by omega
  rw [h1, show (((m % 256 : Nat) : Int)) = (((m % 256 : Nat) : Int)) from rfl]
  have h2 : ∀ x : Fin 256, bits .or .u8 ((x.val : Nat) : Int) 128 = ((x.val % 128 + 128 : Nat) : Int) := by decide +kernel
  have h3 := h2 ⟨m % 256, by omega⟩
  rw [h3]
  simp only []
  omega

set_option maxRecDepth 20000 in
set_option maxHeartbeats 1000000 in
theorem pieces_in (F : Fence) (hF : F = Fence.wide) (n : Nat) (hn : 1 ≤ n) (l Bs : Nat) (num : Nat) (hnum : num < 18446744073709551616) (Kp : World → World → Prop) (J Jx : List UInt8 → World → Prop)
    (W : World) 
    (hY : ∀ pre x W1, J pre W1 → pre.length < (pc num).length → YieldAt F (n - 1) Try.prog l (byV x) W1 fun e W' =>
      (e = .returned (.bool true) ∧ J (pre ++ [x]) W' ∧ Kp W1 W') ∨ (e = .returned (.bool false) ∧ Jx (pre ++ [x]) W'))
    (hB : W.cell? ⟨Bs, 0, none⟩ = some (.int .u64 (num : Int))) (h0 : J [] W) :
    CallsIn F n Try.prog 43 #[.func (.yield l) #[] #[], .pointer (some ⟨Bs, 0, none⟩)] W fun e W' => (∃ v, e = .returned v) ∧
      ((∃ xs : List UInt8, xs = pc num ∧ J xs W') ∨ (∃ pre : List UInt8, pre <+: pc num ∧ Jx pre W')) := by
  subst hF
  refine callsIn_of_wp Try.func43 rfl trivial ?_ rfl
  simp only [Try.ntmps43, List.size_toArray, List.length_cons, List.length_nil, Nat.reduceAdd, Nat.reduceSub, Array.replicate_succ, Array.replicate_zero, List.push_toArray, List.append_toArray, List.nil_append, List.cons_append]
  gi_wp2
  gi_loopw [3] (fun v wr => ∃ (pre : List UInt8) (m : Nat), v = .int .u64 m ∧ m < 18446744073709551616 ∧ pre ++ pc m = pc num ∧ J pre wr) (fun v _ => (intOf v).toNat)
  case atStart => exact ⟨[], num, rfl, hnum, rfl, h0⟩
  case round =>
    obtain ⟨pre, m, rfl, hm, e, hJ⟩ := hrel
    by_cases hb : 128 ≤ m
    · have hbt := pc_bits m
      have e2 := Lib.hid (pc_big hb)
      obtain ⟨c, hc⟩ : ∃ c, UInt8.ofNat (m % 128 + 128) = c := ⟨_, rfl⟩
      rw [hc] at hbt e2
      have hln : pre.length < (pc num).length := by rw [← e, e2.out]; simp
      obtain ⟨fn, tmps, assign, body, hy, hR⟩ := hY pre c wr hJ hln
      simp only [byV] at hy
      have E := Lib.hid e
      have HY := Lib.hid hY
      have HM := Lib.hid hm
      clear e hY hJ hc hln hB h0 hm hnum
      gi_wp2
      refine hR.mono ?_
      rintro e W3 (⟨rfl, hJ3, _⟩ | ⟨rfl, hJx3⟩)
      · have HJ3 := Lib.hid hJ3
        clear hJ3
        gi_wp2
        go_roundw
        case rel => exact ⟨pre ++ [c], m / 128, by go_num, by have := HM.out; omega, by rw [List.append_assoc, ← E.out, e2.out]; rfl, HJ3.out⟩
        case measure => simp [intOf]; omega
      · gi_wp2
        exact bodyPost_ret (results_none rfl _ _ _) rfl ⟨⟨_, rfl⟩, .inr ⟨_, ⟨pc (m / 128), by rw [List.append_assoc, ← E.out, e2.out]; rfl⟩, hJx3⟩⟩
    · have e2 := Lib.hid (pc_small (n := m) (by omega))
      have hc1 := u8_of m (by omega)
      obtain ⟨c, hc⟩ : ∃ c, UInt8.ofNat m = c := ⟨_, rfl⟩
      rw [hc] at e2 hc1
      have hln : pre.length < (pc num).length := by rw [← e, e2.out]; simp
      obtain ⟨fn, tmps, assign, body, hy, hR⟩ := hY pre c wr hJ hln
      simp only [byV] at hy
      rw [hc1] at hy
      have E := Lib.hid e
      have HB2 := Lib.hid hb
      have hbt : ((m : Int) % 256) = (m : Int) := by omega
      clear e hY hJ hc hln hB h0 hm hnum
      gi_wp2
      refine hR.mono ?_
      rintro e W3 (⟨rfl, hJ3, _⟩ | ⟨rfl, hJx3⟩)
      · gi_wp2
        go_end0
        exact ⟨⟨_, rfl⟩, .inl ⟨_, by rw [← E.out, e2.out], hJ3⟩⟩
      · gi_wp2
        go_end0
        exact ⟨⟨_, rfl⟩, .inr ⟨_, ⟨[], by rw [List.append_nil, ← E.out, e2.out]⟩, hJx3⟩⟩

theorem pieces_any (num : Nat) (w : World) :
    Calls Try.prog 29 #[.int .u64 (num : Int)] w fun e w' => e = .returned (.func (.func 43) #[] #[.pointer (some ⟨w.heap.size, 0, none⟩)]) ∧ w' = w.alloc (.cells #[.int .u64 (num : Int)] 52) := by
  have hmf : ∀ (fn : Fn) (first cap : Array Value) (w : World), (Instr.makeFunc fn first cap).run Try.prog w = .ok (.func fn first cap) w := fun _ _ _ _ => rfl
  go_enter Try.func29, Try.ntmps29
  go_wp2
  go_ret
  exact ⟨rfl, rfl⟩

theorem pieces_stops (Kp : World → World → Prop) (n : Nat) (hn : 1 ≤ n) (Bs : Nat) (num : Nat) (hnum : num < 18446744073709551616) (w : World) (hB : w.cell? ⟨Bs, 0, none⟩ = some (.int .u64 (num : Int))) (hb : Bs < w.heap.size) :
    SeqStopsK Fence.wide n Try.prog 43 #[.pointer (some ⟨Bs, 0, none⟩)] byV Kp (fun xs : List UInt8 => xs = pc num) (fun pre : List UInt8 => pre <+: pc num) (pc num).length w := fun l J Jx W hW _ _ hY h0 =>
  pieces_in Fence.wide rfl n hn l Bs num hnum Kp J Jx W hY ((hW.cell (p := ⟨Bs, 0, none⟩) hb).trans hB) h0

/-- The iterator's bytes, appended: whatever iterator. -/
def Coll (l : List UInt8) (w : World) (e : Ending) (w' : World) : Prop := ∃ A c, e = .returned (.slice A l.length c) ∧ w'.ownsRow w.heap.size 5 1 (.slice A l.length c) l.length (bcl l) ∧ Below w.heap.size w w'

set_option maxRecDepth 20000 in
set_option maxHeartbeats 2000000 in
theorem appendSeq_in (n : Nat) (hn : 4 ≤ n) (gf : Nat) (lb : Array Value) (eg : ∀ args w, (callFunc gf args).run Try.prog w = .ok (.enter gf args) w) (L : List UInt8) (hL : L.length ≤ 1000) (w : World)
    (hseq : ∀ w0, Below w.heap.size w w0 → SeqStopsK Fence.wide (n - 1) Try.prog gf lb byV (fun _ _ => True) (fun xs : List UInt8 => xs = L) (fun pre : List UInt8 => pre <+: L) L.length w0) :
    CallsIn Fence.wide n Try.prog 42 #[.slice none 0 0, .func (.func gf) #[] lb] w (Coll L w) := by
  obtain ⟨i0, hi0, hz0, hz1, hz2⟩ := info_parts uint8_info
  have h1 : 1 ≤ n := by omega
  refine callsIn_of_wp_marks Try.func42 rfl trivial ?_ rfl
  simp only [Try.ntmps42, List.size_toArray, List.length_cons, List.length_nil, Nat.reduceAdd, Nat.reduceSub, Array.replicate_succ, Array.replicate_zero, List.push_toArray, List.append_toArray, List.nil_append, List.cons_append]
  gi_wp2
  have bO := Boxed.new w 22 (.slice none 0 0)
  have hB0 : Below w.heap.size w (w.alloc (.cells #[.slice none 0 0] 22)) := (Below.refl _ w).alloc (Nat.le_refl _) _
  refine wpIn_rangeFunc_ownF rfl h1 (gf := gf) (lb := lb) rfl trivial eg (hseq _ hB0) (fun _ _ => trivial) (fun _ _ _ _ _ _ _ _ => trivial) (Below.refl _ _) (fun _ => rfl)
    (fun pre W => (∃ v, Boxed W w.heap.size 22 v ∧ W.ownsRow w.heap.size 5 1 v pre.length (bcl pre) ∧ True) ∧ Below w.heap.size w W)
    (fun _ _ _ => False)
    (OwnFrom.and (Own.from (holdsRow_own w.heap.size w.heap.size 22 5 1 (fun pre : List UInt8 => pre.length) (fun pre => bcl pre) (fun _ _ => True)) _) (ownFrom_below (Nat.le_refl _) (by simp)))
    (fun _ _ _ _ _ hs _ _ => hs)
    ⟨⟨_, bO, World.ownsRow_nil _ _ _ _, trivial⟩, hB0⟩
    (fun x => { tmps := #[.slice none 0 0, .func (.func gf) #[] lb, .pointer (some ⟨w.heap.size, 0, none⟩), undef, .slice none 0 0, .int .u8 (x.toNat : Int), .func (.func gf) #[] lb, .int .u8 (x.toNat : Int), undef, undef, undef, undef, undef], defers := [] }) ?assign ?body ?done ?stop
  case assign =>
    intro l x W K hK
    simp only [byV]
    gi_wp2
    exact hK
  case body =>
    rintro l pre x W ⟨⟨v, hv, hrow, _⟩, hB⟩ hlt
    have hc := hv.cell
    gi_wp2_with (gi_at_builtin; refine wpListIn_append_own _ rfl _ _ 22 rfl w.heap.size 5 i0 (.int .u8 0) 1 1 Try.underlying22 hi0 hz0 hz1 hz2 rfl (by decide) _ _ _ rfl (hrow.alloc _) ⟨W.heap.size, 0, none⟩ 1 1 [.int .u8 (x.toNat : Int)] rfl rfl (one_new W _ 5) (by simp [Value.oneCell']) (by simp only [maxLen]; omega) (by omega) (by have := hB.size; simp; omega) ?_; intro v' w1 hown' hgrow _; obtain ⟨g', cap', rfl⟩ := ownsRow_succ hown'; obtain ⟨hv1, hv2, hr2, hk2, hb2⟩ := hv.appended (by decide) hrow hB.size (Nat.le_refl _) hown' hgrow; have hc1 := hv1.cell; have hf1 := hv1.frozen)
    exact ⟨hk2, trivial, ⟨_, hv2, by rw [bcl_app, List.length_append]; exact hr2, trivial⟩, hB.trans hb2⟩
  case done =>
    rintro D xs W hD rfl ⟨⟨v, hv, hrow, _⟩, hB⟩ hK
    have hc := hv.cell
    gi_wp2
    refine ⟨by simp, .inl ⟨_, _, rfl, run_takeDeferred hK, ?_⟩⟩
    have hr := ownsRow_putObj hrow (.deferred none) hK rfl
    obtain ⟨A, c, rfl⟩ := own_form hrow
    exact ⟨_, results_tmp rfl _ _ _, A, c, rfl, hr, hB.trans (belowK_b (w := w) (Nat.le_refl _) W D _ _ (by simp at hD; omega) hK rfl rfl)⟩
  case stop =>
    rintro D c pre W _ _ h _
    exact h.elim

theorem collect_any (gf : Nat) (lb : Array Value) (eg : ∀ args w, (callFunc gf args).run Try.prog w = .ok (.enter gf args) w) (L : List UInt8) (hL : L.length ≤ 1000) (w : World)
    (hseq : ∀ w0, Below w.heap.size w w0 → SeqStopsK Fence.wide 4 Try.prog gf lb byV (fun _ _ => True) (fun xs : List UInt8 => xs = L) (fun pre : List UInt8 => pre <+: L) L.length w0) :
    Calls Try.prog 28 #[.func (.func gf) #[] lb] w (Coll L w) := by
  have HS := Lib.hid hseq
  clear hseq
  go_enter Try.func28, Try.ntmps28
  go_wp2_with (go_at_call 42; refine (callsIn_wide.1 (appendSeq_in 5 (by omega) gf lb eg L hL _ HS.out)).mono ?_; rintro e w' ⟨A, c, rfl, h1, h2⟩)
  go_ret
  exact ⟨A, c, rfl, h1, h2⟩

theorem Coll.to {L : List UInt8} {w w1 : World} {e : Ending} {w' : World} (h : Coll L w1 e w') (hb : Below w.heap.size w w1) : Coll L w e w' := by
  obtain ⟨A, c, rfl, h1, h2⟩ := h
  refine ⟨A, c, rfl, ⟨h1.1, ?_⟩, hb.trans (h2.mono hb.size)⟩
  rcases h1.2 with hn | ⟨g, cap, cur, hv, hbg, rest⟩
  · exact .inl hn
  · exact .inr ⟨g, cap, cur, hv, Nat.le_trans hb.size hbg, rest⟩

theorem pieces_seq (num : Nat) (hnum : num < 18446744073709551616) (w w0 : World) (h : Below (w.alloc (.cells #[.int .u64 (num : Int)] 52)).heap.size (w.alloc (.cells #[.int .u64 (num : Int)] 52)) w0) :
    SeqStopsK Fence.wide 4 Try.prog 43 #[.pointer (some ⟨w.heap.size, 0, none⟩)] byV (fun _ _ => True) (fun xs : List UInt8 => xs = pc num) (fun pre : List UInt8 => pre <+: pc num) (pc num).length w0 :=
  pieces_stops _ 4 (by omega) w.heap.size num hnum w0 ((h.cell (p := ⟨w.heap.size, 0, none⟩) (by simp)).trans (Boxed.new w _ _).cell) (Nat.lt_of_lt_of_le (by simp) h.size)

theorem uint_yes (n : Nat) (hn : n < 9223372036854775808) (w : World) : Calls Try.prog 12 #[.int .i64 (n : Int)] w (Coll (pc n) w) := by
  have hl : (pc n).length ≤ 1000 := by have := pc_len9 hn; omega
  have hz : ¬ (n : Int) < 0 := by omega
  have hw : ((n : Int) % 18446744073709551616) = (n : Int) := by omega
  have SQ := Lib.hid (fun w w0 h => pieces_seq n (by omega) w w0 h)
  have HN := Lib.hid hn
  clear hn
  go_enter Try.func12, Try.ntmps12
  go_wp2_with (first
    | (go_at_call 29; refine (pieces_any _ _).mono ?_; rintro e w' ⟨rfl, rfl⟩)
    | (go_at_call 28; refine (collect_any _ _ (enters_of Try.func43 (by kernel_rfl) rfl) (pc n) hl _ (SQ.out _)).mono ?_; intro e w' hC; obtain ⟨A, c, rfl, k1, k2⟩ := hC.to ((Below.refl _ w).alloc (Nat.le_refl _) _)))
  go_ret
  exact ⟨A, c, rfl, k1, k2⟩
end Go.Proofs.Ytdepbhikkjfcjaa
