/- The contract of strings.SplitSeq at a slash: it hands the parts between slashes to whatever loop it is ranged over by; the contract of lines.Name.
The contracts of lines.isShown and lines.Format: which formats may be; nothing that was in memory changes.
What words of lines are: a rule, an era, a zone, a link, or the first error; said over lists of bytes.
The contract of a line's checks, over whatever fields, and of lines.read: the first word that is wrong; what the fields keep lies where they keep it. -/
import Derived.RangeFuncNested
import Derived.RangeFuncBound
import Derived.RangeFuncCalls
import Derived.RangeFuncLeaves
import Derived.RangeFuncBox
import Derived.Shelf.Abstract
import Derived.OwnWalkIn
import Derived.TacticsInMore
import Derived.LoopNIn
import Derived.LoopIn
import Derived.WalkMore
import Derived.Test.YtfmehdophoejiaaGreatDoorMA
import Derived.Test.YtfmehdophoejiaaGreatDoorMB
import Derived.Test.YtfmehdophoejiaaGreatDoorME
import Derived.Test.YtfmehdophoejiaaGreatDoorMF
import Derived.Test.YtfmehdophoejiaaGreatDoorMI
namespace Go.Proofs.YtfmehdophoejiaaGreatDoor
open Go Go.RowKit Go.Shelf
attribute [local go_sem] Oper.semAt_some

def ptsV (x : List UInt8) : Array Value := #[.string ⟨x.toArray⟩]
/-- All blocks but h lie as they lay. -/
def But (h : Nat) (X Y : World) : Prop := X.grownBy Y (some h)
theorem But.keptO {h B : Nat} {X Y : World} (k : But h X Y) (hB : h < B) : KeptO B X Y := ⟨k.size, fun j h1 h2 => k.block j h2 (by intro e; injection e with e; omega)⟩
theorem But.below {h n0 : Nat} {X Y : World} (k : But h X Y) (hh : n0 ≤ h) (hn : n0 ≤ X.heap.size) : Below n0 X Y :=
  (Below.refl n0 X).grown k hn (fun j e => by injection e with e; omega)
theorem But.of {h : Nat} {X Y : World} (k : Below X.heap.size X Y) : But h X Y := ⟨k.os, k.tape, k.output, k.size, fun i hi _ => k.block i hi⟩
theorem But.set (h : Nat) (X : World) (v : Value) : But h X (X.setCell ⟨h, 0, none⟩ v) := grownBy_setCell' X h v

def sepBox (h : Nat) (W : World) : Prop := Go.Boxed W (h + 1) 9 (.string ⟨#[47]⟩) ∧ Go.Boxed W (h + 2) 3 (.int .i64 0)
def mS (h : Nat) (W : World) : Nat := match W.cell? ⟨h, 0, none⟩ with | some (.string s) => s.size | _ => 0
theorem mS_is {h : Nat} {W : World} {r : List UInt8} (b : Go.Boxed W h 9 (.string ⟨r.toArray⟩)) : mS h W = r.length := by
  unfold mS
  rw [b.cell]
  exact wsize r
theorem MaxF.keep {n0 : Nat} {X Y : World} (h : MaxF X) (k : Below n0 X Y) (hn : 7 < n0) : MaxF Y := by
  obtain ⟨m, h1⟩ := h
  exact ⟨m, by rw [k.cell (p := ⟨_, _, none⟩) hn]; exact h1⟩
theorem Box.same {b : Nat} {X Y : World} {t : TypeId} {v : Value} (h : Go.Boxed X b t v) (k : Y.heap[b]? = X.heap[b]?) : Go.Boxed Y b t v := k.trans h

theorem from7_run (r : List UInt8) (i : Nat) (p : List UInt8) (hp : r.drop (i + 1) = p) (h2 : i < r.length) (W : World) :
    (Instr.slice 9 (.string ⟨r.toArray⟩) (some (.int .i64 ((i : Int) + 1))) none none).run Tryz.prog W = .ok (.string ⟨p.toArray⟩) W := by
  have hs : (⟨r.toArray⟩ : ByteArray).size = r.length := by simp [ByteArray.size]
  have e : (i : Int) + 1 = ((i + 1 : Nat) : Int) := by omega
  rw [e, run_slice_string_from_if (h := Tryz.underlying9), if_pos ⟨by omega, by rw [hs]; omega⟩]
  subst hp
  congr 2
  simp only [ByteArray.extract_mk, ByteArray.size, Int.toNat_natCast, List.size_toArray]
  rw [List.take_of_length_le (by rw [List.length_drop]; exact Nat.le_refl _)]

set_option maxHeartbeats 2000000 in
theorem split_act (n : Nat) (hn : 1 ≤ n) (h n0 : Nat) (s : List UInt8) (hs : s.length ≤ 1000) (w : World) (b1 : Go.Boxed w h 9 (.string ⟨s.toArray⟩)) (b2 : sepBox h w) (hM : MaxF w) (hn0 : 7 < n0) (hh : n0 ≤ h) :
    SeqAct n Tryz.prog 116 #[] #[.pointer (some ⟨h + 1, 0, none⟩), .pointer (some ⟨h, 0, none⟩), .pointer (some ⟨h + 2, 0, none⟩)] ptsV (But h) (fun _ _ => True) (fun pre x X Y => X = Y ∧ x.length ≤ 1000 ∧ (pre ++ [x]) <+: pc7 [] s) n0 h (fun xs => xs = pc7 [] s) (fun pre => pre <+: pc7 [] s) w := by
  intro l J Jm Jx W kW hWs uJ uM uX mJ mM mX _ hup hY h0
  have l3 := b2.2.lt
  have B1 : Hid (Go.Boxed W h 9 (.string ⟨s.toArray⟩)) := Lib.hid (Box.same b1 (kW.block h (by omega)))
  have B2 : Hid (sepBox h W) := Lib.hid ⟨Box.same b2.1 (kW.block (h + 1) (by omega)), Box.same b2.2 (kW.block (h + 2) (by omega))⟩
  have HM := Lib.hid (hM.next kW)
  have HY := Lib.hid hY
  have H0 := Lib.hid h0
  have HU := Lib.hid hup
  have MJ := Lib.hid mJ
  clear b1 b2 hM hY h0 hup mJ mM mX uJ uM uX
  refine callsIn_of_wp Tryz.func116 rfl trivial ?_ rfl
  simp only [Tryz.ntmps116, List.size_toArray, List.length_cons, List.length_nil, Nat.reduceAdd, Nat.reduceSub, Array.replicate_succ, Array.replicate_zero, List.push_toArray, List.append_toArray, List.nil_append, List.cons_append]
  have c1 := B2.out.1.cell
  have q1 := B2.out.1.lt
  gi_wp2
  clear c1 q1
  gi_loopw [7, 8] (fun _ _ wr => ∃ (pre : List (List UInt8)) (r : List UInt8), pre ++ pc7 [] r = pc7 [] s ∧ r.length ≤ s.length ∧ Go.Boxed wr h 9 (.string ⟨r.toArray⟩) ∧ sepBox h wr ∧ MaxF wr ∧ J pre wr ∧ W.heap.size ≤ wr.heap.size) (fun _ _ wr => mS h wr)
  case atStart => exact ⟨[], s, rfl, Nat.le_refl _, B1.out, B2.out, HM.out, H0.out, Nat.le_refl _⟩
  case round =>
    obtain ⟨pre, r, hE, hrl, hb1, hb2, hMr, hJ, hws⟩ := hrel
    have E := Lib.hid hE
    have C1 := Lib.hid hb1
    have C2 := Lib.hid hb2
    have HJ := Lib.hid hJ
    have HMr := Lib.hid hMr
    clear hE hJ hMr B1 B2 HM H0
    have c0 := C1.out.cell
    have c1 := C2.out.1.cell
    have c2 := C2.out.2.cell
    have q0 := C1.out.lt
    have q1 := C2.out.1.lt
    have q2 := C2.out.2.lt
    clear hb1 hb2
    rcases index7 r with ⟨m1, i, hi, hil, ht, hd⟩ | ⟨m1, hi, ht⟩
    · have IX := Lib.hid (fun X hX => findex r [47] (i : Int) X (by omega) hX (Lib.hid hi))
      have r1 := wsub_run r i (hd7 r) ht (by omega)
      have r2 := from7_run r i (tl7 r) hd hil
      have HI := Lib.hid hi
      have E2 : Hid ((pre ++ [hd7 r]) ++ pc7 [] (tl7 r) = pc7 [] s) := Lib.hid (by rw [← E.out, pc7_cut r [], if_pos m1]; simp)
      have L2 := tl7_len r
      have L1 := hd7_len r
      have JM := HU.out pre (hd7 r) wr wr HJ.out ⟨rfl, by omega, ⟨_, E2.out⟩⟩
      rw [if_pos m1] at L2
      obtain ⟨fn, tmps, assign, body, hy, hR⟩ := HY.out pre (hd7 r) wr JM hws
      simp only [ptsV] at hy
      clear hi ht hd m1 JM
      gi_wp2_with (first
        | (refine ⟨trivial, ?_⟩; gi_at_call 118; refine (callsIn_wide.2 (IX.out _ HMr.out)).mono ?_; rintro e w1 ⟨rfl, rfl⟩; simp only []))
      refine hR.mono ?_
      rintro e W3 (⟨rfl, hJ3, hb3, hk3, h12⟩ | ⟨rfl, hJx3⟩)
      · have HJ3 := Lib.hid hJ3
        have D1 := Lib.hid (Box.same C1.out (h12 h (Nat.le_refl _) (by omega)))
        have D2 : Hid (sepBox h W3) := Lib.hid ⟨Box.same C2.out.1 (h12 (h + 1) (by omega) (by omega)), Box.same C2.out.2 (h12 (h + 2) (by omega) (by omega))⟩
        have M3 := Lib.hid (MaxF.keep HMr.out hb3 hn0)
        have S3 := hk3.size
        clear hJ3 hb3 hk3 h12 c0 c1 c2 q0 q1 q2
        have c0 := D1.out.cell
        have f0 := D1.out.frozen
        have c1 := D2.out.1.cell
        have q0 := D1.out.lt
        have q1 := D2.out.1.lt
        gi_wp2
        go_roundw
        case rel =>
          have bs : But h W3 (W3.setCell ⟨h, 0, none⟩ (.string ⟨(tl7 r).toArray⟩)) := But.set h W3 _
          exact ⟨pre ++ [hd7 r], tl7 r, E2.out, by omega, D1.out.set _, ⟨D2.out.1.other (by omega) _, D2.out.2.other (by omega) _⟩, MaxF.keep M3.out (bs.below hh (by omega)) hn0, MJ.out _ _ _ HJ3.out bs, Nat.le_trans (Nat.le_trans hws S3) bs.size⟩
        case measure =>
          rw [mS_is (D1.out.set _), mS_is C1.out]
          omega
      · gi_wp2
        exact bodyPost_ret (results_none rfl _ _ _) rfl ⟨⟨_, rfl⟩, .inr ⟨_, ⟨_, E2.out⟩, hJx3⟩⟩
    · have IX := Lib.hid (fun X hX => findex r [47] (-1) X (by omega) hX (Lib.hid hi))
      have E2 : Hid (pre ++ [r] = pc7 [] s) := Lib.hid (by rw [← E.out, pc7_cut r [], m1, ht]; simp)
      have JM := HU.out pre r wr wr HJ.out ⟨rfl, by omega, ⟨[], by rw [E2.out]; simp⟩⟩
      obtain ⟨fn, tmps, assign, body, hy, hR⟩ := HY.out pre r wr JM hws
      simp only [ptsV] at hy
      clear hi ht m1 JM
      gi_wp2_with (first
        | (refine ⟨trivial, ?_⟩; gi_at_call 118; refine (callsIn_wide.2 (IX.out _ HMr.out)).mono ?_; rintro e w1 ⟨rfl, rfl⟩; simp only []))
      refine hR.mono ?_
      rintro e W3 (⟨rfl, hJ3, _⟩ | ⟨rfl, hJx3⟩)
      · gi_wp2
        go_end0
        exact ⟨⟨_, rfl⟩, .inl ⟨_, E2.out, hJ3⟩⟩
      · gi_wp2
        go_end0
        exact ⟨⟨_, rfl⟩, .inr ⟨_, ⟨[], by rw [E2.out]; simp⟩, hJx3⟩⟩

theorem splitSeq_any (s : List UInt8) (w : World) :
    Calls Tryz.prog 35 #[.string ⟨s.toArray⟩, .string ⟨#[47]⟩] w fun e w' => e = .returned (.func (.func 116) #[] #[.pointer (some ⟨w.heap.size + 1, 0, none⟩), .pointer (some ⟨w.heap.size, 0, none⟩), .pointer (some ⟨w.heap.size + 2, 0, none⟩)]) ∧
      Go.Boxed w' w.heap.size 9 (.string ⟨s.toArray⟩) ∧ sepBox w.heap.size w' ∧ Below w.heap.size w w' := by
  have hmf : ∀ (fn : Fn) (first cap : Array Value) (w : World), (Instr.makeFunc fn first cap).run Tryz.prog w = .ok (.func fn first cap) w := fun _ _ _ _ => rfl
  have key : Calls Tryz.prog 81 #[.string ⟨s.toArray⟩, .string ⟨#[47]⟩, .int .i64 0] w fun e w' => e = .returned (.func (.func 116) #[] #[.pointer (some ⟨w.heap.size + 1, 0, none⟩), .pointer (some ⟨w.heap.size, 0, none⟩), .pointer (some ⟨w.heap.size + 2, 0, none⟩)]) ∧
      Go.Boxed w' w.heap.size 9 (.string ⟨s.toArray⟩) ∧ sepBox w.heap.size w' ∧ Below w.heap.size w w' := by
    go_enter Tryz.func81, Tryz.ntmps81
    go_wp2
    go_ret
    have a := Go.Boxed.new w 9 (.string ⟨s.toArray⟩)
    have b := Go.Boxed.new (w.alloc (.cells #[.string ⟨s.toArray⟩] 9)) 9 (.string ⟨#[47]⟩)
    have c := Go.Boxed.new ((w.alloc (.cells #[.string ⟨s.toArray⟩] 9)).alloc (.cells #[.string ⟨#[47]⟩] 9)) 3 (.int .i64 0)
    rw [World.size_alloc] at b c
    rw [World.size_alloc] at c
    exact ⟨rfl, (a.alloc _).alloc _, ⟨b.alloc _, c⟩, (((Below.refl _ w).alloc (Nat.le_refl _) _).alloc (by simp) _).alloc (by simp; omega) _⟩
  go_enter Tryz.func35, Tryz.ntmps35
  go_wp2_with (go_at_call 81; refine key.mono ?_; rintro e w' ⟨rfl, h1, h2, h3⟩; simp only [])
  go_ret
  exact ⟨rfl, h1, h2, h3⟩

theorem cell_put {W : World} {D b off : Nat} {o : Obj} (h : b ≠ D) : (W.putObj D o).cell? ⟨b, off, none⟩ = W.cell? ⟨b, off, none⟩ := by
  simp only [World.cell?]
  rw [show (W.putObj D o).heap[b]? = W.heap[b]? from World.putObj_heap_other (by omega)]
theorem below_put {w W : World} {D : Nat} (h : Below w.heap.size w W) (o : Obj) (hD : w.heap.size ≤ D) : Below w.heap.size w (W.putObj D o) :=
  h.grown (grownBy_putObj' W D o) h.size (fun j e => by cases e; exact hD)
theorem good_pre {pre l : List (List UInt8)} (h : pre <+: l) (hb : pre.all goodP = false) : l.all goodP = false := by
  obtain ⟨q, rfl⟩ := h
  rw [List.all_append, hb]; rfl

set_option maxHeartbeats 2000000 in
theorem name_in (s : List UInt8) (w : World) (hs : s.length ≤ 1000) (hM : MaxF w) (n : Nat) (hn : n = 5) (v : Int) (HV : Hid ((nmR true s = true → v = 0) ∧ (nmR true s = false → v = 23))) (HT : Hid (txOk lnN 1 64 s = true)) :
    CallsIn Fence.wide n Tryz.prog 12 #[.string ⟨s.toArray⟩] w fun e w' => e = .returned (.int .i64 v) ∧ Below w.heap.size w w' := by
  have h1 : 1 ≤ n := by omega
  refine callsIn_of_wp_marks Tryz.func12 rfl trivial ?_ rfl
  simp only [Tryz.ntmps12, List.size_toArray, List.length_cons, List.length_nil, Nat.reduceAdd, Nat.reduceSub, Array.replicate_succ, Array.replicate_zero, List.push_toArray, List.append_toArray, List.nil_append, List.cons_append]
  have R0 := Lib.hid (Go.Boxed.new w 24 (.int .i64 0))
  have hMl : 7 < w.heap.size := by obtain ⟨m, h⟩ := hM; exact wcell_lt h
  have B0 : Hid (Below w.heap.size w (w.alloc (.cells #[.int .i64 0] 24))) := Lib.hid ((Below.refl _ w).alloc (Nat.le_refl _) _)
  gi_wp2_with (first
    | (refine ⟨trivial, ?_⟩; gi_at_call 33; refine (callsIn_wide.2 (textN_is s 1 64 true _ hs (by omega) (by omega) HT)).mono ?_; rintro e w1 ⟨rfl, k1⟩; simp only [])
    | (refine ⟨trivial, ?_⟩; gi_at_call 35; refine (callsIn_wide.2 (splitSeq_any s _)).mono ?_; rintro e w2 ⟨rfl, b1, b2, k2⟩; simp only []))
  have K1 := Lib.hid (B0.out.trans (k1.mono (by simp)))
  have K2 := Lib.hid (K1.out.trans (k2.mono K1.out.size))
  have s1 : w.heap.size + 1 ≤ w1.heap.size := by have := k1.size; simp at this; exact this
  have s2 := b2.2.lt
  have R2 : Hid (Go.Boxed w2 w.heap.size 24 (.int .i64 0)) := Lib.hid (Box.same (Box.same R0.out (k1.block _ (by simp))) (k2.block _ (by omega)))
  have M2 := Lib.hid (hM.next K2.out)
  have BB := Lib.hid (And.intro b1 b2)
  clear b1 b2 k1 k2 R0 B0 K1
  refine range_act h1 (gf := 116) (fs := #[]) (lb := #[.pointer (some ⟨w1.heap.size + 1, 0, none⟩), .pointer (some ⟨w1.heap.size, 0, none⟩), .pointer (some ⟨w1.heap.size + 2, 0, none⟩)]) rfl (enters_of Tryz.func116 (by kernel_rfl) rfl)
    (split_act (n - 1) (by omega) w1.heap.size w.heap.size s hs w2 BB.out.1 BB.out.2 M2.out hMl (by omega)) (by omega) (fun _ => rfl)
    (fun X Y k => k.keptO (by omega)) (fun _ _ X Y k => by rw [k.1]; exact KeptO.refl _ _)
    (fun pre W => pre.all goodP = true ∧ Go.Boxed W w.heap.size 24 (.int .i64 0) ∧ Below w.heap.size w W)
    (fun pre x W => x.length ≤ 1000 ∧ pre.all goodP = true ∧ Go.Boxed W w.heap.size 24 (.int .i64 0) ∧ Below w.heap.size w W)
    (fun c pre W => c = .ret ∧ pre.all goodP = false ∧ Go.Boxed W w.heap.size 24 (.int .i64 23) ∧ Below w.heap.size w W)
    (fun pre X Y h k => ⟨h.1, Box.same h.2.1 (k.block _ (by omega)), h.2.2.trans (k.mono (by omega))⟩)
    (fun x pre X Y h k => ⟨h.1, h.2.1, Box.same h.2.2.1 (k.block _ (by omega)), h.2.2.2.trans (k.mono (by omega))⟩)
    (fun c pre X Y h k => ⟨h.1, h.2.1, Box.same h.2.2.1 (k.block _ (by omega)), h.2.2.2.trans (k.mono (by omega))⟩)
    (fun pre X Y h k => ⟨h.1, h.2.1.kept k (by simp; omega), h.2.2.trans (k.below (by omega) h.2.2.size)⟩)
    (fun pre x X Y h k => ⟨h.1, h.2.1, h.2.2.1.kept k (by simp; omega), h.2.2.2.trans (k.below (by omega) h.2.2.2.size)⟩)
    (fun c pre X Y h k => ⟨h.1, h.2.1, h.2.2.1.kept k (by simp; omega), h.2.2.2.trans (k.below (by omega) h.2.2.2.size)⟩)
    (fun _ _ _ => trivial) (fun pre x X Y h k => ⟨k.2.1, k.1 ▸ h⟩)
    ⟨rfl, R2.out, K2.out⟩
    (fun x => { tmps := #[.string ⟨s.toArray⟩, undef, .pointer (some ⟨w.heap.size, 0, none⟩), .string ⟨x.toArray⟩, .string ⟨s.toArray⟩, .bool true, .bool false, .string ⟨s.toArray⟩, .func (.func 116) #[] #[.pointer (some ⟨w1.heap.size + 1, 0, none⟩), .pointer (some ⟨w1.heap.size, 0, none⟩), .pointer (some ⟨w1.heap.size + 2, 0, none⟩)], .string ⟨x.toArray⟩, undef, undef, undef, undef, undef, undef, undef], defers := [] }) ?assign ?body ?done ?stop
  case assign =>
    intro l x W K hK
    simp only [ptsV]
    gi_wp2
    exact hK
  case body =>
    rintro l pre x W ⟨hxl, hok, hT, hB⟩ hsz
    have HT := Lib.hid hT
    have HB := Lib.hid hB
    have HO := Lib.hid hok
    have hn1 : 1 ≤ n - 1 - 1 := by omega
    clear hT hB hok
    cases x with
    | nil =>
      have c0 := HT.out.cell
      have f0 := HT.out.frozen
      have q0 := HT.out.lt
      gi_wp2
      refine ⟨(KeptO.refl _ _).setCell (.inl (by omega)) _ _, rfl, ?_, HT.out.set _, HB.out.setCell (p := ⟨w.heap.size, 0, none⟩) (Nat.le_refl _) _⟩
      rw [List.all_append, HO.out]; rfl
    | cons c r =>
      have i0 : ∀ X : World, (Instr.index 9 (.string ⟨(c :: r).toArray⟩) (.int .i64 0)).run Tryz.prog X = .ok (.int .u8 (c.toNat : Int)) X := wbyte_at (c :: r) 0 (by simp) c rfl
      by_cases hc : c = 45
      · subst hc
        have c0 := HT.out.cell
        have f0 := HT.out.frozen
        have q0 := HT.out.lt
        gi_wp2
        refine ⟨(KeptO.refl _ _).setCell (.inl (by omega)) _ _, rfl, ?_, HT.out.set _, HB.out.setCell (p := ⟨w.heap.size, 0, none⟩) (Nat.le_refl _) _⟩
        rw [List.all_append, HO.out]; rfl
      · have hn45 : ((c.toNat : Int) == 45) = false := by
          have : c.toNat ≠ 45 := fun e => hc (UInt8.toNat_inj.1 e)
          simp; omega
        have GP : Hid ((pre ++ [c :: r]).all goodP = true) := Lib.hid (by rw [List.all_append, HO.out]; simp [goodP, hc])
        clear hc
        gi_wp2
        exact ⟨KeptO.refl _ _, Below.refl _ _, fun _ _ _ => rfl, GP.out, HT.out, HB.out⟩
  case done =>
    rintro D xs W hD hS ⟨hok, hT, hB⟩ hK
    have HE : Hid (v = 0) := Lib.hid (HV.out.1 (by rw [← pc7_nm, ← hS]; exact hok))
    have HT := Lib.hid hT
    have HB := Lib.hid hB
    have c0 := hT.cell
    have f0 := hT.frozen
    have q0 := hT.lt
    have HK := Lib.hid hK
    clear hok hT hB hS hK
    gi_wp2
    have c1 : ((W.setCell ⟨w.heap.size, 0, none⟩ (.int .i64 0)).putObj D (.deferred none)).cell? ⟨w.heap.size, 0, none⟩ = some (.int .i64 0) := (cell_put (by omega)).trans (HT.out.set _).cell
    refine ⟨by simp, .inl ⟨_, _, rfl, run_takeDeferred (by rw [Below.heap_setCell _ _ _ _ (by show D ≠ w.heap.size; omega)]; exact HK.out), ?_⟩⟩
    refine ⟨_, by simp [results, Tryz.results12, go_sem, c1]; rfl, ?_⟩
    rw [HE.out]
    exact ⟨rfl, below_put (HB.out.setCell (p := ⟨w.heap.size, 0, none⟩) (Nat.le_refl _) _) _ (by omega)⟩
  case stop =>
    rintro D c pre W hD hSp ⟨rfl, hok, hT, hB⟩ hK
    have HE : Hid (v = 23) := Lib.hid (HV.out.2 (by rw [← pc7_nm]; exact good_pre hSp hok))
    have HT := Lib.hid hT
    have HB := Lib.hid hB
    have HK := Lib.hid hK
    clear hok hB hSp hT hK
    gi_wp2
    have c1 : (W.putObj D (.deferred none)).cell? ⟨w.heap.size, 0, none⟩ = some (.int .i64 23) := (cell_put (by omega)).trans HT.out.cell
    refine ⟨by simp, .inl ⟨_, _, rfl, run_takeDeferred HK.out, ?_⟩⟩
    refine ⟨_, by simp [results, Tryz.results12, go_sem, c1]; rfl, ?_⟩
    rw [HE.out]
    exact ⟨rfl, below_put HB.out _ (by omega)⟩

theorem nm_val {s : List UInt8} (h : txOk lnN 1 64 s = true) : nmOk s = nmR true s := by unfold nmOk; rw [h]; rfl
def nmV (s : List UInt8) : Int := if nmOk s then 0 else 23
theorem lname_is (s : List UInt8) (v : Int) (w : World) (hs : s.length ≤ 1000) (hM : MaxF w) (HV : Hid (nmV s = v)) :
    Calls Tryz.prog 12 #[.string ⟨s.toArray⟩] w fun e w' => e = .returned (.int .i64 v) ∧ Below w.heap.size w w' := by
  have hv := HV.out
  unfold nmV at hv
  cases ht : txOk lnN 1 64 s with
  | true =>
    rw [nm_val ht] at hv
    exact callsIn_wide.1 (name_in s w hs hM 5 rfl v (Lib.hid ⟨fun h => by rw [h] at hv; exact hv.symm, fun h => by rw [h] at hv; exact hv.symm⟩) (Lib.hid ht))
  | false =>
    have e : Hid (v = 23) := Lib.hid (by rw [← hv, show nmOk s = false by unfold nmOk; rw [ht]; rfl]; rfl)
    have R0 := Lib.hid (Go.Boxed.new w 24 (.int .i64 0))
    have B0 : Hid (Below w.heap.size w (w.alloc (.cells #[.int .i64 0] 24))) := Lib.hid ((Below.refl _ w).alloc (Nat.le_refl _) _)
    have HT := Lib.hid ht
    clear hv ht
    go_enter Tryz.func12, Tryz.ntmps12
    go_wp2_with (go_at_call 33; refine (textN_is s 1 64 false _ hs (by omega) (by omega) HT).mono ?_; rintro e w1 ⟨rfl, k1⟩
                 have R1 := Lib.hid (Box.same R0.out (k1.block _ (by simp)))
                 have B1 := Lib.hid (B0.out.trans (k1.mono (by simp)))
                 have c0 := R1.out.cell
                 have f0 := R1.out.frozen
                 have q0 := R1.out.lt
                 clear k1
                 simp only [])
    have c1 := (R1.out.set (.int .i64 23)).cell
    refine bodyPost_ret (v := .int .i64 23) (by simp [results, Tryz.results12, go_sem, c1]) rfl ?_
    rw [e.out]
    exact ⟨rfl, B1.out.setCell (p := ⟨w.heap.size, 0, none⟩) (Nat.le_refl _) _⟩

theorem first_byte (c : UInt8) (r : List UInt8) (X : World) : (Instr.index 9 (.string ⟨(c :: r).toArray⟩) (.int .i64 0)).run Tryz.prog X = .ok (.int .u8 (c.toNat : Int)) X := wbyte_at (c :: r) 0 (by simp) c rfl X
def stV (s : List UInt8) : Int := if stOk s then 0 else 23
theorem lset_is (s : List UInt8) (v : Int) (w : World) (hs : s.length ≤ 1000) (HV : Hid (stV s = v)) :
    Calls Tryz.prog 14 #[.string ⟨s.toArray⟩] w fun e w' => e = .returned (.int .i64 v) ∧ Below w.heap.size w w' := by
  have hv := HV.out
  unfold stV stOk at hv
  cases ht : txOk lnS 1 64 s with
  | false =>
    have e : Hid (v = 23) := Lib.hid (by rw [← hv, ht]; rfl)
    have HT := Lib.hid ht
    clear hv ht
    go_enter Tryz.func14, Tryz.ntmps14
    go_wp2_with (go_at_call 33; refine (textS_is s 1 64 false _ hs (by omega) (by omega) HT).mono ?_; rintro e w1 ⟨rfl, k1⟩; simp only [])
    go_ret
    rw [e.out]
    exact ⟨rfl, k1⟩
  | true =>
    have HT := Lib.hid ht
    rw [ht, Bool.true_and] at hv
    cases s with
    | nil => simp [txOk] at ht
    | cons c r =>
      have i0 := first_byte c r
      clear ht
      cases hl : lnL c with
      | true =>
        have HL := Lib.hid hl
        have e : Hid (v = 0) := Lib.hid (by rw [← hv]; simp [hdS, hl])
        clear hv hl
        go_enter Tryz.func14, Tryz.ntmps14
        go_wp2_with (first
          | (go_at_call 33; refine (textS_is (c :: r) 1 64 true _ hs (by omega) (by omega) HT).mono ?_; rintro e w1 ⟨rfl, k1⟩; simp only [])
          | (go_at_call 38; refine (isLet_is c true _ HL).mono ?_; rintro e w2 ⟨rfl, k2⟩; simp only []))
        go_ret
        rw [e.out]
        exact ⟨rfl, k1.trans (k2.mono k1.size)⟩
      | false =>
        have HL := Lib.hid hl
        cases h95 : ((c.toNat : Int) == 95) with
        | true =>
          have e : Hid (v = 0) := Lib.hid (by rw [← hv]; simp [hdS]; simp at h95; omega)
          clear hv hl
          go_enter Tryz.func14, Tryz.ntmps14
          go_wp2_with (first
            | (go_at_call 33; refine (textS_is (c :: r) 1 64 true _ hs (by omega) (by omega) HT).mono ?_; rintro e w1 ⟨rfl, k1⟩; simp only [])
            | (go_at_call 38; refine (isLet_is c false _ HL).mono ?_; rintro e w2 ⟨rfl, k2⟩; simp only []))
          go_ret
          rw [e.out]
          exact ⟨rfl, k1.trans (k2.mono k1.size)⟩
        | false =>
          have e : Hid (v = 23) := Lib.hid (by rw [← hv]; simp [hdS, hl]; simp at h95; omega)
          clear hv hl
          go_enter Tryz.func14, Tryz.ntmps14
          go_wp2_with (first
            | (go_at_call 33; refine (textS_is (c :: r) 1 64 true _ hs (by omega) (by omega) HT).mono ?_; rintro e w1 ⟨rfl, k1⟩; simp only [])
            | (go_at_call 38; refine (isLet_is c false _ HL).mono ?_; rintro e w2 ⟨rfl, k2⟩; simp only []))
          go_ret
          rw [e.out]
          exact ⟨rfl, k1.trans (k2.mono k1.size)⟩
end Go.Proofs.YtfmehdophoejiaaGreatDoor

namespace Go.Proofs.YtfmehdophoejiaaGreatDoor
open Go Go.RowKit Go.Shelf

theorem shown_is (s : List UInt8) (v : Bool) (w : World) (hs : s.length ≤ 1000) (hv : Hid (shOk s = v)) :
    Calls Tryz.prog 43 #[.string ⟨s.toArray⟩] w fun e w' => e = .returned (.bool v) ∧ Below w.heap.size w w' := by
  have HV : Hid (txOk lnP 3 8 s = v) := Lib.hid hv.out
  go_enter Tryz.func43, Tryz.ntmps43
  go_wp2_with (go_at_call 33; refine (textP_is s 3 8 v _ hs (by omega) (by omega) HV).mono ?_; rintro e w1 ⟨rfl, k1⟩; simp only [])
  go_ret
  exact ⟨rfl, k1⟩

theorem fcut_is (s b a r : List UInt8) (m : Bool) (w : World) (hs : s.length ≤ 1000) (hM : MaxF w) (h : Hid (Lib.cut s b = (a, r, m))) :
    Calls Tryz.prog 41 #[.string ⟨s.toArray⟩, .string ⟨b.toArray⟩] w fun e w' => e = .returned (.tuple #[.string ⟨a.toArray⟩, .string ⟨r.toArray⟩, .bool m]) ∧ Below w.heap.size w w' := by
  obtain ⟨x, hx⟩ := hM
  have := Tryz.strings_Cut ⟨s.toArray⟩ ⟨b.toArray⟩ x w (by rw [wsize]; omega) hx
  rw [show (⟨s.toArray⟩ : ByteArray).data.toList = s from rfl, show (⟨b.toArray⟩ : ByteArray).data.toList = b from rfl, h.out] at this
  exact this.mono fun e w' ⟨h1, n, h2⟩ => ⟨h1, by rw [h2]; exact ⟨rfl, rfl, rfl, Nat.le_refl _, fun _ _ => rfl⟩⟩

theorem cut_short (s b : List UInt8) : (Lib.cut s b).1.length ≤ s.length ∧ (Lib.cut s b).2.1.length ≤ s.length := by
  unfold Lib.cut
  split <;> simp
  omega

def fmV (s : List UInt8) : Int := if fmOk s then 0 else 12
set_option maxHeartbeats 1600000 in
theorem lformat_is (s : List UInt8) (v : Int) (w : World) (hs : s.length ≤ 500) (hM : MaxF w) (HV : Hid (fmV s = v)) :
    Calls Tryz.prog 16 #[.string ⟨s.toArray⟩] w fun e w' => e = .returned (.int .i64 v) ∧ Below w.heap.size w w' := by
  have hv := HV.out
  have HM := Lib.hid hM
  obtain ⟨a, r, m, hc⟩ : ∃ a r m, Lib.cut s [37, 115] = (a, r, m) := ⟨_, _, _, rfl⟩
  obtain ⟨a2, r2, m2, hc2⟩ : ∃ a r m, Lib.cut s [47] = (a, r, m) := ⟨_, _, _, rfl⟩
  have l1 := cut_short s [37, 115]
  have l2 := cut_short s [47]
  rw [hc] at l1
  rw [hc2] at l2
  unfold fmV fmOk at hv
  rw [hc, hc2] at hv
  simp only [] at hv l1 l2
  have C1 := Lib.hid hc
  have C2 := Lib.hid hc2
  clear hc hc2 hM HV
  by_cases hz : s = [37, 122]
  · subst hz
    have e : Hid (v = 0) := Lib.hid (by rw [← hv]; rfl)
    clear hv
    go_enter Tryz.func16, Tryz.ntmps16
    go_wp2_with (first
      | (go_at_call 41; refine (fcut_is _ _ a r m _ (by omega) HM.out C1).mono ?_; rintro e w1 ⟨rfl, k1⟩; have M1 := Lib.hid (HM.out.next k1); clear C1; simp only [])
      | (go_at_call 41; refine (fcut_is _ _ a2 r2 m2 _ (by omega) M1.out C2).mono ?_; rintro e w2 ⟨rfl, k2⟩; simp only []))
    go_ret
    rw [e.out]
    exact ⟨rfl, k1.trans (k2.mono k1.size)⟩
  · rw [if_neg hz] at hv
    have hz' : (s == [37, 122]) = false := by simp [hz]
    cases m with
    | true =>
      simp only [if_true] at hv
      obtain ⟨b, hb⟩ : ∃ b, txOk lnP 1 6 (a ++ r) = b := ⟨_, rfl⟩
      rw [hb] at hv
      have HB := Lib.hid hb
      have HV := Lib.hid hv
      have ad := wadd_lists a r (by omega) (by omega)
      have al : (a ++ r).length ≤ 1000 := by rw [List.length_append]; omega
      clear hb hv hz
      cases b with
      | true =>
        have e : Hid (v = 0) := Lib.hid HV.out.symm
        go_enter Tryz.func16, Tryz.ntmps16
        go_wp2_with (first
          | (go_at_call 41; refine (fcut_is _ _ a r true _ (by omega) HM.out C1).mono ?_; rintro e w1 ⟨rfl, k1⟩; have M1 := Lib.hid (HM.out.next k1); clear C1; simp only [])
          | (go_at_call 41; refine (fcut_is _ _ a2 r2 m2 _ (by omega) M1.out C2).mono ?_; rintro e w2 ⟨rfl, k2⟩; simp only [])
          | (go_at_call 33; refine (textP_is (a ++ r) 1 6 true _ al (by omega) (by omega) HB).mono ?_; rintro e w3 ⟨rfl, k3⟩; simp only []))
        go_ret
        rw [e.out]
        exact ⟨rfl, (k1.trans (k2.mono k1.size)).trans (k3.mono (Nat.le_trans k1.size k2.size))⟩
      | false =>
        have e : Hid (v = 12) := Lib.hid HV.out.symm
        go_enter Tryz.func16, Tryz.ntmps16
        go_wp2_with (first
          | (go_at_call 41; refine (fcut_is _ _ a r true _ (by omega) HM.out C1).mono ?_; rintro e w1 ⟨rfl, k1⟩; have M1 := Lib.hid (HM.out.next k1); clear C1; simp only [])
          | (go_at_call 41; refine (fcut_is _ _ a2 r2 m2 _ (by omega) M1.out C2).mono ?_; rintro e w2 ⟨rfl, k2⟩; simp only [])
          | (go_at_call 33; refine (textP_is (a ++ r) 1 6 false _ al (by omega) (by omega) HB).mono ?_; rintro e w3 ⟨rfl, k3⟩; simp only []))
        go_ret
        rw [e.out]
        exact ⟨rfl, (k1.trans (k2.mono k1.size)).trans (k3.mono (Nat.le_trans k1.size k2.size))⟩
    | false =>
      simp only [Bool.false_eq_true, if_false] at hv
      cases m2 with
      | true =>
        simp only [if_true] at hv
        cases hb : shOk a2 with
        | false =>
          have HB := Lib.hid hb
          have e : Hid (v = 12) := Lib.hid (by rw [← hv, hb]; rfl)
          clear hv hb hz
          go_enter Tryz.func16, Tryz.ntmps16
          go_wp2_with (first
            | (go_at_call 41; refine (fcut_is _ _ a r false _ (by omega) HM.out C1).mono ?_; rintro e w1 ⟨rfl, k1⟩; have M1 := Lib.hid (HM.out.next k1); clear C1; simp only [])
            | (go_at_call 41; refine (fcut_is _ _ a2 r2 true _ (by omega) M1.out C2).mono ?_; rintro e w2 ⟨rfl, k2⟩; simp only [])
            | (go_at_call 43; refine (shown_is a2 false _ (by omega) HB).mono ?_; rintro e w3 ⟨rfl, k3⟩; simp only []))
          go_ret
          rw [e.out]
          exact ⟨rfl, (k1.trans (k2.mono k1.size)).trans (k3.mono (Nat.le_trans k1.size k2.size))⟩
        | true =>
          have HB := Lib.hid hb
          cases hc : shOk r2 with
          | false =>
            have HC := Lib.hid hc
            have e : Hid (v = 12) := Lib.hid (by rw [← hv, hb, hc]; rfl)
            clear hv hb hc hz
            go_enter Tryz.func16, Tryz.ntmps16
            go_wp2_with (first
              | (go_at_call 41; refine (fcut_is _ _ a r false _ (by omega) HM.out C1).mono ?_; rintro e w1 ⟨rfl, k1⟩; have M1 := Lib.hid (HM.out.next k1); clear C1; simp only [])
              | (go_at_call 41; refine (fcut_is _ _ a2 r2 true _ (by omega) M1.out C2).mono ?_; rintro e w2 ⟨rfl, k2⟩; simp only [])
              | (go_at_call 43; refine (shown_is a2 true _ (by omega) HB).mono ?_; rintro e w3 ⟨rfl, k3⟩; clear HB; simp only [])
              | (go_at_call 43; refine (shown_is r2 false _ (by omega) HC).mono ?_; rintro e w4 ⟨rfl, k4⟩; simp only []))
            go_ret
            rw [e.out]
            exact ⟨rfl, ((k1.trans (k2.mono k1.size)).trans (k3.mono (Nat.le_trans k1.size k2.size))).trans (k4.mono (Nat.le_trans (Nat.le_trans k1.size k2.size) k3.size))⟩
          | true =>
            have HC := Lib.hid hc
            have e : Hid (v = 0) := Lib.hid (by rw [← hv, hb, hc]; rfl)
            clear hv hb hc hz
            go_enter Tryz.func16, Tryz.ntmps16
            go_wp2_with (first
              | (go_at_call 41; refine (fcut_is _ _ a r false _ (by omega) HM.out C1).mono ?_; rintro e w1 ⟨rfl, k1⟩; have M1 := Lib.hid (HM.out.next k1); clear C1; simp only [])
              | (go_at_call 41; refine (fcut_is _ _ a2 r2 true _ (by omega) M1.out C2).mono ?_; rintro e w2 ⟨rfl, k2⟩; simp only [])
              | (go_at_call 43; refine (shown_is a2 true _ (by omega) HB).mono ?_; rintro e w3 ⟨rfl, k3⟩; clear HB; simp only [])
              | (go_at_call 43; refine (shown_is r2 true _ (by omega) HC).mono ?_; rintro e w4 ⟨rfl, k4⟩; simp only []))
            go_ret
            rw [e.out]
            exact ⟨rfl, ((k1.trans (k2.mono k1.size)).trans (k3.mono (Nat.le_trans k1.size k2.size))).trans (k4.mono (Nat.le_trans (Nat.le_trans k1.size k2.size) k3.size))⟩
      | false =>
        simp only [Bool.false_eq_true, if_false] at hv
        cases hb : shOk s with
        | false =>
          have HB := Lib.hid hb
          have e : Hid (v = 12) := Lib.hid (by rw [← hv, hb]; rfl)
          clear hv hb hz
          go_enter Tryz.func16, Tryz.ntmps16
          go_wp2_with (first
            | (go_at_call 41; refine (fcut_is _ _ a r false _ (by omega) HM.out C1).mono ?_; rintro e w1 ⟨rfl, k1⟩; have M1 := Lib.hid (HM.out.next k1); clear C1; simp only [])
            | (go_at_call 41; refine (fcut_is _ _ a2 r2 false _ (by omega) M1.out C2).mono ?_; rintro e w2 ⟨rfl, k2⟩; simp only [])
            | (go_at_call 43; refine (shown_is s false _ (by omega) HB).mono ?_; rintro e w3 ⟨rfl, k3⟩; simp only []))
          go_ret
          rw [e.out]
          exact ⟨rfl, (k1.trans (k2.mono k1.size)).trans (k3.mono (Nat.le_trans k1.size k2.size))⟩
        | true =>
          have HB := Lib.hid hb
          have e : Hid (v = 0) := Lib.hid (by rw [← hv, hb]; rfl)
          clear hv hb hz
          go_enter Tryz.func16, Tryz.ntmps16
          go_wp2_with (first
            | (go_at_call 41; refine (fcut_is _ _ a r false _ (by omega) HM.out C1).mono ?_; rintro e w1 ⟨rfl, k1⟩; have M1 := Lib.hid (HM.out.next k1); clear C1; simp only [])
            | (go_at_call 41; refine (fcut_is _ _ a2 r2 false _ (by omega) M1.out C2).mono ?_; rintro e w2 ⟨rfl, k2⟩; simp only [])
            | (go_at_call 43; refine (shown_is s true _ (by omega) HB).mono ?_; rintro e w3 ⟨rfl, k3⟩; simp only []))
          go_ret
          rw [e.out]
          exact ⟨rfl, (k1.trans (k2.mono k1.size)).trans (k3.mono (Nat.le_trans k1.size k2.size))⟩
end Go.Proofs.YtfmehdophoejiaaGreatDoor

namespace Go.Proofs.YtfmehdophoejiaaGreatDoor
open Go

/-- The first error, or none. -/
def first : List Int → Int
  | [] => 0
  | e :: r => if e = 0 then first r else e
theorem first_take {es : List Int} (h : first es = 0) : ∀ e ∈ es, e = 0 := by
  induction es with
  | nil => simp
  | cons e r ih =>
    unfold first at h
    split at h
    · rename_i he
      intro x hx
      rcases List.mem_cons.1 hx with rfl | hx
      · exact he
      · exact ih h x hx
    · rename_i he; exact absurd h he

def knE (k : Nat) (s : List UInt8) : Int := if findL (low s) kindsL = some k then 0 else 13
def stE (s : List UInt8) : Int := if stOk s then 0 else 23
def nmE (s : List UInt8) : Int := if nmOk s then 0 else 23
def fmE (s : List UInt8) : Int := if fmOk s then 0 else 12
def dsE (s : List UInt8) : Int := if s = [45] then 0 else 12
def yrV (s : List UInt8) : Int := match findL (low s) endsL with | some _ => 0 | none => yearV s 0
def yrE (s : List UInt8) : Int := match findL (low s) endsL with | some _ => 12 | none => yearE s
def toE (s : List UInt8) (f : Int) : Int := if yearE s = 0 then (if yearV s f < f then 17 else 0) else yearE s
def toV (s : List UInt8) (f : Int) : Int := if toE s f = 17 then 0 else yearV s f
def moV (s : List UInt8) : Int := resN (findL (low s) monthsL) 1
def moE (s : List UInt8) : Int := resE (findL (low s) monthsL)
def dyK (s : List UInt8) : Int := (parsF s).1
def dyW (s : List UInt8) : Int := (parsF s).2.1
def dyN (s : List UInt8) : Int := (parsF s).2.2.1
def dyE (s : List UInt8) : Int := (parsF s).2.2.2
def ofE (s : List UInt8) : Int := if spanE s = 0 then (if -90000 < spanN s ∧ spanN s < 90000 then 0 else 10) else spanE s
def ofV (s : List UInt8) : Int := if ofE s = 10 ∧ spanE s = 0 then 0 else spanN s
def ltOk (s : List UInt8) : Bool := decide (s = [45]) || txOk lnP 1 8 s
def ltE (s : List UInt8) : Int := if ltOk s then 0 else 23
def ltV (s : List UInt8) : List UInt8 := if s = [45] then [] else if txOk lnP 1 8 s then s else []
/-- Does the word of an era's rules tell what is saved? -/
def svB (s : List UInt8) : Bool := match s with | [] => false | c :: _ => decide (c = 45) || isDg c
def ruE (s : List UInt8) : Int := if svB s then ofE s else stE s
def ruR (s : List UInt8) : List UInt8 := if svB s then [] else s
def ruV (s : List UInt8) : Int := if svB s then ofV s else 0

structure RV where
  nm : List UInt8
  fr : Int
  tl : Int
  mo : Int
  dk : Int
  dw : Int
  dn : Int
  sc : Int
  ck : Int
  sv : Int
  lt : List UInt8
  deriving DecidableEq
structure EV where
  of : Int
  rl : List UInt8
  sv : Int
  fm : List UInt8
  en : Bool
  uy : Int
  um : Int
  dk : Int
  dw : Int
  dn : Int
  sc : Int
  ck : Int
  deriving DecidableEq
def r0 : RV := ⟨[], 0, 0, 0, 0, 0, 0, 0, 0, 0, []⟩
def e0V : EV := ⟨0, [], 0, [], false, 0, 0, 0, 0, 0, 0, 0⟩

def wd (ws : List (List UInt8)) (i : Nat) : List UInt8 := ws.getD i []
def rlE (ws : List (List UInt8)) : List Int := [knE 0 (wd ws 0), stE (wd ws 1), yrE (wd ws 2), toE (wd ws 3) (yrV (wd ws 2)), dsE (wd ws 4), moE (wd ws 5), dyE (wd ws 6), parE (wd ws 7), ofE (wd ws 8), ltE (wd ws 9)]
def rlV (ws : List (List UInt8)) : RV := ⟨wd ws 1, yrV (wd ws 2), toV (wd ws 3) (yrV (wd ws 2)), moV (wd ws 5), dyK (wd ws 6), dyW (wd ws 6), dyN (wd ws 6), parN (wd ws 7), parK (wd ws 7), ofV (wd ws 8), ltV (wd ws 9)⟩
def rlX (ws : List (List UInt8)) : Int := if ws.length = 10 then first (rlE ws) else 14
def rlS (ws : List (List UInt8)) : RV := if rlX ws = 0 then rlV ws else r0

def erE (ws : List (List UInt8)) : List Int := [ofE (wd ws 0), ruE (wd ws 1), fmE (wd ws 2), yrE (wd ws 3), moE (wd ws 4), dyE (wd ws 5), parE (wd ws 6)].take ws.length
def erV (ws : List (List UInt8)) : EV :=
  { of := ofV (wd ws 0), rl := ruR (wd ws 1), sv := ruV (wd ws 1), fm := wd ws 2, en := decide (3 < ws.length),
    uy := if 3 < ws.length then yrV (wd ws 3) else 0,
    um := if 4 < ws.length then moV (wd ws 4) else if 3 < ws.length then 1 else 0,
    dk := if 5 < ws.length then dyK (wd ws 5) else 0,
    dw := if 5 < ws.length then dyW (wd ws 5) else 0,
    dn := if 5 < ws.length then dyN (wd ws 5) else if 3 < ws.length then 1 else 0,
    sc := if 6 < ws.length then parN (wd ws 6) else 0,
    ck := if 6 < ws.length then parK (wd ws 6) else 0 }
def erX (ws : List (List UInt8)) : Int := if 3 ≤ ws.length ∧ ws.length ≤ 7 then first (erE ws) else 14
def erS (ws : List (List UInt8)) : EV := if erX ws = 0 then erV ws else e0V

def zhE (ws : List (List UInt8)) : Int := first [knE 1 (wd ws 0), nmE (wd ws 1)]
def znX (ws : List (List UInt8)) : Int := if 5 ≤ ws.length ∧ ws.length ≤ 9 then (if zhE ws = 0 then erX (ws.drop 2) else zhE ws) else 14
def znN (ws : List (List UInt8)) : List UInt8 := if znX ws = 0 then wd ws 1 else []
def znS (ws : List (List UInt8)) : EV := if znX ws = 0 then erS (ws.drop 2) else e0V
def lkX (ws : List (List UInt8)) : Int := if ws.length = 3 then first [knE 2 (wd ws 0), nmE (wd ws 1), nmE (wd ws 2)] else 14
def lkT (ws : List (List UInt8)) : List UInt8 := if lkX ws = 0 then wd ws 1 else []
def lkN (ws : List (List UInt8)) : List UInt8 := if lkX ws = 0 then wd ws 2 else []
end Go.Proofs.YtfmehdophoejiaaGreatDoor

namespace Go.Proofs.YtfmehdophoejiaaGreatDoor
open Go Go.RowKit Go.Shelf
attribute [local go_sem] Oper.semAt_some

def erV1 (x : Int) : Array Value := #[.int .i64 x]
/-- What a line's words, and their fields, are, where they lie. -/
structure LineAt (L off F : Nat) (ws : List (List UInt8)) (fs : List (Nat × Array Value)) (W : World) : Prop where
  word : ∀ i p, ws[i]? = some p → W.cell? ⟨L, off + i, none⟩ = some (.string ⟨p.toArray⟩)
  fld : ∀ i f, fs[i]? = some f → W.cell? ⟨F, i, none⟩ = some (.func (.func f.1) #[] f.2)
/-- How the field at place i reads its word, which tells x: from I i to I (i + 1), if it tells none. -/
def FieldIs (B n0 : Nat) (I : Nat → World → Prop) (i : Nat) (f : Nat × Array Value) (p : List UInt8) (x : Int) : Prop :=
  (∀ args w, (callFunc f.1 args).run Tryz.prog w = .ok (.enter f.1 args) w) ∧
  ∀ W, I i W → B ≤ W.heap.size → Calls Tryz.prog f.1 (#[.string ⟨p.toArray⟩] ++ f.2) W fun e w' => e = .returned (.int .i64 x) ∧ KeptO B W w' ∧ Below n0 W w' ∧ (x = 0 → I (i + 1) w')

def chkUp (B n0 : Nat) (I : Nat → World → Prop) (es : List Int) (pre : List Int) (x : Int) (X Y : World) : Prop :=
  es[pre.length]? = some x ∧ KeptO B X Y ∧ Below n0 X Y ∧ (x = 0 → I (pre.length + 1) Y)

set_option maxHeartbeats 2000000 in
theorem chk_act (n : Nat) (hn : 1 ≤ n) (B n0 L off F N M cw cf : Nat) (ws : List (List UInt8)) (fs : List (Nat × Array Value)) (es : List Int) (I : Nat → World → Prop) (w : World) (hBw : B ≤ w.heap.size)
    (hN : ws.length = N) (hM : fs.length = M) (hE : es.length = N) (hNM : N ≤ M) (hM2 : M ≤ 20)
    (hI : ∀ i W, I i W → LineAt L off F ws fs W)
    (hf : ∀ i p f x, ws[i]? = some p → fs[i]? = some f → es[i]? = some x → FieldIs B n0 I i f p x) :
    SeqAct n Tryz.prog 84 #[.agg #[.slice (some ⟨L, off, none⟩) N cw, .slice (some ⟨F, 0, none⟩) M cf]] #[] erV1 (fun X Y => X = Y) (fun pre X => pre.length ≤ N ∧ I pre.length X) (chkUp B n0 I es) n0 w.heap.size (fun xs => xs = es) (fun pre => pre <+: es) w := by
  intro l J Jm Jx W kW hWs uJ uM uX mJ mM mX hnd hup hY h0
  have HY := Lib.hid hY
  have H0 := Lib.hid h0
  have HU := Lib.hid hup
  have ND := Lib.hid hnd
  have UJ := Lib.hid uJ
  have HF := Lib.hid hf
  have HI := Lib.hid hI
  have LN := Lib.hid (And.intro hN (And.intro hM hE))
  clear hY h0 hup mJ mM mX uJ uM uX hnd hf hI hN hM hE
  refine callsIn_of_wp Tryz.func84 rfl trivial ?_ rfl
  simp only [Tryz.ntmps84, List.size_toArray, List.length_cons, List.length_nil, Nat.reduceAdd, Nat.reduceSub, Array.replicate_succ, Array.replicate_zero, List.push_toArray, List.append_toArray, List.nil_append, List.cons_append]
  gi_wp2
  obtain ⟨V, hV⟩ : ∃ V, W.alloc (.cells #[.slice (some ⟨L, off, none⟩) N cw, .slice (some ⟨F, 0, none⟩) M cf] 105) = V := ⟨_, rfl⟩
  have BX : Hid (V.heap[W.heap.size]? = some (.cells #[.slice (some ⟨L, off, none⟩) N cw, .slice (some ⟨F, 0, none⟩) M cf] 105 (0, 0))) := Lib.hid (by rw [← hV]; exact World.alloc_heap_new W _)
  have J0 : Hid (J [] V) := Lib.hid (UJ.out _ _ _ H0.out (by rw [← hV]; exact (Below.refl _ _).alloc (Nat.le_refl _) _))
  rw [hV]
  clear hV H0 UJ
  gi_loopw [4, 5, 9] (fun _ _ vi wr => ∃ i : Nat, vi = .int .i64 i ∧ i ≤ N ∧ J (es.take i) wr ∧ wr.heap[W.heap.size]? = some (.cells #[.slice (some ⟨L, off, none⟩) N cw, .slice (some ⟨F, 0, none⟩) M cf] 105 (0, 0))) (fun _ _ vi _ => N - (intOf vi).toNat)
  case atStart => exact ⟨0, rfl, Nat.zero_le _, J0.out, BX.out⟩
  case round =>
    obtain ⟨i, rfl, i1, hJ, hb⟩ := hrel
    have HJ := Lib.hid hJ
    have hbl := (Array.getElem?_eq_some_iff.1 hb).1
    have hB := hb
    clear hJ BX J0
    by_cases hi : i < N
    · have hii : (i : Int) < (N : Int) := by omega
      have tl : (es.take i).length = i := by rw [List.length_take, LN.out.2.2]; omega
      obtain ⟨p, hp⟩ : ∃ p, ws[i]? = some p := ⟨_, List.getElem?_eq_getElem (by rw [LN.out.1]; exact hi)⟩
      obtain ⟨f, hf⟩ : ∃ f, fs[i]? = some f := ⟨_, List.getElem?_eq_getElem (by rw [LN.out.2.1]; omega)⟩
      obtain ⟨x, hx⟩ : ∃ x, es[i]? = some x := ⟨_, List.getElem?_eq_getElem (by rw [LN.out.2.2]; exact hi)⟩
      obtain ⟨gf, lb⟩ := f
      have hIi : I i wr := by have := (ND.out _ _ HJ.out).2; rwa [tl] at this
      have c1 := (HI.out i wr hIi).word i p hp
      have c2 := (HI.out i wr hIi).fld i _ hf
      obtain ⟨eg, hcall⟩ := HF.out i p _ x hp hf hx
      have CL := Lib.hid (hcall wr hIi)
      have bc0 := cell_of_row wr W.heap.size 0 _ _ (0, 0) hb
      have bc1 := cell_of_row wr W.heap.size 1 _ _ (0, 0) hb
      have l1 := wcell_lt c1
      have l2 := wcell_lt c2
      have eg1 := eg (#[.string ⟨p.toArray⟩] ++ lb)
      have TL := Lib.hid tl
      have HX := Lib.hid hx
      clear hp hf hx hcall hIi hb eg tl
      simp only [] at c2 eg1
      gi_wp2
      refine ⟨trivial, (callsIn_wide.2 (CL.out (by omega))).mono ?_⟩
      rintro e w2 ⟨rfl, ko, kb, kz⟩
      have JM := HU.out (es.take i) x wr w2 HJ.out ⟨by rw [TL.out]; exact HX.out, ko, kb, by rw [TL.out]; exact kz⟩
      have hsz2 := ko.size
      obtain ⟨fn, tmps, assign, body, hy, hR⟩ := HY.out (es.take i) x w2 JM (by omega)
      have HB2 := Lib.hid ((ko.same W.heap.size (by omega) hbl).trans hB)
      have ET : Hid (es.take i ++ [x] = es.take (i + 1)) := Lib.hid (by
        have hl := (List.getElem?_eq_some_iff.1 HX.out)
        rw [List.take_add_one, HX.out]; rfl)
      simp only [erV1] at hy
      clear ko kb kz JM bc0 bc1 c1 c2 l1 l2 eg1 hB
      simp only []
      gi_wp2
      refine hR.mono ?_
      rintro e W3 (⟨rfl, hJ3, _, hk3, _⟩ | ⟨rfl, hJx3⟩)
      · have HJ3 := Lib.hid hJ3
        have HB3 := Lib.hid ((hk3.same W.heap.size (Nat.le_refl _) (by omega)).trans HB2.out)
        clear hJ3 hk3
        gi_wp2
        go_roundw
        case rel => exact ⟨i + 1, by go_num, by omega, by rw [← ET.out]; exact HJ3.out, HB3.out⟩
        case measure => simp [intOf]; omega
      · gi_wp2
        exact bodyPost_ret (results_none rfl _ _ _) rfl ⟨⟨_, rfl⟩, .inr ⟨_, by rw [ET.out]; exact List.take_prefix _ _, hJx3⟩⟩
    · obtain rfl : i = N := by omega
      have hii : ¬ ((i : Nat) : Int) < (i : Int) := by omega
      have ET : Hid (es.take i = es) := Lib.hid (by rw [List.take_of_length_le (by rw [LN.out.2.2]; exact Nat.le_refl _)])
      clear hB
      gi_wp2
      go_end0
      exact ⟨⟨_, rfl⟩, .inl (by have := HJ.out; rwa [ET.out] at this)⟩

theorem first_snoc {pre : List Int} {x : Int} (h : ∀ e ∈ pre, e = 0) : first (pre ++ [x]) = x := by
  induction pre with
  | nil =>
    show (if x = 0 then 0 else x) = x
    split <;> simp_all
  | cons e r ih =>
    have := h e (by simp)
    subst this
    show (if (0 : Int) = 0 then first (r ++ [x]) else 0) = x
    rw [if_pos rfl]
    exact ih fun e he => h e (by simp [he])
theorem first_pre {pre es : List Int} (h : pre <+: es) (hn : first pre ≠ 0) : first es = first pre := by
  obtain ⟨q, rfl⟩ := h
  induction pre with
  | nil => exact absurd rfl hn
  | cons e r ih =>
    unfold first at hn ⊢
    show (if e = 0 then first (r ++ q) else e) = if e = 0 then first r else e
    split
    · rename_i he
      rw [if_pos he] at hn
      exact ih hn
    · rfl
theorem first_zero {es : List Int} (h : ∀ e ∈ es, e = 0) : first es = 0 := by
  induction es with
  | nil => rfl
  | cons e r ih =>
    unfold first
    rw [if_pos (h e (by simp))]
    exact ih fun e he => h e (by simp [he])

theorem below_put2 {B D : Nat} (W : World) (o : Obj) (hD : B ≤ D) (hB : B ≤ W.heap.size) : Below B W (W.putObj D o) :=
  (Below.refl B W).grown (grownBy_putObj' W D o) hB (fun j e => by cases e; exact hD)
theorem scope_in2 {c : Code} {n : Nat} {Q : Exit → Act → World → Prop} {a : Act} {w : World} (h : c.wpIn Fence.wide n Tryz.prog (Exit.noGoto Q) a w) : (Code.scope c).wpIn Fence.wide n Tryz.prog Q a w := wpIn_wide.2 (wp_scope_straight (wpIn_wide.1 h))

set_option maxHeartbeats 2000000 in
theorem lread_in (n : Nat) (hn : n = 5) (n0 L off F N M cw cf : Nat) (ws : List (List UInt8)) (fs : List (Nat × Array Value)) (es : List Int) (I : Nat → World → Prop) (w : World) (v : Int)
    (hN : ws.length = N) (hM : fs.length = M) (hE : es.length = N) (hNM : N ≤ M) (hM2 : M ≤ 20) (hn0 : n0 ≤ w.heap.size) (uI : ∀ i, ∀ X Y, I i X → Below w.heap.size X Y → I i Y)
    (hI : ∀ i W, I i W → LineAt L off F ws fs W)
    (hf : ∀ i p f x, ws[i]? = some p → fs[i]? = some f → es[i]? = some x → FieldIs w.heap.size n0 I i f p x) (h0 : I 0 w) (HV : Hid (first es = v)) :
    CallsIn Fence.wide n Tryz.prog 44 #[.slice (some ⟨L, off, none⟩) N cw, .slice (some ⟨F, 0, none⟩) M cf] w fun e w' => e = .returned (.int .i64 v) ∧ Below n0 w w' ∧ (v = 0 → I N w') := by
  have h1 : 1 ≤ n := by omega
  have hmf : ∀ (fn : Fn) (first cap : Array Value) (w : World), (Instr.makeFunc fn first cap).run Tryz.prog w = .ok (.func fn first cap) w := fun _ _ _ _ => rfl
  refine callsIn_of_wp_marks Tryz.func44 rfl trivial ?_ rfl
  simp only [Tryz.ntmps44, List.size_toArray, List.length_cons, List.length_nil, Nat.reduceAdd, Nat.reduceSub, Array.replicate_succ, Array.replicate_zero, List.push_toArray, List.append_toArray, List.nil_append, List.cons_append]
  have H0 := Lib.hid h0
  have HI := Lib.hid hI
  have HF := Lib.hid hf
  have UI := Lib.hid uI
  have LN := Lib.hid (And.intro hN (And.intro hM hE))
  clear h0 hI hf uI hN hM hE
  gi_wp2
  refine scope_in2 ?_
  gi_wp2
  refine wpIn_label ?_
  gi_wp2
  obtain ⟨V, hV⟩ : ∃ V, w.alloc (.cells #[.int .i64 0] 24) = V := ⟨_, rfl⟩
  have BV : Below w.heap.size w V := by rw [← hV]; exact (Below.refl _ _).alloc (Nat.le_refl _) _
  have R0 : Hid (Go.Boxed V w.heap.size 24 (.int .i64 0)) := Lib.hid (by rw [← hV]; exact Go.Boxed.new w _ _)
  have hVs : V.heap.size = w.heap.size + 1 := by rw [← hV]; simp
  have I0 : Hid (I 0 V) := Lib.hid (UI.out 0 _ _ H0.out BV)
  have B0 := Lib.hid (BV.mono hn0)
  rw [hV]
  clear hV BV H0
  refine range_act h1 (gf := 84) (fs := #[.agg #[.slice (some ⟨L, off, none⟩) N cw, .slice (some ⟨F, 0, none⟩) M cf]]) (lb := #[]) rfl (enters_of Tryz.func84 (by kernel_rfl) rfl)
    (chk_act (n - 1) (by omega) w.heap.size n0 L off F N M cw cf ws fs es I V (by omega) LN.out.1 LN.out.2.1 LN.out.2.2 hNM hM2 HI.out HF.out) (by omega) (fun _ => rfl)
    (fun X Y k => by rw [k]; exact KeptO.refl _ _) (fun _ _ X Y k => k.2.1.mono (by omega))
    (fun pre W => (∀ e ∈ pre, e = 0) ∧ pre.length ≤ N ∧ I pre.length W ∧ Go.Boxed W w.heap.size 24 (.int .i64 0) ∧ Below n0 w W)
    (fun pre x W => ((∀ e ∈ pre, e = 0) ∧ pre.length + 1 ≤ N ∧ (x = 0 → I (pre.length + 1) W)) ∧ Go.Boxed W w.heap.size 24 (.int .i64 0) ∧ Below n0 w W)
    (fun c pre W => c = .exit 0 ∧ first pre ≠ 0 ∧ Go.Boxed W w.heap.size 24 (.int .i64 (first pre)) ∧ Below n0 w W)
    (fun pre X Y h k => ⟨h.1, h.2.1, UI.out _ _ _ h.2.2.1 (k.mono (by omega)), Box.same h.2.2.2.1 (k.block _ (by omega)), h.2.2.2.2.trans (k.mono (by omega))⟩)
    (fun x pre X Y h k => ⟨⟨h.1.1, h.1.2.1, fun e => UI.out _ _ _ (h.1.2.2 e) (k.mono (by omega))⟩, Box.same h.2.1 (k.block _ (by omega)), h.2.2.trans (k.mono (by omega))⟩)
    (fun c pre X Y h k => ⟨h.1, h.2.1, Box.same h.2.2.1 (k.block _ (by omega)), h.2.2.2.trans (k.mono (by omega))⟩)
    (fun pre X Y h k => k ▸ h) (fun pre x X Y h k => k ▸ h) (fun c pre X Y h k => k ▸ h)
    (fun pre X h => ⟨h.2.1, h.2.2.1⟩) (fun pre x X Y h k => ⟨⟨h.1, by have := (List.getElem?_eq_some_iff.1 k.1).1; rw [LN.out.2.2] at this; omega, k.2.2.2⟩, Box.same h.2.2.2.1 (k.2.1.same _ (Nat.le_refl _) h.2.2.2.1.lt), h.2.2.2.2.trans k.2.2.1⟩)
    ⟨by simp, Nat.zero_le _, I0.out, R0.out, B0.out⟩
    (fun x => { tmps := #[.slice (some ⟨L, off, none⟩) N cw, .slice (some ⟨F, 0, none⟩) M cf, undef, undef, .int .i64 0, .func (.func 84) #[.agg #[.slice (some ⟨L, off, none⟩) N cw, .slice (some ⟨F, 0, none⟩) M cf]] #[], .pointer (some ⟨w.heap.size, 0, none⟩), .int .i64 x, .slice (some ⟨L, off, none⟩) N cw, .slice (some ⟨F, 0, none⟩) M cf, .agg #[.slice (some ⟨L, off, none⟩) N cw, .slice (some ⟨F, 0, none⟩) M cf], .func (.func 84) #[.agg #[.slice (some ⟨L, off, none⟩) N cw, .slice (some ⟨F, 0, none⟩) M cf]] #[], .func (.func 84) #[.agg #[.slice (some ⟨L, off, none⟩) N cw, .slice (some ⟨F, 0, none⟩) M cf]] #[], .int .i64 x, undef, undef, undef, undef], defers := [] }) ?assign ?body ?done ?stop
  case assign =>
    intro l x W K hK
    simp only [erV1]
    gi_wp2
    exact hK
  case body =>
    rintro l pre x W ⟨⟨hz, hl, hI⟩, hT, hB⟩ hsz
    have HT := Lib.hid hT
    have HB := Lib.hid hB
    have HII := Lib.hid hI
    have HZ := Lib.hid hz
    have hn1 : 1 ≤ n - 1 - 1 := by omega
    clear hT hB hI hz
    by_cases hx : x = 0
    · subst hx
      gi_wp2
      refine ⟨KeptO.refl _ _, Below.refl _ _, fun _ _ _ => rfl, ?_, by rw [List.length_append]; exact hl, by rw [List.length_append]; exact HII.out trivial, HT.out, HB.out⟩
      intro e he
      rcases List.mem_append.1 he with h | h
      · exact HZ.out e h
      · simpa using h
    · have hx' : (x == 0) = false := by simp [hx]
      have HX := Lib.hid hx
      have c0 := HT.out.cell
      have f0 := HT.out.frozen
      have q0 := HT.out.lt
      clear hx
      gi_wp2
      refine ⟨(KeptO.refl _ _).setCell (.inl (by omega)) _ _, rfl, ?_, ?_, HB.out.setCell (p := ⟨w.heap.size, 0, none⟩) hn0 _⟩
      · rw [first_snoc HZ.out]; exact HX.out
      · rw [first_snoc HZ.out]; exact HT.out.set _
  case done =>
    rintro D xs W hD rfl ⟨hz, hl, hI, hT, hB⟩ hK
    have HE : Hid (v = 0) := Lib.hid (by rw [← HV.out]; exact first_zero hz)
    have HII := Lib.hid hI
    have HT := Lib.hid hT
    have HB := Lib.hid hB
    have HK := Lib.hid hK
    have c0 := hT.cell
    clear hz hI hT hB hK
    gi_wp2
    refine ⟨by simp, .inl ⟨_, _, rfl, run_takeDeferred HK.out, ?_⟩⟩
    refine ⟨_, results_tmp rfl _ _ _, ?_⟩
    rw [HE.out]
    exact ⟨rfl, HB.out.grown (grownBy_putObj' W D _) (by have := HT.out.lt; omega) (fun j e => by cases e; omega), fun _ => UI.out _ _ _ (LN.out.2.2 ▸ HII.out) (below_put2 _ _ (by omega) (by have := HT.out.lt; omega))⟩
  case stop =>
    rintro D c pre W hD hSp ⟨rfl, hok, hT, hB⟩ hK
    have HE : Hid (v = first pre ∧ v ≠ 0) := Lib.hid (by
      have := first_pre hSp hok
      rw [← HV.out, this]
      exact ⟨rfl, hok⟩)
    have HT := Lib.hid hT
    have HB := Lib.hid hB
    have HK := Lib.hid hK
    have c0 := hT.cell
    clear hT hB hK hok hSp
    gi_wp2
    refine ⟨by simp, .inl ⟨_, _, rfl, run_takeDeferred HK.out, ?_⟩⟩
    refine ⟨_, results_tmp rfl _ _ _, ?_⟩
    rw [← HE.out.1]
    exact ⟨rfl, HB.out.grown (grownBy_putObj' W D _) (by have := HT.out.lt; omega) (fun j e => by cases e; omega), fun e => absurd e HE.out.2⟩
end Go.Proofs.YtfmehdophoejiaaGreatDoor
