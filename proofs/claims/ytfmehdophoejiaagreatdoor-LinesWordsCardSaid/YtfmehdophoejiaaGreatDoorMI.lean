/- The contracts of clock.mayBe, clock.Join and clock.Split: what they return, for every input; nothing that was in memory changes. The table of days ahead of months reads as it is laid.
The contracts of clock.Span and Parse: what each call returns, for every text of up to 1000 bytes; nothing that was in memory changes. The tables read as they are laid.
A text that is written piece by piece: a variable in block g holds a slice of bytes that the call made itself; what an append of it and a store leave; the contract of strconv.Itoa in these words.
The contract of clock.Text's closure: it writes the digits of a number, so many at least, behind the text; nothing below the text's variable changes.
Plain facts on the texts of spans: what they are, and that they read as the span; no program is named.
The contract of clock.Text: what it returns, for every input; nothing that was in memory changes. The table of powers of ten reads as it is laid.
The contract of clock.Print: what it returns, for every time; nothing that was in memory changes. The tables of powers of ten and of marks read as they are laid. -/
import Derived.Test.YtfmehdophoejiaaGreatDoorMD
import Derived.Test.YtfmehdophoejiaaGreatDoorMG
import Derived.Test.YtfmehdophoejiaaGreatDoorMH
import Derived.Test.YtfmehdophoejiaaGreatDoorShelf
import Derived.Lib.AppendStr
import Derived.Lib.AppendIntMem
import Derived.Maps.AppendAt
import Derived.Deep.AppendLies
import Derived.Laws.Rows
namespace Go.Proofs.YtfmehdophoejiaaGreatDoor
open Go.RowKit

theorem mayBe_yes (n : Int) (w : World) (h1 : -604800 < n) (h2 : n < 604800) :
    Calls Tryz.prog 107 #[.int .i64 n] w fun e w' => e = .returned (.bool true) ∧ w = w' := by
  go_enter Tryz.func107, Tryz.ntmps107
  go_wp2
  go_ret
  exact ⟨rfl, rfl⟩
theorem mayBe_no (n : Int) (w : World) (h : ¬ (-604800 < n ∧ n < 604800)) :
    Calls Tryz.prog 107 #[.int .i64 n] w fun e w' => e = .returned (.bool false) ∧ w = w' := by
  by_cases h1 : -604800 < n
  · have h2 : ¬ n < 604800 := by omega
    go_enter Tryz.func107, Tryz.ntmps107
    go_wp2
    go_ret
    exact ⟨rfl, rfl⟩
  · go_enter Tryz.func107, Tryz.ntmps107
    go_wp2
    go_ret
    exact ⟨rfl, rfl⟩

/-- Three numbers lie in block g, which is new since w, and nothing that was in w has changed. -/
structure Blk3 (w : World) (g : Nat) (a b c : Int) (t : TypeId) (W : World) : Prop where
  bel : Below w.heap.size w W
  ge : w.heap.size ≤ g
  blk : W.heap[g]? = some (.cells #[.int .i64 a, .int .i64 b, .int .i64 c] t (0, 0))
theorem Blk3.new (w : World) (a b c : Int) (t : TypeId) : Blk3 w w.heap.size a b c t (w.alloc (.cells #[.int .i64 a, .int .i64 b, .int .i64 c] t)) := ⟨(Below.refl _ _).alloc (Nat.le_refl _) _, Nat.le_refl _, heap_alloc_new w _⟩
section
variable {w W W1 : World} {g : Nat} {a b c : Int} {t : TypeId}
theorem Blk3.lt (h : Blk3 w g a b c t W) : g < W.heap.size := (Array.getElem?_eq_some_iff.1 h.blk).1
theorem Blk3.next (h : Blk3 w g a b c t W) (k : Below W.heap.size W W1) : Blk3 w g a b c t W1 := ⟨h.bel.trans (k.mono h.bel.size), h.ge, (k.block g h.lt).trans h.blk⟩
theorem Blk3.more (h : Blk3 w g a b c t W) (o : Obj) : Blk3 w g a b c t (W.alloc o) := h.next ((Below.refl _ _).alloc (Nat.le_refl _) _)
theorem Blk3.c0 (h : Blk3 w g a b c t W) : W.cell? ⟨g, 0, none⟩ = some (.int .i64 a) := cell_of_row W g 0 _ _ (0, 0) h.blk
theorem Blk3.c1 (h : Blk3 w g a b c t W) : W.cell? ⟨g, 1, none⟩ = some (.int .i64 b) := cell_of_row W g 1 _ _ (0, 0) h.blk
theorem Blk3.c2 (h : Blk3 w g a b c t W) : W.cell? ⟨g, 2, none⟩ = some (.int .i64 c) := cell_of_row W g 2 _ _ (0, 0) h.blk
theorem Blk3.f0 (h : Blk3 w g a b c t W) : W.frozen? ⟨g, 0, none⟩ = false := by simp [World.frozen?, h.blk]
theorem Blk3.f1 (h : Blk3 w g a b c t W) : W.frozen? ⟨g, 1, none⟩ = false := by simp [World.frozen?, h.blk]
theorem Blk3.f2 (h : Blk3 w g a b c t W) : W.frozen? ⟨g, 2, none⟩ = false := by simp [World.frozen?, h.blk]
theorem blk_set {W : World} {g i : Nat} {cs : Array Value} {t : TypeId} (h : W.heap[g]? = some (.cells cs t (0, 0))) (v : Value) : (W.setCell ⟨g, i, none⟩ v).heap[g]? = some (.cells (cs.setIfInBounds i v) t (0, 0)) := by
  obtain ⟨hlt, hk⟩ := Array.getElem?_eq_some_iff.1 h
  show (W.heap.modify g _)[g]? = _
  rw [Array.getElem?_eq_getElem (by rw [Array.size_modify]; exact hlt), Array.getElem_modify_self, hk]
  simp
theorem Blk3.store (h : Blk3 w g a b c t W) (x y z : Int) : Blk3 w g x y z t (((W.setCell ⟨g, 0, none⟩ (.int .i64 x)).setCell ⟨g, 1, none⟩ (.int .i64 y)).setCell ⟨g, 2, none⟩ (.int .i64 z)) :=
  ⟨((h.bel.setCell (p := ⟨g, 0, none⟩) h.ge _).setCell (p := ⟨g, 1, none⟩) h.ge _).setCell (p := ⟨g, 2, none⟩) h.ge _, h.ge, by
    have := blk_set (i := 2) (blk_set (i := 1) (blk_set (i := 0) h.blk (.int .i64 x)) (.int .i64 y)) (.int .i64 z)
    simpa using this⟩
theorem Blk3.ret (h : Blk3 w g a b c t W) {P : Program} {f : Func} {Q : Ending → World → Prop} {A : Act} (k : ∀ W', Blk3 w g a b c t W' → bodyPost P f Q Exit.ret A W') : bodyPost P f Q Exit.ret A W := k W h
end

/-- The date and the seconds of a second, that are there. -/
def SomeSplit (q r : Int) (w : World) (e : Ending) (w' : World) : Prop := ∃ y m d : Int, okD y m d ∧ dayN y m d = q ∧ e = .returned (.tuple #[.agg #[.int .i64 y, .int .i64 m, .int .i64 d], .int .i64 r, .int .i64 0]) ∧ Below w.heap.size w w'

end Go.Proofs.YtfmehdophoejiaaGreatDoor

namespace Go.Proofs.YtfmehdophoejiaaGreatDoor
open Go.RowKit

theorem readV_bd {s : List UInt8} (h : readOk s = true) : readV s ≤ 3600000 * (s.length + 1) := by
  have := sumP_bd h
  rw [ix_len] at this
  have := pcs_len s []
  unfold readV
  omega
theorem trim_len (s p : List UInt8) : (Lib.trimPrefix s p).length ≤ s.length := by
  unfold Lib.trimPrefix
  split <;> simp

theorem spanN_dash : spanN [45] = 0 ∧ spanE [45] = 0 := by simp [spanN, spanE]
theorem span_form {s : List UInt8} (h : s ≠ [45]) (hr : readOk (Lib.trimPrefix s [45]) = false) : spanN s = 0 ∧ spanE s = 12 := by
  simp [spanN, spanE, h, hr]
theorem span_long {s : List UInt8} (h : s ≠ [45]) (hr : readOk (Lib.trimPrefix s [45]) = true) (hl : 604800 ≤ readV (Lib.trimPrefix s [45])) : spanN s = 0 ∧ spanE s = 10 := by
  have : ¬ readV (Lib.trimPrefix s [45]) < 604800 := by omega
  simp [spanN, spanE, h, hr, this]
theorem span_neg {s : List UInt8} (h : s ≠ [45]) (hr : readOk (Lib.trimPrefix s [45]) = true) (hl : readV (Lib.trimPrefix s [45]) < 604800) (hp : Lib.hasPrefix s [45] = true) : spanN s = -(readV (Lib.trimPrefix s [45]) : Int) ∧ spanE s = 0 := by
  simp [spanN, spanE, h, hr, hl, hp]
theorem span_pos {s : List UInt8} (h : s ≠ [45]) (hr : readOk (Lib.trimPrefix s [45]) = true) (hl : readV (Lib.trimPrefix s [45]) < 604800) (hp : Lib.hasPrefix s [45] = false) : spanN s = (readV (Lib.trimPrefix s [45]) : Int) ∧ spanE s = 0 := by
  simp [spanN, spanE, h, hr, hl, hp]

theorem cutPre_is (s t : List UInt8) (b : Bool) (w : World) (h : Hid (Lib.trimPrefix s [45] = t ∧ Lib.hasPrefix s [45] = b)) :
    Calls Tryz.prog 127 #[.string ⟨s.toArray⟩, .string ⟨#[45]⟩] w fun e w' => e = .returned (.tuple #[.string ⟨t.toArray⟩, .bool b]) ∧ w = w' := by
  have := cutPre_any s w
  rw [h.out.1, h.out.2] at this
  exact this.mono fun _ _ hh => ⟨hh.1, hh.2.symm⟩
theorem read_bad (s : List UInt8) (w : World) (hs : s.length ≤ 1000) (hM : MaxAt w) (hF : FldAt w) (h : Hid (readOk s = false)) :
    Calls Tryz.prog 128 #[.string ⟨s.toArray⟩] w fun e w' => e = .returned (.tuple #[.int .i64 0, .int .i64 12]) ∧ Below w.heap.size w w' :=
  read_is s 0 12 w hs hM hF ⟨(fun c => by rw [h.out] at c; cases c), (fun _ => ⟨rfl, rfl⟩)⟩
theorem read_ok (s : List UInt8) (v : Nat) (w : World) (hs : s.length ≤ 1000) (hM : MaxAt w) (hF : FldAt w) (h : Hid (readOk s = true ∧ readV s = v)) :
    Calls Tryz.prog 128 #[.string ⟨s.toArray⟩] w fun e w' => e = .returned (.tuple #[.int .i64 v, .int .i64 0]) ∧ Below w.heap.size w w' :=
  read_is s v 0 w hs hM hF ⟨(fun _ => ⟨by rw [h.out.2], rfl⟩), (fun c => by rw [h.out.1] at c; cases c)⟩

theorem span_any (s : List UInt8) (w : World) (hs : s.length ≤ 1000) (hM : MaxAt w) (hF : FldAt w) :
    Calls Tryz.prog 95 #[.string ⟨s.toArray⟩] w fun e w' => e = .returned (.tuple #[.int .i64 (spanN s), .int .i64 (spanE s)]) ∧ Below w.heap.size w w' := by
  have HM := Lib.hid hM
  have HF := Lib.hid hF
  clear hM hF
  by_cases h : s = [45]
  · subst h
    go_enter Tryz.func95, Tryz.ntmps95
    go_wp2
    go_ret2
    rw [spanN_dash.1, spanN_dash.2]
    exact ⟨rfl, Below.refl _ _⟩
  · have tl := trim_len s [45]
    have h2 : (s == [45]) = false := by simp [h]
    cases hr : readOk (Lib.trimPrefix s [45]) with
    | false =>
      have HE := Lib.hid (span_form h hr)
      generalize ht : Lib.trimPrefix s [45] = t at tl hr
      generalize hb : Lib.hasPrefix s [45] = b
      have HC := Lib.hid (And.intro ht hb)
      have HR := Lib.hid hr
      clear hr ht hb h
      go_enter Tryz.func95, Tryz.ntmps95
      go_wp2_with (first
        | (go_at_call 127; refine (cutPre_is s t b _ HC).mono ?_; rintro e w' ⟨rfl, rfl⟩)
        | (go_at_call 128; refine (read_bad t _ (by omega) HM.out HF.out HR).mono ?_; rintro e w1 ⟨rfl, k1⟩))
      go_ret2
      rw [HE.out.1, HE.out.2]
      exact ⟨rfl, k1⟩
    | true =>
      have vb := readV_bd hr
      rcases Nat.lt_or_ge (readV (Lib.trimPrefix s [45])) 604800 with hl | hl
      · cases hb : Lib.hasPrefix s [45] with
        | true =>
          have HE := Lib.hid (span_neg h hr hl hb)
          generalize ht : Lib.trimPrefix s [45] = t at tl hr vb hl HE
          have HC := Lib.hid (And.intro ht hb)
          generalize hv : readV t = v at vb hl HE
          have HR := Lib.hid (And.intro hr hv)
          clear hr ht hb h hv
          have l1 : -604800 < -(v : Int) := by omega
          have l2 : -(v : Int) < 604800 := by omega
          go_enter Tryz.func95, Tryz.ntmps95
          go_wp2_with (first
            | (go_at_call 127; refine (cutPre_is s t true _ HC).mono ?_; rintro e w' ⟨rfl, rfl⟩)
            | (go_at_call 128; refine (read_ok t v _ (by omega) HM.out HF.out HR).mono ?_; rintro e w1 ⟨rfl, k1⟩)
            | (go_at_call 107; refine (mayBe_yes _ _ l1 l2).mono ?_; rintro e w2 ⟨rfl, rfl⟩))
          go_ret2
          rw [HE.out.1, HE.out.2]
          exact ⟨rfl, k1⟩
        | false =>
          have HE := Lib.hid (span_pos h hr hl hb)
          generalize ht : Lib.trimPrefix s [45] = t at tl hr vb hl HE
          have HC := Lib.hid (And.intro ht hb)
          generalize hv : readV t = v at vb hl HE
          have HR := Lib.hid (And.intro hr hv)
          clear hr ht hb h hv
          have l1 : -604800 < (v : Int) := by omega
          have l2 : (v : Int) < 604800 := by omega
          go_enter Tryz.func95, Tryz.ntmps95
          go_wp2_with (first
            | (go_at_call 127; refine (cutPre_is s t false _ HC).mono ?_; rintro e w' ⟨rfl, rfl⟩)
            | (go_at_call 128; refine (read_ok t v _ (by omega) HM.out HF.out HR).mono ?_; rintro e w1 ⟨rfl, k1⟩)
            | (go_at_call 107; refine (mayBe_yes _ _ l1 l2).mono ?_; rintro e w2 ⟨rfl, rfl⟩))
          go_ret2
          rw [HE.out.1, HE.out.2]
          exact ⟨rfl, k1⟩
      · have HE := Lib.hid (span_long h hr hl)
        generalize ht : Lib.trimPrefix s [45] = t at tl hr vb hl
        generalize hv : readV t = v at vb hl
        have HR := Lib.hid (And.intro hr hv)
        have l1 : ¬ (-604800 < -(v : Int) ∧ -(v : Int) < 604800) := by omega
        have l2 : ¬ (-604800 < (v : Int) ∧ (v : Int) < 604800) := by omega
        have L1 := Lib.hid l1
        have L2 := Lib.hid l2
        cases hb : Lib.hasPrefix s [45] with
        | true =>
          have HC := Lib.hid (And.intro ht hb)
          clear hr ht hb h hv l1 l2
          go_enter Tryz.func95, Tryz.ntmps95
          go_wp2_with (first
            | (go_at_call 127; refine (cutPre_is s t true _ HC).mono ?_; rintro e w' ⟨rfl, rfl⟩)
            | (go_at_call 128; refine (read_ok t v _ (by omega) HM.out HF.out HR).mono ?_; rintro e w1 ⟨rfl, k1⟩)
            | (go_at_call 107; refine (mayBe_no _ _ L1.out).mono ?_; rintro e w2 ⟨rfl, rfl⟩))
          go_ret2
          rw [HE.out.1, HE.out.2]
          exact ⟨rfl, k1⟩
        | false =>
          have HC := Lib.hid (And.intro ht hb)
          clear hr ht hb h hv l1 l2
          go_enter Tryz.func95, Tryz.ntmps95
          go_wp2_with (first
            | (go_at_call 127; refine (cutPre_is s t false _ HC).mono ?_; rintro e w' ⟨rfl, rfl⟩)
            | (go_at_call 128; refine (read_ok t v _ (by omega) HM.out HF.out HR).mono ?_; rintro e w1 ⟨rfl, k1⟩)
            | (go_at_call 107; refine (mayBe_no _ _ L2.out).mono ?_; rintro e w2 ⟨rfl, rfl⟩))
          go_ret2
          rw [HE.out.1, HE.out.2]
          exact ⟨rfl, k1⟩

/-- A time: its seconds and its kind, as Parse tells them. -/
def parN (s : List UInt8) : Int := if spanE (kS s) = 0 then spanN (kS s) else 0
def parK (s : List UInt8) : Int := if spanE (kS s) = 0 then kN s else 0
def parE (s : List UInt8) : Int := spanE (kS s)
theorem kS_len (s : List UInt8) : (kS s).length ≤ s.length := by unfold kS; split <;> simp

/-- Two numbers lie in block g, which is new since w, and nothing that was in w has changed. -/
structure Blk2 (w : World) (g : Nat) (a b : Int) (t : TypeId) (W : World) : Prop where
  bel : Below w.heap.size w W
  ge : w.heap.size ≤ g
  blk : W.heap[g]? = some (.cells #[.int .i64 a, .int .i64 b] t (0, 0))
theorem Blk2.new (w : World) (a b : Int) (t : TypeId) : Blk2 w w.heap.size a b t (w.alloc (.cells #[.int .i64 a, .int .i64 b] t)) := ⟨(Below.refl _ _).alloc (Nat.le_refl _) _, Nat.le_refl _, heap_alloc_new w _⟩
theorem Blk2.make {w W : World} (h : Below w.heap.size w W) (a b : Int) (t : TypeId) : Blk2 w W.heap.size a b t (W.alloc (.cells #[.int .i64 a, .int .i64 b] t)) := ⟨h.alloc h.size _, h.size, heap_alloc_new W _⟩
section
variable {w W W1 : World} {g : Nat} {a b : Int} {t : TypeId}
theorem Blk2.lt (h : Blk2 w g a b t W) : g < W.heap.size := (Array.getElem?_eq_some_iff.1 h.blk).1
theorem Blk2.next (h : Blk2 w g a b t W) (k : Below W.heap.size W W1) : Blk2 w g a b t W1 := ⟨h.bel.trans (k.mono h.bel.size), h.ge, (k.block g h.lt).trans h.blk⟩
theorem Blk2.more (h : Blk2 w g a b t W) (o : Obj) : Blk2 w g a b t (W.alloc o) := h.next ((Below.refl _ _).alloc (Nat.le_refl _) _)
theorem Blk2.c0 (h : Blk2 w g a b t W) : W.cell? ⟨g, 0, none⟩ = some (.int .i64 a) := cell_of_row W g 0 _ _ (0, 0) h.blk
theorem Blk2.c1 (h : Blk2 w g a b t W) : W.cell? ⟨g, 1, none⟩ = some (.int .i64 b) := cell_of_row W g 1 _ _ (0, 0) h.blk
theorem Blk2.f0 (h : Blk2 w g a b t W) : W.frozen? ⟨g, 0, none⟩ = false := by simp [World.frozen?, h.blk]
theorem Blk2.f1 (h : Blk2 w g a b t W) : W.frozen? ⟨g, 1, none⟩ = false := by simp [World.frozen?, h.blk]
theorem Blk2.store (h : Blk2 w g a b t W) (x y : Int) : Blk2 w g x y t ((W.setCell ⟨g, 0, none⟩ (.int .i64 x)).setCell ⟨g, 1, none⟩ (.int .i64 y)) :=
  ⟨(h.bel.setCell (p := ⟨g, 0, none⟩) h.ge _).setCell (p := ⟨g, 1, none⟩) h.ge _, h.ge, by
    have := blk_set (i := 1) (blk_set (i := 0) h.blk (.int .i64 x)) (.int .i64 y)
    simpa using this⟩
theorem Blk2.ret (h : Blk2 w g a b t W) {P : Program} {f : Func} {Q : Ending → World → Prop} {A : Act} (k : ∀ W', Blk2 w g a b t W' → bodyPost P f Q Exit.ret A W') : bodyPost P f Q Exit.ret A W := k W h
end

theorem parse_any (s : List UInt8) (w : World) (hs : s.length ≤ 1000) (hM : MaxAt w) (hF : FldAt w) (hL : LetAt w) :
    Calls Tryz.prog 56 #[.string ⟨s.toArray⟩] w fun e w' => e = .returned (.tuple #[.agg #[.int .i64 (parN s), .int .i64 (parK s)], .int .i64 (parE s)]) ∧ Below w.heap.size w w' := by
  have B := Lib.hid (Blk2.new w 0 0 32)
  have HM := Lib.hid (hM.next B.out.bel)
  have HF := Lib.hid (hF.next B.out.bel)
  have HL := Lib.hid (hL.next B.out.bel)
  have kl := kS_len s
  clear hM hF hL
  by_cases h : spanE (kS s) = 0
  · have E : Hid (parN s = spanN (kS s) ∧ parK s = kN s ∧ parE s = 0) := by
      show _ ∧ _
      simp [parN, parK, parE, h]
    generalize hS : spanN (kS s) = n at E
    generalize hE : spanE (kS s) = x at h E
    have HS : Hid (spanN (kS s) = n ∧ spanE (kS s) = x) := ⟨hS, hE⟩
    clear hS hE
    subst h
    go_enter Tryz.func56, Tryz.ntmps56
    go_wp2_with (first
      | (go_at_call 94; refine (kind_any s _ hs HL.out).mono ?_; rintro e w1 ⟨rfl, k1⟩
         have B1 := Lib.hid (B.out.next k1)
         have HM1 := Lib.hid (HM.out.next k1)
         have HF1 := Lib.hid (HF.out.next k1)
         clear k1 B)
      | (go_at_call 95; refine (span_any (kS s) _ (by omega) HM1.out HF1.out).mono ?_; rintro e w2 ⟨rfl, k2⟩
         rw [HS.out.1, HS.out.2]
         have B2 := Lib.hid (B1.out.next k2)
         clear k2 B1
         have lt := B2.out.lt
         have c0 := B2.out.c0
         have c1 := B2.out.c1
         have f0 := B2.out.f0
         have f1 := B2.out.f1))
    refine (B2.out.store n (kN s)).ret fun W' B3 => ?_
    clear lt c0 c1 f0 f1
    have c0 := B3.c0
    have c1 := B3.c1
    rw [E.out.1, E.out.2.1, E.out.2.2]
    exact bodyPost_ret (v := .tuple #[.agg #[.int .i64 n, .int .i64 (kN s)], .int .i64 0]) (by simp [results, Tryz.results56, go_sem, c0, c1]) rfl ⟨rfl, B3.bel⟩
  · have E : Hid (parN s = 0 ∧ parK s = 0 ∧ parE s = spanE (kS s)) := by
      show _ ∧ _
      simp [parN, parK, parE, h]
    generalize hS : spanN (kS s) = n at E
    generalize hE : spanE (kS s) = x at h E
    have HS : Hid (spanN (kS s) = n ∧ spanE (kS s) = x) := ⟨hS, hE⟩
    clear hS hE
    go_enter Tryz.func56, Tryz.ntmps56
    go_wp2_with (first
      | (go_at_call 94; refine (kind_any s _ hs HL.out).mono ?_; rintro e w1 ⟨rfl, k1⟩
         have B1 := Lib.hid (B.out.next k1)
         have HM1 := Lib.hid (HM.out.next k1)
         have HF1 := Lib.hid (HF.out.next k1)
         clear k1 B)
      | (go_at_call 95; refine (span_any (kS s) _ (by omega) HM1.out HF1.out).mono ?_; rintro e w2 ⟨rfl, k2⟩
         rw [HS.out.1, HS.out.2]
         have B2 := Lib.hid (B1.out.next k2)
         clear k2 B1
         have lt := B2.out.lt
         have c0 := B2.out.c0
         have c1 := B2.out.c1
         have f0 := B2.out.f0
         have f1 := B2.out.f1))
    refine (B2.out.store 0 0).ret fun W' B3 => ?_
    clear lt c0 c1 f0 f1
    have c0 := B3.c0
    have c1 := B3.c1
    rw [E.out.1, E.out.2.1, E.out.2.2]
    exact bodyPost_ret (v := .tuple #[.agg #[.int .i64 0, .int .i64 0], .int .i64 x]) (by simp [results, Tryz.results56, go_sem, c0, c1]) rfl ⟨rfl, B3.bel⟩
end Go.Proofs.YtfmehdophoejiaaGreatDoor

namespace Go.Proofs.YtfmehdophoejiaaGreatDoor
open Go.RowKit

def bcl (l : List UInt8) : List Value := l.map fun b => .int .u8 (b.toNat : Int)
theorem bcl_len (l : List UInt8) : (bcl l).length = l.length := by simp [bcl]
theorem bcl_app (l x : List UInt8) : bcl (l ++ x) = bcl l ++ bcl x := by simp [bcl]
theorem bcl_one (l : List UInt8) : ∀ u ∈ bcl l, u.oneCell' = true := by
  intro u hu
  obtain ⟨b, _, rfl⟩ := List.mem_map.1 hu
  rfl

structure TextAt (g : Nat) (A : Option Addr) (c : Nat) (l : List UInt8) (W : World) : Prop where
  blk : W.heap[g]? = some (.cells #[.slice A l.length c] 116 (0, 0))
  own : W.ownsRow (g + 1) 5 1 (.slice A l.length c) l.length (bcl l)
def TextIs (g : Nat) (l : List UInt8) (W : World) : Prop := ∃ A c, TextAt g A c l W

section
variable {g c : Nat} {A : Option Addr} {l x : List UInt8} {W W1 w' : World} {v' : Value}

theorem TextAt.lt (h : TextAt g A c l W) : g < W.heap.size := by
  rcases Nat.lt_or_ge g W.heap.size with hlt | hge
  · exact hlt
  · have := h.blk; rw [Array.getElem?_eq_none hge] at this; cases this
theorem TextAt.cell (h : TextAt g A c l W) : W.cell? ⟨g, 0, none⟩ = some (.slice A l.length c) := cell_of_row W g 0 _ _ (0, 0) h.blk
theorem TextAt.frozen (h : TextAt g A c l W) : W.frozen? ⟨g, 0, none⟩ = false := by simp [World.frozen?, h.blk]
theorem TextAt.apart (h : TextAt g A c l W) : ∀ k, (Value.slice A l.length c).ownBlock = some k → g + 1 ≤ k := fun k hk => (h.own.lt k hk).1

theorem grownBy_of_below (h : Below W.heap.size W W1) (row : Option Nat) : W.grownBy W1 row := ⟨h.os, h.tape, h.output, h.size, fun i hi _ => h.block i hi⟩
theorem own_keep (h : W.ownsRow (g + 1) 5 1 v' l.length (bcl l)) (k : Below W.heap.size W W1) : W1.ownsRow (g + 1) 5 1 v' l.length (bcl l) :=
  h.kept (grownBy_of_below k none) (by cases v'.ownBlock <;> simp)
theorem TextAt.next (h : TextAt g A c l W) (k : Below W.heap.size W W1) : TextAt g A c l W1 :=
  ⟨(k.block g h.lt).trans h.blk, own_keep h.own k⟩
theorem TextIs.next (h : TextIs g l W) (k : Below W.heap.size W W1) : TextIs g l W1 := by
  obtain ⟨A, c, h⟩ := h; exact ⟨A, c, h.next k⟩
theorem TextIs.drew (h : TextIs g l W) : TextIs g l W.drew := h.next (Below.refl _ _).drew
theorem TextAt.new (W : World) : TextAt W.heap.size none 0 [] (W.alloc (.cells #[.slice none 0 0] 116)) :=
  ⟨heap_alloc_new W _, World.ownsRow_nil _ _ _ _⟩
theorem TextIs.new (W : World) : TextIs W.heap.size [] (W.alloc (.cells #[.slice none 0 0] 116)) := ⟨none, 0, TextAt.new W⟩

theorem own_form {base n : Nat} {e : TypeId} {xs : List Value} (h : W.ownsRow base e 1 v' n xs) : ∃ A c, v' = .slice A n c := by
  rcases h.2 with ⟨rfl, rfl⟩ | ⟨g, cap, cur, rfl, _⟩
  · exact ⟨none, 0, rfl⟩
  · exact ⟨some ⟨g, 0, none⟩, cap, rfl⟩

theorem grown_setCell (u : Value) : w'.grownBy (w'.setCell ⟨g, 0, none⟩ u) (some g) :=
  ⟨rfl, rfl, rfl, by simp [World.setCell], fun i _ hne => Below.heap_setCell w' ⟨g, 0, none⟩ u i (by rintro rfl; exact hne rfl)⟩

/-- What an append behind the variable's value, and the store of what it gives, leave. -/
theorem TextAt.push (h : TextAt g A c l W) (hown : w'.ownsRow (g + 1) 5 1 v' (l ++ x).length (bcl (l ++ x))) (hg : W.grownBy w' (Value.slice A l.length c).ownBlock) :
    TextIs g (l ++ x) (w'.setCell ⟨g, 0, none⟩ v') ∧ Below g W (w'.setCell ⟨g, 0, none⟩ v') ∧ w'.cell? ⟨g, 0, none⟩ = some (.slice A l.length c) ∧ w'.frozen? ⟨g, 0, none⟩ = false := by
  have hb : w'.heap[g]? = some (.cells #[.slice A l.length c] 116 (0, 0)) := (hg.block g h.lt (fun e => by have := h.apart g e.symm; omega)).trans h.blk
  obtain ⟨A', c', rfl⟩ := own_form hown
  refine ⟨⟨A', c', ?_, ?_⟩, ?_, cell_of_row w' g 0 _ _ (0, 0) hb, by simp [World.frozen?, hb]⟩
  · simp [World.setCell, Array.getElem?_modify, hb]
  · refine hown.kept (grown_setCell _) ?_
    cases e : (Value.slice A' (l ++ x).length c').ownBlock with
    | none => exact .inl rfl
    | some k => right; rintro h2; obtain rfl : k = g := by injection h2
                have := (hown.lt k e).1; omega
  · exact ((Below.refl g W).grown hg (by have := h.lt; omega) (fun k hk => by have := h.apart k hk; omega)).setCell (Nat.le_refl _) _
end

abbrev PowAt (w : World) : Prop := Lib.TabIs Tryz.prog w "internal/strconv.uint64pow10" .u64 Lib.pow10Tab
theorem PowAt.next {w w' : World} (h : PowAt w) (k : Below w.heap.size w w') : PowAt w' := Lib.tabBelow_of_tabIs h w' k

theorem itoa_any (n : Nat) (w : World) (h : n < 10000000) (ht : PowAt w) :
    Calls Tryz.prog 72 #[.int .i64 n] w fun e w' => e = .returned (.string ⟨(Lib.decDigits n).toArray⟩) ∧ Below w.heap.size w w' := by
  have := Tryz.strconv_Itoa n (by omega) (by omega) w ht
  rw [itoa_nat] at this
  refine this.mono fun e w' hh => ⟨hh.1, ?_⟩
  obtain ⟨k, os, rfl⟩ := hh.2
  exact Lib.below_grow _ w (Nat.le_refl _) k os
end Go.Proofs.YtfmehdophoejiaaGreatDoor

namespace Go.Proofs.YtfmehdophoejiaaGreatDoor
open Go.RowKit

theorem uint8_info : (Tryz.prog.info? 5).map (fun i => (i.zero, i.size, i.bytes)) = some (some (.int .u8 0), 1, 1) := by kernel_rfl

theorem itoa_is (n : Nat) (D : List UInt8) (w : World) (h : n < 10000000) (ht : PowAt w) (hD : Hid (Lib.decDigits n = D)) :
    Calls Tryz.prog 72 #[.int .i64 n] w fun e w' => e = .returned (.string ⟨D.toArray⟩) ∧ Below w.heap.size w w' := by
  have := itoa_any n w h ht
  rwa [hD.out] at this

theorem strCells_eq (D : List UInt8) : Lib.strCells ⟨D.toArray⟩ = bcl D := by simp [Lib.strCells, bcl]

set_option maxHeartbeats 800000 in
theorem dig_walk (n least g : Nat) (l D : List UInt8) (W : World) (hn : n < 10000000) (h2 : least ≤ 7) (hl : l.length ≤ 100) (hD1 : D.length ≤ 7) (HD : Hid (Lib.decDigits n = D)) (ht : PowAt W) (hT : TextIs g l W) :
    Calls Tryz.prog 108 #[.int .i64 n, .int .i64 least, .pointer (some ⟨g, 0, none⟩)] W fun e w' => e = .returned (.tuple #[]) ∧ TextIs g (l ++ List.replicate (least - D.length) 48 ++ D) w' ∧ Below g W w' := by
  obtain ⟨i0, hi0, hz0, hz1, hz2⟩ := info_parts uint8_info
  have HP := Lib.hid ht
  have HT := Lib.hid hT
  have hgW : g ≤ W.heap.size := by obtain ⟨A, c, h⟩ := hT; have := h.lt; omega
  clear ht hT
  go_enter Tryz.func108, Tryz.ntmps108
  go_wp2_with (go_at_call 72; refine (itoa_is _ D _ hn HP.out HD).mono ?_; rintro e w1 ⟨rfl, k1⟩)
  have HT1 := Lib.hid (HT.out.next k1)
  have HB1 := Lib.hid (k1.mono hgW)
  clear k1
  go_loopw [12] (fun i w' => ∃ k : Nat, i = .int .i64 k ∧ (k = 0 ∨ k + D.length ≤ least) ∧ TextIs g (l ++ List.replicate k 48) w' ∧ Below g W w') (fun i _ => least - (intOf i).toNat)
  case atStart => exact ⟨0, rfl, .inl rfl, by simpa using HT1.out, HB1.out⟩
  case round =>
    obtain ⟨k, rfl, k1, k2, k3⟩ := hrel
    clear HT1 HB1
    have K3 := Lib.hid k3
    clear k3
    have hL : (l ++ List.replicate k (48 : UInt8)).length = l.length + k := by simp
    have HR : Hid (l ++ List.replicate (k + 1) (48 : UInt8) = (l ++ List.replicate k 48) ++ [48]) := by
      show _ = _
      rw [List.replicate_succ', List.append_assoc]
    have HE : Hid (k = least - D.length ∨ k + D.length < least) := by show _ ∨ _; omega
    generalize hG : l ++ List.replicate k (48 : UInt8) = L at k2 hL HR
    have HG := Lib.hid hG
    clear hG
    have HL := Lib.hid hL
    have hLb : L.length ≤ 200 := by omega
    clear hL
    obtain ⟨A, c, T⟩ := k2
    have hc := T.cell
    have hf := T.frozen
    have hlt := T.lt
    by_cases hk : k + D.length < least
    · have T1 := Lib.hid (T.next ((Below.refl _ _).alloc (Nat.le_refl _) (.cells #[.int .u8 48] 5)))
      clear T
      have hk' : (k : Int) < (least : Int) - (D.length : Int) := by omega
      go_wp2_with (first
        | (at_builtin
           refine wpList_append_own_at _ (by rfl) (.tmp 14) (.tmp 15) _ (by rfl) (g + 1) 5 i0 _ 1 1 Tryz.underlying116 hi0 hz0 hz1 hz2 rfl (by omega) (.slice A L.length c) L.length (bcl L) (by rfl) T1.out.own ⟨wr.heap.size, 0, none⟩ 1 1 (bcl [48]) (by rfl) (by rfl) (by intro j u hu; rcases j with _ | j <;> simp [bcl] at hu; subst hu; simp [Addr.add]) (bcl_one _) (by simp only [maxLen]; omega) (by omega) (by simp; omega) ?_
           intro v2 w2 hown2 hg2 _ _
           obtain ⟨A2, c2, rfl⟩ := own_form hown2
           obtain ⟨p1, p2, p3, p4⟩ := T1.out.push (x := [48]) (by simpa [bcl] using hown2) hg2
           have P1 := Lib.hid p1
           have P2 := Lib.hid p2
           clear p1 p2 hown2 hg2))
      go_roundw
      case rel => exact ⟨k + 1, by go_num, by omega, by rw [HR.out]; exact P1.out, K3.out.trans (((Below.refl g wr).alloc (by omega) _).trans P2.out)⟩
      case measure => simp [intOf]; omega
    · have hk' : ¬ (k : Int) < (least : Int) - (D.length : Int) := by omega
      have hDs : (⟨D.toArray⟩ : ByteArray).size = D.length := by simp [ByteArray.size]
      have HS := Lib.hid hDs
      clear hDs
      have T1 := Lib.hid T
      clear T
      have E : Hid (l ++ List.replicate (least - D.length) (48 : UInt8) ++ D = L ++ D) := by
        show _ = _
        rcases HE.out with e | e
        · rw [← e, HG.out]
        · omega
      go_wp2_with (first
        | (at_builtin
           refine Lib.wpList_append_own_string _ (by rfl) (.tmp 18) (.tmp 19) _ _ (by rfl) (g + 1) 5 i0 Tryz.underlying116 Tryz.underlying9 hi0 hz0 hz1 hz2 (.slice A L.length c) L.length (bcl L) (by rfl) T1.out.own ⟨D.toArray⟩ (by rfl) (by rw [HS.out]; simp only [maxLen]; omega) (by rw [HS.out]; omega) (by omega) ?_
           intro v2 w2 hown2 hg2 _
           obtain ⟨p1, p2, p3, p4⟩ := T1.out.push (x := D) (by rw [HS.out, strCells_eq, ← bcl_app, ← List.length_append] at hown2; exact hown2) hg2
           obtain ⟨A2, c2, rfl⟩ := own_form hown2
           have P1 := Lib.hid p1
           have P2 := Lib.hid p2
           clear p1 p2 hown2 hg2))
      go_end0
      rw [← List.append_assoc, E.out]
      exact ⟨rfl, P1.out, K3.out.trans P2.out⟩

theorem dig_any (n least g : Nat) (l : List UInt8) (W : World) (hn : n < 10000000) (h1 : 1 ≤ least) (h2 : least ≤ 7) (hl : l.length ≤ 100) (ht : PowAt W) (hT : TextIs g l W) :
    Calls Tryz.prog 108 #[.int .i64 n, .int .i64 least, .pointer (some ⟨g, 0, none⟩)] W fun e w' => e = .returned (.tuple #[]) ∧ TextIs g (l ++ pd least n) w' ∧ Below g W w' := by
  have := dig_walk n least g l _ W hn h2 hl (by rw [Lib.decDigits_length]; exact nd_le n hn) rfl ht hT
  rw [List.append_assoc, ← pd_dec n least (by omega)] at this
  exact this

theorem text_string {g c : Nat} {A : Option Addr} {l : List UInt8} {W : World} (h : TextAt g A c l W) (h0 : 0 < l.length) : (convert 116 9 (.slice A l.length c)).run Tryz.prog W = .ok (.string ⟨l.toArray⟩) W := by
  obtain ⟨g', cap, hv, _, _⟩ := h.own.form h0
  have hA : A = some ⟨g', 0, none⟩ := by injection hv
  subst hA
  exact run_convert_bytes_back W _ _ 5 ⟨g', 0, none⟩ c l Tryz.underlying116 Tryz.underlying5 Tryz.underlying9 (fun j hj => h.own.cells (g := g') rfl j _ (by simp [bcl, hj]))

/-- One byte behind the text, as the walk takes it; n and m are the lengths as they stand in the frame. -/
theorem wpList_push1 {w : World} {ops : Array Oper} {rest : List Oper} {o : Oper} {a : Act} {Q : Exit → Act → World → Prop} (hgd : o.guard = none) (s x : Operand)
    (ho : o.op = .call { callee := .builtin .append, args := #[s, x], argTypes := #[116, 116] }) {g n m c : Nat} {A : Option Addr} {l : List UInt8} (hn : l.length = n) (hm : n + 1 = m) (X : TextAt g A c l w)
    (hs : a.eval s = .slice A n c) (ad : Addr) (b : UInt8) (hx : a.eval x = .slice (some ad) 1 1) (hb : w.cell? ad = some (.int .u8 (b.toNat : Int))) (hl : n ≤ 100000)
    (h : ∀ A' c' w', TextIs g (l ++ [b]) (w'.setCell ⟨g, 0, none⟩ (.slice A' m c')) → Below g w (w'.setCell ⟨g, 0, none⟩ (.slice A' m c')) → w'.cell? ⟨g, 0, none⟩ = some (.slice A n c) → w'.frozen? ⟨g, 0, none⟩ = false → wpList Tryz.prog ops Q rest (a.put o.dst (.slice A' m c')) w') : wpList Tryz.prog ops Q (o :: rest) a w := by
  obtain ⟨i0, hi0, hz0, hz1, hz2⟩ := info_parts uint8_info
  subst hn hm
  refine wpList_append_own_at _ hgd s x _ ho (g + 1) 5 i0 _ 1 1 Tryz.underlying116 hi0 hz0 hz1 hz2 rfl (by omega) (.slice A l.length c) l.length (bcl l) hs X.own ad 1 1 (bcl [b]) hx rfl (by intro j u hu; rcases j with _ | j <;> simp [bcl] at hu; subst hu; simpa [Addr.add] using hb) (bcl_one _) (by simp only [maxLen]; omega) (by omega) X.lt ?_
  intro v' w' hown hg _ _
  obtain ⟨p1, p2, p3, p4⟩ := X.push (x := [b]) (by simpa [bcl] using hown) hg
  obtain ⟨A', c', rfl⟩ := own_form hown
  exact h A' c' w' p1 p2 p3 p4

end Go.Proofs.YtfmehdophoejiaaGreatDoor

namespace Go.Proofs.YtfmehdophoejiaaGreatDoor
open Go

/-- The text of hours, minutes and seconds; of a span. -/
def hms (h m s : Nat) : List UInt8 := pd 1 h ++ [58] ++ pd 2 m ++ if s = 0 then [] else [58] ++ pd 2 s
def textN (n : Nat) : List UInt8 := hms (n / 3600) (n % 3600 / 60) (n % 60)
def textL (n : Int) : List UInt8 := (if n < 0 then [45] else []) ++ textN n.natAbs

theorem isDig_ofNat (k : Nat) : isDig (UInt8.ofNat (48 + k % 10)) = true := by
  have e : (UInt8.ofNat (48 + k % 10)).toNat = 48 + k % 10 := by rw [UInt8.toNat_ofNat']; omega
  unfold isDig
  rw [e, Bool.and_eq_true, decide_eq_true_eq, decide_eq_true_eq]; omega
theorem allDig_app (a b : List UInt8) : allDig (a ++ b) = (allDig a && allDig b) := by simp [allDig]
theorem numOf_snoc' (l : List UInt8) (b : UInt8) : numOf (l ++ [b]) = 10 * numOf l + (b.toNat - 48) := by simp [numOf]

theorem pd_dig (n : Nat) : ∀ l : Nat, allDig (pd l n) = true ∧ numOf (pd l n) = n := by
  induction n using Nat.strongRecOn with
  | _ n ih =>
    intro l
    by_cases h0 : n = 0
    · subst h0
      rw [pd_zero]
      induction l with
      | zero => exact ⟨rfl, rfl⟩
      | succ l ihl =>
        rw [List.replicate_succ', allDig_app, numOf_snoc', ihl.1, ihl.2]
        exact ⟨rfl, rfl⟩
    · rw [pd_step (by omega), allDig_app, numOf_snoc', (ih (n / 10) (by omega) (l - 1)).1, (ih (n / 10) (by omega) (l - 1)).2]
      have := isDig_ofNat n
      have e : (UInt8.ofNat (48 + n % 10)).toNat = 48 + n % 10 := by rw [UInt8.toNat_ofNat']; omega
      rw [e]
      refine ⟨?_, by omega⟩
      unfold allDig
      rw [List.all_cons, this]; rfl

theorem pd2_len {n : Nat} (h : n < 100) : (pd 2 n).length = 2 := by
  rw [pd_step (by omega), pd_step (by omega), show n / 10 / 10 = 0 by omega, show 2 - 1 - 1 = 0 from rfl, pd_nil]; rfl
theorem pd1_len {n : Nat} (h : n < 1000) : 1 ≤ (pd 1 n).length ∧ (pd 1 n).length ≤ 3 := by
  rw [pd_step (by omega), show 1 - 1 = 0 from rfl]
  by_cases h1 : n / 10 = 0
  · rw [h1, pd_nil]; simp
  · rw [pd_step (by omega), show 0 - 1 = 0 from rfl]
    by_cases h2 : n / 10 / 10 = 0
    · rw [h2, pd_nil]; simp
    · rw [pd_step (by omega), show n / 10 / 10 / 10 = 0 by omega, show 0 - 1 = 0 from rfl, pd_nil]; simp

theorem dig_ne {b : UInt8} (h : isDig b = true) : b ≠ 58 := by rintro rfl; simp [isDig] at h
theorem pcs_dig (a : List UInt8) (h : allDig a = true) : ∀ cur r, pcs cur (a ++ r) = pcs (cur ++ a) r := by
  induction a with
  | nil => intro cur r; simp
  | cons b a ih =>
    intro cur r
    simp only [allDig, List.all_cons, Bool.and_eq_true] at h
    have hb := dig_ne h.1
    show (if b = 58 then cur :: pcs [] (a ++ r) else pcs (cur ++ [b]) (a ++ r)) = _
    rw [if_neg hb, ih (by simpa [allDig] using h.2), List.append_assoc]; rfl
theorem pcs_colon (cur r : List UInt8) : pcs cur ([58] ++ r) = cur :: pcs [] r := by
  show (if (58 : UInt8) = 58 then cur :: pcs [] r else pcs (cur ++ [58]) r) = _
  simp

theorem pcs_hms (h m s : Nat) : pcs [] (hms h m s) = pd 1 h :: pd 2 m :: if s = 0 then [] else [pd 2 s] := by
  unfold hms
  have d1 := (pd_dig h 1).1
  have d2 := (pd_dig m 2).1
  have d3 := (pd_dig s 2).1
  rw [List.append_assoc, List.append_assoc, pcs_dig _ d1, pcs_colon, List.nil_append, pcs_dig _ d2, List.nil_append]
  by_cases hs : s = 0
  · simp [hs, pcs]
  · rw [if_neg hs, if_neg hs, pcs_colon]
    have := pcs_dig _ d3 [] []
    rw [List.append_nil, List.nil_append] at this
    rw [this]; rfl

theorem hms_read {h m s : Nat} (hh : h < 1000) (hm : m < 60) (hs : s < 60) : readOk (hms h m s) = true ∧ readV (hms h m s) = 3600 * h + 60 * m + s := by
  have d1 := pd_dig h 1
  have d2 := pd_dig m 2
  have d3 := pd_dig s 2
  have l1 := pd1_len hh
  have l2 := pd2_len (n := m) (by omega)
  have l3 := pd2_len (n := s) (by omega)
  unfold readOk readV
  rw [pcs_hms]
  have f1 : fldOk 0 (pd 1 h) = true := by simp [fldOk, fw, mo, bl, d1.1, d1.2, l1.1, l1.2, hh]
  have f2 : fldOk 1 (pd 2 m) = true := by simp [fldOk, fw, mo, bl, d2.1, d2.2, l2, hm]
  have f3 : fldOk 2 (pd 2 s) = true := by simp [fldOk, fw, mo, bl, d3.1, d3.2, l3, hs]
  by_cases h0 : s = 0
  · simp [h0, ix, okP, sumP, f1, f2, fldV, un, d1.2, d2.2]; omega
  · simp [h0, ix, okP, sumP, f1, f2, f3, fldV, un, d1.2, d2.2, d3.2]; omega

theorem textN_read {n : Nat} (h : n < 604800) : readOk (textN n) = true ∧ readV (textN n) = n := by
  have := hms_read (h := n / 3600) (m := n % 3600 / 60) (s := n % 60) (by omega) (by omega) (by omega)
  refine ⟨this.1, this.2.trans ?_⟩
  omega

theorem hms_len {h m s : Nat} (hh : h < 1000) (hm : m < 60) (hs : s < 60) : (hms h m s).length ≤ 9 ∧ 1 ≤ (hms h m s).length := by
  have l1 := pd1_len hh
  have l2 := pd2_len (n := m) (by omega)
  have l3 := pd2_len (n := s) (by omega)
  unfold hms
  by_cases h0 : s = 0 <;> simp [h0, l2, l3] <;> omega
theorem textL_len {n : Int} (h1 : -604800 < n) (h2 : n < 604800) : (textL n).length ≤ 10 := by
  have := hms_len (h := n.natAbs / 3600) (m := n.natAbs % 3600 / 60) (s := n.natAbs % 60) (by omega) (by omega) (by omega)
  unfold textL textN
  split <;> simp <;> omega

theorem textN_head (n : Nat) : ∃ b r, textN n = b :: r ∧ isDig b = true := by
  have key : ∀ x y : List UInt8, allDig x = true → 1 ≤ x.length → ∃ b r, x ++ y = b :: r ∧ isDig b = true := by
    intro x y hx hl
    cases x with
    | nil => simp at hl
    | cons b r =>
      simp only [allDig, List.all_cons, Bool.and_eq_true] at hx
      exact ⟨b, r ++ y, rfl, hx.1⟩
  unfold textN hms
  have d := (pd_dig (n / 3600) 1).1
  rw [List.append_assoc, List.append_assoc]
  refine key _ _ d ?_
  rw [pd_step (by omega), List.length_append]
  simp

theorem hasPre (b : UInt8) (r : List UInt8) : Lib.hasPrefix (b :: r) [45] = decide (b = 45) := by
  unfold Lib.hasPrefix
  by_cases h : b = 45
  · subst h; simp
  · simp [List.isPrefixOf, h, Ne.symm h]
theorem textL_trim (n : Int) : Lib.hasPrefix (textL n) [45] = decide (n < 0) ∧ Lib.trimPrefix (textL n) [45] = textN n.natAbs := by
  unfold Lib.trimPrefix textL
  by_cases h : n < 0
  · have e : (if n < 0 then [45] else []) ++ textN n.natAbs = (45 : UInt8) :: textN n.natAbs := by rw [if_pos h]; rfl
    rw [e, hasPre]
    simp [h]
  · rw [if_neg h, List.nil_append]
    obtain ⟨b, r, e, d⟩ := textN_head n.natAbs
    have hb : b ≠ 45 := by rintro rfl; simp [isDig] at d
    rw [e, hasPre]
    simp [h, hb]
theorem textL_ne (n : Int) : textL n ≠ [45] := by
  unfold textL
  obtain ⟨b, r, e, d⟩ := textN_head n.natAbs
  rw [e]
  have hb : b ≠ 45 := by rintro rfl; simp [isDig] at d
  split
  · simp
  · simp [hb]

/-- Span of Text is the span. -/
theorem textL_span {n : Int} (h1 : -604800 < n) (h2 : n < 604800) : spanN (textL n) = n ∧ spanE (textL n) = 0 := by
  have ht := textL_trim n
  have hr := textN_read (n := n.natAbs) (by omega)
  have hne := textL_ne n
  have hl : n.natAbs < 604800 := by omega
  simp only [spanN, spanE, hne, if_false, ht.1, ht.2, hr.1, hr.2, hl, and_self, if_true, decide_eq_true_eq]
  refine ⟨?_, trivial⟩
  split <;> omega

/-- What a text of a span ends with: a digit. -/
theorem textL_last (n : Int) : ∃ b, (textL n).getLast? = some b ∧ isDig b = true := by
  have key : ∀ (x : List UInt8) (l k : Nat), ¬ (k = 0 ∧ l = 0) → ∃ b, (x ++ pd l k).getLast? = some b ∧ isDig b = true := by
    intro x l k hk
    rw [pd_step hk, ← List.append_assoc]
    exact ⟨_, List.getLast?_concat, isDig_ofNat _⟩
  unfold textL textN hms
  by_cases hs : n.natAbs % 60 = 0
  · rw [if_pos hs, List.append_nil, ← List.append_assoc]
    exact key _ 2 _ (by omega)
  · rw [if_neg hs, ← List.append_assoc, ← List.append_assoc]
    exact key _ 2 _ (by omega)
end Go.Proofs.YtfmehdophoejiaaGreatDoor

namespace Go.Proofs.YtfmehdophoejiaaGreatDoor
open Go.RowKit

theorem text_no (n : Int) (w : World) (h : ¬ (-604800 < n ∧ n < 604800)) :
    Calls Tryz.prog 71 #[.int .i64 n] w fun e w' => e = .returned (.tuple #[.string ⟨#[]⟩, .int .i64 10]) ∧ Below w.heap.size w w' := by
  have H := Lib.hid h
  clear h
  go_enter Tryz.func71, Tryz.ntmps71
  go_wp2_with (go_at_call 107; refine (mayBe_no _ _ H.out).mono ?_; rintro e w2 ⟨rfl, rfl⟩)
  go_ret2
  exact ⟨rfl, Below.refl _ _⟩

set_option maxHeartbeats 3200000 in
theorem text_pos0 (h m s : Nat) (T : List UInt8) (w : World) (hT : Hid (([] : List UInt8) ++ hms h m s = T)) (hp : PowAt w) (hh : h < 168) (hm : m < 60) (_ : s < 60) (hz : s = 0) :
    Calls Tryz.prog 71 #[.int .i64 (3600 * h + 60 * m + s)] w fun e w' => e = .returned (.tuple #[.string ⟨T.toArray⟩, .int .i64 0]) ∧ Below w.heap.size w w' := by
  have hmf : ∀ (fn : Fn) (first cap : Array Value) (w : World), (Instr.makeFunc fn first cap).run Tryz.prog w = .ok (.func fn first cap) w := fun _ _ _ _ => rfl
  have HP := Lib.hid hp
  have HZ := Lib.hid hz
  obtain ⟨n, hn⟩ : ∃ n : Nat, 3600 * h + 60 * m + s = n := ⟨_, rfl⟩
  have e0 : (3600 * h + 60 * m + s : Int) = (n : Int) := by omega
  rw [e0]
  have e1 : (n : Int) / 3600 = (h : Int) := by omega
  have e2 : (n : Int) % 3600 / 60 = (m : Int) := by omega
  have e3 : (n : Int) % 60 = (s : Int) := by omega
  have B1 : Hid (-604800 < (n : Int)) := (by omega : -604800 < (n : Int))
  have B2 : Hid ((n : Int) < 604800) := (by omega : (n : Int) < 604800)
  have l1 := pd1_len (n := h) (by omega)
  have l2 := pd2_len (n := m) (by omega)
  have l3 := pd2_len (n := s) (by omega)
  have b3 : decide ((n : Int) < 0) = false := by simp only [decide_eq_false_iff_not]; omega
  clear hp hn e0 hz
  go_enter Tryz.func71, Tryz.ntmps71
  go_wp2_with (first
    | (go_at_call 107; refine (mayBe_yes _ _ B1.out B2.out).mono ?_; rintro e w2 ⟨rfl, rfl⟩; simp only []))
  have K1 : Hid (Below w.heap.size w (w.alloc (.cells #[.slice none 0 0] 116))) := (Below.refl _ _).alloc (Nat.le_refl _) _
  have P1 := Lib.hid (TextIs.new w)
  refine (dig_any h 1 w.heap.size (([] : List UInt8)) _ (by omega) (by omega) (by omega) (by simp) (HP.out.next K1.out) P1.out).mono ?_
  rintro e w2 ⟨rfl, x2, b2⟩
  simp only []
  have K2 := Lib.hid (K1.out.trans b2)
  clear b2
  generalize hx2 : (([] : List UInt8)) ++ pd 1 h = L2 at x2
  have X2L := Lib.hid hx2
  have hL2 : L2.length ≤ 20 := by rw [← hx2]; simp only [List.length_append, List.length_nil]; omega
  clear hx2
  obtain ⟨A2, c2, X2⟩ := x2
  have hc2 := X2.cell
  have hf2 := X2.frozen
  have hlt2 := X2.lt
  have Y2 := Lib.hid (X2.next ((Below.refl _ _).alloc (Nat.le_refl _) (.cells #[.int .u8 58] 5)))
  clear X2
  go_wp2_with (first
    | (at_builtin
       refine wpList_push1 (by rfl) (.tmp 22) (.tmp 23) (by rfl) (n := L2.length) (m := L2.length + 1) rfl rfl Y2.out (by rfl) ⟨w2.heap.size, 0, none⟩ 58 (by rfl) (by simp) (by omega) ?_
       intro A2' c2' v2 p1 p2 p3 p4
       have P2 := Lib.hid p1
       have K2' := Lib.hid ((K2.out.alloc (by have := K2.out.size; omega) (.cells #[.int .u8 58] 5)).trans p2)
       clear p1 p2 hc2 hf2 Y2))
  clear p3 p4
  clear b3
  refine (dig_any m 2 w.heap.size (L2 ++ [58]) _ (by omega) (by omega) (by omega) (by simp; omega) (HP.out.next K2'.out) P2.out).mono ?_
  rintro e w3 ⟨rfl, x3, b3⟩
  simp only []
  have K3 := Lib.hid (K2'.out.trans b3)
  clear b3
  generalize hx3 : (L2 ++ [58]) ++ pd 2 m = L3 at x3
  have X3L := Lib.hid hx3
  have hL3 : L3.length ≤ 30 := by rw [← hx3]; simp only [List.length_append, List.length_cons, List.length_nil]; omega
  clear hx3
  have b4 : decide (0 < s) = false := by have := HZ.out; simp only [decide_eq_false_iff_not]; omega
  have b5 : decide (0 < (s : Int)) = false := by have := HZ.out; simp only [decide_eq_false_iff_not]; omega
  obtain ⟨A9, c9, X9⟩ := x3
  have hc9 := X9.cell
  have hf9 := X9.frozen
  have hlt9 := X9.lt
  have l9 : 0 < L3.length := by rw [← X3L.out]; simp only [List.length_append, List.length_cons]; omega
  have hcv := text_string X9 l9
  clear X9
  go_wp2
  go_ret2
  have E : T = L3 := by
    rw [← hT.out]
    unfold hms
    rw [← X3L.out, ← X2L.out, if_pos HZ.out]
    simp
  rw [E]
  exact ⟨rfl, K3.out⟩

set_option maxHeartbeats 3200000 in
theorem text_poss (h m s : Nat) (T : List UInt8) (w : World) (hT : Hid (([] : List UInt8) ++ hms h m s = T)) (hp : PowAt w) (hh : h < 168) (hm : m < 60) (hs : s < 60) (hz : 0 < s) :
    Calls Tryz.prog 71 #[.int .i64 (3600 * h + 60 * m + s)] w fun e w' => e = .returned (.tuple #[.string ⟨T.toArray⟩, .int .i64 0]) ∧ Below w.heap.size w w' := by
  have hmf : ∀ (fn : Fn) (first cap : Array Value) (w : World), (Instr.makeFunc fn first cap).run Tryz.prog w = .ok (.func fn first cap) w := fun _ _ _ _ => rfl
  have HP := Lib.hid hp
  have HZ := Lib.hid hz
  obtain ⟨n, hn⟩ : ∃ n : Nat, 3600 * h + 60 * m + s = n := ⟨_, rfl⟩
  have e0 : (3600 * h + 60 * m + s : Int) = (n : Int) := by omega
  rw [e0]
  have e1 : (n : Int) / 3600 = (h : Int) := by omega
  have e2 : (n : Int) % 3600 / 60 = (m : Int) := by omega
  have e3 : (n : Int) % 60 = (s : Int) := by omega
  have B1 : Hid (-604800 < (n : Int)) := (by omega : -604800 < (n : Int))
  have B2 : Hid ((n : Int) < 604800) := (by omega : (n : Int) < 604800)
  have l1 := pd1_len (n := h) (by omega)
  have l2 := pd2_len (n := m) (by omega)
  have l3 := pd2_len (n := s) (by omega)
  have b3 : decide ((n : Int) < 0) = false := by simp only [decide_eq_false_iff_not]; omega
  clear hp hn e0 hz
  go_enter Tryz.func71, Tryz.ntmps71
  go_wp2_with (first
    | (go_at_call 107; refine (mayBe_yes _ _ B1.out B2.out).mono ?_; rintro e w2 ⟨rfl, rfl⟩; simp only []))
  have K1 : Hid (Below w.heap.size w (w.alloc (.cells #[.slice none 0 0] 116))) := (Below.refl _ _).alloc (Nat.le_refl _) _
  have P1 := Lib.hid (TextIs.new w)
  refine (dig_any h 1 w.heap.size (([] : List UInt8)) _ (by omega) (by omega) (by omega) (by simp) (HP.out.next K1.out) P1.out).mono ?_
  rintro e w2 ⟨rfl, x2, b2⟩
  simp only []
  have K2 := Lib.hid (K1.out.trans b2)
  clear b2
  generalize hx2 : (([] : List UInt8)) ++ pd 1 h = L2 at x2
  have X2L := Lib.hid hx2
  have hL2 : L2.length ≤ 20 := by rw [← hx2]; simp only [List.length_append, List.length_nil]; omega
  clear hx2
  obtain ⟨A2, c2, X2⟩ := x2
  have hc2 := X2.cell
  have hf2 := X2.frozen
  have hlt2 := X2.lt
  have Y2 := Lib.hid (X2.next ((Below.refl _ _).alloc (Nat.le_refl _) (.cells #[.int .u8 58] 5)))
  clear X2
  go_wp2_with (first
    | (at_builtin
       refine wpList_push1 (by rfl) (.tmp 22) (.tmp 23) (by rfl) (n := L2.length) (m := L2.length + 1) rfl rfl Y2.out (by rfl) ⟨w2.heap.size, 0, none⟩ 58 (by rfl) (by simp) (by omega) ?_
       intro A2' c2' v2 p1 p2 p3 p4
       have P2 := Lib.hid p1
       have K2' := Lib.hid ((K2.out.alloc (by have := K2.out.size; omega) (.cells #[.int .u8 58] 5)).trans p2)
       clear p1 p2 hc2 hf2 Y2))
  clear p3 p4
  clear b3
  refine (dig_any m 2 w.heap.size (L2 ++ [58]) _ (by omega) (by omega) (by omega) (by simp; omega) (HP.out.next K2'.out) P2.out).mono ?_
  rintro e w3 ⟨rfl, x3, b3⟩
  simp only []
  have K3 := Lib.hid (K2'.out.trans b3)
  clear b3
  generalize hx3 : (L2 ++ [58]) ++ pd 2 m = L3 at x3
  have X3L := Lib.hid hx3
  have hL3 : L3.length ≤ 30 := by rw [← hx3]; simp only [List.length_append, List.length_cons, List.length_nil]; omega
  clear hx3
  have b4 : 0 < s := HZ.out
  have b5 : 0 < (s : Int) := by omega
  obtain ⟨A3, c3, X3⟩ := x3
  have hc3 := X3.cell
  have hf3 := X3.frozen
  have hlt3 := X3.lt
  have Y3 := Lib.hid (X3.next ((Below.refl _ _).alloc (Nat.le_refl _) (.cells #[.int .u8 58] 5)))
  clear X3
  go_wp2_with (first
    | (at_builtin
       refine wpList_push1 (by rfl) (.tmp 34) (.tmp 35) (by rfl) (n := L3.length) (m := L3.length + 1) rfl rfl Y3.out (by rfl) ⟨w3.heap.size, 0, none⟩ 58 (by rfl) (by simp) (by omega) ?_
       intro A3' c3' v3 p1 p2 p3 p4
       have P3 := Lib.hid p1
       have K3' := Lib.hid ((K3.out.alloc (by have := K3.out.size; omega) (.cells #[.int .u8 58] 5)).trans p2)
       clear p1 p2 hc3 hf3 Y3))
  clear p3 p4
  refine (dig_any s 2 w.heap.size (L3 ++ [58]) _ (by omega) (by omega) (by omega) (by simp; omega) (HP.out.next K3'.out) P3.out).mono ?_
  rintro e w4 ⟨rfl, x4, b4⟩
  simp only []
  have K4 := Lib.hid (K3'.out.trans b4)
  clear b4
  generalize hx4 : (L3 ++ [58]) ++ pd 2 s = L4 at x4
  have X4L := Lib.hid hx4
  have hL4 : L4.length ≤ 40 := by rw [← hx4]; simp only [List.length_append, List.length_cons, List.length_nil]; omega
  clear hx4
  obtain ⟨A9, c9, X9⟩ := x4
  have hc9 := X9.cell
  have hf9 := X9.frozen
  have hlt9 := X9.lt
  have l9 : 0 < L4.length := by rw [← X4L.out]; simp only [List.length_append, List.length_cons]; omega
  have hcv := text_string X9 l9
  clear X9
  go_wp2
  go_ret2
  have E : T = L4 := by
    rw [← hT.out]
    unfold hms
    rw [← X4L.out, ← X3L.out, ← X2L.out, if_neg (by have := HZ.out; omega)]
    simp
  rw [E]
  exact ⟨rfl, K4.out⟩

set_option maxHeartbeats 3200000 in
theorem text_neg0 (h m s : Nat) (T : List UInt8) (w : World) (hT : Hid ([45] ++ hms h m s = T)) (hp : PowAt w) (hh : h < 168) (hm : m < 60) (_ : s < 60) (hz : s = 0) (h0 : 0 < 3600 * h + 60 * m + s) :
    Calls Tryz.prog 71 #[.int .i64 (-(3600 * h + 60 * m + s))] w fun e w' => e = .returned (.tuple #[.string ⟨T.toArray⟩, .int .i64 0]) ∧ Below w.heap.size w w' := by
  have hmf : ∀ (fn : Fn) (first cap : Array Value) (w : World), (Instr.makeFunc fn first cap).run Tryz.prog w = .ok (.func fn first cap) w := fun _ _ _ _ => rfl
  have HP := Lib.hid hp
  have HZ := Lib.hid hz
  obtain ⟨n, hn⟩ : ∃ n : Nat, 3600 * h + 60 * m + s = n := ⟨_, rfl⟩
  have e0 : (3600 * h + 60 * m + s : Int) = (n : Int) := by omega
  rw [e0]
  have e1 : (n : Int) / 3600 = (h : Int) := by omega
  have e2 : (n : Int) % 3600 / 60 = (m : Int) := by omega
  have e3 : (n : Int) % 60 = (s : Int) := by omega
  have B1 : Hid (-604800 < -(n : Int)) := (by omega : -604800 < -(n : Int))
  have B2 : Hid (-(n : Int) < 604800) := (by omega : -(n : Int) < 604800)
  have l1 := pd1_len (n := h) (by omega)
  have l2 := pd2_len (n := m) (by omega)
  have l3 := pd2_len (n := s) (by omega)
  have b3 : 0 < (n : Int) := by omega
  clear hp hn e0 hz h0
  go_enter Tryz.func71, Tryz.ntmps71
  go_wp2_with (first
    | (go_at_call 107; refine (mayBe_yes _ _ B1.out B2.out).mono ?_; rintro e w2 ⟨rfl, rfl⟩; simp only [])
    | (at_builtin
       have X1 : Hid (TextAt w.heap.size none 0 [] ((w.alloc (.cells #[.slice none 0 0] 116)).alloc (.cells #[.int .u8 45] 5))) := (TextAt.new w).next ((Below.refl _ _).alloc (Nat.le_refl _) _)
       refine wpList_push1 (by rfl) (.tmp 13) (.tmp 14) (by rfl) (n := 0) (m := 1) rfl rfl X1.out (by rfl) ⟨w.heap.size + 1, 0, none⟩ 45 (by rfl) (by simp) (by omega) ?_
       intro A1 c1 w1 p1 p2 p3 p4
       have P1 := Lib.hid p1
       have K1 := Lib.hid (((((Below.refl w.heap.size w).alloc (Nat.le_refl _) (.cells #[.slice none 0 0] 116)).alloc (by simp) (.cells #[.int .u8 45] 5))).trans p2)
       clear p1 p2 X1))
  refine (dig_any h 1 w.heap.size (([] : List UInt8) ++ [45]) _ (by omega) (by omega) (by omega) (by simp) (HP.out.next K1.out) P1.out).mono ?_
  rintro e w2 ⟨rfl, x2, b2⟩
  simp only []
  have K2 := Lib.hid (K1.out.trans b2)
  clear b2
  generalize hx2 : (([] : List UInt8) ++ [45]) ++ pd 1 h = L2 at x2
  have X2L := Lib.hid hx2
  have hL2 : L2.length ≤ 20 := by rw [← hx2]; simp only [List.length_append, List.length_cons, List.length_nil]; omega
  clear hx2
  obtain ⟨A2, c2, X2⟩ := x2
  have hc2 := X2.cell
  have hf2 := X2.frozen
  have hlt2 := X2.lt
  have Y2 := Lib.hid (X2.next ((Below.refl _ _).alloc (Nat.le_refl _) (.cells #[.int .u8 58] 5)))
  clear X2
  go_wp2_with (first
    | (at_builtin
       refine wpList_push1 (by rfl) (.tmp 22) (.tmp 23) (by rfl) (n := L2.length) (m := L2.length + 1) rfl rfl Y2.out (by rfl) ⟨w2.heap.size, 0, none⟩ 58 (by rfl) (by simp) (by omega) ?_
       intro A2' c2' v2 p1 p2 p3 p4
       have P2 := Lib.hid p1
       have K2' := Lib.hid ((K2.out.alloc (by have := K2.out.size; omega) (.cells #[.int .u8 58] 5)).trans p2)
       clear p1 p2 hc2 hf2 Y2))
  clear p3 p4
  refine (dig_any m 2 w.heap.size (L2 ++ [58]) _ (by omega) (by omega) (by omega) (by simp; omega) (HP.out.next K2'.out) P2.out).mono ?_
  rintro e w3 ⟨rfl, x3, b3⟩
  simp only []
  have K3 := Lib.hid (K2'.out.trans b3)
  clear b3
  generalize hx3 : (L2 ++ [58]) ++ pd 2 m = L3 at x3
  have X3L := Lib.hid hx3
  have hL3 : L3.length ≤ 30 := by rw [← hx3]; simp only [List.length_append, List.length_cons, List.length_nil]; omega
  clear hx3
  have b4 : decide (0 < s) = false := by have := HZ.out; simp only [decide_eq_false_iff_not]; omega
  have b5 : decide (0 < (s : Int)) = false := by have := HZ.out; simp only [decide_eq_false_iff_not]; omega
  obtain ⟨A9, c9, X9⟩ := x3
  have hc9 := X9.cell
  have hf9 := X9.frozen
  have hlt9 := X9.lt
  have l9 : 0 < L3.length := by rw [← X3L.out]; simp only [List.length_append, List.length_cons]; omega
  have hcv := text_string X9 l9
  clear X9
  go_wp2
  go_ret2
  have E : T = L3 := by
    rw [← hT.out]
    unfold hms
    rw [← X3L.out, ← X2L.out, if_pos HZ.out]
    simp
  rw [E]
  exact ⟨rfl, K3.out⟩

set_option maxHeartbeats 3200000 in
theorem text_negs (h m s : Nat) (T : List UInt8) (w : World) (hT : Hid ([45] ++ hms h m s = T)) (hp : PowAt w) (hh : h < 168) (hm : m < 60) (hs : s < 60) (hz : 0 < s) (h0 : 0 < 3600 * h + 60 * m + s) :
    Calls Tryz.prog 71 #[.int .i64 (-(3600 * h + 60 * m + s))] w fun e w' => e = .returned (.tuple #[.string ⟨T.toArray⟩, .int .i64 0]) ∧ Below w.heap.size w w' := by
  have hmf : ∀ (fn : Fn) (first cap : Array Value) (w : World), (Instr.makeFunc fn first cap).run Tryz.prog w = .ok (.func fn first cap) w := fun _ _ _ _ => rfl
  have HP := Lib.hid hp
  have HZ := Lib.hid hz
  obtain ⟨n, hn⟩ : ∃ n : Nat, 3600 * h + 60 * m + s = n := ⟨_, rfl⟩
  have e0 : (3600 * h + 60 * m + s : Int) = (n : Int) := by omega
  rw [e0]
  have e1 : (n : Int) / 3600 = (h : Int) := by omega
  have e2 : (n : Int) % 3600 / 60 = (m : Int) := by omega
  have e3 : (n : Int) % 60 = (s : Int) := by omega
  have B1 : Hid (-604800 < -(n : Int)) := (by omega : -604800 < -(n : Int))
  have B2 : Hid (-(n : Int) < 604800) := (by omega : -(n : Int) < 604800)
  have l1 := pd1_len (n := h) (by omega)
  have l2 := pd2_len (n := m) (by omega)
  have l3 := pd2_len (n := s) (by omega)
  have b3 : 0 < (n : Int) := by omega
  clear hp hn e0 hz h0
  go_enter Tryz.func71, Tryz.ntmps71
  go_wp2_with (first
    | (go_at_call 107; refine (mayBe_yes _ _ B1.out B2.out).mono ?_; rintro e w2 ⟨rfl, rfl⟩; simp only [])
    | (at_builtin
       have X1 : Hid (TextAt w.heap.size none 0 [] ((w.alloc (.cells #[.slice none 0 0] 116)).alloc (.cells #[.int .u8 45] 5))) := (TextAt.new w).next ((Below.refl _ _).alloc (Nat.le_refl _) _)
       refine wpList_push1 (by rfl) (.tmp 13) (.tmp 14) (by rfl) (n := 0) (m := 1) rfl rfl X1.out (by rfl) ⟨w.heap.size + 1, 0, none⟩ 45 (by rfl) (by simp) (by omega) ?_
       intro A1 c1 w1 p1 p2 p3 p4
       have P1 := Lib.hid p1
       have K1 := Lib.hid (((((Below.refl w.heap.size w).alloc (Nat.le_refl _) (.cells #[.slice none 0 0] 116)).alloc (by simp) (.cells #[.int .u8 45] 5))).trans p2)
       clear p1 p2 X1))
  refine (dig_any h 1 w.heap.size (([] : List UInt8) ++ [45]) _ (by omega) (by omega) (by omega) (by simp) (HP.out.next K1.out) P1.out).mono ?_
  rintro e w2 ⟨rfl, x2, b2⟩
  simp only []
  have K2 := Lib.hid (K1.out.trans b2)
  clear b2
  generalize hx2 : (([] : List UInt8) ++ [45]) ++ pd 1 h = L2 at x2
  have X2L := Lib.hid hx2
  have hL2 : L2.length ≤ 20 := by rw [← hx2]; simp only [List.length_append, List.length_cons, List.length_nil]; omega
  clear hx2
  obtain ⟨A2, c2, X2⟩ := x2
  have hc2 := X2.cell
  have hf2 := X2.frozen
  have hlt2 := X2.lt
  have Y2 := Lib.hid (X2.next ((Below.refl _ _).alloc (Nat.le_refl _) (.cells #[.int .u8 58] 5)))
  clear X2
  go_wp2_with (first
    | (at_builtin
       refine wpList_push1 (by rfl) (.tmp 22) (.tmp 23) (by rfl) (n := L2.length) (m := L2.length + 1) rfl rfl Y2.out (by rfl) ⟨w2.heap.size, 0, none⟩ 58 (by rfl) (by simp) (by omega) ?_
       intro A2' c2' v2 p1 p2 p3 p4
       have P2 := Lib.hid p1
       have K2' := Lib.hid ((K2.out.alloc (by have := K2.out.size; omega) (.cells #[.int .u8 58] 5)).trans p2)
       clear p1 p2 hc2 hf2 Y2))
  clear p3 p4
  refine (dig_any m 2 w.heap.size (L2 ++ [58]) _ (by omega) (by omega) (by omega) (by simp; omega) (HP.out.next K2'.out) P2.out).mono ?_
  rintro e w3 ⟨rfl, x3, b3⟩
  simp only []
  have K3 := Lib.hid (K2'.out.trans b3)
  clear b3
  generalize hx3 : (L2 ++ [58]) ++ pd 2 m = L3 at x3
  have X3L := Lib.hid hx3
  have hL3 : L3.length ≤ 30 := by rw [← hx3]; simp only [List.length_append, List.length_cons, List.length_nil]; omega
  clear hx3
  have b4 : 0 < s := HZ.out
  have b5 : 0 < (s : Int) := by omega
  obtain ⟨A3, c3, X3⟩ := x3
  have hc3 := X3.cell
  have hf3 := X3.frozen
  have hlt3 := X3.lt
  have Y3 := Lib.hid (X3.next ((Below.refl _ _).alloc (Nat.le_refl _) (.cells #[.int .u8 58] 5)))
  clear X3
  go_wp2_with (first
    | (at_builtin
       refine wpList_push1 (by rfl) (.tmp 34) (.tmp 35) (by rfl) (n := L3.length) (m := L3.length + 1) rfl rfl Y3.out (by rfl) ⟨w3.heap.size, 0, none⟩ 58 (by rfl) (by simp) (by omega) ?_
       intro A3' c3' v3 p1 p2 p3 p4
       have P3 := Lib.hid p1
       have K3' := Lib.hid ((K3.out.alloc (by have := K3.out.size; omega) (.cells #[.int .u8 58] 5)).trans p2)
       clear p1 p2 hc3 hf3 Y3))
  clear p3 p4
  refine (dig_any s 2 w.heap.size (L3 ++ [58]) _ (by omega) (by omega) (by omega) (by simp; omega) (HP.out.next K3'.out) P3.out).mono ?_
  rintro e w4 ⟨rfl, x4, b4⟩
  simp only []
  have K4 := Lib.hid (K3'.out.trans b4)
  clear b4
  generalize hx4 : (L3 ++ [58]) ++ pd 2 s = L4 at x4
  have X4L := Lib.hid hx4
  have hL4 : L4.length ≤ 40 := by rw [← hx4]; simp only [List.length_append, List.length_cons, List.length_nil]; omega
  clear hx4
  obtain ⟨A9, c9, X9⟩ := x4
  have hc9 := X9.cell
  have hf9 := X9.frozen
  have hlt9 := X9.lt
  have l9 : 0 < L4.length := by rw [← X4L.out]; simp only [List.length_append, List.length_cons]; omega
  have hcv := text_string X9 l9
  clear X9
  go_wp2
  go_ret2
  have E : T = L4 := by
    rw [← hT.out]
    unfold hms
    rw [← X4L.out, ← X3L.out, ← X2L.out, if_neg (by have := HZ.out; omega)]
    simp
  rw [E]
  exact ⟨rfl, K4.out⟩

theorem text_nat (n : Nat) (w : World) (hp : PowAt w) (h : n < 604800) :
    Calls Tryz.prog 71 #[.int .i64 n] w fun e w' => e = .returned (.tuple #[.string ⟨([] ++ textN n).toArray⟩, .int .i64 0]) ∧ Below w.heap.size w w' := by
  have e : (n : Int) = 3600 * (n / 3600 : Nat) + 60 * (n % 3600 / 60 : Nat) + (n % 60 : Nat) := by omega
  unfold textN
  rw [e]
  rcases Nat.eq_zero_or_pos (n % 60) with h0 | h0
  · exact text_pos0 _ _ _ _ w (Lib.hid rfl) hp (by omega) (by omega) (by omega) h0
  · exact text_poss _ _ _ _ w (Lib.hid rfl) hp (by omega) (by omega) (by omega) h0
theorem text_min (n : Nat) (w : World) (hp : PowAt w) (h : n < 604800) (hn : 0 < n) :
    Calls Tryz.prog 71 #[.int .i64 (-(n : Int))] w fun e w' => e = .returned (.tuple #[.string ⟨([45] ++ textN n).toArray⟩, .int .i64 0]) ∧ Below w.heap.size w w' := by
  have e : (n : Int) = 3600 * (n / 3600 : Nat) + 60 * (n % 3600 / 60 : Nat) + (n % 60 : Nat) := by omega
  unfold textN
  rw [e]
  rcases Nat.eq_zero_or_pos (n % 60) with h0 | h0
  · exact text_neg0 _ _ _ _ w (Lib.hid rfl) hp (by omega) (by omega) (by omega) h0 (by omega)
  · exact text_negs _ _ _ _ w (Lib.hid rfl) hp (by omega) (by omega) (by omega) h0 (by omega)
theorem text_yes (n : Int) (w : World) (hp : PowAt w) (h1 : -604800 < n) (h2 : n < 604800) :
    Calls Tryz.prog 71 #[.int .i64 n] w fun e w' => e = .returned (.tuple #[.string ⟨(textL n).toArray⟩, .int .i64 0]) ∧ Below w.heap.size w w' := by
  by_cases h : n < 0
  · obtain ⟨k, hk⟩ := Int.eq_ofNat_of_zero_le (show 0 ≤ -n by omega)
    obtain rfl : n = -(k : Int) := by omega
    have := text_min k w hp (by omega) (by omega)
    rwa [show [45] ++ textN k = textL (-(k : Int)) by unfold textL; rw [if_pos h]; simp] at this
  · obtain ⟨k, rfl⟩ := Int.eq_ofNat_of_zero_le (show 0 ≤ n by omega)
    have := text_nat k w hp (by omega)
    rwa [show [] ++ textN k = textL (k : Int) by unfold textL; rw [if_neg h]; simp] at this
end Go.Proofs.YtfmehdophoejiaaGreatDoor

namespace Go.Proofs.YtfmehdophoejiaaGreatDoor
open Go.RowKit

structure MarkAt (w : World) : Prop where
  m0 : w.cell? ⟨2, 0, none⟩ = some (.string ⟨#[]⟩)
  m1 : w.cell? ⟨2, 1, none⟩ = some (.string ⟨#[115]⟩)
  m2 : w.cell? ⟨2, 2, none⟩ = some (.string ⟨#[117]⟩)
theorem MarkAt.lt {w : World} (h : MarkAt w) : 2 < w.heap.size := cell_lt h.m0
theorem MarkAt.next {w w' : World} (h : MarkAt w) (k : Below w.heap.size w w') : MarkAt w' :=
  ⟨by rw [k.cell h.lt]; exact h.m0, by rw [k.cell h.lt]; exact h.m1, by rw [k.cell h.lt]; exact h.m2⟩

/-- May a time of a day be? -/
def okT (n k : Int) : Prop := (-604800 < n ∧ n < 604800) ∧ (k = 0 ∨ k = 1 ∨ k = 2)
def markL (k : Int) : List UInt8 := if k = 1 then [115] else if k = 2 then [117] else []
def timeL (n k : Int) : List UInt8 := textL n ++ markL k

theorem print_kind (n k : Int) (w : World) (h : k < 0 ∨ 2 < k) :
    Calls Tryz.prog 70 #[.agg #[.int .i64 n, .int .i64 k]] w fun e w' => e = .returned (.tuple #[.string ⟨#[]⟩, .int .i64 10]) ∧ Below w.heap.size w w' := by
  rcases h with h | h
  · go_enter Tryz.func70, Tryz.ntmps70
    go_wp2
    go_ret2
    exact ⟨rfl, (Below.refl _ _).alloc (Nat.le_refl _) _⟩
  · have h3 : 3 ≤ k := by omega
    have h0 : 0 ≤ k := by omega
    go_enter Tryz.func70, Tryz.ntmps70
    go_wp2
    go_ret2
    exact ⟨rfl, (Below.refl _ _).alloc (Nat.le_refl _) _⟩

theorem print_sec (n k : Int) (w : World) (h : ¬ (-604800 < n ∧ n < 604800)) (h0 : 0 ≤ k) (h1 : k ≤ 2) :
    Calls Tryz.prog 70 #[.agg #[.int .i64 n, .int .i64 k]] w fun e w' => e = .returned (.tuple #[.string ⟨#[]⟩, .int .i64 10]) ∧ Below w.heap.size w w' := by
  have H := Lib.hid h
  have h2 : k < 3 := by omega
  have B := Lib.hid (Blk2.new w n k 32)
  clear h
  go_enter Tryz.func70, Tryz.ntmps70
  go_wp2_with (go_at_call 71; refine (text_no _ _ H.out).mono ?_; rintro e w2 ⟨rfl, k2⟩; simp only [])
  go_ret2
  exact ⟨rfl, (B.out.next k2).bel⟩

theorem cat_lists (x y : List UInt8) : (⟨x.toArray⟩ ++ ⟨y.toArray⟩ : ByteArray) = ⟨(x ++ y).toArray⟩ := by rw [ByteArray.mk_append_mk]

theorem print_yes (n k : Int) (T S M : List UInt8) (w : World) (h1 : -604800 < n) (h2 : n < 604800) (hk : k = 0 ∨ k = 1 ∨ k = 2) (hp : PowAt w) (hm : MarkAt w) (hT : Hid (textL n = T)) (hM : Hid (markL k = M)) (hS : Hid (T ++ M = S)) :
    Calls Tryz.prog 70 #[.agg #[.int .i64 n, .int .i64 k]] w fun e w' => e = .returned (.tuple #[.string ⟨S.toArray⟩, .int .i64 0]) ∧ Below w.heap.size w w' := by
  have H1 := Lib.hid h1
  have H2 := Lib.hid h2
  have tl := textL_len h1 h2
  rw [hT.out] at tl
  have B := Lib.hid (Blk2.new w n k 32)
  have HP := Lib.hid (hp.next B.out.bel)
  have HM := Lib.hid (hm.next B.out.bel)
  clear h1 h2 hp hm
  rcases hk with rfl | rfl | rfl
  all_goals
    go_enter Tryz.func70, Tryz.ntmps70
    go_wp2_with (go_at_call 71; refine (text_yes n _ HP.out H1.out H2.out).mono ?_; rintro e w2 ⟨rfl, k2⟩; rw [hT.out]; simp only []
                 have B2 := Lib.hid (B.out.next k2)
                 have HM2 := Lib.hid (HM.out.next k2)
                 clear k2 B
                 have c1 := B2.out.c1
                 have m0 := HM2.out.m0
                 have m1 := HM2.out.m1
                 have m2 := HM2.out.m2)
    go_ret2
    have eM := hM.out
    simp [markL] at eM
    refine ⟨?_, B2.out.bel⟩
    rw [← hS.out, ← cat_lists, ← eM]
    rfl
end Go.Proofs.YtfmehdophoejiaaGreatDoor
