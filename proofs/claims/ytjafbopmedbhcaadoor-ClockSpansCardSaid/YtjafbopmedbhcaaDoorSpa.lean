/- The contracts of clock.Span and Parse: what each call returns, for every text of up to 1000 bytes; nothing that was in memory changes. The tables read as they are laid. -/
import Derived.Test.YtjafbopmedbhcaaDoorRead
import Derived.Test.YtjafbopmedbhcaaDoorKnd
import Derived.Test.YtjafbopmedbhcaaDoorClkA
namespace Go.Proofs.YtjafbopmedbhcaaDoor
open Go.RowKit

theorem readV_bd {s : List UInt8} (h : readOk s = true) : readV s ≤ 3600000 * (s.length + 1) := by
  have := sumP_bd h
  rw [ix_len] at this
  have := pcs_len s []
  unfold readV
  omega
theorem trim_len (s p : List UInt8) : (Lib.trimPrefix s p).length ≤ s.length := by
  unfold Lib.trimPrefix
  split <;> simp

theorem spanN_dash : spanN [45] = 0 ∧ spanE [45] = 0 := by simp [spanN, spanE]
theorem span_form {s : List UInt8} (h : s ≠ [45]) (hr : readOk (Lib.trimPrefix s [45]) = false) : spanN s = 0 ∧ spanE s = 12 := by
  simp [spanN, spanE, h, hr]
theorem span_long {s : List UInt8} (h : s ≠ [45]) (hr : readOk (Lib.trimPrefix s [45]) = true) (hl : 604800 ≤ readV (Lib.trimPrefix s [45])) : spanN s = 0 ∧ spanE s = 10 := by
  have : ¬ readV (Lib.trimPrefix s [45]) < 604800 := by omega
  simp [spanN, spanE, h, hr, this]
theorem span_neg {s : List UInt8} (h : s ≠ [45]) (hr : readOk (Lib.trimPrefix s [45]) = true) (hl : readV (Lib.trimPrefix s [45]) < 604800) (hp : Lib.hasPrefix s [45] = true) : spanN s = -(readV (Lib.trimPrefix s [45]) : Int) ∧ spanE s = 0 := by
  simp [spanN, spanE, h, hr, hl, hp]
theorem span_pos {s : List UInt8} (h : s ≠ [45]) (hr : readOk (Lib.trimPrefix s [45]) = true) (hl : readV (Lib.trimPrefix s [45]) < 604800) (hp : Lib.hasPrefix s [45] = false) : spanN s = (readV (Lib.trimPrefix s [45]) : Int) ∧ spanE s = 0 := by
  simp [spanN, spanE, h, hr, hl, hp]

theorem cutPre_is (s t : List UInt8) (b : Bool) (w : World) (h : Hid (Lib.trimPrefix s [45] = t ∧ Lib.hasPrefix s [45] = b)) :
    Calls Tryd.prog 35 #[.string ⟨s.toArray⟩, .string ⟨#[45]⟩] w fun e w' => e = .returned (.tuple #[.string ⟨t.toArray⟩, .bool b]) ∧ w = w' := by
  have := cutPre_any s w
  rw [h.out.1, h.out.2] at this
  exact this.mono fun _ _ hh => ⟨hh.1, hh.2.symm⟩
theorem read_bad (s : List UInt8) (w : World) (hs : s.length ≤ 1000) (hM : MaxAt w) (hF : FldAt w) (h : Hid (readOk s = false)) :
    Calls Tryd.prog 36 #[.string ⟨s.toArray⟩] w fun e w' => e = .returned (.tuple #[.int .i64 0, .int .i64 12]) ∧ Below w.heap.size w w' :=
  read_is s 0 12 w hs hM hF ⟨(fun c => by rw [h.out] at c; cases c), (fun _ => ⟨rfl, rfl⟩)⟩
theorem read_ok (s : List UInt8) (v : Nat) (w : World) (hs : s.length ≤ 1000) (hM : MaxAt w) (hF : FldAt w) (h : Hid (readOk s = true ∧ readV s = v)) :
    Calls Tryd.prog 36 #[.string ⟨s.toArray⟩] w fun e w' => e = .returned (.tuple #[.int .i64 v, .int .i64 0]) ∧ Below w.heap.size w w' :=
  read_is s v 0 w hs hM hF ⟨(fun _ => ⟨by rw [h.out.2], rfl⟩), (fun c => by rw [h.out.1] at c; cases c)⟩

theorem span_any (s : List UInt8) (w : World) (hs : s.length ≤ 1000) (hM : MaxAt w) (hF : FldAt w) :
    Calls Tryd.prog 19 #[.string ⟨s.toArray⟩] w fun e w' => e = .returned (.tuple #[.int .i64 (spanN s), .int .i64 (spanE s)]) ∧ Below w.heap.size w w' := by
  have HM := Lib.hid hM
  have HF := Lib.hid hF
  clear hM hF
  by_cases h : s = [45]
  · subst h
    go_enter Tryd.func19, Tryd.ntmps19
    go_wp2
    go_ret2
    rw [spanN_dash.1, spanN_dash.2]
    exact ⟨rfl, Below.refl _ _⟩
  · have tl := trim_len s [45]
    have h2 : (s == [45]) = false := by simp [h]
    cases hr : readOk (Lib.trimPrefix s [45]) with
    | false =>
      have HE := Lib.hid (span_form h hr)
      generalize ht : Lib.trimPrefix s [45] = t at tl hr
      generalize hb : Lib.hasPrefix s [45] = b
      have HC := Lib.hid (And.intro ht hb)
      have HR := Lib.hid hr
      clear hr ht hb h
      go_enter Tryd.func19, Tryd.ntmps19
      go_wp2_with (first
        | (go_at_call 35; refine (cutPre_is s t b _ HC).mono ?_; rintro e w' ⟨rfl, rfl⟩)
        | (go_at_call 36; refine (read_bad t _ (by omega) HM.out HF.out HR).mono ?_; rintro e w1 ⟨rfl, k1⟩))
      go_ret2
      rw [HE.out.1, HE.out.2]
      exact ⟨rfl, k1⟩
    | true =>
      have vb := readV_bd hr
      rcases Nat.lt_or_ge (readV (Lib.trimPrefix s [45])) 604800 with hl | hl
      · cases hb : Lib.hasPrefix s [45] with
        | true =>
          have HE := Lib.hid (span_neg h hr hl hb)
          generalize ht : Lib.trimPrefix s [45] = t at tl hr vb hl HE
          have HC := Lib.hid (And.intro ht hb)
          generalize hv : readV t = v at vb hl HE
          have HR := Lib.hid (And.intro hr hv)
          clear hr ht hb h hv
          have l1 : -604800 < -(v : Int) := by omega
          have l2 : -(v : Int) < 604800 := by omega
          go_enter Tryd.func19, Tryd.ntmps19
          go_wp2_with (first
            | (go_at_call 35; refine (cutPre_is s t true _ HC).mono ?_; rintro e w' ⟨rfl, rfl⟩)
            | (go_at_call 36; refine (read_ok t v _ (by omega) HM.out HF.out HR).mono ?_; rintro e w1 ⟨rfl, k1⟩)
            | (go_at_call 25; refine (mayBe_yes _ _ l1 l2).mono ?_; rintro e w2 ⟨rfl, rfl⟩))
          go_ret2
          rw [HE.out.1, HE.out.2]
          exact ⟨rfl, k1⟩
        | false =>
          have HE := Lib.hid (span_pos h hr hl hb)
          generalize ht : Lib.trimPrefix s [45] = t at tl hr vb hl HE
          have HC := Lib.hid (And.intro ht hb)
          generalize hv : readV t = v at vb hl HE
          have HR := Lib.hid (And.intro hr hv)
          clear hr ht hb h hv
          have l1 : -604800 < (v : Int) := by omega
          have l2 : (v : Int) < 604800 := by omega
          go_enter Tryd.func19, Tryd.ntmps19
          go_wp2_with (first
            | (go_at_call 35; refine (cutPre_is s t false _ HC).mono ?_; rintro e w' ⟨rfl, rfl⟩)
            | (go_at_call 36; refine (read_ok t v _ (by omega) HM.out HF.out HR).mono ?_; rintro e w1 ⟨rfl, k1⟩)
            | (go_at_call 25; refine (mayBe_yes _ _ l1 l2).mono ?_; rintro e w2 ⟨rfl, rfl⟩))
          go_ret2
          rw [HE.out.1, HE.out.2]
          exact ⟨rfl, k1⟩
      · have HE := Lib.hid (span_long h hr hl)
        generalize ht : Lib.trimPrefix s [45] = t at tl hr vb hl
        generalize hv : readV t = v at vb hl
        have HR := Lib.hid (And.intro hr hv)
        have l1 : ¬ (-604800 < -(v : Int) ∧ -(v : Int) < 604800) := by omega
        have l2 : ¬ (-604800 < (v : Int) ∧ (v : Int) < 604800) := by omega
        have L1 := Lib.hid l1
        have L2 := Lib.hid l2
        cases hb : Lib.hasPrefix s [45] with
        | true =>
          have HC := Lib.hid (And.intro ht hb)
          clear hr ht hb h hv l1 l2
          go_enter Tryd.func19, Tryd.ntmps19
          go_wp2_with (first
            | (go_at_call 35; refine (cutPre_is s t true _ HC).mono ?_; rintro e w' ⟨rfl, rfl⟩)
            | (go_at_call 36; refine (read_ok t v _ (by omega) HM.out HF.out HR).mono ?_; rintro e w1 ⟨rfl, k1⟩)
            | (go_at_call 25; refine (mayBe_no _ _ L1.out).mono ?_; rintro e w2 ⟨rfl, rfl⟩))
          go_ret2
          rw [HE.out.1, HE.out.2]
          exact ⟨rfl, k1⟩
        | false =>
          have HC := Lib.hid (And.intro ht hb)
          clear hr ht hb h hv l1 l2
          go_enter Tryd.func19, Tryd.ntmps19
          go_wp2_with (first
            | (go_at_call 35; refine (cutPre_is s t false _ HC).mono ?_; rintro e w' ⟨rfl, rfl⟩)
            | (go_at_call 36; refine (read_ok t v _ (by omega) HM.out HF.out HR).mono ?_; rintro e w1 ⟨rfl, k1⟩)
            | (go_at_call 25; refine (mayBe_no _ _ L2.out).mono ?_; rintro e w2 ⟨rfl, rfl⟩))
          go_ret2
          rw [HE.out.1, HE.out.2]
          exact ⟨rfl, k1⟩

/-- A time: its seconds and its kind, as Parse tells them. -/
def parN (s : List UInt8) : Int := if spanE (kS s) = 0 then spanN (kS s) else 0
def parK (s : List UInt8) : Int := if spanE (kS s) = 0 then kN s else 0
def parE (s : List UInt8) : Int := spanE (kS s)
theorem kS_len (s : List UInt8) : (kS s).length ≤ s.length := by unfold kS; split <;> simp

/-- Two numbers lie in block g, which is new since w, and nothing that was in w has changed. -/
structure Blk2 (w : World) (g : Nat) (a b : Int) (t : TypeId) (W : World) : Prop where
  bel : Below w.heap.size w W
  ge : w.heap.size ≤ g
  blk : W.heap[g]? = some (.cells #[.int .i64 a, .int .i64 b] t (0, 0))
theorem Blk2.new (w : World) (a b : Int) (t : TypeId) : Blk2 w w.heap.size a b t (w.alloc (.cells #[.int .i64 a, .int .i64 b] t)) := ⟨(Below.refl _ _).alloc (Nat.le_refl _) _, Nat.le_refl _, heap_alloc_new w _⟩
theorem Blk2.make {w W : World} (h : Below w.heap.size w W) (a b : Int) (t : TypeId) : Blk2 w W.heap.size a b t (W.alloc (.cells #[.int .i64 a, .int .i64 b] t)) := ⟨h.alloc h.size _, h.size, heap_alloc_new W _⟩
section
variable {w W W1 : World} {g : Nat} {a b : Int} {t : TypeId}
theorem Blk2.lt (h : Blk2 w g a b t W) : g < W.heap.size := (Array.getElem?_eq_some_iff.1 h.blk).1
theorem Blk2.next (h : Blk2 w g a b t W) (k : Below W.heap.size W W1) : Blk2 w g a b t W1 := ⟨h.bel.trans (k.mono h.bel.size), h.ge, (k.block g h.lt).trans h.blk⟩
theorem Blk2.more (h : Blk2 w g a b t W) (o : Obj) : Blk2 w g a b t (W.alloc o) := h.next ((Below.refl _ _).alloc (Nat.le_refl _) _)
theorem Blk2.c0 (h : Blk2 w g a b t W) : W.cell? ⟨g, 0, none⟩ = some (.int .i64 a) := cell_of_row W g 0 _ _ (0, 0) h.blk
theorem Blk2.c1 (h : Blk2 w g a b t W) : W.cell? ⟨g, 1, none⟩ = some (.int .i64 b) := cell_of_row W g 1 _ _ (0, 0) h.blk
theorem Blk2.f0 (h : Blk2 w g a b t W) : W.frozen? ⟨g, 0, none⟩ = false := by simp [World.frozen?, h.blk]
theorem Blk2.f1 (h : Blk2 w g a b t W) : W.frozen? ⟨g, 1, none⟩ = false := by simp [World.frozen?, h.blk]
theorem Blk2.store (h : Blk2 w g a b t W) (x y : Int) : Blk2 w g x y t ((W.setCell ⟨g, 0, none⟩ (.int .i64 x)).setCell ⟨g, 1, none⟩ (.int .i64 y)) :=
  ⟨(h.bel.setCell (p := ⟨g, 0, none⟩) h.ge _).setCell (p := ⟨g, 1, none⟩) h.ge _, h.ge, by
    have := blk_set (i := 1) (blk_set (i := 0) h.blk (.int .i64 x)) (.int .i64 y)
    simpa using this⟩
theorem Blk2.ret (h : Blk2 w g a b t W) {P : Program} {f : Func} {Q : Ending → World → Prop} {A : Act} (k : ∀ W', Blk2 w g a b t W' → bodyPost P f Q Exit.ret A W') : bodyPost P f Q Exit.ret A W := k W h
end

theorem parse_any (s : List UInt8) (w : World) (hs : s.length ≤ 1000) (hM : MaxAt w) (hF : FldAt w) (hL : LetAt w) :
    Calls Tryd.prog 22 #[.string ⟨s.toArray⟩] w fun e w' => e = .returned (.tuple #[.agg #[.int .i64 (parN s), .int .i64 (parK s)], .int .i64 (parE s)]) ∧ Below w.heap.size w w' := by
  have B := Lib.hid (Blk2.new w 0 0 44)
  have HM := Lib.hid (hM.next B.out.bel)
  have HF := Lib.hid (hF.next B.out.bel)
  have HL := Lib.hid (hL.next B.out.bel)
  have kl := kS_len s
  clear hM hF hL
  by_cases h : spanE (kS s) = 0
  · have E : Hid (parN s = spanN (kS s) ∧ parK s = kN s ∧ parE s = 0) := by
      show _ ∧ _
      simp [parN, parK, parE, h]
    generalize hS : spanN (kS s) = n at E
    generalize hE : spanE (kS s) = x at h E
    have HS : Hid (spanN (kS s) = n ∧ spanE (kS s) = x) := ⟨hS, hE⟩
    clear hS hE
    subst h
    go_enter Tryd.func22, Tryd.ntmps22
    go_wp2_with (first
      | (go_at_call 39; refine (kind_any s _ hs HL.out).mono ?_; rintro e w1 ⟨rfl, k1⟩
         have B1 := Lib.hid (B.out.next k1)
         have HM1 := Lib.hid (HM.out.next k1)
         have HF1 := Lib.hid (HF.out.next k1)
         clear k1 B)
      | (go_at_call 19; refine (span_any (kS s) _ (by omega) HM1.out HF1.out).mono ?_; rintro e w2 ⟨rfl, k2⟩
         rw [HS.out.1, HS.out.2]
         have B2 := Lib.hid (B1.out.next k2)
         clear k2 B1
         have lt := B2.out.lt
         have c0 := B2.out.c0
         have c1 := B2.out.c1
         have f0 := B2.out.f0
         have f1 := B2.out.f1))
    refine (B2.out.store n (kN s)).ret fun W' B3 => ?_
    clear lt c0 c1 f0 f1
    have c0 := B3.c0
    have c1 := B3.c1
    rw [E.out.1, E.out.2.1, E.out.2.2]
    exact bodyPost_ret (v := .tuple #[.agg #[.int .i64 n, .int .i64 (kN s)], .int .i64 0]) (by simp [results, Tryd.results22, go_sem, c0, c1]) rfl ⟨rfl, B3.bel⟩
  · have E : Hid (parN s = 0 ∧ parK s = 0 ∧ parE s = spanE (kS s)) := by
      show _ ∧ _
      simp [parN, parK, parE, h]
    generalize hS : spanN (kS s) = n at E
    generalize hE : spanE (kS s) = x at h E
    have HS : Hid (spanN (kS s) = n ∧ spanE (kS s) = x) := ⟨hS, hE⟩
    clear hS hE
    go_enter Tryd.func22, Tryd.ntmps22
    go_wp2_with (first
      | (go_at_call 39; refine (kind_any s _ hs HL.out).mono ?_; rintro e w1 ⟨rfl, k1⟩
         have B1 := Lib.hid (B.out.next k1)
         have HM1 := Lib.hid (HM.out.next k1)
         have HF1 := Lib.hid (HF.out.next k1)
         clear k1 B)
      | (go_at_call 19; refine (span_any (kS s) _ (by omega) HM1.out HF1.out).mono ?_; rintro e w2 ⟨rfl, k2⟩
         rw [HS.out.1, HS.out.2]
         have B2 := Lib.hid (B1.out.next k2)
         clear k2 B1
         have lt := B2.out.lt
         have c0 := B2.out.c0
         have c1 := B2.out.c1
         have f0 := B2.out.f0
         have f1 := B2.out.f1))
    refine (B2.out.store 0 0).ret fun W' B3 => ?_
    clear lt c0 c1 f0 f1
    have c0 := B3.c0
    have c1 := B3.c1
    rw [E.out.1, E.out.2.1, E.out.2.2]
    exact bodyPost_ret (v := .tuple #[.agg #[.int .i64 0, .int .i64 0], .int .i64 x]) (by simp [results, Tryd.results22, go_sem, c0, c1]) rfl ⟨rfl, B3.bel⟩
end Go.Proofs.YtjafbopmedbhcaaDoor
