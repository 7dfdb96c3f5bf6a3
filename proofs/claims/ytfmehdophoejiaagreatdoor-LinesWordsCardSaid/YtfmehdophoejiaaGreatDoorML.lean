/- The contracts of what makes fields of lines: which closures, over which variables; and of the field of an era's rules.
The contract of lines.Rule: which rule words are, or what is wrong with them; nothing that was in memory changes. -/
import Derived.Test.YtfmehdophoejiaaGreatDoorMK
namespace Go.Proofs.YtfmehdophoejiaaGreatDoor
open Go Go.RowKit

/-- What is given back is a closure over one variable, or two; nothing that was there has changed. -/
def Made1 (k : Nat) (t : TypeId) (v : Value) (w : World) (e : Ending) (w' : World) : Prop := e = .returned (.func (.func k) #[] #[.pointer (some ⟨w.heap.size, 0, none⟩)]) ∧ Go.Boxed w' w.heap.size t v ∧ Below w.heap.size w w'
/-- The first variable holds v, the second one u; they are handed on in this order, or turned. -/
def Made2 (k : Nat) (tv tu : TypeId) (v u : Value) (w : World) (e : Ending) (w' : World) : Prop := e = .returned (.func (.func k) #[] #[.pointer (some ⟨w.heap.size, 0, none⟩), .pointer (some ⟨w.heap.size + 1, 0, none⟩)]) ∧ (Go.Boxed w' w.heap.size tv v ∧ Go.Boxed w' (w.heap.size + 1) tu u) ∧ Below w.heap.size w w'
def Made2T (k : Nat) (tv tu : TypeId) (v u : Value) (w : World) (e : Ending) (w' : World) : Prop := e = .returned (.func (.func k) #[] #[.pointer (some ⟨w.heap.size + 1, 0, none⟩), .pointer (some ⟨w.heap.size, 0, none⟩)]) ∧ (Go.Boxed w' w.heap.size tv v ∧ Go.Boxed w' (w.heap.size + 1) tu u) ∧ Below w.heap.size w w'
theorem two_new (w : World) (tv tu : TypeId) (v u : Value) : (Go.Boxed ((w.alloc (.cells #[v] tv)).alloc (.cells #[u] tu)) w.heap.size tv v ∧ Go.Boxed ((w.alloc (.cells #[v] tv)).alloc (.cells #[u] tu)) (w.heap.size + 1) tu u) ∧ Below w.heap.size w ((w.alloc (.cells #[v] tv)).alloc (.cells #[u] tu)) := by
  have b := Go.Boxed.new (w.alloc (.cells #[v] tv)) tu u
  rw [World.size_alloc] at b
  exact ⟨⟨(Go.Boxed.new w tv v).alloc _, b⟩, ((Below.refl _ w).alloc (Nat.le_refl _) _).alloc (by simp) _⟩

theorem mkKind (k : Int) (w : World) : Calls Tryz.prog 45 #[.int .i64 k] w (Made1 85 3 (.int .i64 k) w) := by
  have hmf : ∀ (fn : Fn) (first cap : Array Value) (w : World), (Instr.makeFunc fn first cap).run Tryz.prog w = .ok (.func fn first cap) w := fun _ _ _ _ => rfl
  go_enter Tryz.func45, Tryz.ntmps45
  go_wp2
  go_ret
  exact ⟨rfl, Go.Boxed.new w _ _, (Below.refl _ w).alloc (Nat.le_refl _) _⟩

theorem mkRules (g : Nat) (w : World) : Calls Tryz.prog 67 #[.pointer (some ⟨g, 0, none⟩)] w (Made1 103 90 (.pointer (some ⟨g, 0, none⟩)) w) := by
  have hmf : ∀ (fn : Fn) (first cap : Array Value) (w : World), (Instr.makeFunc fn first cap).run Tryz.prog w = .ok (.func fn first cap) w := fun _ _ _ _ => rfl
  go_enter Tryz.func67, Tryz.ntmps67
  go_wp2
  go_ret
  exact ⟨rfl, Go.Boxed.new w _ _, (Below.refl _ w).alloc (Nat.le_refl _) _⟩

theorem mkChk (g o k : Nat) (w : World) : Calls Tryz.prog 46 #[.pointer (some ⟨g, o, none⟩), .func (.func k) #[] #[]] w (Made2 87 70 25 (.pointer (some ⟨g, o, none⟩)) (.func (.func k) #[] #[]) w) := by
  have hmf : ∀ (fn : Fn) (first cap : Array Value) (w : World), (Instr.makeFunc fn first cap).run Tryz.prog w = .ok (.func fn first cap) w := fun _ _ _ _ => rfl
  have T := two_new w 70 25 (.pointer (some ⟨g, o, none⟩)) (.func (.func k) #[] #[])
  go_enter Tryz.func46, Tryz.ntmps46
  go_wp2
  go_ret
  exact ⟨rfl, T.1, T.2⟩

theorem mkInt (g o k : Nat) (lb : Array Value) (w : World) : Calls Tryz.prog 47 #[.pointer (some ⟨g, o, none⟩), .func (.func k) #[] lb] w (Made2T 88 72 73 (.pointer (some ⟨g, o, none⟩)) (.func (.func k) #[] lb) w) := by
  have hmf : ∀ (fn : Fn) (first cap : Array Value) (w : World), (Instr.makeFunc fn first cap).run Tryz.prog w = .ok (.func fn first cap) w := fun _ _ _ _ => rfl
  have T := two_new w 72 73 (.pointer (some ⟨g, o, none⟩)) (.func (.func k) #[] lb)
  go_enter Tryz.func47, Tryz.ntmps47
  go_wp2
  go_ret
  exact ⟨rfl, T.1, T.2⟩

theorem mkStr (g o k : Nat) (lb : Array Value) (w : World) : Calls Tryz.prog 58 #[.pointer (some ⟨g, o, none⟩), .func (.func k) #[] lb] w (Made2T 96 70 83 (.pointer (some ⟨g, o, none⟩)) (.func (.func k) #[] lb) w) := by
  have hmf : ∀ (fn : Fn) (first cap : Array Value) (w : World), (Instr.makeFunc fn first cap).run Tryz.prog w = .ok (.func fn first cap) w := fun _ _ _ _ => rfl
  have T := two_new w 70 83 (.pointer (some ⟨g, o, none⟩)) (.func (.func k) #[] lb)
  go_enter Tryz.func58, Tryz.ntmps58
  go_wp2
  go_ret
  exact ⟨rfl, T.1, T.2⟩

theorem mkDay (g o k : Nat) (lb : Array Value) (w : World) : Calls Tryz.prog 53 #[.pointer (some ⟨g, o, none⟩), .func (.func k) #[] lb] w (Made2T 91 77 78 (.pointer (some ⟨g, o, none⟩)) (.func (.func k) #[] lb) w) := by
  have hmf : ∀ (fn : Fn) (first cap : Array Value) (w : World), (Instr.makeFunc fn first cap).run Tryz.prog w = .ok (.func fn first cap) w := fun _ _ _ _ => rfl
  have T := two_new w 77 78 (.pointer (some ⟨g, o, none⟩)) (.func (.func k) #[] lb)
  go_enter Tryz.func53, Tryz.ntmps53
  go_wp2
  go_ret
  exact ⟨rfl, T.1, T.2⟩

theorem mkClk (g o k : Nat) (lb : Array Value) (w : World) : Calls Tryz.prog 55 #[.pointer (some ⟨g, o, none⟩), .func (.func k) #[] lb] w (Made2T 93 80 81 (.pointer (some ⟨g, o, none⟩)) (.func (.func k) #[] lb) w) := by
  have hmf : ∀ (fn : Fn) (first cap : Array Value) (w : World), (Instr.makeFunc fn first cap).run Tryz.prog w = .ok (.func fn first cap) w := fun _ _ _ _ => rfl
  have T := two_new w 80 81 (.pointer (some ⟨g, o, none⟩)) (.func (.func k) #[] lb)
  go_enter Tryz.func55, Tryz.ntmps55
  go_wp2
  go_ret
  exact ⟨rfl, T.1, T.2⟩


theorem sec_reads (s : List UInt8) (v x : Int) (W : World) (hs : s.length ≤ 1000) (hA : LaidL W) (HV : Hid (ofV s = v ∧ ofE s = x)) : Reads 57 #[] s (.tuple #[.int .i64 v, .int .i64 x]) W :=
  ⟨enters_of Tryz.func57 (by kernel_rfl) rfl, lsec_is s v x W hs hA HV⟩
theorem set_reads (s : List UInt8) (x : Int) (W : World) (hs : s.length ≤ 1000) (HV : Hid (stE s = x)) : Reads 14 #[] s (.int .i64 x) W :=
  ⟨enters_of Tryz.func14 (by kernel_rfl) rfl, lset_is s x W hs HV⟩

def ruC (s : List UInt8) (C : Array Value) : Array Value := if svB s then C.setIfInBounds 2 (.int .i64 (ofV s)) else C.setIfInBounds 1 (.string ⟨s.toArray⟩)
theorem rules_sv (s : List UInt8) (x : Int) (b g : Nat) (C : Array Value) (t : TypeId) (W : World) (hs : s.length ≤ 1000) (hA : LaidL W) (b1 : Go.Boxed W b 90 (.pointer (some ⟨g, 0, none⟩))) (row : W.heap[g]? = some (.cells C t (0, 0))) (hC : C.size = 12)
    (hsv : Hid (svB s = true)) (HV : Hid (ofE s = x)) (v : Int) (hv : Hid (ofV s = v)) :
    Calls Tryz.prog 103 #[.string ⟨s.toArray⟩, .pointer (some ⟨b, 0, none⟩)] W fun e w' => e = .returned (.int .i64 x) ∧ Stored g (C.setIfInBounds 2 (.int .i64 v)) t W w' := by
  cases s with
  | nil => exact absurd hsv.out (by decide)
  | cons c r =>
    have HA := Lib.hid hA
    have RW := Lib.hid row
    have B1 := Lib.hid b1
    have c1 := b1.cell
    have q1 := b1.lt
    have i0 := first_byte c r
    have SV : Hid (((c.toNat : Int) == 45) = true ∨ ((c.toNat : Int) == 45) = false ∧ isDg c = true) := Lib.hid (by
      have := hsv.out
      simp only [svB, Bool.or_eq_true, decide_eq_true_eq] at this
      rcases this with h | h
      · left; subst h; rfl
      · right
        refine ⟨?_, h⟩
        simp only [isDg, Bool.and_eq_true, decide_eq_true_eq] at h
        simp; omega)
    clear hA b1 row hsv
    rcases SV.out with h45 | ⟨h45, hd⟩
    · go_enter Tryz.func103, Tryz.ntmps103
      go_wp2_with (first
        | (go_at_call 47; refine (mkInt g 2 57 #[] _).mono ?_; rintro e w1 ⟨rfl, ⟨d1, d2⟩, k1⟩
           have R1 : Hid (w1.heap[g]? = some (.cells C t (0, 0))) := Lib.hid ((k1.block g (row_lt RW.out)).trans RW.out)
           have A1 := Lib.hid (HA.out.next k1)
           have K1 := Lib.hid k1
           have D := Lib.hid (And.intro d1 d2)
           clear d1 d2 k1
           simp only [])
        | (go_at_call 88; refine (val_int 57 #[] (c :: r) v x _ _ g 2 C t _ D.out.2 D.out.1 R1.out (by omega) (sec_reads _ v x _ hs A1.out (Lib.hid ⟨hv.out, HV.out⟩))).mono ?_; rintro e w2 ⟨rfl, s2⟩; simp only []))
      go_ret
      exact ⟨rfl, (grown_any K1.out _).trans s2.gr, s2.row⟩
    · have HD := Lib.hid hd
      clear hd
      go_enter Tryz.func103, Tryz.ntmps103
      go_wp2_with (first
        | (go_at_call 82; refine (isDigit_is c true _ HD).mono ?_; rintro e w0 ⟨rfl, k0⟩
           have R0 : Hid (w0.heap[g]? = some (.cells C t (0, 0))) := Lib.hid ((k0.block g (row_lt RW.out)).trans RW.out)
           have A0 := Lib.hid (HA.out.next k0)
           have D0 := Box.same B1.out (k0.block _ B1.out.lt)
           have c2 := D0.cell
           have q2 := D0.lt
           have K0 := Lib.hid k0
           clear k0 D0 c1 q1
           simp only [])
        | (go_at_call 47; refine (mkInt g 2 57 #[] _).mono ?_; rintro e w1 ⟨rfl, ⟨d1, d2⟩, k1⟩
           have R1 : Hid (w1.heap[g]? = some (.cells C t (0, 0))) := Lib.hid ((k1.block g (row_lt R0.out)).trans R0.out)
           have A1 := Lib.hid (A0.out.next k1)
           have K1 := Lib.hid (K0.out.trans (k1.mono K0.out.size))
           have D := Lib.hid (And.intro d1 d2)
           clear d1 d2 k1
           simp only [])
        | (go_at_call 88; refine (val_int 57 #[] (c :: r) v x _ _ g 2 C t _ D.out.2 D.out.1 R1.out (by omega) (sec_reads _ v x _ hs A1.out (Lib.hid ⟨hv.out, HV.out⟩))).mono ?_; rintro e w2 ⟨rfl, s2⟩; simp only []))
      go_ret
      exact ⟨rfl, (grown_any K1.out _).trans s2.gr, s2.row⟩

theorem rules_set (s : List UInt8) (x : Int) (b g : Nat) (C : Array Value) (t : TypeId) (W : World) (hs : s.length ≤ 1000) (b1 : Go.Boxed W b 90 (.pointer (some ⟨g, 0, none⟩))) (row : W.heap[g]? = some (.cells C t (0, 0))) (hC : C.size = 12)
    (hsv : Hid (svB s = false)) (HV : Hid (stE s = x)) :
    Calls Tryz.prog 103 #[.string ⟨s.toArray⟩, .pointer (some ⟨b, 0, none⟩)] W fun e w' => e = .returned (.int .i64 x) ∧ Stored g (C.setIfInBounds 1 (.string ⟨s.toArray⟩)) t W w' := by
  have RW := Lib.hid row
  have B1 := Lib.hid b1
  have c1 := b1.cell
  have q1 := b1.lt
  clear b1 row
  cases s with
  | nil =>
    go_enter Tryz.func103, Tryz.ntmps103
    go_wp2_with (first
      | (go_at_call 46; refine (mkChk g 1 14 _).mono ?_; rintro e w1 ⟨rfl, ⟨d1, d2⟩, k1⟩
         have R1 : Hid (w1.heap[g]? = some (.cells C t (0, 0))) := Lib.hid ((k1.block g (row_lt RW.out)).trans RW.out)
         have K1 := Lib.hid k1
         have D := Lib.hid (And.intro d1 d2)
         have hne : W.heap.size + 1 ≠ g := by have := row_lt RW.out; omega
         clear d1 d2 k1
         simp only [])
      | (go_at_call 87; refine (chk_is 14 #[] [] x _ _ g 1 C t _ D.out.2 D.out.1 R1.out (by omega) hne (fun W' _ => set_reads _ x W' hs HV)).mono ?_; rintro e w2 ⟨rfl, s2⟩; simp only []))
    go_ret
    exact ⟨rfl, (grown_any K1.out _).trans s2.gr, s2.row⟩
  | cons c r =>
    have i0 := first_byte c r
    have H45 : Hid (((c.toNat : Int) == 45) = false ∧ isDg c = false) := Lib.hid (by
      have := hsv.out
      simp only [svB, Bool.or_eq_false_iff, decide_eq_false_iff_not] at this
      refine ⟨?_, this.2⟩
      have h : c.toNat ≠ 45 := fun e => this.1 (UInt8.toNat_inj.1 e)
      simp; omega)
    have h45 := H45.out.1
    have HD : Hid (isDg c = false) := H45.out.2
    go_enter Tryz.func103, Tryz.ntmps103
    go_wp2_with (first
      | (go_at_call 82; refine (isDigit_is c false _ HD).mono ?_; rintro e w0 ⟨rfl, k0⟩
         have R0 : Hid (w0.heap[g]? = some (.cells C t (0, 0))) := Lib.hid ((k0.block g (row_lt RW.out)).trans RW.out)
         have D0 := Box.same B1.out (k0.block _ B1.out.lt)
         have c2 := D0.cell
         have q2 := D0.lt
         have K0 := Lib.hid k0
         clear k0 D0 c1 q1
         simp only [])
      | (go_at_call 46; refine (mkChk g 1 14 _).mono ?_; rintro e w1 ⟨rfl, ⟨d1, d2⟩, k1⟩
         have R1 : Hid (w1.heap[g]? = some (.cells C t (0, 0))) := Lib.hid ((k1.block g (row_lt R0.out)).trans R0.out)
         have K1 := Lib.hid (K0.out.trans (k1.mono K0.out.size))
         have D := Lib.hid (And.intro d1 d2)
         have hne : w0.heap.size + 1 ≠ g := by have := row_lt R0.out; omega
         clear d1 d2 k1
         simp only [])
      | (go_at_call 87; refine (chk_is 14 #[] (c :: r) x _ _ g 1 C t _ D.out.2 D.out.1 R1.out (by omega) hne (fun W' _ => set_reads _ x W' hs HV)).mono ?_; rintro e w2 ⟨rfl, s2⟩; simp only []))
    go_ret
    exact ⟨rfl, (grown_any K1.out _).trans s2.gr, s2.row⟩
theorem rulesF_is (s : List UInt8) (x : Int) (b g : Nat) (C : Array Value) (t : TypeId) (W : World) (hs : s.length ≤ 1000) (hA : LaidL W) (b1 : Go.Boxed W b 90 (.pointer (some ⟨g, 0, none⟩))) (row : W.heap[g]? = some (.cells C t (0, 0))) (hC : C.size = 12)
    (HV : Hid (ruE s = x)) :
    Calls Tryz.prog 103 #[.string ⟨s.toArray⟩, .pointer (some ⟨b, 0, none⟩)] W fun e w' => e = .returned (.int .i64 x) ∧ Stored g (ruC s C) t W w' := by
  have hv := HV.out
  unfold ruE at hv
  unfold ruC
  cases hb : svB s with
  | true =>
    rw [hb] at hv
    exact rules_sv s x b g C t W hs hA b1 row hC (Lib.hid hb) (Lib.hid hv) _ (Lib.hid rfl)
  | false =>
    rw [hb] at hv
    exact rules_set s x b g C t W hs b1 row hC (Lib.hid hb) (Lib.hid hv)
end Go.Proofs.YtfmehdophoejiaaGreatDoor

namespace Go.Proofs.YtfmehdophoejiaaGreatDoor
open Go Go.RowKit

/-- An argument's words, where they lie. -/
def ArgW (A : Option Addr) (ws : List (List UInt8)) (W : World) : Prop := ∀ i p, ws[i]? = some p → ∃ L off, A = some ⟨L, off, none⟩ ∧ W.cell? ⟨L, off + i, none⟩ = some (.string ⟨p.toArray⟩)
theorem ArgW.next {A : Option Addr} {ws : List (List UInt8)} {W W' : World} (h : ArgW A ws W) (k : Below W.heap.size W W') : ArgW A ws W' := fun i p hp => by
  obtain ⟨L, off, e, hc⟩ := h i p hp
  exact ⟨L, off, e, by rw [k.cell (p := ⟨_, _, none⟩) (wcell_lt hc)]; exact hc⟩
theorem ArgW.some {A : Option Addr} {ws : List (List UInt8)} {W : World} (h : ArgW A ws W) (h0 : 0 < ws.length) : ∃ L off, A = some ⟨L, off, none⟩ ∧ ∀ i p, ws[i]? = .some p → W.cell? ⟨L, off + i, none⟩ = .some (.string ⟨p.toArray⟩) := by
  obtain ⟨p0, hp0⟩ : ∃ p, ws[0]? = .some p := ⟨_, List.getElem?_eq_getElem h0⟩
  obtain ⟨L, off, e, _⟩ := h 0 p0 hp0
  refine ⟨L, off, e, fun i p hp => ?_⟩
  obtain ⟨L', off', e', hc⟩ := h i p hp
  rw [e] at e'
  injection e' with e'
  injection e' with e1 e2
  subst e1 e2
  exact hc

def rvV (r : RV) : Value := .agg #[.string ⟨r.nm.toArray⟩, .int .i64 r.fr, .int .i64 r.tl, .int .i64 r.mo, .int .i64 r.dk, .int .i64 r.dw, .int .i64 r.dn, .int .i64 r.sc, .int .i64 r.ck, .int .i64 r.sv, .string ⟨r.lt.toArray⟩]
/-- What a rule's variable holds, when so many words are read. -/
def rC (ws : List (List UInt8)) (i : Nat) : Array Value :=
  #[.string (if 2 ≤ i then ⟨(wd ws 1).toArray⟩ else ⟨#[]⟩), .int .i64 (if 3 ≤ i then yrV (wd ws 2) else 0), .int .i64 (if 4 ≤ i then toV (wd ws 3) (yrV (wd ws 2)) else 0), .int .i64 (if 6 ≤ i then moV (wd ws 5) else 0),
    .int .i64 (if 7 ≤ i then dyK (wd ws 6) else 0), .int .i64 (if 7 ≤ i then dyW (wd ws 6) else 0), .int .i64 (if 7 ≤ i then dyN (wd ws 6) else 0), .int .i64 (if 8 ≤ i then parN (wd ws 7) else 0), .int .i64 (if 8 ≤ i then parK (wd ws 7) else 0),
    .int .i64 (if 9 ≤ i then ofV (wd ws 8) else 0), .string (if 10 ≤ i then ⟨(ltV (wd ws 9)).toArray⟩ else ⟨#[]⟩)]

/-- Block g holds these cells; all else that lay in W1 lies as it lay. -/
structure St (W1 : World) (g : Nat) (t : TypeId) (C : Array Value) (X : World) : Prop where
  gr : W1.grownBy X (some g)
  row : X.heap[g]? = some (.cells C t (0, 0))
theorem St.next {W1 X Y : World} {g : Nat} {t : TypeId} {C : Array Value} (h : St W1 g t C X) (hg : g < W1.heap.size) (k : Below W1.heap.size X Y) : St W1 g t C Y :=
  ⟨⟨k.os.trans h.gr.os, k.tape.trans h.gr.tape, k.output.trans h.gr.output, Nat.le_trans h.gr.size k.size, fun i hi hne => (k.block i hi).trans (h.gr.block i hi hne)⟩, (k.block g hg).trans h.row⟩
theorem St.box {W1 X : World} {g b : Nat} {t u : TypeId} {C : Array Value} {v : Value} (h : St W1 g t C X) (hb : Go.Boxed W1 b u v) (hne : b ≠ g) : Go.Boxed X b u v := hb.kept h.gr (by simpa using hne)
theorem St.bel {w W1 X : World} {g : Nat} {t : TypeId} {C : Array Value} (h : St W1 g t C X) (k : Below w.heap.size w W1) (hg : w.heap.size ≤ g) : Below w.heap.size w X :=
  k.grown h.gr k.size (fun j e => by injection e with e; omega)
theorem St.stored {W1 X Y : World} {g : Nat} {t : TypeId} {C C' : Array Value} (h : St W1 g t C X) (s : Stored g C' t X Y) : St W1 g t C' Y := ⟨h.gr.trans s.gr, s.row⟩

-- GENERATED by wip/tools/genlnh.py
set_option maxHeartbeats 800000 in
theorem ret11 {W : World} {h : Nat} {C : Array Value} {t : TypeId} (row : W.heap[h]? = some (.cells C t (0, 0))) (hC : C.size = 11) {P : Program} {f : Func} {Q : Ending → World → Prop} {A : Act} (v0 v1 v2 v3 v4 v5 v6 v7 v8 v9 v10 : Value)
    (k : ∀ W', W'.heap[h]? = some (.cells #[v0, v1, v2, v3, v4, v5, v6, v7, v8, v9, v10] t (0, 0)) → W.grownBy W' (some h) → bodyPost P f Q Exit.ret A W') :
    bodyPost P f Q Exit.ret A (((((((((((W.setCell ⟨h, 0, none⟩ v0).setCell ⟨h, 1, none⟩ v1).setCell ⟨h, 2, none⟩ v2).setCell ⟨h, 3, none⟩ v3).setCell ⟨h, 4, none⟩ v4).setCell ⟨h, 5, none⟩ v5).setCell ⟨h, 6, none⟩ v6).setCell ⟨h, 7, none⟩ v7).setCell ⟨h, 8, none⟩ v8).setCell ⟨h, 9, none⟩ v9).setCell ⟨h, 10, none⟩ v10) := by
  refine k _ ?_ (grown_set (o := 10) (v := v10) ((grown_set (o := 9) (v := v9) ((grown_set (o := 8) (v := v8) ((grown_set (o := 7) (v := v7) ((grown_set (o := 6) (v := v6) ((grown_set (o := 5) (v := v5) ((grown_set (o := 4) (v := v4) ((grown_set (o := 3) (v := v3) ((grown_set (o := 2) (v := v2) ((grown_set (o := 1) (v := v1) ((grown_set (o := 0) (v := v0) (grown_any (Below.refl _ _) _))))))))))))))))))))))
  have hh := (blk_set (i := 10) (blk_set (i := 9) (blk_set (i := 8) (blk_set (i := 7) (blk_set (i := 6) (blk_set (i := 5) (blk_set (i := 4) (blk_set (i := 3) (blk_set (i := 2) (blk_set (i := 1) (blk_set (i := 0) row v0) v1) v2) v3) v4) v5) v6) v7) v8) v9) v10)
  have e : (((((((((((C.setIfInBounds 0 v0).setIfInBounds 1 v1).setIfInBounds 2 v2).setIfInBounds 3 v3).setIfInBounds 4 v4).setIfInBounds 5 v5).setIfInBounds 6 v6).setIfInBounds 7 v7).setIfInBounds 8 v8).setIfInBounds 9 v9).setIfInBounds 10 v10) = #[v0, v1, v2, v3, v4, v5, v6, v7, v8, v9, v10] := by
    obtain ⟨l⟩ := C
    rcases l with _ | ⟨a0, _ | ⟨a1, _ | ⟨a2, _ | ⟨a3, _ | ⟨a4, _ | ⟨a5, _ | ⟨a6, _ | ⟨a7, _ | ⟨a8, _ | ⟨a9, _ | ⟨a10, l⟩⟩⟩⟩⟩⟩⟩⟩⟩⟩⟩ <;> simp at hC ⊢
    exact hC
  rw [e] at hh
  exact hh

set_option maxHeartbeats 800000 in
theorem ret12 {W : World} {h : Nat} {C : Array Value} {t : TypeId} (row : W.heap[h]? = some (.cells C t (0, 0))) (hC : C.size = 12) {P : Program} {f : Func} {Q : Ending → World → Prop} {A : Act} (v0 v1 v2 v3 v4 v5 v6 v7 v8 v9 v10 v11 : Value)
    (k : ∀ W', W'.heap[h]? = some (.cells #[v0, v1, v2, v3, v4, v5, v6, v7, v8, v9, v10, v11] t (0, 0)) → W.grownBy W' (some h) → bodyPost P f Q Exit.ret A W') :
    bodyPost P f Q Exit.ret A ((((((((((((W.setCell ⟨h, 0, none⟩ v0).setCell ⟨h, 1, none⟩ v1).setCell ⟨h, 2, none⟩ v2).setCell ⟨h, 3, none⟩ v3).setCell ⟨h, 4, none⟩ v4).setCell ⟨h, 5, none⟩ v5).setCell ⟨h, 6, none⟩ v6).setCell ⟨h, 7, none⟩ v7).setCell ⟨h, 8, none⟩ v8).setCell ⟨h, 9, none⟩ v9).setCell ⟨h, 10, none⟩ v10).setCell ⟨h, 11, none⟩ v11) := by
  refine k _ ?_ (grown_set (o := 11) (v := v11) ((grown_set (o := 10) (v := v10) ((grown_set (o := 9) (v := v9) ((grown_set (o := 8) (v := v8) ((grown_set (o := 7) (v := v7) ((grown_set (o := 6) (v := v6) ((grown_set (o := 5) (v := v5) ((grown_set (o := 4) (v := v4) ((grown_set (o := 3) (v := v3) ((grown_set (o := 2) (v := v2) ((grown_set (o := 1) (v := v1) ((grown_set (o := 0) (v := v0) (grown_any (Below.refl _ _) _))))))))))))))))))))))))
  have hh := (blk_set (i := 11) (blk_set (i := 10) (blk_set (i := 9) (blk_set (i := 8) (blk_set (i := 7) (blk_set (i := 6) (blk_set (i := 5) (blk_set (i := 4) (blk_set (i := 3) (blk_set (i := 2) (blk_set (i := 1) (blk_set (i := 0) row v0) v1) v2) v3) v4) v5) v6) v7) v8) v9) v10) v11)
  have e : ((((((((((((C.setIfInBounds 0 v0).setIfInBounds 1 v1).setIfInBounds 2 v2).setIfInBounds 3 v3).setIfInBounds 4 v4).setIfInBounds 5 v5).setIfInBounds 6 v6).setIfInBounds 7 v7).setIfInBounds 8 v8).setIfInBounds 9 v9).setIfInBounds 10 v10).setIfInBounds 11 v11) = #[v0, v1, v2, v3, v4, v5, v6, v7, v8, v9, v10, v11] := by
    obtain ⟨l⟩ := C
    rcases l with _ | ⟨a0, _ | ⟨a1, _ | ⟨a2, _ | ⟨a3, _ | ⟨a4, _ | ⟨a5, _ | ⟨a6, _ | ⟨a7, _ | ⟨a8, _ | ⟨a9, _ | ⟨a10, _ | ⟨a11, l⟩⟩⟩⟩⟩⟩⟩⟩⟩⟩⟩⟩ <;> simp at hC ⊢
    exact hC
  rw [e] at hh
  exact hh

theorem rule_many (A : Option Addr) (n c : Nat) (w : World) (hn : n ≠ 10) :
    Calls Tryz.prog 19 #[.slice A n c] w fun e w' => e = .returned (.tuple #[rvV r0, .int .i64 14]) ∧ Below w.heap.size w w' := by
  have hn' : ((n : Int) == 10) = false := by simp; omega
  clear hn
  go_enter Tryz.func19, Tryz.ntmps19
  go_wp2
  exact bodyPost_ret (v := .tuple #[rvV r0, .int .i64 14]) (by simp [results, Tryz.results19, go_sem, rvV, r0]) rfl ⟨rfl, (Below.refl _ _).alloc (Nat.le_refl _) _⟩

def rFs (b0 b1 b2 b3 b5 b6 b7 b8 b9 : Nat) : List (Nat × Array Value) := [(85, #[.pointer (some ⟨b0, 0, none⟩)]), (87, #[.pointer (some ⟨b1, 0, none⟩), .pointer (some ⟨b1 + 1, 0, none⟩)]), (88, #[.pointer (some ⟨b2 + 1, 0, none⟩), .pointer (some ⟨b2, 0, none⟩)]), (88, #[.pointer (some ⟨b3 + 1, 0, none⟩), .pointer (some ⟨b3, 0, none⟩)]), (51, #[]), (88, #[.pointer (some ⟨b5 + 1, 0, none⟩), .pointer (some ⟨b5, 0, none⟩)]), (91, #[.pointer (some ⟨b6 + 1, 0, none⟩), .pointer (some ⟨b6, 0, none⟩)]), (93, #[.pointer (some ⟨b7 + 1, 0, none⟩), .pointer (some ⟨b7, 0, none⟩)]), (88, #[.pointer (some ⟨b8 + 1, 0, none⟩), .pointer (some ⟨b8, 0, none⟩)]), (96, #[.pointer (some ⟨b9 + 1, 0, none⟩), .pointer (some ⟨b9, 0, none⟩)])]
/-- The variables of a rule's fields, where they lie. -/
structure RuleEnv (g b0 b1 b2 b3 b5 b6 b7 b8 b9 : Nat) (W : World) : Prop where
  e0 : Go.Boxed W b0 3 (.int .i64 1)
  e1 : (Go.Boxed W b1 70 (.pointer (some ⟨g, 0, none⟩)) ∧ Go.Boxed W (b1 + 1) 25 (.func (.func 14) #[] #[]))
  e2 : (Go.Boxed W b2 72 (.pointer (some ⟨g, 1, none⟩)) ∧ Go.Boxed W (b2 + 1) 73 (.func (.func 48) #[] #[]))
  e3 : (Go.Boxed W b3 72 (.pointer (some ⟨g, 2, none⟩)) ∧ Go.Boxed W (b3 + 1) 73 (.func (.func 49) #[] #[.pointer (some ⟨g, 0, none⟩)]))
  e5 : (Go.Boxed W b5 72 (.pointer (some ⟨g, 3, none⟩)) ∧ Go.Boxed W (b5 + 1) 73 (.func (.func 52) #[] #[]))
  e6 : (Go.Boxed W b6 77 (.pointer (some ⟨g, 4, none⟩)) ∧ Go.Boxed W (b6 + 1) 78 (.func (.func 54) #[] #[]))
  e7 : (Go.Boxed W b7 80 (.pointer (some ⟨g, 7, none⟩)) ∧ Go.Boxed W (b7 + 1) 81 (.func (.func 56) #[] #[]))
  e8 : (Go.Boxed W b8 72 (.pointer (some ⟨g, 9, none⟩)) ∧ Go.Boxed W (b8 + 1) 73 (.func (.func 57) #[] #[]))
  e9 : (Go.Boxed W b9 70 (.pointer (some ⟨g, 10, none⟩)) ∧ Go.Boxed W (b9 + 1) 83 (.func (.func 59) #[] #[]))
  ne : g < b0 ∧ g < b1 ∧ g < b2 ∧ g < b3 ∧ g < b5 ∧ g < b6 ∧ g < b7 ∧ g < b8 ∧ g < b9

theorem yr_reads (s : List UInt8) (v x : Int) (W : World) (hs : s.length ≤ 1000) (hA : LaidL W) (HV : Hid (yrV s = v ∧ yrE s = x)) : Reads 48 #[] s (.tuple #[.int .i64 v, .int .i64 x]) W :=
  ⟨enters_of Tryz.func48 (by kernel_rfl) rfl, lyear_is s v x W hs hA HV⟩
theorem mo_reads (s : List UInt8) (v x : Int) (W : World) (hs : s.length ≤ 1000) (hA : LaidL W) (HV : Hid (moV s = v ∧ moE s = x)) : Reads 52 #[] s (.tuple #[.int .i64 v, .int .i64 x]) W :=
  ⟨enters_of Tryz.func52 (by kernel_rfl) rfl, month_is s v x W hs hA.ww (Lib.hid HV.out)⟩
theorem dy_reads (s : List UInt8) (a b c x : Int) (W : World) (hs : s.length ≤ 1000) (hA : LaidL W) (HV : Hid (dyK s = a ∧ dyW s = b ∧ dyN s = c ∧ dyE s = x)) : Reads 54 #[] s (.tuple #[.agg #[.int .i64 a, .int .i64 b, .int .i64 c], .int .i64 x]) W :=
  ⟨enters_of Tryz.func54 (by kernel_rfl) rfl, dparse_is s a b c x W hs hA.ff (Lib.hid (by
    obtain ⟨rfl, rfl, rfl, rfl⟩ := HV.out
    rfl))⟩
theorem at_reads (s : List UInt8) (a b x : Int) (W : World) (hs : s.length ≤ 1000) (hA : LaidL W) (HV : Hid (parN s = a ∧ parK s = b ∧ parE s = x)) : Reads 56 #[] s (.tuple #[.agg #[.int .i64 a, .int .i64 b], .int .i64 x]) W :=
  ⟨enters_of Tryz.func56 (by kernel_rfl) rfl, lparse_is s a b x W hs hA HV⟩
theorem lt_reads (s V : List UInt8) (x : Int) (W : World) (hs : s.length ≤ 1000) (HV : Hid (ltV s = V ∧ ltE s = x)) : Reads 59 #[] s (.tuple #[.string ⟨V.toArray⟩, .int .i64 x]) W :=
  ⟨enters_of Tryz.func59 (by kernel_rfl) rfl, lletter_is s V x W hs HV⟩
theorem last_reads (s : List UInt8) (f v x : Int) (g : Nat) (W : World) (hs : s.length ≤ 1000) (hA : LaidL W) (hc : W.cell? ⟨g, 1, none⟩ = some (.int .i64 f)) (HV : Hid (toV s f = v ∧ toE s f = x)) : Reads 49 #[.pointer (some ⟨g, 0, none⟩)] s (.tuple #[.int .i64 v, .int .i64 x]) W := by
  refine ⟨enters_of Tryz.func49 (by kernel_rfl) rfl, ?_⟩
  have HA := Lib.hid hA
  have q := wcell_lt hc
  show Calls Tryz.prog 49 #[.string ⟨s.toArray⟩, .pointer (some ⟨g, 0, none⟩)] W _
  clear hA
  go_enter Tryz.func49, Tryz.ntmps49
  go_wp2_with (go_at_call 50; refine (llast_is s f v x _ hs HA.out HV).mono ?_; rintro e w1 ⟨rfl, k1⟩; simp only [])
  go_ret2
  exact ⟨rfl, k1⟩

theorem rfld0 (b0 b1 b2 b3 b5 b6 b7 b8 b9 g : Nat) (w W1 : World) (ws : List (List UInt8)) (p : List UInt8) (x : Int) (hA : LaidL w) (kw : Below w.heap.size w W1) (hg : w.heap.size ≤ g) (hgW : g < W1.heap.size) (E : RuleEnv g b0 b1 b2 b3 b5 b6 b7 b8 b9 W1) (hp : wd ws 0 = p) (hl : p.length ≤ 1000) (hx : (rlE ws).getD 0 0 = x) :
    FieldIs W1.heap.size g (St W1 g 34 ∘ rC ws) 0 (85, #[.pointer (some ⟨b0, 0, none⟩)]) p x := by
  refine ⟨enters_of Tryz.func85 (by kernel_rfl) rfl, fun X hX hs => ?_⟩
  have hX : St W1 g 34 (rC ws 0) X := hX
  have ne := E.ne
  have LX : LaidL X := hA.next (hX.bel kw hg)
  have gX : g < X.heap.size := by omega
  subst hp
  refine (kindF_is 0 _ x _ X hl LX (hX.box E.e0 (by omega)) (Lib.hid hx)).mono ?_
  rintro e w' ⟨rfl, k⟩
  exact ⟨rfl, KeptO.below k, k.mono (by omega), fun _ => (hX.next hgW (k.mono hs) : St W1 g _ (rC ws 0) w')⟩

theorem rfld1 (b0 b1 b2 b3 b5 b6 b7 b8 b9 g : Nat) (w W1 : World) (ws : List (List UInt8)) (p : List UInt8) (x : Int) (hA : LaidL w) (kw : Below w.heap.size w W1) (hg : w.heap.size ≤ g) (hgW : g < W1.heap.size) (E : RuleEnv g b0 b1 b2 b3 b5 b6 b7 b8 b9 W1) (hp : wd ws 1 = p) (hl : p.length ≤ 1000) (hx : (rlE ws).getD 1 0 = x) :
    FieldIs W1.heap.size g (St W1 g 34 ∘ rC ws) 1 (87, #[.pointer (some ⟨b1, 0, none⟩), .pointer (some ⟨b1 + 1, 0, none⟩)]) p x := by
  refine ⟨enters_of Tryz.func87 (by kernel_rfl) rfl, fun X hX hs => ?_⟩
  have hX : St W1 g 34 (rC ws 1) X := hX
  have ne := E.ne
  have LX : LaidL X := hA.next (hX.bel kw hg)
  have gX : g < X.heap.size := by omega
  subst hp
  refine (chk_is 14 #[] _ x _ _ g 0 _ _ X (hX.box E.e1.2 (by omega)) (hX.box E.e1.1 (by omega)) hX.row (by simp [rC]) (by omega) (fun W' _ => set_reads _ x W' hl (Lib.hid hx))).mono ?_
  rintro e w' ⟨rfl, k⟩
  exact ⟨rfl, k.keptO hgW, k.below (Nat.le_refl _) (by omega), fun _ => by have h := hX.stored k; have e : (rC ws 1).setIfInBounds 0 (.string ⟨(wd ws 1).toArray⟩) = rC ws 2 := by simp [rC]
                                                                           rw [e] at h; exact h⟩

theorem rfld2 (b0 b1 b2 b3 b5 b6 b7 b8 b9 g : Nat) (w W1 : World) (ws : List (List UInt8)) (p : List UInt8) (x : Int) (hA : LaidL w) (kw : Below w.heap.size w W1) (hg : w.heap.size ≤ g) (hgW : g < W1.heap.size) (E : RuleEnv g b0 b1 b2 b3 b5 b6 b7 b8 b9 W1) (hp : wd ws 2 = p) (hl : p.length ≤ 1000) (hx : (rlE ws).getD 2 0 = x) :
    FieldIs W1.heap.size g (St W1 g 34 ∘ rC ws) 2 (88, #[.pointer (some ⟨b2 + 1, 0, none⟩), .pointer (some ⟨b2, 0, none⟩)]) p x := by
  refine ⟨enters_of Tryz.func88 (by kernel_rfl) rfl, fun X hX hs => ?_⟩
  have hX : St W1 g 34 (rC ws 2) X := hX
  have ne := E.ne
  have LX : LaidL X := hA.next (hX.bel kw hg)
  have gX : g < X.heap.size := by omega
  subst hp
  refine (val_int 48 #[] _ _ x _ _ g 1 _ _ X (hX.box E.e2.2 (by omega)) (hX.box E.e2.1 (by omega)) hX.row (by simp [rC]) (yr_reads _ _ x X hl LX (Lib.hid ⟨rfl, hx⟩))).mono ?_
  rintro e w' ⟨rfl, k⟩
  exact ⟨rfl, k.keptO hgW, k.below (Nat.le_refl _) (by omega), fun _ => by
    have h := hX.stored k
    have e : rC ws 3 = _ := rfl
    show St W1 g _ (rC ws 3) w'
    simpa [rC] using h⟩

theorem rfld3 (b0 b1 b2 b3 b5 b6 b7 b8 b9 g : Nat) (w W1 : World) (ws : List (List UInt8)) (p : List UInt8) (x : Int) (hA : LaidL w) (kw : Below w.heap.size w W1) (hg : w.heap.size ≤ g) (hgW : g < W1.heap.size) (E : RuleEnv g b0 b1 b2 b3 b5 b6 b7 b8 b9 W1) (hp : wd ws 3 = p) (hl : p.length ≤ 1000) (hx : (rlE ws).getD 3 0 = x) :
    FieldIs W1.heap.size g (St W1 g 34 ∘ rC ws) 3 (88, #[.pointer (some ⟨b3 + 1, 0, none⟩), .pointer (some ⟨b3, 0, none⟩)]) p x := by
  refine ⟨enters_of Tryz.func88 (by kernel_rfl) rfl, fun X hX hs => ?_⟩
  have hX : St W1 g 34 (rC ws 3) X := hX
  have ne := E.ne
  have LX : LaidL X := hA.next (hX.bel kw hg)
  have gX : g < X.heap.size := by omega
  subst hp
  refine (val_int 49 _ _ _ x _ _ g 2 _ _ X (hX.box E.e3.2 (by omega)) (hX.box E.e3.1 (by omega)) hX.row (by simp [rC]) (last_reads _ (yrV (wd ws 2)) _ x g X hl LX (by rw [cell_of_row X g 1 _ _ (0, 0) hX.row]; simp [rC]) (Lib.hid ⟨rfl, hx⟩))).mono ?_
  rintro e w' ⟨rfl, k⟩
  exact ⟨rfl, k.keptO hgW, k.below (Nat.le_refl _) (by omega), fun _ => by
    have h := hX.stored k
    have e : rC ws 4 = _ := rfl
    show St W1 g _ (rC ws 4) w'
    simpa [rC] using h⟩

theorem rfld4 (b0 b1 b2 b3 b5 b6 b7 b8 b9 g : Nat) (w W1 : World) (ws : List (List UInt8)) (p : List UInt8) (x : Int) (hA : LaidL w) (kw : Below w.heap.size w W1) (hg : w.heap.size ≤ g) (hgW : g < W1.heap.size) (E : RuleEnv g b0 b1 b2 b3 b5 b6 b7 b8 b9 W1) (hp : wd ws 4 = p) (hl : p.length ≤ 1000) (hx : (rlE ws).getD 4 0 = x) :
    FieldIs W1.heap.size g (St W1 g 34 ∘ rC ws) 4 (51, #[]) p x := by
  refine ⟨enters_of Tryz.func51 (by kernel_rfl) rfl, fun X hX hs => ?_⟩
  have hX : St W1 g 34 (rC ws 4) X := hX
  have ne := E.ne
  have LX : LaidL X := hA.next (hX.bel kw hg)
  have gX : g < X.heap.size := by omega
  subst hp
  refine (ldash_is _ x X (Lib.hid hx)).mono ?_
  rintro e w' ⟨rfl, k⟩
  exact ⟨rfl, KeptO.below k, k.mono (by omega), fun _ => (hX.next hgW (k.mono hs) : St W1 g _ (rC ws 4) w')⟩

theorem rfld5 (b0 b1 b2 b3 b5 b6 b7 b8 b9 g : Nat) (w W1 : World) (ws : List (List UInt8)) (p : List UInt8) (x : Int) (hA : LaidL w) (kw : Below w.heap.size w W1) (hg : w.heap.size ≤ g) (hgW : g < W1.heap.size) (E : RuleEnv g b0 b1 b2 b3 b5 b6 b7 b8 b9 W1) (hp : wd ws 5 = p) (hl : p.length ≤ 1000) (hx : (rlE ws).getD 5 0 = x) :
    FieldIs W1.heap.size g (St W1 g 34 ∘ rC ws) 5 (88, #[.pointer (some ⟨b5 + 1, 0, none⟩), .pointer (some ⟨b5, 0, none⟩)]) p x := by
  refine ⟨enters_of Tryz.func88 (by kernel_rfl) rfl, fun X hX hs => ?_⟩
  have hX : St W1 g 34 (rC ws 5) X := hX
  have ne := E.ne
  have LX : LaidL X := hA.next (hX.bel kw hg)
  have gX : g < X.heap.size := by omega
  subst hp
  refine (val_int 52 #[] _ _ x _ _ g 3 _ _ X (hX.box E.e5.2 (by omega)) (hX.box E.e5.1 (by omega)) hX.row (by simp [rC]) (mo_reads _ _ x X hl LX (Lib.hid ⟨rfl, hx⟩))).mono ?_
  rintro e w' ⟨rfl, k⟩
  exact ⟨rfl, k.keptO hgW, k.below (Nat.le_refl _) (by omega), fun _ => by
    have h := hX.stored k
    have e : rC ws 6 = _ := rfl
    show St W1 g _ (rC ws 6) w'
    simpa [rC] using h⟩

theorem rfld6 (b0 b1 b2 b3 b5 b6 b7 b8 b9 g : Nat) (w W1 : World) (ws : List (List UInt8)) (p : List UInt8) (x : Int) (hA : LaidL w) (kw : Below w.heap.size w W1) (hg : w.heap.size ≤ g) (hgW : g < W1.heap.size) (E : RuleEnv g b0 b1 b2 b3 b5 b6 b7 b8 b9 W1) (hp : wd ws 6 = p) (hl : p.length ≤ 1000) (hx : (rlE ws).getD 6 0 = x) :
    FieldIs W1.heap.size g (St W1 g 34 ∘ rC ws) 6 (91, #[.pointer (some ⟨b6 + 1, 0, none⟩), .pointer (some ⟨b6, 0, none⟩)]) p x := by
  refine ⟨enters_of Tryz.func91 (by kernel_rfl) rfl, fun X hX hs => ?_⟩
  have hX : St W1 g 34 (rC ws 6) X := hX
  have ne := E.ne
  have LX : LaidL X := hA.next (hX.bel kw hg)
  have gX : g < X.heap.size := by omega
  subst hp
  refine (val_day 54 #[] _ _ _ _ x _ _ g 4 _ _ X (hX.box E.e6.2 (by omega)) (hX.box E.e6.1 (by omega)) hX.row (by simp [rC]) (dy_reads _ _ _ _ x X hl LX (Lib.hid ⟨rfl, rfl, rfl, hx⟩))).mono ?_
  rintro e w' ⟨rfl, k⟩
  exact ⟨rfl, k.keptO hgW, k.below (Nat.le_refl _) (by omega), fun _ => by
    have h := hX.stored k
    have e : rC ws 7 = _ := rfl
    show St W1 g _ (rC ws 7) w'
    simpa [rC] using h⟩

theorem rfld7 (b0 b1 b2 b3 b5 b6 b7 b8 b9 g : Nat) (w W1 : World) (ws : List (List UInt8)) (p : List UInt8) (x : Int) (hA : LaidL w) (kw : Below w.heap.size w W1) (hg : w.heap.size ≤ g) (hgW : g < W1.heap.size) (E : RuleEnv g b0 b1 b2 b3 b5 b6 b7 b8 b9 W1) (hp : wd ws 7 = p) (hl : p.length ≤ 1000) (hx : (rlE ws).getD 7 0 = x) :
    FieldIs W1.heap.size g (St W1 g 34 ∘ rC ws) 7 (93, #[.pointer (some ⟨b7 + 1, 0, none⟩), .pointer (some ⟨b7, 0, none⟩)]) p x := by
  refine ⟨enters_of Tryz.func93 (by kernel_rfl) rfl, fun X hX hs => ?_⟩
  have hX : St W1 g 34 (rC ws 7) X := hX
  have ne := E.ne
  have LX : LaidL X := hA.next (hX.bel kw hg)
  have gX : g < X.heap.size := by omega
  subst hp
  refine (val_clk 56 #[] _ _ _ x _ _ g 7 _ _ X (hX.box E.e7.2 (by omega)) (hX.box E.e7.1 (by omega)) hX.row (by simp [rC]) (at_reads _ _ _ x X hl LX (Lib.hid ⟨rfl, rfl, hx⟩))).mono ?_
  rintro e w' ⟨rfl, k⟩
  exact ⟨rfl, k.keptO hgW, k.below (Nat.le_refl _) (by omega), fun _ => by
    have h := hX.stored k
    have e : rC ws 8 = _ := rfl
    show St W1 g _ (rC ws 8) w'
    simpa [rC] using h⟩

theorem rfld8 (b0 b1 b2 b3 b5 b6 b7 b8 b9 g : Nat) (w W1 : World) (ws : List (List UInt8)) (p : List UInt8) (x : Int) (hA : LaidL w) (kw : Below w.heap.size w W1) (hg : w.heap.size ≤ g) (hgW : g < W1.heap.size) (E : RuleEnv g b0 b1 b2 b3 b5 b6 b7 b8 b9 W1) (hp : wd ws 8 = p) (hl : p.length ≤ 1000) (hx : (rlE ws).getD 8 0 = x) :
    FieldIs W1.heap.size g (St W1 g 34 ∘ rC ws) 8 (88, #[.pointer (some ⟨b8 + 1, 0, none⟩), .pointer (some ⟨b8, 0, none⟩)]) p x := by
  refine ⟨enters_of Tryz.func88 (by kernel_rfl) rfl, fun X hX hs => ?_⟩
  have hX : St W1 g 34 (rC ws 8) X := hX
  have ne := E.ne
  have LX : LaidL X := hA.next (hX.bel kw hg)
  have gX : g < X.heap.size := by omega
  subst hp
  refine (val_int 57 #[] _ _ x _ _ g 9 _ _ X (hX.box E.e8.2 (by omega)) (hX.box E.e8.1 (by omega)) hX.row (by simp [rC]) (sec_reads _ _ x X hl LX (Lib.hid ⟨rfl, hx⟩))).mono ?_
  rintro e w' ⟨rfl, k⟩
  exact ⟨rfl, k.keptO hgW, k.below (Nat.le_refl _) (by omega), fun _ => by
    have h := hX.stored k
    have e : rC ws 9 = _ := rfl
    show St W1 g _ (rC ws 9) w'
    simpa [rC] using h⟩

theorem rfld9 (b0 b1 b2 b3 b5 b6 b7 b8 b9 g : Nat) (w W1 : World) (ws : List (List UInt8)) (p : List UInt8) (x : Int) (hA : LaidL w) (kw : Below w.heap.size w W1) (hg : w.heap.size ≤ g) (hgW : g < W1.heap.size) (E : RuleEnv g b0 b1 b2 b3 b5 b6 b7 b8 b9 W1) (hp : wd ws 9 = p) (hl : p.length ≤ 1000) (hx : (rlE ws).getD 9 0 = x) :
    FieldIs W1.heap.size g (St W1 g 34 ∘ rC ws) 9 (96, #[.pointer (some ⟨b9 + 1, 0, none⟩), .pointer (some ⟨b9, 0, none⟩)]) p x := by
  refine ⟨enters_of Tryz.func96 (by kernel_rfl) rfl, fun X hX hs => ?_⟩
  have hX : St W1 g 34 (rC ws 9) X := hX
  have ne := E.ne
  have LX : LaidL X := hA.next (hX.bel kw hg)
  have gX : g < X.heap.size := by omega
  subst hp
  refine (val_str 59 #[] _ _ x _ _ g 10 _ _ X (hX.box E.e9.2 (by omega)) (hX.box E.e9.1 (by omega)) hX.row (by simp [rC]) (lt_reads _ _ x X hl (Lib.hid ⟨rfl, hx⟩))).mono ?_
  rintro e w' ⟨rfl, k⟩
  exact ⟨rfl, k.keptO hgW, k.below (Nat.le_refl _) (by omega), fun _ => by
    have h := hX.stored k
    have e : rC ws 10 = _ := rfl
    show St W1 g _ (rC ws 10) w'
    simpa [rC] using h⟩

theorem rule_fields (b0 b1 b2 b3 b5 b6 b7 b8 b9 g : Nat) (w W1 : World) (ws : List (List UInt8)) (hA : LaidL w) (kw : Below w.heap.size w W1) (hg : w.heap.size ≤ g) (hgW : g < W1.heap.size) (E : RuleEnv g b0 b1 b2 b3 b5 b6 b7 b8 b9 W1) (hl : ∀ p ∈ ws, p.length ≤ 1000) (i : Nat) (p : List UInt8) (f : Nat × Array Value) (x : Int)
    (hp : ws[i]? = some p) (hf : (rFs b0 b1 b2 b3 b5 b6 b7 b8 b9)[i]? = some f) (hx : (rlE ws)[i]? = some x) : FieldIs W1.heap.size g (fun i X => St W1 g 34 (rC ws i) X) i f p x := by
  have hpl := hl p (List.mem_of_getElem? hp)
  have hw : wd ws i = p := by unfold wd; rw [List.getD_eq_getElem?_getD, hp]; rfl
  have hx' : (rlE ws).getD i 0 = x := by rw [List.getD_eq_getElem?_getD, hx]; rfl
  have hi : i < 10 := (List.getElem?_eq_some_iff.1 hf).1
  match i, hi with
  | 0, _ => obtain rfl := Option.some.inj hf; exact rfld0 b0 b1 b2 b3 b5 b6 b7 b8 b9 g w W1 ws p x hA kw hg hgW E hw hpl hx'
  | 1, _ => obtain rfl := Option.some.inj hf; exact rfld1 b0 b1 b2 b3 b5 b6 b7 b8 b9 g w W1 ws p x hA kw hg hgW E hw hpl hx'
  | 2, _ => obtain rfl := Option.some.inj hf; exact rfld2 b0 b1 b2 b3 b5 b6 b7 b8 b9 g w W1 ws p x hA kw hg hgW E hw hpl hx'
  | 3, _ => obtain rfl := Option.some.inj hf; exact rfld3 b0 b1 b2 b3 b5 b6 b7 b8 b9 g w W1 ws p x hA kw hg hgW E hw hpl hx'
  | 4, _ => obtain rfl := Option.some.inj hf; exact rfld4 b0 b1 b2 b3 b5 b6 b7 b8 b9 g w W1 ws p x hA kw hg hgW E hw hpl hx'
  | 5, _ => obtain rfl := Option.some.inj hf; exact rfld5 b0 b1 b2 b3 b5 b6 b7 b8 b9 g w W1 ws p x hA kw hg hgW E hw hpl hx'
  | 6, _ => obtain rfl := Option.some.inj hf; exact rfld6 b0 b1 b2 b3 b5 b6 b7 b8 b9 g w W1 ws p x hA kw hg hgW E hw hpl hx'
  | 7, _ => obtain rfl := Option.some.inj hf; exact rfld7 b0 b1 b2 b3 b5 b6 b7 b8 b9 g w W1 ws p x hA kw hg hgW E hw hpl hx'
  | 8, _ => obtain rfl := Option.some.inj hf; exact rfld8 b0 b1 b2 b3 b5 b6 b7 b8 b9 g w W1 ws p x hA kw hg hgW E hw hpl hx'
  | 9, _ => obtain rfl := Option.some.inj hf; exact rfld9 b0 b1 b2 b3 b5 b6 b7 b8 b9 g w W1 ws p x hA kw hg hgW E hw hpl hx'

theorem wd_get {ws : List (List UInt8)} {i : Nat} {p : List UInt8} (h : ws[i]? = some p) : wd ws i = p := by unfold wd; rw [List.getD_eq_getElem?_getD, h]; rfl
set_option maxHeartbeats 3200000 in
theorem rule_ten (L off c : Nat) (ws : List (List UInt8)) (w : World) (hn : ws.length = 10) (hl : ∀ p ∈ ws, p.length ≤ 500) (hW : ∀ i p, ws[i]? = some p → w.cell? ⟨L, off + i, none⟩ = some (.string ⟨p.toArray⟩)) (hA : LaidL w) (v : Int) (hv : Hid (first (rlE ws) = v)) (r : RV) (hr : Hid (r = if v = 0 then rlV ws else r0)) :
    Calls Tryz.prog 19 #[.slice (some ⟨L, off, none⟩) 10 c] w fun e w' => e = .returned (.tuple #[rvV r, .int .i64 v]) ∧ Below w.heap.size w w' := by
  have hmf : ∀ (fn : Fn) (first cap : Array Value) (w : World), (Instr.makeFunc fn first cap).run Tryz.prog w = .ok (.func fn first cap) w := fun _ _ _ _ => rfl
  have hLw : L < w.heap.size := by
    obtain ⟨p0, hp0⟩ : ∃ p, ws[0]? = some p := ⟨_, List.getElem?_eq_getElem (by omega)⟩
    exact wcell_lt (hW 0 p0 hp0)
  obtain ⟨W0, hW0⟩ : ∃ W0, (w.alloc (.cells #[.string ⟨#[]⟩, .int .i64 0, .int .i64 0, .int .i64 0, .int .i64 0, .int .i64 0, .int .i64 0, .int .i64 0, .int .i64 0, .int .i64 0, .string ⟨#[]⟩] 34)).alloc (.cells #[.string ⟨#[]⟩, .int .i64 0, .int .i64 0, .int .i64 0, .int .i64 0, .int .i64 0, .int .i64 0, .int .i64 0, .int .i64 0, .int .i64 0, .string ⟨#[]⟩] 34) = W0 := ⟨_, rfl⟩
  obtain ⟨g, hg⟩ : ∃ g, w.heap.size + 1 = g := ⟨_, rfl⟩
  have B0 : Hid (Below w.heap.size w W0) := Lib.hid (by rw [← hW0]; exact ((Below.refl _ _).alloc (Nat.le_refl _) _).alloc (by simp) _)
  have Z0h : Hid (W0.heap.size = g + 1) := Lib.hid (by rw [← hW0, ← hg]; simp)
  have RG : Hid (W0.heap[g]? = some (.cells #[.string ⟨#[]⟩, .int .i64 0, .int .i64 0, .int .i64 0, .int .i64 0, .int .i64 0, .int .i64 0, .int .i64 0, .int .i64 0, .int .i64 0, .string ⟨#[]⟩] 34 (0, 0))) := Lib.hid (by
    rw [← hW0, ← hg]
    have := World.alloc_heap_new (w.alloc (.cells #[.string ⟨#[]⟩, .int .i64 0, .int .i64 0, .int .i64 0, .int .i64 0, .int .i64 0, .int .i64 0, .int .i64 0, .int .i64 0, .int .i64 0, .string ⟨#[]⟩] 34)) (.cells #[.string ⟨#[]⟩, .int .i64 0, .int .i64 0, .int .i64 0, .int .i64 0, .int .i64 0, .int .i64 0, .int .i64 0, .int .i64 0, .int .i64 0, .string ⟨#[]⟩] 34)
    rwa [World.size_alloc] at this)
  have RH : Hid (W0.heap[w.heap.size]? = some (.cells #[.string ⟨#[]⟩, .int .i64 0, .int .i64 0, .int .i64 0, .int .i64 0, .int .i64 0, .int .i64 0, .int .i64 0, .int .i64 0, .int .i64 0, .string ⟨#[]⟩] 34 (0, 0))) := Lib.hid (by
    rw [← hW0]
    exact (Below.heap_alloc _ _ _ (by simp)).trans (World.alloc_heap_new w _))
  have ⟨T1, T2, T3, T4, T5, T6, T7, T8, T9⟩ : Hid True ∧ Hid True ∧ Hid True ∧ Hid True ∧ Hid True ∧ Hid True ∧ Hid True ∧ Hid True ∧ Hid True := ⟨trivial, trivial, trivial, trivial, trivial, trivial, trivial, trivial, trivial⟩
  have HWd := Lib.hid hW
  have HA := Lib.hid hA
  have HL := Lib.hid hl
  have HN := Lib.hid hn
  clear hW hA hl hn
  go_enter Tryz.func19, Tryz.ntmps19
  go_wp2_with (first
    | (go_at_call 45; have := T1.out; refine (mkKind 1 _).mono ?_; rintro e w1 ⟨rfl, d1, k1⟩; have D1 := Lib.hid (And.intro d1 k1); clear this T1 d1 k1; simp only [])
    | (go_at_call 46; have := T2.out; refine (mkChk _ 0 14 _).mono ?_; rintro e w2 ⟨rfl, d2, k2⟩; have D2 := Lib.hid (And.intro d2 k2); clear this T2 d2 k2; simp only [])
    | (go_at_call 47; have := T3.out; refine (mkInt _ 1 48 #[] _).mono ?_; rintro e w3 ⟨rfl, d3, k3⟩; have D3 := Lib.hid (And.intro d3 k3); clear this T3 d3 k3; simp only [])
    | (go_at_call 47; have := T4.out; refine (mkInt _ 2 49 _ _).mono ?_; rintro e w4 ⟨rfl, d4, k4⟩; have D4 := Lib.hid (And.intro d4 k4); clear this T4 d4 k4; simp only [])
    | (go_at_call 47; have := T5.out; refine (mkInt _ 3 52 #[] _).mono ?_; rintro e w5 ⟨rfl, d5, k5⟩; have D5 := Lib.hid (And.intro d5 k5); clear this T5 d5 k5; simp only [])
    | (go_at_call 53; have := T6.out; refine (mkDay _ 4 54 #[] _).mono ?_; rintro e w6 ⟨rfl, d6, k6⟩; have D6 := Lib.hid (And.intro d6 k6); clear this T6 d6 k6; simp only [])
    | (go_at_call 55; have := T7.out; refine (mkClk _ 7 56 #[] _).mono ?_; rintro e w7 ⟨rfl, d7, k7⟩; have D7 := Lib.hid (And.intro d7 k7); clear this T7 d7 k7; simp only [])
    | (go_at_call 47; have := T8.out; refine (mkInt _ 9 57 #[] _).mono ?_; rintro e w8 ⟨rfl, d8, k8⟩; have D8 := Lib.hid (And.intro d8 k8); clear this T8 d8 k8; simp only [])
    | (go_at_call 58; have := T9.out; refine (mkStr _ 10 59 #[] _).mono ?_; rintro e w9 ⟨rfl, d9, k9⟩; have D9 := Lib.hid (And.intro d9 k9); clear this T9 d9 k9; simp only []))
  have Z0 := Z0h.out
  obtain ⟨W1, hW1⟩ : ∃ W1, w9.alloc (.cells #[.func (.func 85) #[] #[.pointer (some ⟨W0.heap.size, 0, none⟩)], .func (.func 87) #[] #[.pointer (some ⟨w1.heap.size, 0, none⟩), .pointer (some ⟨w1.heap.size + 1, 0, none⟩)], .func (.func 88) #[] #[.pointer (some ⟨w2.heap.size + 1, 0, none⟩), .pointer (some ⟨w2.heap.size, 0, none⟩)], .func (.func 88) #[] #[.pointer (some ⟨w3.heap.size + 1, 0, none⟩), .pointer (some ⟨w3.heap.size, 0, none⟩)], .func (.func 51) #[] #[], .func (.func 88) #[] #[.pointer (some ⟨w4.heap.size + 1, 0, none⟩), .pointer (some ⟨w4.heap.size, 0, none⟩)], .func (.func 91) #[] #[.pointer (some ⟨w5.heap.size + 1, 0, none⟩), .pointer (some ⟨w5.heap.size, 0, none⟩)], .func (.func 93) #[] #[.pointer (some ⟨w6.heap.size + 1, 0, none⟩), .pointer (some ⟨w6.heap.size, 0, none⟩)], .func (.func 88) #[] #[.pointer (some ⟨w7.heap.size + 1, 0, none⟩), .pointer (some ⟨w7.heap.size, 0, none⟩)], .func (.func 96) #[] #[.pointer (some ⟨w8.heap.size + 1, 0, none⟩), .pointer (some ⟨w8.heap.size, 0, none⟩)]] 67) = W1 := ⟨_, rfl⟩
  have NF : Hid (W1.heap[w9.heap.size]? = some (.cells #[.func (.func 85) #[] #[.pointer (some ⟨W0.heap.size, 0, none⟩)], .func (.func 87) #[] #[.pointer (some ⟨w1.heap.size, 0, none⟩), .pointer (some ⟨w1.heap.size + 1, 0, none⟩)], .func (.func 88) #[] #[.pointer (some ⟨w2.heap.size + 1, 0, none⟩), .pointer (some ⟨w2.heap.size, 0, none⟩)], .func (.func 88) #[] #[.pointer (some ⟨w3.heap.size + 1, 0, none⟩), .pointer (some ⟨w3.heap.size, 0, none⟩)], .func (.func 51) #[] #[], .func (.func 88) #[] #[.pointer (some ⟨w4.heap.size + 1, 0, none⟩), .pointer (some ⟨w4.heap.size, 0, none⟩)], .func (.func 91) #[] #[.pointer (some ⟨w5.heap.size + 1, 0, none⟩), .pointer (some ⟨w5.heap.size, 0, none⟩)], .func (.func 93) #[] #[.pointer (some ⟨w6.heap.size + 1, 0, none⟩), .pointer (some ⟨w6.heap.size, 0, none⟩)], .func (.func 88) #[] #[.pointer (some ⟨w7.heap.size + 1, 0, none⟩), .pointer (some ⟨w7.heap.size, 0, none⟩)], .func (.func 96) #[] #[.pointer (some ⟨w8.heap.size + 1, 0, none⟩), .pointer (some ⟨w8.heap.size, 0, none⟩)]] 67 (0, 0))) := Lib.hid (by rw [← hW1]; exact World.alloc_heap_new w9 _)
  have C9 : Below w9.heap.size w9 W1 := by rw [← hW1]; exact (Below.refl _ _).alloc (Nat.le_refl _) _
  have C8 : Below w8.heap.size w8 W1 := D9.out.2.trans (C9.mono D9.out.2.size)
  have C7 : Below w7.heap.size w7 W1 := D8.out.2.trans (C8.mono D8.out.2.size)
  have C6 : Below w6.heap.size w6 W1 := D7.out.2.trans (C7.mono D7.out.2.size)
  have C5 : Below w5.heap.size w5 W1 := D6.out.2.trans (C6.mono D6.out.2.size)
  have C4 : Below w4.heap.size w4 W1 := D5.out.2.trans (C5.mono D5.out.2.size)
  have C3 : Below w3.heap.size w3 W1 := D4.out.2.trans (C4.mono D4.out.2.size)
  have C2 : Below w2.heap.size w2 W1 := D3.out.2.trans (C3.mono D3.out.2.size)
  have C1 : Below w1.heap.size w1 W1 := D2.out.2.trans (C2.mono D2.out.2.size)
  have C0 : Below W0.heap.size W0 W1 := D1.out.2.trans (C1.mono D1.out.2.size)
  have s1 := D1.out.2.size
  have s2 := D2.out.2.size
  have s3 := D3.out.2.size
  have s4 := D4.out.2.size
  have s5 := D5.out.2.size
  have s6 := D6.out.2.size
  have s7 := D7.out.2.size
  have s8 := D8.out.2.size
  have s9 := D9.out.2.size
  have kw : Below w.heap.size w W1 := B0.out.trans (C0.mono B0.out.size)
  have E : RuleEnv g W0.heap.size w1.heap.size w2.heap.size w3.heap.size w4.heap.size w5.heap.size w6.heap.size w7.heap.size w8.heap.size W1 := ⟨Box.same D1.out.1 (C1.block _ D1.out.1.lt), ⟨Box.same D2.out.1.1 (C2.block _ D2.out.1.1.lt), Box.same D2.out.1.2 (C2.block _ D2.out.1.2.lt)⟩, ⟨Box.same D3.out.1.1 (C3.block _ D3.out.1.1.lt), Box.same D3.out.1.2 (C3.block _ D3.out.1.2.lt)⟩, ⟨Box.same D4.out.1.1 (C4.block _ D4.out.1.1.lt), Box.same D4.out.1.2 (C4.block _ D4.out.1.2.lt)⟩, ⟨Box.same D5.out.1.1 (C5.block _ D5.out.1.1.lt), Box.same D5.out.1.2 (C5.block _ D5.out.1.2.lt)⟩, ⟨Box.same D6.out.1.1 (C6.block _ D6.out.1.1.lt), Box.same D6.out.1.2 (C6.block _ D6.out.1.2.lt)⟩, ⟨Box.same D7.out.1.1 (C7.block _ D7.out.1.1.lt), Box.same D7.out.1.2 (C7.block _ D7.out.1.2.lt)⟩, ⟨Box.same D8.out.1.1 (C8.block _ D8.out.1.1.lt), Box.same D8.out.1.2 (C8.block _ D8.out.1.2.lt)⟩, ⟨Box.same D9.out.1.1 (C9.block _ D9.out.1.1.lt), Box.same D9.out.1.2 (C9.block _ D9.out.1.2.lt)⟩, by omega⟩
  have RG1 : Hid (W1.heap[g]? = some (.cells (rC ws 0) 34 (0, 0))) := Lib.hid ((C0.block g (by omega)).trans RG.out)
  have RH1 : Hid (W1.heap[w.heap.size]? = some (.cells #[.string ⟨#[]⟩, .int .i64 0, .int .i64 0, .int .i64 0, .int .i64 0, .int .i64 0, .int .i64 0, .int .i64 0, .int .i64 0, .int .i64 0, .string ⟨#[]⟩] 34 (0, 0))) := Lib.hid ((C0.block w.heap.size (by omega)).trans RH.out)
  have hgW : g < W1.heap.size := row_lt RG1.out
  have LA : ∀ W, St W1 g 34 (rC ws 0) W → True := fun _ _ => trivial
  have RD := Lib.hid (lread_in 5 rfl g L off w9.heap.size 10 10 c 10 ws (rFs W0.heap.size w1.heap.size w2.heap.size w3.heap.size w4.heap.size w5.heap.size w6.heap.size w7.heap.size w8.heap.size) (rlE ws) (fun i X => St W1 g 34 (rC ws i) X) W1 v HN.out rfl rfl (by omega) (by omega) (by omega)
    (fun i X Y h k => h.next hgW k)
    (fun i X h => ⟨fun j p hp => by rw [(h.bel kw (by omega)).cell (p := ⟨L, _, none⟩) hLw]; exact HWd.out j p hp, fun j f hf => by
      have hb : X.heap[w9.heap.size]? = _ := (h.gr.block _ (row_lt NF.out) (by intro e; injection e with e; omega)).trans NF.out
      have hj : j < 10 := (List.getElem?_eq_some_iff.1 hf).1
      rw [cell_of_row X w9.heap.size j _ _ (0, 0) hb]
      match j, hj with
      | 0, _ => obtain rfl := Option.some.inj hf; rfl
      | 1, _ => obtain rfl := Option.some.inj hf; rfl
      | 2, _ => obtain rfl := Option.some.inj hf; rfl
      | 3, _ => obtain rfl := Option.some.inj hf; rfl
      | 4, _ => obtain rfl := Option.some.inj hf; rfl
      | 5, _ => obtain rfl := Option.some.inj hf; rfl
      | 6, _ => obtain rfl := Option.some.inj hf; rfl
      | 7, _ => obtain rfl := Option.some.inj hf; rfl
      | 8, _ => obtain rfl := Option.some.inj hf; rfl
      | 9, _ => obtain rfl := Option.some.inj hf; rfl⟩)
    (rule_fields W0.heap.size w1.heap.size w2.heap.size w3.heap.size w4.heap.size w5.heap.size w6.heap.size w7.heap.size w8.heap.size g w W1 ws HA.out kw (by omega) hgW E (fun p hp => Nat.le_trans (HL.out p hp) (by omega)))
    ⟨grown_any (Below.refl _ _) _, RG1.out⟩ hv)
  have KW := Lib.hid kw
  clear E LA kw C0 C1 C2 C3 C4 C5 C6 C7 C8 C9
  rw [hW1]
  clear hW1 hW0
  refine (callsIn_wide.1 RD.out).mono ?_
  rintro e w' ⟨rfl, kb, kz⟩
  have RH2 : Hid (w'.heap[w.heap.size]? = some (.cells #[.string ⟨#[]⟩, .int .i64 0, .int .i64 0, .int .i64 0, .int .i64 0, .int .i64 0, .int .i64 0, .int .i64 0, .int .i64 0, .int .i64 0, .string ⟨#[]⟩] 34 (0, 0))) := Lib.hid ((kb.block w.heap.size (by omega)).trans RH1.out)
  have KB : Hid (Below w.heap.size w w') := Lib.hid (KW.out.trans (kb.mono (by omega)))
  have KZ := Lib.hid kz
  clear kb kz
  simp only []
  by_cases h0 : v = 0
  · subst h0
    obtain rfl : r = rlV ws := hr.out
    have R10 : Hid (w'.heap[g]? = some (.cells #[.string ⟨(wd ws 1).toArray⟩, .int .i64 (yrV (wd ws 2)), .int .i64 (toV (wd ws 3) (yrV (wd ws 2))), .int .i64 (moV (wd ws 5)), .int .i64 (dyK (wd ws 6)), .int .i64 (dyW (wd ws 6)), .int .i64 (dyN (wd ws 6)), .int .i64 (parN (wd ws 7)), .int .i64 (parK (wd ws 7)), .int .i64 (ofV (wd ws 8)), .string ⟨(ltV (wd ws 9)).toArray⟩] 34 (0, 0))) := Lib.hid (by have := (KZ.out rfl).row; simpa [rC] using this)
    have gc0 := cell_of_row w' g 0 _ _ (0, 0) R10.out
    have gc1 := cell_of_row w' g 1 _ _ (0, 0) R10.out
    have gc2 := cell_of_row w' g 2 _ _ (0, 0) R10.out
    have gc3 := cell_of_row w' g 3 _ _ (0, 0) R10.out
    have gc4 := cell_of_row w' g 4 _ _ (0, 0) R10.out
    have gc5 := cell_of_row w' g 5 _ _ (0, 0) R10.out
    have gc6 := cell_of_row w' g 6 _ _ (0, 0) R10.out
    have gc7 := cell_of_row w' g 7 _ _ (0, 0) R10.out
    have gc8 := cell_of_row w' g 8 _ _ (0, 0) R10.out
    have gc9 := cell_of_row w' g 9 _ _ (0, 0) R10.out
    have gc10 := cell_of_row w' g 10 _ _ (0, 0) R10.out
    have gq := row_lt R10.out
    have hc0 := cell_of_row w' w.heap.size 0 _ _ (0, 0) RH2.out
    have hf0 := row_frozen (o := 0) RH2.out
    have hc1 := cell_of_row w' w.heap.size 1 _ _ (0, 0) RH2.out
    have hf1 := row_frozen (o := 1) RH2.out
    have hc2 := cell_of_row w' w.heap.size 2 _ _ (0, 0) RH2.out
    have hf2 := row_frozen (o := 2) RH2.out
    have hc3 := cell_of_row w' w.heap.size 3 _ _ (0, 0) RH2.out
    have hf3 := row_frozen (o := 3) RH2.out
    have hc4 := cell_of_row w' w.heap.size 4 _ _ (0, 0) RH2.out
    have hf4 := row_frozen (o := 4) RH2.out
    have hc5 := cell_of_row w' w.heap.size 5 _ _ (0, 0) RH2.out
    have hf5 := row_frozen (o := 5) RH2.out
    have hc6 := cell_of_row w' w.heap.size 6 _ _ (0, 0) RH2.out
    have hf6 := row_frozen (o := 6) RH2.out
    have hc7 := cell_of_row w' w.heap.size 7 _ _ (0, 0) RH2.out
    have hf7 := row_frozen (o := 7) RH2.out
    have hc8 := cell_of_row w' w.heap.size 8 _ _ (0, 0) RH2.out
    have hf8 := row_frozen (o := 8) RH2.out
    have hc9 := cell_of_row w' w.heap.size 9 _ _ (0, 0) RH2.out
    have hf9 := row_frozen (o := 9) RH2.out
    have hc10 := cell_of_row w' w.heap.size 10 _ _ (0, 0) RH2.out
    have hf10 := row_frozen (o := 10) RH2.out
    have hq := row_lt RH2.out
    go_wp2
    refine ret11 RH2.out rfl _ _ _ _ _ _ _ _ _ _ _ (fun W' hrow hgr => ?_)
    have rc0 := cell_of_row W' w.heap.size 0 _ _ (0, 0) hrow
    have rc1 := cell_of_row W' w.heap.size 1 _ _ (0, 0) hrow
    have rc2 := cell_of_row W' w.heap.size 2 _ _ (0, 0) hrow
    have rc3 := cell_of_row W' w.heap.size 3 _ _ (0, 0) hrow
    have rc4 := cell_of_row W' w.heap.size 4 _ _ (0, 0) hrow
    have rc5 := cell_of_row W' w.heap.size 5 _ _ (0, 0) hrow
    have rc6 := cell_of_row W' w.heap.size 6 _ _ (0, 0) hrow
    have rc7 := cell_of_row W' w.heap.size 7 _ _ (0, 0) hrow
    have rc8 := cell_of_row W' w.heap.size 8 _ _ (0, 0) hrow
    have rc9 := cell_of_row W' w.heap.size 9 _ _ (0, 0) hrow
    have rc10 := cell_of_row W' w.heap.size 10 _ _ (0, 0) hrow
    refine bodyPost_ret (v := .tuple #[rvV (rlV ws), .int .i64 0]) (by simp [results, Tryz.results19, go_sem, rc0, rc1, rc2, rc3, rc4, rc5, rc6, rc7, rc8, rc9, rc10, rvV, rlV]) rfl ⟨rfl, ?_⟩
    exact KB.out.grown hgr KB.out.size (fun j e => by injection e with e; omega)
  · have hv0 := e0_no h0
    obtain rfl : r = r0 := by have := hr.out; rwa [if_neg h0] at this
    clear h0
    have hc0 := cell_of_row w' w.heap.size 0 _ _ (0, 0) RH2.out
    have hf0 := row_frozen (o := 0) RH2.out
    have hc1 := cell_of_row w' w.heap.size 1 _ _ (0, 0) RH2.out
    have hf1 := row_frozen (o := 1) RH2.out
    have hc2 := cell_of_row w' w.heap.size 2 _ _ (0, 0) RH2.out
    have hf2 := row_frozen (o := 2) RH2.out
    have hc3 := cell_of_row w' w.heap.size 3 _ _ (0, 0) RH2.out
    have hf3 := row_frozen (o := 3) RH2.out
    have hc4 := cell_of_row w' w.heap.size 4 _ _ (0, 0) RH2.out
    have hf4 := row_frozen (o := 4) RH2.out
    have hc5 := cell_of_row w' w.heap.size 5 _ _ (0, 0) RH2.out
    have hf5 := row_frozen (o := 5) RH2.out
    have hc6 := cell_of_row w' w.heap.size 6 _ _ (0, 0) RH2.out
    have hf6 := row_frozen (o := 6) RH2.out
    have hc7 := cell_of_row w' w.heap.size 7 _ _ (0, 0) RH2.out
    have hf7 := row_frozen (o := 7) RH2.out
    have hc8 := cell_of_row w' w.heap.size 8 _ _ (0, 0) RH2.out
    have hf8 := row_frozen (o := 8) RH2.out
    have hc9 := cell_of_row w' w.heap.size 9 _ _ (0, 0) RH2.out
    have hf9 := row_frozen (o := 9) RH2.out
    have hc10 := cell_of_row w' w.heap.size 10 _ _ (0, 0) RH2.out
    have hf10 := row_frozen (o := 10) RH2.out
    have hq := row_lt RH2.out
    go_wp2
    refine ret11 RH2.out rfl _ _ _ _ _ _ _ _ _ _ _ (fun W' hrow hgr => ?_)
    have rc0 := cell_of_row W' w.heap.size 0 _ _ (0, 0) hrow
    have rc1 := cell_of_row W' w.heap.size 1 _ _ (0, 0) hrow
    have rc2 := cell_of_row W' w.heap.size 2 _ _ (0, 0) hrow
    have rc3 := cell_of_row W' w.heap.size 3 _ _ (0, 0) hrow
    have rc4 := cell_of_row W' w.heap.size 4 _ _ (0, 0) hrow
    have rc5 := cell_of_row W' w.heap.size 5 _ _ (0, 0) hrow
    have rc6 := cell_of_row W' w.heap.size 6 _ _ (0, 0) hrow
    have rc7 := cell_of_row W' w.heap.size 7 _ _ (0, 0) hrow
    have rc8 := cell_of_row W' w.heap.size 8 _ _ (0, 0) hrow
    have rc9 := cell_of_row W' w.heap.size 9 _ _ (0, 0) hrow
    have rc10 := cell_of_row W' w.heap.size 10 _ _ (0, 0) hrow
    refine bodyPost_ret (v := .tuple #[rvV r0, .int .i64 v]) (by simp [results, Tryz.results19, go_sem, rc0, rc1, rc2, rc3, rc4, rc5, rc6, rc7, rc8, rc9, rc10, rvV, r0]) rfl ⟨rfl, ?_⟩
    exact KB.out.grown hgr KB.out.size (fun j e => by injection e with e; omega)

theorem lrule_is (A : Option Addr) (n c : Nat) (ws : List (List UInt8)) (w : World) (hn : ws.length = n) (hl : ∀ p ∈ ws, p.length ≤ 500) (hW : ArgW A ws w) (hA : LaidL w) (r : RV) (v : Int) (hr : Hid (rlS ws = r ∧ rlX ws = v)) :
    Calls Tryz.prog 19 #[.slice A n c] w fun e w' => e = .returned (.tuple #[rvV r, .int .i64 v]) ∧ Below w.heap.size w w' := by
  obtain ⟨rfl, rfl⟩ := hr.out
  by_cases h : n = 10
  · subst h
    obtain ⟨L, off, rfl, hW'⟩ := hW.some (by omega)
    have e1 : rlX ws = first (rlE ws) := by unfold rlX; rw [if_pos hn]
    exact rule_ten L off c ws w hn hl hW' hA _ (Lib.hid e1.symm) _ (Lib.hid rfl)
  · have e1 : rlX ws = 14 := by unfold rlX; rw [if_neg (by omega)]
    have e2 : rlS ws = r0 := by unfold rlS; rw [e1]; rfl
    rw [e1, e2]
    exact rule_many A n c w h

end Go.Proofs.YtfmehdophoejiaaGreatDoor
