/- The contract of clock.Text: what it returns, for every input; nothing that was in memory changes. The table of powers of ten reads as it is laid. -/
import Derived.Test.YtjafbopmedbhcaaDoorTxB
import Derived.Test.YtjafbopmedbhcaaDoorTxP
import Derived.Test.YtjafbopmedbhcaaDoorClkA
namespace Go.Proofs.YtjafbopmedbhcaaDoor
open Go.RowKit

theorem text_no (n : Int) (w : World) (h : ¬ (-604800 < n ∧ n < 604800)) :
    Calls Tryd.prog 17 #[.int .i64 n] w fun e w' => e = .returned (.tuple #[.string ⟨#[]⟩, .int .i64 10]) ∧ Below w.heap.size w w' := by
  have H := Lib.hid h
  clear h
  go_enter Tryd.func17, Tryd.ntmps17
  go_wp2_with (go_at_call 25; refine (mayBe_no _ _ H.out).mono ?_; rintro e w2 ⟨rfl, rfl⟩)
  go_ret2
  exact ⟨rfl, Below.refl _ _⟩

set_option maxHeartbeats 3200000 in
theorem text_pos0 (h m s : Nat) (T : List UInt8) (w : World) (hT : Hid (([] : List UInt8) ++ hms h m s = T)) (hp : PowAt w) (hh : h < 168) (hm : m < 60) (_ : s < 60) (hz : s = 0) :
    Calls Tryd.prog 17 #[.int .i64 (3600 * h + 60 * m + s)] w fun e w' => e = .returned (.tuple #[.string ⟨T.toArray⟩, .int .i64 0]) ∧ Below w.heap.size w w' := by
  have hmf : ∀ (fn : Fn) (first cap : Array Value) (w : World), (Instr.makeFunc fn first cap).run Tryd.prog w = .ok (.func fn first cap) w := fun _ _ _ _ => rfl
  have HP := Lib.hid hp
  have HZ := Lib.hid hz
  obtain ⟨n, hn⟩ : ∃ n : Nat, 3600 * h + 60 * m + s = n := ⟨_, rfl⟩
  have e0 : (3600 * h + 60 * m + s : Int) = (n : Int) := by omega
  rw [e0]
  have e1 : (n : Int) / 3600 = (h : Int) := by omega
  have e2 : (n : Int) % 3600 / 60 = (m : Int) := by omega
  have e3 : (n : Int) % 60 = (s : Int) := by omega
  have B1 : Hid (-604800 < (n : Int)) := (by omega : -604800 < (n : Int))
  have B2 : Hid ((n : Int) < 604800) := (by omega : (n : Int) < 604800)
  have l1 := pd1_len (n := h) (by omega)
  have l2 := pd2_len (n := m) (by omega)
  have l3 := pd2_len (n := s) (by omega)
  have b3 : decide ((n : Int) < 0) = false := by simp only [decide_eq_false_iff_not]; omega
  clear hp hn e0 hz
  go_enter Tryd.func17, Tryd.ntmps17
  go_wp2_with (first
    | (go_at_call 25; refine (mayBe_yes _ _ B1.out B2.out).mono ?_; rintro e w2 ⟨rfl, rfl⟩; simp only []))
  have K1 : Hid (Below w.heap.size w (w.alloc (.cells #[.slice none 0 0] 58))) := (Below.refl _ _).alloc (Nat.le_refl _) _
  have P1 := Lib.hid (TextIs.new w)
  refine (dig_any h 1 w.heap.size (([] : List UInt8)) _ (by omega) (by omega) (by omega) (by simp) (HP.out.next K1.out) P1.out).mono ?_
  rintro e w2 ⟨rfl, x2, b2⟩
  simp only []
  have K2 := Lib.hid (K1.out.trans b2)
  clear b2
  generalize hx2 : (([] : List UInt8)) ++ pd 1 h = L2 at x2
  have X2L := Lib.hid hx2
  have hL2 : L2.length ≤ 20 := by rw [← hx2]; simp only [List.length_append, List.length_nil]; omega
  clear hx2
  obtain ⟨A2, c2, X2⟩ := x2
  have hc2 := X2.cell
  have hf2 := X2.frozen
  have hlt2 := X2.lt
  have Y2 := Lib.hid (X2.next ((Below.refl _ _).alloc (Nat.le_refl _) (.cells #[.int .u8 58] 5)))
  clear X2
  go_wp2_with (first
    | (at_builtin
       refine wpList_push1 (by rfl) (.tmp 22) (.tmp 23) (by rfl) (n := L2.length) (m := L2.length + 1) rfl rfl Y2.out (by rfl) ⟨w2.heap.size, 0, none⟩ 58 (by rfl) (by simp) (by omega) ?_
       intro A2' c2' v2 p1 p2 p3 p4
       have P2 := Lib.hid p1
       have K2' := Lib.hid ((K2.out.alloc (by have := K2.out.size; omega) (.cells #[.int .u8 58] 5)).trans p2)
       clear p1 p2 hc2 hf2 Y2))
  clear p3 p4
  clear b3
  refine (dig_any m 2 w.heap.size (L2 ++ [58]) _ (by omega) (by omega) (by omega) (by simp; omega) (HP.out.next K2'.out) P2.out).mono ?_
  rintro e w3 ⟨rfl, x3, b3⟩
  simp only []
  have K3 := Lib.hid (K2'.out.trans b3)
  clear b3
  generalize hx3 : (L2 ++ [58]) ++ pd 2 m = L3 at x3
  have X3L := Lib.hid hx3
  have hL3 : L3.length ≤ 30 := by rw [← hx3]; simp only [List.length_append, List.length_cons, List.length_nil]; omega
  clear hx3
  have b4 : decide (0 < s) = false := by have := HZ.out; simp only [decide_eq_false_iff_not]; omega
  have b5 : decide (0 < (s : Int)) = false := by have := HZ.out; simp only [decide_eq_false_iff_not]; omega
  obtain ⟨A9, c9, X9⟩ := x3
  have hc9 := X9.cell
  have hf9 := X9.frozen
  have hlt9 := X9.lt
  have l9 : 0 < L3.length := by rw [← X3L.out]; simp only [List.length_append, List.length_cons]; omega
  have hcv := text_string X9 l9
  clear X9
  go_wp2
  go_ret2
  have E : T = L3 := by
    rw [← hT.out]
    unfold hms
    rw [← X3L.out, ← X2L.out, if_pos HZ.out]
    simp
  rw [E]
  exact ⟨rfl, K3.out⟩

set_option maxHeartbeats 3200000 in
theorem text_poss (h m s : Nat) (T : List UInt8) (w : World) (hT : Hid (([] : List UInt8) ++ hms h m s = T)) (hp : PowAt w) (hh : h < 168) (hm : m < 60) (hs : s < 60) (hz : 0 < s) :
    Calls Tryd.prog 17 #[.int .i64 (3600 * h + 60 * m + s)] w fun e w' => e = .returned (.tuple #[.string ⟨T.toArray⟩, .int .i64 0]) ∧ Below w.heap.size w w' := by
  have hmf : ∀ (fn : Fn) (first cap : Array Value) (w : World), (Instr.makeFunc fn first cap).run Tryd.prog w = .ok (.func fn first cap) w := fun _ _ _ _ => rfl
  have HP := Lib.hid hp
  have HZ := Lib.hid hz
  obtain ⟨n, hn⟩ : ∃ n : Nat, 3600 * h + 60 * m + s = n := ⟨_, rfl⟩
  have e0 : (3600 * h + 60 * m + s : Int) = (n : Int) := by omega
  rw [e0]
  have e1 : (n : Int) / 3600 = (h : Int) := by omega
  have e2 : (n : Int) % 3600 / 60 = (m : Int) := by omega
  have e3 : (n : Int) % 60 = (s : Int) := by omega
  have B1 : Hid (-604800 < (n : Int)) := (by omega : -604800 < (n : Int))
  have B2 : Hid ((n : Int) < 604800) := (by omega : (n : Int) < 604800)
  have l1 := pd1_len (n := h) (by omega)
  have l2 := pd2_len (n := m) (by omega)
  have l3 := pd2_len (n := s) (by omega)
  have b3 : decide ((n : Int) < 0) = false := by simp only [decide_eq_false_iff_not]; omega
  clear hp hn e0 hz
  go_enter Tryd.func17, Tryd.ntmps17
  go_wp2_with (first
    | (go_at_call 25; refine (mayBe_yes _ _ B1.out B2.out).mono ?_; rintro e w2 ⟨rfl, rfl⟩; simp only []))
  have K1 : Hid (Below w.heap.size w (w.alloc (.cells #[.slice none 0 0] 58))) := (Below.refl _ _).alloc (Nat.le_refl _) _
  have P1 := Lib.hid (TextIs.new w)
  refine (dig_any h 1 w.heap.size (([] : List UInt8)) _ (by omega) (by omega) (by omega) (by simp) (HP.out.next K1.out) P1.out).mono ?_
  rintro e w2 ⟨rfl, x2, b2⟩
  simp only []
  have K2 := Lib.hid (K1.out.trans b2)
  clear b2
  generalize hx2 : (([] : List UInt8)) ++ pd 1 h = L2 at x2
  have X2L := Lib.hid hx2
  have hL2 : L2.length ≤ 20 := by rw [← hx2]; simp only [List.length_append, List.length_nil]; omega
  clear hx2
  obtain ⟨A2, c2, X2⟩ := x2
  have hc2 := X2.cell
  have hf2 := X2.frozen
  have hlt2 := X2.lt
  have Y2 := Lib.hid (X2.next ((Below.refl _ _).alloc (Nat.le_refl _) (.cells #[.int .u8 58] 5)))
  clear X2
  go_wp2_with (first
    | (at_builtin
       refine wpList_push1 (by rfl) (.tmp 22) (.tmp 23) (by rfl) (n := L2.length) (m := L2.length + 1) rfl rfl Y2.out (by rfl) ⟨w2.heap.size, 0, none⟩ 58 (by rfl) (by simp) (by omega) ?_
       intro A2' c2' v2 p1 p2 p3 p4
       have P2 := Lib.hid p1
       have K2' := Lib.hid ((K2.out.alloc (by have := K2.out.size; omega) (.cells #[.int .u8 58] 5)).trans p2)
       clear p1 p2 hc2 hf2 Y2))
  clear p3 p4
  clear b3
  refine (dig_any m 2 w.heap.size (L2 ++ [58]) _ (by omega) (by omega) (by omega) (by simp; omega) (HP.out.next K2'.out) P2.out).mono ?_
  rintro e w3 ⟨rfl, x3, b3⟩
  simp only []
  have K3 := Lib.hid (K2'.out.trans b3)
  clear b3
  generalize hx3 : (L2 ++ [58]) ++ pd 2 m = L3 at x3
  have X3L := Lib.hid hx3
  have hL3 : L3.length ≤ 30 := by rw [← hx3]; simp only [List.length_append, List.length_cons, List.length_nil]; omega
  clear hx3
  have b4 : 0 < s := HZ.out
  have b5 : 0 < (s : Int) := by omega
  obtain ⟨A3, c3, X3⟩ := x3
  have hc3 := X3.cell
  have hf3 := X3.frozen
  have hlt3 := X3.lt
  have Y3 := Lib.hid (X3.next ((Below.refl _ _).alloc (Nat.le_refl _) (.cells #[.int .u8 58] 5)))
  clear X3
  go_wp2_with (first
    | (at_builtin
       refine wpList_push1 (by rfl) (.tmp 34) (.tmp 35) (by rfl) (n := L3.length) (m := L3.length + 1) rfl rfl Y3.out (by rfl) ⟨w3.heap.size, 0, none⟩ 58 (by rfl) (by simp) (by omega) ?_
       intro A3' c3' v3 p1 p2 p3 p4
       have P3 := Lib.hid p1
       have K3' := Lib.hid ((K3.out.alloc (by have := K3.out.size; omega) (.cells #[.int .u8 58] 5)).trans p2)
       clear p1 p2 hc3 hf3 Y3))
  clear p3 p4
  refine (dig_any s 2 w.heap.size (L3 ++ [58]) _ (by omega) (by omega) (by omega) (by simp; omega) (HP.out.next K3'.out) P3.out).mono ?_
  rintro e w4 ⟨rfl, x4, b4⟩
  simp only []
  have K4 := Lib.hid (K3'.out.trans b4)
  clear b4
  generalize hx4 : (L3 ++ [58]) ++ pd 2 s = L4 at x4
  have X4L := Lib.hid hx4
  have hL4 : L4.length ≤ 40 := by rw [← hx4]; simp only [List.length_append, List.length_cons, List.length_nil]; omega
  clear hx4
  obtain ⟨A9, c9, X9⟩ := x4
  have hc9 := X9.cell
  have hf9 := X9.frozen
  have hlt9 := X9.lt
  have l9 : 0 < L4.length := by rw [← X4L.out]; simp only [List.length_append, List.length_cons]; omega
  have hcv := text_string X9 l9
  clear X9
  go_wp2
  go_ret2
  have E : T = L4 := by
    rw [← hT.out]
    unfold hms
    rw [← X4L.out, ← X3L.out, ← X2L.out, if_neg (by have := HZ.out; omega)]
    simp
  rw [E]
  exact ⟨rfl, K4.out⟩

set_option maxHeartbeats 3200000 in
theorem text_neg0 (h m s : Nat) (T : List UInt8) (w : World) (hT : Hid ([45] ++ hms h m s = T)) (hp : PowAt w) (hh : h < 168) (hm : m < 60) (_ : s < 60) (hz : s = 0) (h0 : 0 < 3600 * h + 60 * m + s) :
    Calls Tryd.prog 17 #[.int .i64 (-(3600 * h + 60 * m + s))] w fun e w' => e = .returned (.tuple #[.string ⟨T.toArray⟩, .int .i64 0]) ∧ Below w.heap.size w w' := by
  have hmf : ∀ (fn : Fn) (first cap : Array Value) (w : World), (Instr.makeFunc fn first cap).run Tryd.prog w = .ok (.func fn first cap) w := fun _ _ _ _ => rfl
  have HP := Lib.hid hp
  have HZ := Lib.hid hz
  obtain ⟨n, hn⟩ : ∃ n : Nat, 3600 * h + 60 * m + s = n := ⟨_, rfl⟩
  have e0 : (3600 * h + 60 * m + s : Int) = (n : Int) := by omega
  rw [e0]
  have e1 : (n : Int) / 3600 = (h : Int) := by omega
  have e2 : (n : Int) % 3600 / 60 = (m : Int) := by omega
  have e3 : (n : Int) % 60 = (s : Int) := by omega
  have B1 : Hid (-604800 < -(n : Int)) := (by omega : -604800 < -(n : Int))
  have B2 : Hid (-(n : Int) < 604800) := (by omega : -(n : Int) < 604800)
  have l1 := pd1_len (n := h) (by omega)
  have l2 := pd2_len (n := m) (by omega)
  have l3 := pd2_len (n := s) (by omega)
  have b3 : 0 < (n : Int) := by omega
  clear hp hn e0 hz h0
  go_enter Tryd.func17, Tryd.ntmps17
  go_wp2_with (first
    | (go_at_call 25; refine (mayBe_yes _ _ B1.out B2.out).mono ?_; rintro e w2 ⟨rfl, rfl⟩; simp only [])
    | (at_builtin
       have X1 : Hid (TextAt w.heap.size none 0 [] ((w.alloc (.cells #[.slice none 0 0] 58)).alloc (.cells #[.int .u8 45] 5))) := (TextAt.new w).next ((Below.refl _ _).alloc (Nat.le_refl _) _)
       refine wpList_push1 (by rfl) (.tmp 13) (.tmp 14) (by rfl) (n := 0) (m := 1) rfl rfl X1.out (by rfl) ⟨w.heap.size + 1, 0, none⟩ 45 (by rfl) (by simp) (by omega) ?_
       intro A1 c1 w1 p1 p2 p3 p4
       have P1 := Lib.hid p1
       have K1 := Lib.hid (((((Below.refl w.heap.size w).alloc (Nat.le_refl _) (.cells #[.slice none 0 0] 58)).alloc (by simp) (.cells #[.int .u8 45] 5))).trans p2)
       clear p1 p2 X1))
  refine (dig_any h 1 w.heap.size (([] : List UInt8) ++ [45]) _ (by omega) (by omega) (by omega) (by simp) (HP.out.next K1.out) P1.out).mono ?_
  rintro e w2 ⟨rfl, x2, b2⟩
  simp only []
  have K2 := Lib.hid (K1.out.trans b2)
  clear b2
  generalize hx2 : (([] : List UInt8) ++ [45]) ++ pd 1 h = L2 at x2
  have X2L := Lib.hid hx2
  have hL2 : L2.length ≤ 20 := by rw [← hx2]; simp only [List.length_append, List.length_cons, List.length_nil]; omega
  clear hx2
  obtain ⟨A2, c2, X2⟩ := x2
  have hc2 := X2.cell
  have hf2 := X2.frozen
  have hlt2 := X2.lt
  have Y2 := Lib.hid (X2.next ((Below.refl _ _).alloc (Nat.le_refl _) (.cells #[.int .u8 58] 5)))
  clear X2
  go_wp2_with (first
    | (at_builtin
       refine wpList_push1 (by rfl) (.tmp 22) (.tmp 23) (by rfl) (n := L2.length) (m := L2.length + 1) rfl rfl Y2.out (by rfl) ⟨w2.heap.size, 0, none⟩ 58 (by rfl) (by simp) (by omega) ?_
       intro A2' c2' v2 p1 p2 p3 p4
       have P2 := Lib.hid p1
       have K2' := Lib.hid ((K2.out.alloc (by have := K2.out.size; omega) (.cells #[.int .u8 58] 5)).trans p2)
       clear p1 p2 hc2 hf2 Y2))
  clear p3 p4
  refine (dig_any m 2 w.heap.size (L2 ++ [58]) _ (by omega) (by omega) (by omega) (by simp; omega) (HP.out.next K2'.out) P2.out).mono ?_
  rintro e w3 ⟨rfl, x3, b3⟩
  simp only []
  have K3 := Lib.hid (K2'.out.trans b3)
  clear b3
  generalize hx3 : (L2 ++ [58]) ++ pd 2 m = L3 at x3
  have X3L := Lib.hid hx3
  have hL3 : L3.length ≤ 30 := by rw [← hx3]; simp only [List.length_append, List.length_cons, List.length_nil]; omega
  clear hx3
  have b4 : decide (0 < s) = false := by have := HZ.out; simp only [decide_eq_false_iff_not]; omega
  have b5 : decide (0 < (s : Int)) = false := by have := HZ.out; simp only [decide_eq_false_iff_not]; omega
  obtain ⟨A9, c9, X9⟩ := x3
  have hc9 := X9.cell
  have hf9 := X9.frozen
  have hlt9 := X9.lt
  have l9 : 0 < L3.length := by rw [← X3L.out]; simp only [List.length_append, List.length_cons]; omega
  have hcv := text_string X9 l9
  clear X9
  go_wp2
  go_ret2
  have E : T = L3 := by
    rw [← hT.out]
    unfold hms
    rw [← X3L.out, ← X2L.out, if_pos HZ.out]
    simp
  rw [E]
  exact ⟨rfl, K3.out⟩

set_option maxHeartbeats 3200000 in
theorem text_negs (h m s : Nat) (T : List UInt8) (w : World) (hT : Hid ([45] ++ hms h m s = T)) (hp : PowAt w) (hh : h < 168) (hm : m < 60) (hs : s < 60) (hz : 0 < s) (h0 : 0 < 3600 * h + 60 * m + s) :
    Calls Tryd.prog 17 #[.int .i64 (-(3600 * h + 60 * m + s))] w fun e w' => e = .returned (.tuple #[.string ⟨T.toArray⟩, .int .i64 0]) ∧ Below w.heap.size w w' := by
  have hmf : ∀ (fn : Fn) (first cap : Array Value) (w : World), (Instr.makeFunc fn first cap).run Tryd.prog w = .ok (.func fn first cap) w := fun _ _ _ _ => rfl
  have HP := Lib.hid hp
  have HZ := Lib.hid hz
  obtain ⟨n, hn⟩ : ∃ n : Nat, 3600 * h + 60 * m + s = n := ⟨_, rfl⟩
  have e0 : (3600 * h + 60 * m + s : Int) = (n : Int) := by omega
  rw [e0]
  have e1 : (n : Int) / 3600 = (h : Int) := by omega
  have e2 : (n : Int) % 3600 / 60 = (m : Int) := by omega
  have e3 : (n : Int) % 60 = (s : Int) := by omega
  have B1 : Hid (-604800 < -(n : Int)) := (by omega : -604800 < -(n : Int))
  have B2 : Hid (-(n : Int) < 604800) := (by omega : -(n : Int) < 604800)
  have l1 := pd1_len (n := h) (by omega)
  have l2 := pd2_len (n := m) (by omega)
  have l3 := pd2_len (n := s) (by omega)
  have b3 : 0 < (n : Int) := by omega
  clear hp hn e0 hz h0
  go_enter Tryd.func17, Tryd.ntmps17
  go_wp2_with (first
    | (go_at_call 25; refine (mayBe_yes _ _ B1.out B2.out).mono ?_; rintro e w2 ⟨rfl, rfl⟩; simp only [])
    | (at_builtin
       have X1 : Hid (TextAt w.heap.size none 0 [] ((w.alloc (.cells #[.slice none 0 0] 58)).alloc (.cells #[.int .u8 45] 5))) := (TextAt.new w).next ((Below.refl _ _).alloc (Nat.le_refl _) _)
       refine wpList_push1 (by rfl) (.tmp 13) (.tmp 14) (by rfl) (n := 0) (m := 1) rfl rfl X1.out (by rfl) ⟨w.heap.size + 1, 0, none⟩ 45 (by rfl) (by simp) (by omega) ?_
       intro A1 c1 w1 p1 p2 p3 p4
       have P1 := Lib.hid p1
       have K1 := Lib.hid (((((Below.refl w.heap.size w).alloc (Nat.le_refl _) (.cells #[.slice none 0 0] 58)).alloc (by simp) (.cells #[.int .u8 45] 5))).trans p2)
       clear p1 p2 X1))
  refine (dig_any h 1 w.heap.size (([] : List UInt8) ++ [45]) _ (by omega) (by omega) (by omega) (by simp) (HP.out.next K1.out) P1.out).mono ?_
  rintro e w2 ⟨rfl, x2, b2⟩
  simp only []
  have K2 := Lib.hid (K1.out.trans b2)
  clear b2
  generalize hx2 : (([] : List UInt8) ++ [45]) ++ pd 1 h = L2 at x2
  have X2L := Lib.hid hx2
  have hL2 : L2.length ≤ 20 := by rw [← hx2]; simp only [List.length_append, List.length_cons, List.length_nil]; omega
  clear hx2
  obtain ⟨A2, c2, X2⟩ := x2
  have hc2 := X2.cell
  have hf2 := X2.frozen
  have hlt2 := X2.lt
  have Y2 := Lib.hid (X2.next ((Below.refl _ _).alloc (Nat.le_refl _) (.cells #[.int .u8 58] 5)))
  clear X2
  go_wp2_with (first
    | (at_builtin
       refine wpList_push1 (by rfl) (.tmp 22) (.tmp 23) (by rfl) (n := L2.length) (m := L2.length + 1) rfl rfl Y2.out (by rfl) ⟨w2.heap.size, 0, none⟩ 58 (by rfl) (by simp) (by omega) ?_
       intro A2' c2' v2 p1 p2 p3 p4
       have P2 := Lib.hid p1
       have K2' := Lib.hid ((K2.out.alloc (by have := K2.out.size; omega) (.cells #[.int .u8 58] 5)).trans p2)
       clear p1 p2 hc2 hf2 Y2))
  clear p3 p4
  refine (dig_any m 2 w.heap.size (L2 ++ [58]) _ (by omega) (by omega) (by omega) (by simp; omega) (HP.out.next K2'.out) P2.out).mono ?_
  rintro e w3 ⟨rfl, x3, b3⟩
  simp only []
  have K3 := Lib.hid (K2'.out.trans b3)
  clear b3
  generalize hx3 : (L2 ++ [58]) ++ pd 2 m = L3 at x3
  have X3L := Lib.hid hx3
  have hL3 : L3.length ≤ 30 := by rw [← hx3]; simp only [List.length_append, List.length_cons, List.length_nil]; omega
  clear hx3
  have b4 : 0 < s := HZ.out
  have b5 : 0 < (s : Int) := by omega
  obtain ⟨A3, c3, X3⟩ := x3
  have hc3 := X3.cell
  have hf3 := X3.frozen
  have hlt3 := X3.lt
  have Y3 := Lib.hid (X3.next ((Below.refl _ _).alloc (Nat.le_refl _) (.cells #[.int .u8 58] 5)))
  clear X3
  go_wp2_with (first
    | (at_builtin
       refine wpList_push1 (by rfl) (.tmp 34) (.tmp 35) (by rfl) (n := L3.length) (m := L3.length + 1) rfl rfl Y3.out (by rfl) ⟨w3.heap.size, 0, none⟩ 58 (by rfl) (by simp) (by omega) ?_
       intro A3' c3' v3 p1 p2 p3 p4
       have P3 := Lib.hid p1
       have K3' := Lib.hid ((K3.out.alloc (by have := K3.out.size; omega) (.cells #[.int .u8 58] 5)).trans p2)
       clear p1 p2 hc3 hf3 Y3))
  clear p3 p4
  refine (dig_any s 2 w.heap.size (L3 ++ [58]) _ (by omega) (by omega) (by omega) (by simp; omega) (HP.out.next K3'.out) P3.out).mono ?_
  rintro e w4 ⟨rfl, x4, b4⟩
  simp only []
  have K4 := Lib.hid (K3'.out.trans b4)
  clear b4
  generalize hx4 : (L3 ++ [58]) ++ pd 2 s = L4 at x4
  have X4L := Lib.hid hx4
  have hL4 : L4.length ≤ 40 := by rw [← hx4]; simp only [List.length_append, List.length_cons, List.length_nil]; omega
  clear hx4
  obtain ⟨A9, c9, X9⟩ := x4
  have hc9 := X9.cell
  have hf9 := X9.frozen
  have hlt9 := X9.lt
  have l9 : 0 < L4.length := by rw [← X4L.out]; simp only [List.length_append, List.length_cons]; omega
  have hcv := text_string X9 l9
  clear X9
  go_wp2
  go_ret2
  have E : T = L4 := by
    rw [← hT.out]
    unfold hms
    rw [← X4L.out, ← X3L.out, ← X2L.out, if_neg (by have := HZ.out; omega)]
    simp
  rw [E]
  exact ⟨rfl, K4.out⟩

theorem text_nat (n : Nat) (w : World) (hp : PowAt w) (h : n < 604800) :
    Calls Tryd.prog 17 #[.int .i64 n] w fun e w' => e = .returned (.tuple #[.string ⟨([] ++ textN n).toArray⟩, .int .i64 0]) ∧ Below w.heap.size w w' := by
  have e : (n : Int) = 3600 * (n / 3600 : Nat) + 60 * (n % 3600 / 60 : Nat) + (n % 60 : Nat) := by omega
  unfold textN
  rw [e]
  rcases Nat.eq_zero_or_pos (n % 60) with h0 | h0
  · exact text_pos0 _ _ _ _ w (Lib.hid rfl) hp (by omega) (by omega) (by omega) h0
  · exact text_poss _ _ _ _ w (Lib.hid rfl) hp (by omega) (by omega) (by omega) h0
theorem text_min (n : Nat) (w : World) (hp : PowAt w) (h : n < 604800) (hn : 0 < n) :
    Calls Tryd.prog 17 #[.int .i64 (-(n : Int))] w fun e w' => e = .returned (.tuple #[.string ⟨([45] ++ textN n).toArray⟩, .int .i64 0]) ∧ Below w.heap.size w w' := by
  have e : (n : Int) = 3600 * (n / 3600 : Nat) + 60 * (n % 3600 / 60 : Nat) + (n % 60 : Nat) := by omega
  unfold textN
  rw [e]
  rcases Nat.eq_zero_or_pos (n % 60) with h0 | h0
  · exact text_neg0 _ _ _ _ w (Lib.hid rfl) hp (by omega) (by omega) (by omega) h0 (by omega)
  · exact text_negs _ _ _ _ w (Lib.hid rfl) hp (by omega) (by omega) (by omega) h0 (by omega)
theorem text_yes (n : Int) (w : World) (hp : PowAt w) (h1 : -604800 < n) (h2 : n < 604800) :
    Calls Tryd.prog 17 #[.int .i64 n] w fun e w' => e = .returned (.tuple #[.string ⟨(textL n).toArray⟩, .int .i64 0]) ∧ Below w.heap.size w w' := by
  by_cases h : n < 0
  · obtain ⟨k, hk⟩ := Int.eq_ofNat_of_zero_le (show 0 ≤ -n by omega)
    obtain rfl : n = -(k : Int) := by omega
    have := text_min k w hp (by omega) (by omega)
    rwa [show [45] ++ textN k = textL (-(k : Int)) by unfold textL; rw [if_pos h]; simp] at this
  · obtain ⟨k, rfl⟩ := Int.eq_ofNat_of_zero_le (show 0 ≤ n by omega)
    have := text_nat k w hp (by omega)
    rwa [show [] ++ textN k = textL (k : Int) by unfold textL; rw [if_neg h]; simp] at this
end Go.Proofs.YtjafbopmedbhcaaDoor
