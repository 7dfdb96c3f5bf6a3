/- The contracts of abbr.twoDigits, text and Offset: which text an offset is, or that it is too far; nothing that was in memory changes.
The contracts of abbr.seconds and Parse: which offset a text is, or that it is none; nothing that was in memory changes.
The contract of abbr.Show: how a time is called, or what is wrong; the law's own examples; nothing that was in memory changes. -/
import Derived.Test.YtdmfgechoanmlaaGreatDoorMZR
import Derived.Test.YtdmfgechoanmlaaGreatDoorMZS
import Derived.Shelf.Strings.Cut
namespace Go.Proofs.YtdmfgechoanmlaaGreatDoor
open Go.RowKit
attribute [local go_sem] Oper.semAt_some

theorem ab_bapp {w : World} {ops : Array Oper} {rest : List Oper} {o : Oper} {a : Act} {Q : Exit → Act → World → Prop} (hgd : o.guard = none) (s x : Operand)
    (ho : o.op = .call { callee := .builtin .append, args := #[s, x], argTypes := #[181, 181] }) {base n c c2 m g : Nat} {A : Option Addr} {l l2 : List UInt8} (hn2 : l2.length = 2) (hm : n + 2 = m) (X : w.ownsRow base 5 1 (.slice A n c) n (ubl l))
    (hs : a.eval s = .slice A n c) (hx : a.eval x = .slice (some ⟨g, 0, none⟩) 2 c2) (h2 : By w (some ⟨g, 0, none⟩) l2) (hl : m ≤ 100000) (hbase : base ≤ w.heap.size)
    (h : ∀ A' c' w', w'.ownsRow base 5 1 (.slice A' m c') m (ubl (l ++ l2)) → Below base w w' → wpList Tryz.prog ops Q rest (a.put o.dst (.slice A' m c')) w') : wpList Tryz.prog ops Q (o :: rest) a w :=
  wpList_bapp hgd s x ho hn2 hm X hs hx h2 (by simp) hl hbase h
theorem digs (n : Nat) (h : n < 100) : ∃ d e : UInt8, two n = [d, e] ∧ (d.toNat : Int) = 48 + (n : Int) / 10 ∧ (e.toNat : Int) = 48 + (n : Int) % 10 := by
  refine ⟨_, _, rfl, ?_, ?_⟩
  · rw [UInt8.toNat_ofNat']; omega
  · rw [UInt8.toNat_ofNat']; omega
set_option maxHeartbeats 800000 in
theorem twod_is {base n n2 c : Nat} {A : Option Addr} {l : List UInt8} (m : Nat) (w : World) (hm : Hid (m < 100)) (hn : n + 2 = n2) (X : Hid (w.ownsRow base 5 1 (.slice A n c) n (ubl l))) (hb : Hid (base ≤ w.heap.size ∧ n ≤ 20)) :
    Calls Tryz.prog 127 #[.slice A n c, .int .i64 (m : Int)] w fun e w' => ∃ A' c', e = .returned (.slice A' n2 c') ∧ w'.ownsRow base 5 1 (.slice A' n2 c') n2 (ubl (l ++ two m)) ∧ Below base w w' := by
  obtain ⟨d, e, hde, hd, he⟩ := digs m hm.out
  have DE := Lib.hid hde
  have e1 : 48 + (m : Int) / 10 = (d.toNat : Int) := hd.symm
  have e2 : 48 + (m : Int) % 10 = (e.toNat : Int) := he.symm
  have BN := Lib.hid (By.new w [d, e] #[.int .u8 (d.toNat : Int), .int .u8 (e.toNat : Int)] rfl)
  have HN := Lib.hid hn
  have X1 : Hid ((w.alloc (.cells #[.int .u8 (d.toNat : Int), .int .u8 (e.toNat : Int)] 5)).ownsRow base 5 1 (.slice A n c) n (ubl l)) := Lib.hid (X.out.alloc _)
  have hm2 := hm.out
  clear hd he hde hn hm X
  go_enter Tryz.func127, Tryz.ntmps127
  go_wp2_with (first
    | (at_builtin
       refine ab_bapp (by rfl) (.tmp 5) (.tmp 14) (by rfl) (l2 := [d, e]) rfl HN.out X1.out (by rfl) (by rfl) BN.out (by have := hb.out.2; have := HN.out; omega) (by have := hb.out.1; simp; omega) ?_
       intro A2 c2 w2 x2 k2
       have X2 := Lib.hid x2
       have K2 := Lib.hid k2
       clear x2 k2))
  go_ret
  rw [DE.out]
  exact ⟨A2, c2, rfl, X2.out, ((Below.refl base w).alloc hb.out.1 _).trans K2.out⟩


theorem ab_str {W : World} {g n c : Nat} {A : Option Addr} {l : List UInt8} (h : W.ownsRow g 5 1 (.slice A n c) n (ubl l)) (h0 : 0 < n) : (convert 181 9 (.slice A n c)).run Tryz.prog W = .ok (.string ⟨l.toArray⟩) W := by
  have hn : n = l.length := by have := h.1; rw [ubl_len] at this; omega
  subst hn
  obtain ⟨g', cap, rfl, rfl, hc⟩ := wown_cells h h0
  exact run_convert_bytes_back W _ _ 5 ⟨g', 0, none⟩ _ l Tryz.underlying181 Tryz.underlying5 Tryz.underlying9 (fun j hj => by
    have := hc j (.int .u8 ((l[j]'hj).toNat : Int)) (by simp [ubl, hj])
    rw [Go.WideShapes.add_plain, Nat.zero_add]; exact this)

set_option maxHeartbeats 1600000 in
theorem tx_p1 (N H M0 M S : Nat) (w : World) (h : N < 360000) (hH : N / 3600 = H) (hM0 : N % 3600 = M0) (hM : M0 / 60 = M) (hS : N % 60 = S) (z : M0 = 0) :
    Calls Tryz.prog 103 #[.int .i64 (N : Int)] w fun e w' => e = .returned (.string ⟨(([43] ++ two H)).toArray⟩) ∧ Below w.heap.size w w' := by
  have e1 : (N : Int) / 3600 = (H : Int) := by omega
  have e2 : (N : Int) % 3600 = (M0 : Int) := by omega
  have e4 : (N : Int) % 60 = (S : Int) := by omega
  have t1 : ((M0 : Int) != 0) = false := by simp; omega
  have t2 : ((S : Int) != 0) = false := by simp; omega
  have HH : Hid (H < 100) := Lib.hid (by omega)
  have hn : ¬ (N : Int) < 0 := by omega
  have X0 : Hid ((w.alloc (.cells #[.int .u8 43] 5)).ownsRow w.heap.size 5 1 (.slice (some ⟨w.heap.size, 0, none⟩) 1 1) 1 (ubl [43])) := Lib.hid (World.ownsRow_lit w #[.int .u8 43] 1 (Nat.le_refl _) (by decide) rfl)
  have B0 : Hid (w.heap.size ≤ (w.alloc (.cells #[.int .u8 43] 5)).heap.size ∧ 1 ≤ 20) := Lib.hid ⟨by simp, by omega⟩
  have K0 : Hid (Below w.heap.size w (w.alloc (.cells #[.int .u8 43] 5))) := Lib.hid ((Below.refl _ _).alloc (Nat.le_refl _) _)
  have bH : H < 100 := by omega
  have b0 : M0 < 3600 := by omega
  have bM : M < 100 := by omega
  have bS : S < 60 := by omega
  clear hH hM0 hM hS z
  go_enter Tryz.func103, Tryz.ntmps103
  go_wp2_with (first
    | (go_at_call 127; with_reducible refine (twod_is (n2 := 3) H _ HH (by rfl) X0 B0).mono ?_; rintro e w1 ⟨A1, c1, rfl, x1, k1⟩; simp only []
       have X1 := Lib.hid x1
       have K1 := Lib.hid (K0.out.trans k1)
       have B1 : Hid (w.heap.size ≤ w1.heap.size ∧ 3 ≤ 20) := Lib.hid ⟨K1.out.size, by omega⟩
       have hcv := ab_str X1.out (by omega)
       clear x1 k1)
    )
  go_ret
  exact ⟨rfl, K1.out⟩

set_option maxHeartbeats 1600000 in
theorem tx_p2 (N H M0 M S : Nat) (w : World) (h : N < 360000) (hH : N / 3600 = H) (hM0 : N % 3600 = M0) (hM : M0 / 60 = M) (hS : N % 60 = S) (z : M0 ≠ 0) (z2 : S = 0) :
    Calls Tryz.prog 103 #[.int .i64 (N : Int)] w fun e w' => e = .returned (.string ⟨(([43] ++ two H) ++ two M).toArray⟩) ∧ Below w.heap.size w w' := by
  have e1 : (N : Int) / 3600 = (H : Int) := by omega
  have e2 : (N : Int) % 3600 = (M0 : Int) := by omega
  have e4 : (N : Int) % 60 = (S : Int) := by omega
  have e3 : (M0 : Int) / 60 = (M : Int) := by omega
  have t1 : ((M0 : Int) != 0) = true := by simp; omega
  have t2 : ((S : Int) != 0) = false := by simp; omega
  have HH : Hid (H < 100) := Lib.hid (by omega)
  have HM : Hid (M < 100) := Lib.hid (by omega)
  have hn : ¬ (N : Int) < 0 := by omega
  have X0 : Hid ((w.alloc (.cells #[.int .u8 43] 5)).ownsRow w.heap.size 5 1 (.slice (some ⟨w.heap.size, 0, none⟩) 1 1) 1 (ubl [43])) := Lib.hid (World.ownsRow_lit w #[.int .u8 43] 1 (Nat.le_refl _) (by decide) rfl)
  have B0 : Hid (w.heap.size ≤ (w.alloc (.cells #[.int .u8 43] 5)).heap.size ∧ 1 ≤ 20) := Lib.hid ⟨by simp, by omega⟩
  have K0 : Hid (Below w.heap.size w (w.alloc (.cells #[.int .u8 43] 5))) := Lib.hid ((Below.refl _ _).alloc (Nat.le_refl _) _)
  have bH : H < 100 := by omega
  have b0 : M0 < 3600 := by omega
  have bM : M < 100 := by omega
  have bS : S < 60 := by omega
  clear hH hM0 hM hS z z2
  go_enter Tryz.func103, Tryz.ntmps103
  go_wp2_with (first
    | (go_at_call 127; with_reducible refine (twod_is (n2 := 3) H _ HH (by rfl) X0 B0).mono ?_; rintro e w1 ⟨A1, c1, rfl, x1, k1⟩; simp only []
       have X1 := Lib.hid x1
       have K1 := Lib.hid (K0.out.trans k1)
       have B1 : Hid (w.heap.size ≤ w1.heap.size ∧ 3 ≤ 20) := Lib.hid ⟨K1.out.size, by omega⟩
       clear x1 k1)
    | (go_at_call 127; with_reducible refine (twod_is (n2 := 5) M _ HM (by rfl) X1 B1).mono ?_; rintro e w2 ⟨A2, c2, rfl, x2, k2⟩; simp only []
       have X2 := Lib.hid x2
       have K2 := Lib.hid (K1.out.trans k2)
       have B2 : Hid (w.heap.size ≤ w2.heap.size ∧ 5 ≤ 20) := Lib.hid ⟨K2.out.size, by omega⟩
       have hcv := ab_str X2.out (by omega)
       clear x2 k2)
    )
  go_ret
  exact ⟨rfl, K2.out⟩

set_option maxHeartbeats 1600000 in
theorem tx_p3 (N H M0 M S : Nat) (w : World) (h : N < 360000) (hH : N / 3600 = H) (hM0 : N % 3600 = M0) (hM : M0 / 60 = M) (hS : N % 60 = S) (z : M0 ≠ 0) (z2 : S ≠ 0) :
    Calls Tryz.prog 103 #[.int .i64 (N : Int)] w fun e w' => e = .returned (.string ⟨(([43] ++ two H) ++ two M ++ two S).toArray⟩) ∧ Below w.heap.size w w' := by
  have e1 : (N : Int) / 3600 = (H : Int) := by omega
  have e2 : (N : Int) % 3600 = (M0 : Int) := by omega
  have e4 : (N : Int) % 60 = (S : Int) := by omega
  have e3 : (M0 : Int) / 60 = (M : Int) := by omega
  have t1 : ((M0 : Int) != 0) = true := by simp; omega
  have t2 : ((S : Int) != 0) = true := by simp; omega
  have HH : Hid (H < 100) := Lib.hid (by omega)
  have HM : Hid (M < 100) := Lib.hid (by omega)
  have HS : Hid (S < 100) := Lib.hid (by omega)
  have hn : ¬ (N : Int) < 0 := by omega
  have X0 : Hid ((w.alloc (.cells #[.int .u8 43] 5)).ownsRow w.heap.size 5 1 (.slice (some ⟨w.heap.size, 0, none⟩) 1 1) 1 (ubl [43])) := Lib.hid (World.ownsRow_lit w #[.int .u8 43] 1 (Nat.le_refl _) (by decide) rfl)
  have B0 : Hid (w.heap.size ≤ (w.alloc (.cells #[.int .u8 43] 5)).heap.size ∧ 1 ≤ 20) := Lib.hid ⟨by simp, by omega⟩
  have K0 : Hid (Below w.heap.size w (w.alloc (.cells #[.int .u8 43] 5))) := Lib.hid ((Below.refl _ _).alloc (Nat.le_refl _) _)
  have bH : H < 100 := by omega
  have b0 : M0 < 3600 := by omega
  have bM : M < 100 := by omega
  have bS : S < 60 := by omega
  clear hH hM0 hM hS z z2
  go_enter Tryz.func103, Tryz.ntmps103
  go_wp2_with (first
    | (go_at_call 127; with_reducible refine (twod_is (n2 := 3) H _ HH (by rfl) X0 B0).mono ?_; rintro e w1 ⟨A1, c1, rfl, x1, k1⟩; simp only []
       have X1 := Lib.hid x1
       have K1 := Lib.hid (K0.out.trans k1)
       have B1 : Hid (w.heap.size ≤ w1.heap.size ∧ 3 ≤ 20) := Lib.hid ⟨K1.out.size, by omega⟩
       clear x1 k1)
    | (go_at_call 127; with_reducible refine (twod_is (n2 := 5) M _ HM (by rfl) X1 B1).mono ?_; rintro e w2 ⟨A2, c2, rfl, x2, k2⟩; simp only []
       have X2 := Lib.hid x2
       have K2 := Lib.hid (K1.out.trans k2)
       have B2 : Hid (w.heap.size ≤ w2.heap.size ∧ 5 ≤ 20) := Lib.hid ⟨K2.out.size, by omega⟩
       clear x2 k2)
    | (go_at_call 127; with_reducible refine (twod_is (n2 := 7) S _ HS (by rfl) X2 B2).mono ?_; rintro e w3 ⟨A3, c3, rfl, x3, k3⟩; simp only []
       have X3 := Lib.hid x3
       have K3 := Lib.hid (K2.out.trans k3)
       have B3 : Hid (w.heap.size ≤ w3.heap.size ∧ 7 ≤ 20) := Lib.hid ⟨K3.out.size, by omega⟩
       have hcv := ab_str X3.out (by omega)
       clear x3 k3)
    )
  go_ret
  exact ⟨rfl, K3.out⟩

set_option maxHeartbeats 1600000 in
theorem tx_n1 (N H M0 M S : Nat) (w : World) (h : N < 360000) (h0 : 0 < N) (hH : N / 3600 = H) (hM0 : N % 3600 = M0) (hM : M0 / 60 = M) (hS : N % 60 = S) (z : M0 = 0) :
    Calls Tryz.prog 103 #[.int .i64 (-(N : Int))] w fun e w' => e = .returned (.string ⟨(([45] ++ two H)).toArray⟩) ∧ Below w.heap.size w w' := by
  have e1 : (N : Int) / 3600 = (H : Int) := by omega
  have e2 : (N : Int) % 3600 = (M0 : Int) := by omega
  have e4 : (N : Int) % 60 = (S : Int) := by omega
  have t1 : ((M0 : Int) != 0) = false := by simp; omega
  have t2 : ((S : Int) != 0) = false := by simp; omega
  have HH : Hid (H < 100) := Lib.hid (by omega)
  have hn : -(N : Int) < 0 := by omega
  have X0 : Hid ((w.alloc (.cells #[.int .u8 45] 5)).ownsRow w.heap.size 5 1 (.slice (some ⟨w.heap.size, 0, none⟩) 1 1) 1 (ubl [45])) := Lib.hid (World.ownsRow_lit w #[.int .u8 45] 1 (Nat.le_refl _) (by decide) rfl)
  have B0 : Hid (w.heap.size ≤ (w.alloc (.cells #[.int .u8 45] 5)).heap.size ∧ 1 ≤ 20) := Lib.hid ⟨by simp, by omega⟩
  have K0 : Hid (Below w.heap.size w (w.alloc (.cells #[.int .u8 45] 5))) := Lib.hid ((Below.refl _ _).alloc (Nat.le_refl _) _)
  have bH : H < 100 := by omega
  have b0 : M0 < 3600 := by omega
  have bM : M < 100 := by omega
  have bS : S < 60 := by omega
  clear hH hM0 hM hS z h0
  go_enter Tryz.func103, Tryz.ntmps103
  go_wp2_with (first
    | (go_at_call 127; with_reducible refine (twod_is (n2 := 3) H _ HH (by rfl) X0 B0).mono ?_; rintro e w1 ⟨A1, c1, rfl, x1, k1⟩; simp only []
       have X1 := Lib.hid x1
       have K1 := Lib.hid (K0.out.trans k1)
       have B1 : Hid (w.heap.size ≤ w1.heap.size ∧ 3 ≤ 20) := Lib.hid ⟨K1.out.size, by omega⟩
       have hcv := ab_str X1.out (by omega)
       clear x1 k1)
    )
  go_ret
  exact ⟨rfl, K1.out⟩

set_option maxHeartbeats 1600000 in
theorem tx_n2 (N H M0 M S : Nat) (w : World) (h : N < 360000) (h0 : 0 < N) (hH : N / 3600 = H) (hM0 : N % 3600 = M0) (hM : M0 / 60 = M) (hS : N % 60 = S) (z : M0 ≠ 0) (z2 : S = 0) :
    Calls Tryz.prog 103 #[.int .i64 (-(N : Int))] w fun e w' => e = .returned (.string ⟨(([45] ++ two H) ++ two M).toArray⟩) ∧ Below w.heap.size w w' := by
  have e1 : (N : Int) / 3600 = (H : Int) := by omega
  have e2 : (N : Int) % 3600 = (M0 : Int) := by omega
  have e4 : (N : Int) % 60 = (S : Int) := by omega
  have e3 : (M0 : Int) / 60 = (M : Int) := by omega
  have t1 : ((M0 : Int) != 0) = true := by simp; omega
  have t2 : ((S : Int) != 0) = false := by simp; omega
  have HH : Hid (H < 100) := Lib.hid (by omega)
  have HM : Hid (M < 100) := Lib.hid (by omega)
  have hn : -(N : Int) < 0 := by omega
  have X0 : Hid ((w.alloc (.cells #[.int .u8 45] 5)).ownsRow w.heap.size 5 1 (.slice (some ⟨w.heap.size, 0, none⟩) 1 1) 1 (ubl [45])) := Lib.hid (World.ownsRow_lit w #[.int .u8 45] 1 (Nat.le_refl _) (by decide) rfl)
  have B0 : Hid (w.heap.size ≤ (w.alloc (.cells #[.int .u8 45] 5)).heap.size ∧ 1 ≤ 20) := Lib.hid ⟨by simp, by omega⟩
  have K0 : Hid (Below w.heap.size w (w.alloc (.cells #[.int .u8 45] 5))) := Lib.hid ((Below.refl _ _).alloc (Nat.le_refl _) _)
  have bH : H < 100 := by omega
  have b0 : M0 < 3600 := by omega
  have bM : M < 100 := by omega
  have bS : S < 60 := by omega
  clear hH hM0 hM hS z h0 z2
  go_enter Tryz.func103, Tryz.ntmps103
  go_wp2_with (first
    | (go_at_call 127; with_reducible refine (twod_is (n2 := 3) H _ HH (by rfl) X0 B0).mono ?_; rintro e w1 ⟨A1, c1, rfl, x1, k1⟩; simp only []
       have X1 := Lib.hid x1
       have K1 := Lib.hid (K0.out.trans k1)
       have B1 : Hid (w.heap.size ≤ w1.heap.size ∧ 3 ≤ 20) := Lib.hid ⟨K1.out.size, by omega⟩
       clear x1 k1)
    | (go_at_call 127; with_reducible refine (twod_is (n2 := 5) M _ HM (by rfl) X1 B1).mono ?_; rintro e w2 ⟨A2, c2, rfl, x2, k2⟩; simp only []
       have X2 := Lib.hid x2
       have K2 := Lib.hid (K1.out.trans k2)
       have B2 : Hid (w.heap.size ≤ w2.heap.size ∧ 5 ≤ 20) := Lib.hid ⟨K2.out.size, by omega⟩
       have hcv := ab_str X2.out (by omega)
       clear x2 k2)
    )
  go_ret
  exact ⟨rfl, K2.out⟩

set_option maxHeartbeats 1600000 in
theorem tx_n3 (N H M0 M S : Nat) (w : World) (h : N < 360000) (h0 : 0 < N) (hH : N / 3600 = H) (hM0 : N % 3600 = M0) (hM : M0 / 60 = M) (hS : N % 60 = S) (z : M0 ≠ 0) (z2 : S ≠ 0) :
    Calls Tryz.prog 103 #[.int .i64 (-(N : Int))] w fun e w' => e = .returned (.string ⟨(([45] ++ two H) ++ two M ++ two S).toArray⟩) ∧ Below w.heap.size w w' := by
  have e1 : (N : Int) / 3600 = (H : Int) := by omega
  have e2 : (N : Int) % 3600 = (M0 : Int) := by omega
  have e4 : (N : Int) % 60 = (S : Int) := by omega
  have e3 : (M0 : Int) / 60 = (M : Int) := by omega
  have t1 : ((M0 : Int) != 0) = true := by simp; omega
  have t2 : ((S : Int) != 0) = true := by simp; omega
  have HH : Hid (H < 100) := Lib.hid (by omega)
  have HM : Hid (M < 100) := Lib.hid (by omega)
  have HS : Hid (S < 100) := Lib.hid (by omega)
  have hn : -(N : Int) < 0 := by omega
  have X0 : Hid ((w.alloc (.cells #[.int .u8 45] 5)).ownsRow w.heap.size 5 1 (.slice (some ⟨w.heap.size, 0, none⟩) 1 1) 1 (ubl [45])) := Lib.hid (World.ownsRow_lit w #[.int .u8 45] 1 (Nat.le_refl _) (by decide) rfl)
  have B0 : Hid (w.heap.size ≤ (w.alloc (.cells #[.int .u8 45] 5)).heap.size ∧ 1 ≤ 20) := Lib.hid ⟨by simp, by omega⟩
  have K0 : Hid (Below w.heap.size w (w.alloc (.cells #[.int .u8 45] 5))) := Lib.hid ((Below.refl _ _).alloc (Nat.le_refl _) _)
  have bH : H < 100 := by omega
  have b0 : M0 < 3600 := by omega
  have bM : M < 100 := by omega
  have bS : S < 60 := by omega
  clear hH hM0 hM hS z h0 z2
  go_enter Tryz.func103, Tryz.ntmps103
  go_wp2_with (first
    | (go_at_call 127; with_reducible refine (twod_is (n2 := 3) H _ HH (by rfl) X0 B0).mono ?_; rintro e w1 ⟨A1, c1, rfl, x1, k1⟩; simp only []
       have X1 := Lib.hid x1
       have K1 := Lib.hid (K0.out.trans k1)
       have B1 : Hid (w.heap.size ≤ w1.heap.size ∧ 3 ≤ 20) := Lib.hid ⟨K1.out.size, by omega⟩
       clear x1 k1)
    | (go_at_call 127; with_reducible refine (twod_is (n2 := 5) M _ HM (by rfl) X1 B1).mono ?_; rintro e w2 ⟨A2, c2, rfl, x2, k2⟩; simp only []
       have X2 := Lib.hid x2
       have K2 := Lib.hid (K1.out.trans k2)
       have B2 : Hid (w.heap.size ≤ w2.heap.size ∧ 5 ≤ 20) := Lib.hid ⟨K2.out.size, by omega⟩
       clear x2 k2)
    | (go_at_call 127; with_reducible refine (twod_is (n2 := 7) S _ HS (by rfl) X2 B2).mono ?_; rintro e w3 ⟨A3, c3, rfl, x3, k3⟩; simp only []
       have X3 := Lib.hid x3
       have K3 := Lib.hid (K2.out.trans k3)
       have B3 : Hid (w.heap.size ≤ w3.heap.size ∧ 7 ≤ 20) := Lib.hid ⟨K3.out.size, by omega⟩
       have hcv := ab_str X3.out (by omega)
       clear x3 k3)
    )
  go_ret
  exact ⟨rfl, K3.out⟩

theorem text_is (off : Int) (T : List UInt8) (w : World) (h1 : -360000 < off) (h2 : off < 360000) (HT : Hid (ofT off = T)) :
    Calls Tryz.prog 103 #[.int .i64 off] w fun e w' => e = .returned (.string ⟨T.toArray⟩) ∧ Below w.heap.size w w' := by
  rw [← HT.out]
  clear HT
  by_cases h0 : off < 0
  · obtain ⟨N, rfl⟩ : ∃ N : Nat, off = -(N : Int) := ⟨off.natAbs, by omega⟩
    have e : ofT (-(N : Int)) = txO 45 N := by unfold ofT; rw [if_pos h0]; congr 1; omega
    rw [e]
    unfold txO
    by_cases z : N % 3600 = 0
    · have := tx_n1 N _ _ _ _ w (by omega) (by omega) rfl rfl rfl rfl z
      rw [if_pos z]; simpa using this
    · by_cases z2 : N % 60 = 0
      · have := tx_n2 N _ _ _ _ w (by omega) (by omega) rfl rfl rfl rfl z z2
        rw [if_neg z, if_pos z2]; simpa using this
      · have := tx_n3 N _ _ _ _ w (by omega) (by omega) rfl rfl rfl rfl z z2
        rw [if_neg z, if_neg z2]; simpa using this
  · obtain ⟨N, rfl⟩ : ∃ N : Nat, off = (N : Int) := ⟨off.natAbs, by omega⟩
    have e : ofT (N : Int) = txO 43 N := by unfold ofT; rw [if_neg h0]; rfl
    rw [e]
    unfold txO
    by_cases z : N % 3600 = 0
    · have := tx_p1 N _ _ _ _ w (by omega) rfl rfl rfl rfl z
      rw [if_pos z]; simpa using this
    · by_cases z2 : N % 60 = 0
      · have := tx_p2 N _ _ _ _ w (by omega) rfl rfl rfl rfl z z2
        rw [if_neg z, if_pos z2]; simpa using this
      · have := tx_p3 N _ _ _ _ w (by omega) rfl rfl rfl rfl z z2
        rw [if_neg z, if_neg z2]; simpa using this
theorem offset_is (off : Int) (T : List UInt8) (e0 : Int) (w : World) (HV : Hid (ofS off = T ∧ ofE off = e0)) :
    Calls Tryz.prog 80 #[.int .i64 off] w fun e w' => e = .returned (.tuple #[.string ⟨T.toArray⟩, .int .i64 e0]) ∧ Below w.heap.size w w' := by
  obtain ⟨rfl, rfl⟩ := HV.out
  clear HV
  by_cases h1 : off ≤ -360000
  · have e : Hid (ofS off = [] ∧ ofE off = 10) := Lib.hid ⟨by unfold ofS; rw [if_pos (.inl h1)], by unfold ofE; rw [if_pos (.inl h1)]⟩
    go_enter Tryz.func80, Tryz.ntmps80
    go_wp2
    go_ret2
    rw [e.out.1, e.out.2]
    exact ⟨rfl, Below.refl _ _⟩
  · by_cases h2 : 360000 ≤ off
    · have e : Hid (ofS off = [] ∧ ofE off = 10) := Lib.hid ⟨by unfold ofS; rw [if_pos (.inr h2)], by unfold ofE; rw [if_pos (.inr h2)]⟩
      go_enter Tryz.func80, Tryz.ntmps80
      go_wp2
      go_ret2
      rw [e.out.1, e.out.2]
      exact ⟨rfl, Below.refl _ _⟩
    · obtain ⟨T, hT⟩ : ∃ T, ofT off = T := ⟨_, rfl⟩
      have e : Hid (ofS off = T ∧ ofE off = 0) := Lib.hid ⟨by unfold ofS; rw [if_neg (by omega), hT], by unfold ofE; rw [if_neg (by omega)]⟩
      have HT := Lib.hid hT
      have B := Lib.hid (And.intro (show -360000 < off by omega) (show off < 360000 by omega))
      clear hT
      go_enter Tryz.func80, Tryz.ntmps80
      go_wp2_with (first | (go_at_call 103; refine (text_is off T _ B.out.1 B.out.2 HT).mono ?_; rintro e w1 ⟨rfl, k1⟩; simp only []))
      go_ret2
      rw [e.out.1, e.out.2]
      exact ⟨rfl, k1⟩
end Go.Proofs.YtdmfgechoanmlaaGreatDoor

namespace Go.Proofs.YtdmfgechoanmlaaGreatDoor
open Go.RowKit

theorem scA_len2 (acc : Nat) : ∀ (D : List UInt8), D.length < 2 → scA acc D = acc
  | [], _ => rfl
  | [_], _ => rfl
  | _ :: _ :: _, h => absurd h (by simp)
theorem scA_step (acc : Nat) (D : List UInt8) (p : Nat) (h : p + 1 < D.length) : scA acc (D.drop p) = scA (60 * acc + 10 * bd (D.getD p 0) + bd (D.getD (p + 1) 0)) (D.drop (p + 2)) := by
  rw [List.drop_eq_getElem_cons (show p < D.length by omega), List.drop_eq_getElem_cons (show p + 1 < D.length by omega)]
  show scA (60 * acc + 10 * bd D[p] + bd D[p + 1]) _ = _
  simp [List.getD, show p < D.length by omega, show p + 1 < D.length by omega]
theorem bd_lt (b : UInt8) : bd b < 256 := by unfold bd; omega
theorem bd_wrap (b : UInt8) : IntKind.u8.wrap ((b.toNat : Int) - 48) = (bd b : Int) := by
  have := b.toNat_lt
  unfold bd
  simp [IntKind.wrap, IntKind.bits, IntKind.signed]
  omega
theorem dgs_len {s : List UInt8} (h : 3 ≤ s.length) : (dgs s).length = 6 := by unfold dgs; simp; omega
/-- What the answer's test comes to. -/
theorem ps_ways (s : List UInt8) (h3 : 3 ≤ s.length) (h7 : s.length ≤ 7) : (ofE (scV s) = 0 ∧ ofS (scV s) = s ∧ psO s = true) ∨ (ofE (scV s) = 0 ∧ ofS (scV s) ≠ s ∧ psO s = false) ∨ (ofE (scV s) = 10 ∧ psO s = false) := by
  by_cases h : scV s ≤ -360000 ∨ 360000 ≤ scV s
  · refine .inr (.inr ⟨by unfold ofE; rw [if_pos h], ?_⟩)
    unfold psO
    rw [decide_eq_false]
    rintro ⟨-, -, h1, h2, -⟩
    omega
  · have e : ofE (scV s) = 0 ∧ ofS (scV s) = ofT (scV s) := ⟨by unfold ofE; rw [if_neg h], by unfold ofS; rw [if_neg h]⟩
    by_cases hs : ofT (scV s) = s
    · refine .inl ⟨e.1, by rw [e.2]; exact hs, ?_⟩
      unfold psO
      rw [decide_eq_true]
      exact ⟨h3, h7, by omega, by omega, hs⟩
    · refine .inr (.inl ⟨e.1, by rw [e.2]; exact hs, ?_⟩)
      unfold psO
      rw [decide_eq_false]
      rintro ⟨-, -, -, -, h2⟩
      exact hs h2
end Go.Proofs.YtdmfgechoanmlaaGreatDoor

namespace Go.Proofs.YtdmfgechoanmlaaGreatDoor
open Go.RowKit

theorem cut_is (s m a b : List UInt8) (ok : Bool) (w : World) (hs : s.length ≤ 1000) (hm : MaxB w) (hc : Hid (Lib.cut s m = (a, b, ok))) :
    Calls Tryz.prog 79 #[.string ⟨s.toArray⟩, .string ⟨m.toArray⟩] w fun e w' => e = .returned (.tuple #[.string ⟨a.toArray⟩, .string ⟨b.toArray⟩, .bool ok]) ∧ Below w.heap.size w w' := by
  obtain ⟨x, hm⟩ := hm
  refine (Tryz.strings_Cut ⟨s.toArray⟩ ⟨m.toArray⟩ x w (by rw [wsize]; omega) hm).mono fun e w' ⟨h1, n, h2⟩ => ⟨?_, ?_⟩
  · rw [h1]
    show Ending.returned (.tuple #[.string ⟨(Lib.cut s m).1.toArray⟩, .string ⟨(Lib.cut s m).2.1.toArray⟩, .bool (Lib.cut s m).2.2]) = _
    rw [hc.out]
  · rw [h2]; exact bdrews (Below.refl _ _) n
/-- A format's parts. -/
theorem fm_parts {f : List UInt8} {k : Nat} (h : kdK f = some k) : k ≤ 3 ∧ f.length ≤ 64 ∧ 0 < f.length ∧ (ahd f).length ≤ 64 ∧ (bhd k f).length ≤ 64 ∧ (k = 0 ∨ Lib.cut f (mkB k) = (ahd f, bhd k f, true)) := by
  unfold kdK at h
  by_cases hf : fmOk f = true
  · rw [if_pos hf] at h
    unfold fmOk at hf
    simp only [Bool.and_eq_true, decide_eq_true_eq] at hf
    have h0 : 0 < f.length := by cases f with | nil => exact absurd rfl hf.1 | cons c r => simp
    have h1 : (ahd f).length ≤ f.length := by unfold ahd; exact (List.takeWhile_sublist _).length_le
    have h2 : (bhd k f).length ≤ f.length := by unfold bhd; rw [List.length_drop]; omega
    rcases kdF_shape h with ⟨rfl, _⟩ | ⟨a, b, c, _⟩
    · exact ⟨by omega, by omega, h0, by omega, by omega, .inl rfl⟩
    · exact ⟨b, by omega, h0, by omega, by omega, .inr (cut_mark a b c)⟩
  · rw [if_neg hf] at h; cases h
theorem ofT_le (off : Int) : (ofT off).length ≤ 7 := by have := ofT_len off; omega

set_option maxHeartbeats 1600000 in
theorem sh_none (f l : List UInt8) (off : Int) (dst : Bool) (w : World) (hk : kdK f = none) (HA : Hid (LaidB w)) (HF : Hid (f.length ≤ 1000)) :
    Calls Tryz.prog 60 #[.string ⟨f.toArray⟩, .int .i64 off, .bool dst, .string ⟨l.toArray⟩] w fun e w' => e = .returned (.tuple #[.string ⟨[].toArray⟩, .int .i64 12]) ∧ Below w.heap.size w w' := by
  have HK : Hid (kdV f = 0 ∧ kdE f = 12) := Lib.hid (by unfold kdV kdE; rw [hk]; exact ⟨rfl, rfl⟩)
  clear hk
  go_enter Tryz.func60, Tryz.ntmps60
  go_wp2_with (first | (go_at_call 71; refine (kind_is f _ _ _ HA.out HF.out HK).mono ?_; rintro e w1 ⟨rfl, k1⟩; simp only []))
  go_ret2
  exact ⟨rfl, k1⟩
set_option maxHeartbeats 1600000 in
theorem sh_plain (f l : List UInt8) (off : Int) (dst : Bool) (w : World) (hk : kdK f = some 0) (HA : Hid (LaidB w)) (HF : Hid (f.length ≤ 1000)) :
    Calls Tryz.prog 60 #[.string ⟨f.toArray⟩, .int .i64 off, .bool dst, .string ⟨l.toArray⟩] w fun e w' => e = .returned (.tuple #[.string ⟨f.toArray⟩, .int .i64 0]) ∧ Below w.heap.size w w' := by
  have HK : Hid (kdV f = 0 ∧ kdE f = 0) := Lib.hid (by unfold kdV kdE; rw [hk]; exact ⟨rfl, rfl⟩)
  have HC : Hid (Lib.cut f [] = ([], f, true)) := Lib.hid (cut_none f)
  clear hk
  go_enter Tryz.func60, Tryz.ntmps60
  go_wp2_with (first
    | (go_at_call 71; refine (kind_is f _ _ _ HA.out HF.out HK).mono ?_; rintro e w1 ⟨rfl, k1⟩; simp only []
       have A1 := Lib.hid (HA.out.next k1)
       have K1 := Lib.hid k1
       have c0 := A1.out.mks.cell 0 _ rfl
       clear k1 HK)
    | (go_at_call 79; refine (cut_is f [] _ _ _ _ HF.out A1.out.mx HC).mono ?_; rintro e w2 ⟨rfl, k2⟩; simp only []
       have K2 := Lib.hid (K1.out.trans (k2.mono K1.out.size))
       clear k2 HC))
  go_ret2
  exact ⟨rfl, K2.out⟩
set_option maxHeartbeats 1600000 in
theorem sh_letter (f l : List UInt8) (off : Int) (dst : Bool) (w : World) (hk : kdK f = some 1) (hl : l.length ≤ 100) (HA : Hid (LaidB w)) (HF : Hid (f.length ≤ 1000)) :
    Calls Tryz.prog 60 #[.string ⟨f.toArray⟩, .int .i64 off, .bool dst, .string ⟨l.toArray⟩] w fun e w' => e = .returned (.tuple #[.string ⟨(ahd f ++ l ++ bhd 1 f).toArray⟩, .int .i64 0]) ∧ Below w.heap.size w w' := by
  have HK : Hid (kdV f = 1 ∧ kdE f = 0) := Lib.hid (by unfold kdV kdE; rw [hk]; exact ⟨rfl, rfl⟩)
  obtain ⟨a, ha⟩ : ∃ a, ahd f = a := ⟨_, rfl⟩
  obtain ⟨b, hb⟩ : ∃ b, bhd 1 f = b := ⟨_, rfl⟩
  obtain ⟨-, -, -, la, lb, hcut⟩ := fm_parts hk
  rw [ha] at la
  rw [hb] at lb
  have HC : Hid (Lib.cut f [37, 115] = (a, b, true)) := Lib.hid (by rw [← ha, ← hb]; exact hcut.resolve_left (by omega))
  obtain ⟨t, ht⟩ : ∃ t, a ++ l = t := ⟨_, rfl⟩
  obtain ⟨u, hu⟩ : ∃ u, t ++ b = u := ⟨_, rfl⟩
  have ad1 := wadd_lists a l (by omega) (by omega)
  rw [ht] at ad1
  have ad2 := wadd_lists t b (by rw [← ht]; simp; omega) (by omega)
  rw [hu] at ad2
  rw [ha, hb, ht, hu]
  clear hk ha hb ht hu hcut
  go_enter Tryz.func60, Tryz.ntmps60
  go_wp2_with (first
    | (go_at_call 71; refine (kind_is f _ _ _ HA.out HF.out HK).mono ?_; rintro e w1 ⟨rfl, k1⟩; simp only []
       have A1 := Lib.hid (HA.out.next k1)
       have K1 := Lib.hid k1
       have c1 := A1.out.mks.cell 1 _ rfl
       clear k1 HK)
    | (go_at_call 79; refine (cut_is f [37, 115] _ _ _ _ HF.out A1.out.mx HC).mono ?_; rintro e w2 ⟨rfl, k2⟩; simp only []
       have K2 := Lib.hid (K1.out.trans (k2.mono K1.out.size))
       clear k2 HC))
  go_ret2
  exact ⟨rfl, K2.out⟩
set_option maxHeartbeats 1600000 in
theorem sh_far (f l : List UInt8) (off : Int) (dst : Bool) (w : World) (hk : kdK f = some 2) (ho : off ≤ -360000 ∨ 360000 ≤ off) (HA : Hid (LaidB w)) (HF : Hid (f.length ≤ 1000)) :
    Calls Tryz.prog 60 #[.string ⟨f.toArray⟩, .int .i64 off, .bool dst, .string ⟨l.toArray⟩] w fun e w' => e = .returned (.tuple #[.string ⟨[].toArray⟩, .int .i64 10]) ∧ Below w.heap.size w w' := by
  have HK : Hid (kdV f = 2 ∧ kdE f = 0) := Lib.hid (by unfold kdV kdE; rw [hk]; exact ⟨rfl, rfl⟩)
  obtain ⟨a, ha⟩ : ∃ a, ahd f = a := ⟨_, rfl⟩
  obtain ⟨b, hb⟩ : ∃ b, bhd 2 f = b := ⟨_, rfl⟩
  obtain ⟨-, -, -, la, lb, hcut⟩ := fm_parts hk
  rw [ha] at la
  rw [hb] at lb
  have HC : Hid (Lib.cut f [37, 122] = (a, b, true)) := Lib.hid (by rw [← ha, ← hb]; exact hcut.resolve_left (by omega))
  have HO : Hid (ofS off = [] ∧ ofE off = 10) := Lib.hid ⟨by unfold ofS; rw [if_pos ho], by unfold ofE; rw [if_pos ho]⟩
  clear hk ha hb hcut ho
  go_enter Tryz.func60, Tryz.ntmps60
  go_wp2_with (first
    | (go_at_call 71; refine (kind_is f _ _ _ HA.out HF.out HK).mono ?_; rintro e w1 ⟨rfl, k1⟩; simp only []
       have A1 := Lib.hid (HA.out.next k1)
       have K1 := Lib.hid k1
       have c2 := A1.out.mks.cell 2 _ rfl
       clear k1 HK)
    | (go_at_call 79; refine (cut_is f [37, 122] _ _ _ _ HF.out A1.out.mx HC).mono ?_; rintro e w2 ⟨rfl, k2⟩; simp only []
       have K2 := Lib.hid (K1.out.trans (k2.mono K1.out.size))
       clear k2 HC)
    | (go_at_call 80; refine (offset_is off _ _ _ HO).mono ?_; rintro e w3 ⟨rfl, k3⟩; simp only []
       have K3 := Lib.hid (K2.out.trans (k3.mono K2.out.size))
       clear k3 HO))
  go_ret2
  exact ⟨rfl, K3.out⟩
set_option maxHeartbeats 1600000 in
theorem sh_number (f l : List UInt8) (off : Int) (dst : Bool) (w : World) (hk : kdK f = some 2) (ho : ¬ (off ≤ -360000 ∨ 360000 ≤ off)) (HA : Hid (LaidB w)) (HF : Hid (f.length ≤ 1000)) :
    Calls Tryz.prog 60 #[.string ⟨f.toArray⟩, .int .i64 off, .bool dst, .string ⟨l.toArray⟩] w fun e w' => e = .returned (.tuple #[.string ⟨(ahd f ++ ofT off ++ bhd 2 f).toArray⟩, .int .i64 0]) ∧ Below w.heap.size w w' := by
  have HK : Hid (kdV f = 2 ∧ kdE f = 0) := Lib.hid (by unfold kdV kdE; rw [hk]; exact ⟨rfl, rfl⟩)
  obtain ⟨a, ha⟩ : ∃ a, ahd f = a := ⟨_, rfl⟩
  obtain ⟨b, hb⟩ : ∃ b, bhd 2 f = b := ⟨_, rfl⟩
  obtain ⟨-, -, -, la, lb, hcut⟩ := fm_parts hk
  rw [ha] at la
  rw [hb] at lb
  have HC : Hid (Lib.cut f [37, 122] = (a, b, true)) := Lib.hid (by rw [← ha, ← hb]; exact hcut.resolve_left (by omega))
  have lT := ofT_le off
  obtain ⟨T, hT⟩ : ∃ T, ofT off = T := ⟨_, rfl⟩
  rw [hT] at lT
  have HO : Hid (ofS off = T ∧ ofE off = 0) := Lib.hid ⟨by unfold ofS; rw [if_neg ho, hT], by unfold ofE; rw [if_neg ho]⟩
  obtain ⟨t, ht⟩ : ∃ t, a ++ T = t := ⟨_, rfl⟩
  obtain ⟨u, hu⟩ : ∃ u, t ++ b = u := ⟨_, rfl⟩
  have ad1 := wadd_lists a T (by omega) (by omega)
  rw [ht] at ad1
  have ad2 := wadd_lists t b (by rw [← ht]; simp; omega) (by omega)
  rw [hu] at ad2
  rw [ha, hb, hT, ht, hu]
  clear hk ha hb ht hu hcut ho hT
  go_enter Tryz.func60, Tryz.ntmps60
  go_wp2_with (first
    | (go_at_call 71; refine (kind_is f _ _ _ HA.out HF.out HK).mono ?_; rintro e w1 ⟨rfl, k1⟩; simp only []
       have A1 := Lib.hid (HA.out.next k1)
       have K1 := Lib.hid k1
       have c2 := A1.out.mks.cell 2 _ rfl
       clear k1 HK)
    | (go_at_call 79; refine (cut_is f [37, 122] _ _ _ _ HF.out A1.out.mx HC).mono ?_; rintro e w2 ⟨rfl, k2⟩; simp only []
       have K2 := Lib.hid (K1.out.trans (k2.mono K1.out.size))
       clear k2 HC)
    | (go_at_call 80; refine (offset_is off _ _ _ HO).mono ?_; rintro e w3 ⟨rfl, k3⟩; simp only []
       have K3 := Lib.hid (K2.out.trans (k3.mono K2.out.size))
       clear k3 HO))
  go_ret2
  exact ⟨rfl, K3.out⟩
set_option maxHeartbeats 1600000 in
theorem sh_slash (f l : List UInt8) (off : Int) (dst : Bool) (w : World) (hk : kdK f = some 3) (HA : Hid (LaidB w)) (HF : Hid (f.length ≤ 1000)) :
    Calls Tryz.prog 60 #[.string ⟨f.toArray⟩, .int .i64 off, .bool dst, .string ⟨l.toArray⟩] w fun e w' => e = .returned (.tuple #[.string ⟨(if dst then bhd 3 f else ahd f).toArray⟩, .int .i64 0]) ∧ Below w.heap.size w w' := by
  have HK : Hid (kdV f = 3 ∧ kdE f = 0) := Lib.hid (by unfold kdV kdE; rw [hk]; exact ⟨rfl, rfl⟩)
  obtain ⟨a, ha⟩ : ∃ a, ahd f = a := ⟨_, rfl⟩
  obtain ⟨b, hb⟩ : ∃ b, bhd 3 f = b := ⟨_, rfl⟩
  obtain ⟨-, -, -, la, lb, hcut⟩ := fm_parts hk
  rw [ha] at la
  rw [hb] at lb
  have HC : Hid (Lib.cut f [47] = (a, b, true)) := Lib.hid (by rw [← ha, ← hb]; exact hcut.resolve_left (by omega))
  rw [ha, hb]
  clear hk ha hb hcut
  cases dst
  all_goals go_enter Tryz.func60, Tryz.ntmps60
  all_goals go_wp2_with (first
    | (go_at_call 71; refine (kind_is f _ _ _ HA.out HF.out HK).mono ?_; rintro e w1 ⟨rfl, k1⟩; simp only []
       have A1 := Lib.hid (HA.out.next k1)
       have K1 := Lib.hid k1
       have c3 := A1.out.mks.cell 3 _ rfl
       clear k1 HK)
    | (go_at_call 79; refine (cut_is f [47] _ _ _ _ HF.out A1.out.mx HC).mono ?_; rintro e w2 ⟨rfl, k2⟩; simp only []
       have K2 := Lib.hid (K1.out.trans (k2.mono K1.out.size))
       clear k2 HC))
  all_goals go_ret2
  all_goals exact ⟨rfl, K2.out⟩
theorem show_is (f l T : List UInt8) (off e0 : Int) (dst : Bool) (w : World) (HA : Hid (LaidB w)) (HF : Hid (f.length ≤ 1000 ∧ l.length ≤ 100)) (HV : Hid (shS f off dst l = T ∧ shE f off = e0)) :
    Calls Tryz.prog 60 #[.string ⟨f.toArray⟩, .int .i64 off, .bool dst, .string ⟨l.toArray⟩] w fun e w' => e = .returned (.tuple #[.string ⟨T.toArray⟩, .int .i64 e0]) ∧ Below w.heap.size w w' := by
  obtain ⟨rfl, rfl⟩ := HV.out
  unfold shS shE
  have HF1 := Lib.hid HF.out.1
  cases hk : kdK f with
  | none => exact sh_none f l off dst w hk HA HF1
  | some k =>
    have h3 := (fm_parts hk).1
    obtain rfl | rfl | rfl | rfl : k = 0 ∨ k = 1 ∨ k = 2 ∨ k = 3 := by omega
    · exact sh_plain f l off dst w hk HA HF1
    · exact sh_letter f l off dst w hk HF.out.2 HA HF1
    · by_cases ho : off ≤ -360000 ∨ 360000 ≤ off
      · have := sh_far f l off dst w hk ho HA HF1
        simp only [if_pos ho, ofE]; exact this
      · have := sh_number f l off dst w hk ho HA HF1
        simp only [if_neg ho, ofE]; exact this
    · exact sh_slash f l off dst w hk HA HF1
set_option maxRecDepth 10000 in
theorem aw1 : shS [69, 37, 115, 84] 0 true [68] = [69, 68, 84] ∧ shE [69, 37, 115, 84] 0 = 0 := by decide
set_option maxRecDepth 10000 in
theorem aw2 : shS [71, 77, 84, 47, 66, 83, 84] 0 true [] = [66, 83, 84] ∧ shE [71, 77, 84, 47, 66, 83, 84] 0 = 0 := by decide
set_option maxRecDepth 10000 in
theorem aw3 : shS [37, 122] 20700 false [] = [43, 48, 53, 52, 53] ∧ shE [37, 122] 20700 = 0 := by decide
set_option maxRecDepth 10000 in
theorem aw4 : ofS (-1) = [45, 48, 48, 48, 48, 48, 49] ∧ ofE (-1) = 0 := by decide
theorem awc1 (W : World) (H : LaidB W) : Calls Tryz.prog 60 #[.string ⟨#[69, 37, 115, 84]⟩, .int .i64 0, .bool true, .string ⟨#[68]⟩] W fun e w' => e = .returned (.tuple #[.string ⟨#[69, 68, 84]⟩, .int .i64 0]) ∧ Below W.heap.size W w' :=
  show_is [69, 37, 115, 84] [68] [69, 68, 84] 0 0 true W (Lib.hid H) (Lib.hid ⟨by decide, by decide⟩) (Lib.hid aw1)
theorem awc2 (W : World) (H : LaidB W) : Calls Tryz.prog 60 #[.string ⟨#[71, 77, 84, 47, 66, 83, 84]⟩, .int .i64 0, .bool true, .string ⟨#[]⟩] W fun e w' => e = .returned (.tuple #[.string ⟨#[66, 83, 84]⟩, .int .i64 0]) ∧ Below W.heap.size W w' :=
  show_is [71, 77, 84, 47, 66, 83, 84] [] [66, 83, 84] 0 0 true W (Lib.hid H) (Lib.hid ⟨by decide, by decide⟩) (Lib.hid aw2)
theorem awc3 (W : World) (H : LaidB W) : Calls Tryz.prog 60 #[.string ⟨#[37, 122]⟩, .int .i64 20700, .bool false, .string ⟨#[]⟩] W fun e w' => e = .returned (.tuple #[.string ⟨#[43, 48, 53, 52, 53]⟩, .int .i64 0]) ∧ Below W.heap.size W w' :=
  show_is [37, 122] [] [43, 48, 53, 52, 53] 20700 0 false W (Lib.hid H) (Lib.hid ⟨by decide, by decide⟩) (Lib.hid aw3)
theorem awc4 (W : World) : Calls Tryz.prog 80 #[.int .i64 (-1)] W fun e w' => e = .returned (.tuple #[.string ⟨#[45, 48, 48, 48, 48, 48, 49]⟩, .int .i64 0]) ∧ Below W.heap.size W w' :=
  offset_is (-1) [45, 48, 48, 48, 48, 48, 49] 0 W (Lib.hid aw4)
end Go.Proofs.YtdmfgechoanmlaaGreatDoor
