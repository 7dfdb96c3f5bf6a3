/- The contracts of abbr.twoDigits, text and Offset: which text an offset is, or that it is too far; nothing that was in memory changes. -/
import Derived.Test.YtjpppffgebecdaaGreatDoorAbK
import Derived.Test.YtjpppffgebecdaaGreatDoorPsh
namespace Go.Proofs.YtjpppffgebecdaaGreatDoor
open Go.RowKit
attribute [local go_sem] Oper.semAt_some

theorem ab_bapp {w : World} {ops : Array Oper} {rest : List Oper} {o : Oper} {a : Act} {Q : Exit → Act → World → Prop} (hgd : o.guard = none) (s x : Operand)
    (ho : o.op = .call { callee := .builtin .append, args := #[s, x], argTypes := #[165, 165] }) {base n c c2 m g : Nat} {A : Option Addr} {l l2 : List UInt8} (hn2 : l2.length = 2) (hm : n + 2 = m) (X : w.ownsRow base 5 1 (.slice A n c) n (ubl l))
    (hs : a.eval s = .slice A n c) (hx : a.eval x = .slice (some ⟨g, 0, none⟩) 2 c2) (h2 : By w (some ⟨g, 0, none⟩) l2) (hl : m ≤ 100000) (hbase : base ≤ w.heap.size)
    (h : ∀ A' c' w', w'.ownsRow base 5 1 (.slice A' m c') m (ubl (l ++ l2)) → Below base w w' → wpList Tryz.prog ops Q rest (a.put o.dst (.slice A' m c')) w') : wpList Tryz.prog ops Q (o :: rest) a w :=
  wpList_bapp hgd s x ho hn2 hm X hs hx h2 (by simp) hl hbase h
theorem digs (n : Nat) (h : n < 100) : ∃ d e : UInt8, two n = [d, e] ∧ (d.toNat : Int) = 48 + (n : Int) / 10 ∧ (e.toNat : Int) = 48 + (n : Int) % 10 := by
  refine ⟨_, _, rfl, ?_, ?_⟩
  · rw [UInt8.toNat_ofNat']; omega
  · rw [UInt8.toNat_ofNat']; omega
set_option maxHeartbeats 800000 in
theorem twod_is {base n n2 c : Nat} {A : Option Addr} {l : List UInt8} (m : Nat) (w : World) (hm : Hid (m < 100)) (hn : n + 2 = n2) (X : Hid (w.ownsRow base 5 1 (.slice A n c) n (ubl l))) (hb : Hid (base ≤ w.heap.size ∧ n ≤ 20)) :
    Calls Tryz.prog 106 #[.slice A n c, .int .i64 (m : Int)] w fun e w' => ∃ A' c', e = .returned (.slice A' n2 c') ∧ w'.ownsRow base 5 1 (.slice A' n2 c') n2 (ubl (l ++ two m)) ∧ Below base w w' := by
  obtain ⟨d, e, hde, hd, he⟩ := digs m hm.out
  have DE := Lib.hid hde
  have e1 : 48 + (m : Int) / 10 = (d.toNat : Int) := hd.symm
  have e2 : 48 + (m : Int) % 10 = (e.toNat : Int) := he.symm
  have BN := Lib.hid (By.new w [d, e] #[.int .u8 (d.toNat : Int), .int .u8 (e.toNat : Int)] rfl)
  have HN := Lib.hid hn
  have X1 : Hid ((w.alloc (.cells #[.int .u8 (d.toNat : Int), .int .u8 (e.toNat : Int)] 5)).ownsRow base 5 1 (.slice A n c) n (ubl l)) := Lib.hid (X.out.alloc _)
  have hm2 := hm.out
  clear hd he hde hn hm X
  go_enter Tryz.func106, Tryz.ntmps106
  go_wp2_with (first
    | (at_builtin
       refine ab_bapp (by rfl) (.tmp 5) (.tmp 14) (by rfl) (l2 := [d, e]) rfl HN.out X1.out (by rfl) (by rfl) BN.out (by have := hb.out.2; have := HN.out; omega) (by have := hb.out.1; simp; omega) ?_
       intro A2 c2 w2 x2 k2
       have X2 := Lib.hid x2
       have K2 := Lib.hid k2
       clear x2 k2))
  go_ret
  rw [DE.out]
  exact ⟨A2, c2, rfl, X2.out, ((Below.refl base w).alloc hb.out.1 _).trans K2.out⟩


theorem ab_str {W : World} {g n c : Nat} {A : Option Addr} {l : List UInt8} (h : W.ownsRow g 5 1 (.slice A n c) n (ubl l)) (h0 : 0 < n) : (convert 165 9 (.slice A n c)).run Tryz.prog W = .ok (.string ⟨l.toArray⟩) W := by
  have hn : n = l.length := by have := h.1; rw [ubl_len] at this; omega
  subst hn
  obtain ⟨g', cap, rfl, rfl, hc⟩ := wown_cells h h0
  exact run_convert_bytes_back W _ _ 5 ⟨g', 0, none⟩ _ l Tryz.underlying165 Tryz.underlying5 Tryz.underlying9 (fun j hj => by
    have := hc j (.int .u8 ((l[j]'hj).toNat : Int)) (by simp [ubl, hj])
    rw [Go.WideShapes.add_plain, Nat.zero_add]; exact this)

set_option maxHeartbeats 1600000 in
theorem tx_p1 (N H M0 M S : Nat) (w : World) (h : N < 360000) (hH : N / 3600 = H) (hM0 : N % 3600 = M0) (hM : M0 / 60 = M) (hS : N % 60 = S) (z : M0 = 0) :
    Calls Tryz.prog 77 #[.int .i64 (N : Int)] w fun e w' => e = .returned (.string ⟨(([43] ++ two H)).toArray⟩) ∧ Below w.heap.size w w' := by
  have e1 : (N : Int) / 3600 = (H : Int) := by omega
  have e2 : (N : Int) % 3600 = (M0 : Int) := by omega
  have e4 : (N : Int) % 60 = (S : Int) := by omega
  have t1 : ((M0 : Int) != 0) = false := by simp; omega
  have t2 : ((S : Int) != 0) = false := by simp; omega
  have HH : Hid (H < 100) := Lib.hid (by omega)
  have hn : ¬ (N : Int) < 0 := by omega
  have X0 : Hid ((w.alloc (.cells #[.int .u8 43] 5)).ownsRow w.heap.size 5 1 (.slice (some ⟨w.heap.size, 0, none⟩) 1 1) 1 (ubl [43])) := Lib.hid (World.ownsRow_lit w #[.int .u8 43] 1 (Nat.le_refl _) (by decide) rfl)
  have B0 : Hid (w.heap.size ≤ (w.alloc (.cells #[.int .u8 43] 5)).heap.size ∧ 1 ≤ 20) := Lib.hid ⟨by simp, by omega⟩
  have K0 : Hid (Below w.heap.size w (w.alloc (.cells #[.int .u8 43] 5))) := Lib.hid ((Below.refl _ _).alloc (Nat.le_refl _) _)
  have bH : H < 100 := by omega
  have b0 : M0 < 3600 := by omega
  have bM : M < 100 := by omega
  have bS : S < 60 := by omega
  clear hH hM0 hM hS z
  go_enter Tryz.func77, Tryz.ntmps77
  go_wp2_with (first
    | (go_at_call 106; with_reducible refine (twod_is (n2 := 3) H _ HH (by rfl) X0 B0).mono ?_; rintro e w1 ⟨A1, c1, rfl, x1, k1⟩; simp only []
       have X1 := Lib.hid x1
       have K1 := Lib.hid (K0.out.trans k1)
       have B1 : Hid (w.heap.size ≤ w1.heap.size ∧ 3 ≤ 20) := Lib.hid ⟨K1.out.size, by omega⟩
       have hcv := ab_str X1.out (by omega)
       clear x1 k1)
    )
  go_ret
  exact ⟨rfl, K1.out⟩

set_option maxHeartbeats 1600000 in
theorem tx_p2 (N H M0 M S : Nat) (w : World) (h : N < 360000) (hH : N / 3600 = H) (hM0 : N % 3600 = M0) (hM : M0 / 60 = M) (hS : N % 60 = S) (z : M0 ≠ 0) (z2 : S = 0) :
    Calls Tryz.prog 77 #[.int .i64 (N : Int)] w fun e w' => e = .returned (.string ⟨(([43] ++ two H) ++ two M).toArray⟩) ∧ Below w.heap.size w w' := by
  have e1 : (N : Int) / 3600 = (H : Int) := by omega
  have e2 : (N : Int) % 3600 = (M0 : Int) := by omega
  have e4 : (N : Int) % 60 = (S : Int) := by omega
  have e3 : (M0 : Int) / 60 = (M : Int) := by omega
  have t1 : ((M0 : Int) != 0) = true := by simp; omega
  have t2 : ((S : Int) != 0) = false := by simp; omega
  have HH : Hid (H < 100) := Lib.hid (by omega)
  have HM : Hid (M < 100) := Lib.hid (by omega)
  have hn : ¬ (N : Int) < 0 := by omega
  have X0 : Hid ((w.alloc (.cells #[.int .u8 43] 5)).ownsRow w.heap.size 5 1 (.slice (some ⟨w.heap.size, 0, none⟩) 1 1) 1 (ubl [43])) := Lib.hid (World.ownsRow_lit w #[.int .u8 43] 1 (Nat.le_refl _) (by decide) rfl)
  have B0 : Hid (w.heap.size ≤ (w.alloc (.cells #[.int .u8 43] 5)).heap.size ∧ 1 ≤ 20) := Lib.hid ⟨by simp, by omega⟩
  have K0 : Hid (Below w.heap.size w (w.alloc (.cells #[.int .u8 43] 5))) := Lib.hid ((Below.refl _ _).alloc (Nat.le_refl _) _)
  have bH : H < 100 := by omega
  have b0 : M0 < 3600 := by omega
  have bM : M < 100 := by omega
  have bS : S < 60 := by omega
  clear hH hM0 hM hS z z2
  go_enter Tryz.func77, Tryz.ntmps77
  go_wp2_with (first
    | (go_at_call 106; with_reducible refine (twod_is (n2 := 3) H _ HH (by rfl) X0 B0).mono ?_; rintro e w1 ⟨A1, c1, rfl, x1, k1⟩; simp only []
       have X1 := Lib.hid x1
       have K1 := Lib.hid (K0.out.trans k1)
       have B1 : Hid (w.heap.size ≤ w1.heap.size ∧ 3 ≤ 20) := Lib.hid ⟨K1.out.size, by omega⟩
       clear x1 k1)
    | (go_at_call 106; with_reducible refine (twod_is (n2 := 5) M _ HM (by rfl) X1 B1).mono ?_; rintro e w2 ⟨A2, c2, rfl, x2, k2⟩; simp only []
       have X2 := Lib.hid x2
       have K2 := Lib.hid (K1.out.trans k2)
       have B2 : Hid (w.heap.size ≤ w2.heap.size ∧ 5 ≤ 20) := Lib.hid ⟨K2.out.size, by omega⟩
       have hcv := ab_str X2.out (by omega)
       clear x2 k2)
    )
  go_ret
  exact ⟨rfl, K2.out⟩

set_option maxHeartbeats 1600000 in
theorem tx_p3 (N H M0 M S : Nat) (w : World) (h : N < 360000) (hH : N / 3600 = H) (hM0 : N % 3600 = M0) (hM : M0 / 60 = M) (hS : N % 60 = S) (z : M0 ≠ 0) (z2 : S ≠ 0) :
    Calls Tryz.prog 77 #[.int .i64 (N : Int)] w fun e w' => e = .returned (.string ⟨(([43] ++ two H) ++ two M ++ two S).toArray⟩) ∧ Below w.heap.size w w' := by
  have e1 : (N : Int) / 3600 = (H : Int) := by omega
  have e2 : (N : Int) % 3600 = (M0 : Int) := by omega
  have e4 : (N : Int) % 60 = (S : Int) := by omega
  have e3 : (M0 : Int) / 60 = (M : Int) := by omega
  have t1 : ((M0 : Int) != 0) = true := by simp; omega
  have t2 : ((S : Int) != 0) = true := by simp; omega
  have HH : Hid (H < 100) := Lib.hid (by omega)
  have HM : Hid (M < 100) := Lib.hid (by omega)
  have HS : Hid (S < 100) := Lib.hid (by omega)
  have hn : ¬ (N : Int) < 0 := by omega
  have X0 : Hid ((w.alloc (.cells #[.int .u8 43] 5)).ownsRow w.heap.size 5 1 (.slice (some ⟨w.heap.size, 0, none⟩) 1 1) 1 (ubl [43])) := Lib.hid (World.ownsRow_lit w #[.int .u8 43] 1 (Nat.le_refl _) (by decide) rfl)
  have B0 : Hid (w.heap.size ≤ (w.alloc (.cells #[.int .u8 43] 5)).heap.size ∧ 1 ≤ 20) := Lib.hid ⟨by simp, by omega⟩
  have K0 : Hid (Below w.heap.size w (w.alloc (.cells #[.int .u8 43] 5))) := Lib.hid ((Below.refl _ _).alloc (Nat.le_refl _) _)
  have bH : H < 100 := by omega
  have b0 : M0 < 3600 := by omega
  have bM : M < 100 := by omega
  have bS : S < 60 := by omega
  clear hH hM0 hM hS z z2
  go_enter Tryz.func77, Tryz.ntmps77
  go_wp2_with (first
    | (go_at_call 106; with_reducible refine (twod_is (n2 := 3) H _ HH (by rfl) X0 B0).mono ?_; rintro e w1 ⟨A1, c1, rfl, x1, k1⟩; simp only []
       have X1 := Lib.hid x1
       have K1 := Lib.hid (K0.out.trans k1)
       have B1 : Hid (w.heap.size ≤ w1.heap.size ∧ 3 ≤ 20) := Lib.hid ⟨K1.out.size, by omega⟩
       clear x1 k1)
    | (go_at_call 106; with_reducible refine (twod_is (n2 := 5) M _ HM (by rfl) X1 B1).mono ?_; rintro e w2 ⟨A2, c2, rfl, x2, k2⟩; simp only []
       have X2 := Lib.hid x2
       have K2 := Lib.hid (K1.out.trans k2)
       have B2 : Hid (w.heap.size ≤ w2.heap.size ∧ 5 ≤ 20) := Lib.hid ⟨K2.out.size, by omega⟩
       clear x2 k2)
    | (go_at_call 106; with_reducible refine (twod_is (n2 := 7) S _ HS (by rfl) X2 B2).mono ?_; rintro e w3 ⟨A3, c3, rfl, x3, k3⟩; simp only []
       have X3 := Lib.hid x3
       have K3 := Lib.hid (K2.out.trans k3)
       have B3 : Hid (w.heap.size ≤ w3.heap.size ∧ 7 ≤ 20) := Lib.hid ⟨K3.out.size, by omega⟩
       have hcv := ab_str X3.out (by omega)
       clear x3 k3)
    )
  go_ret
  exact ⟨rfl, K3.out⟩

set_option maxHeartbeats 1600000 in
theorem tx_n1 (N H M0 M S : Nat) (w : World) (h : N < 360000) (h0 : 0 < N) (hH : N / 3600 = H) (hM0 : N % 3600 = M0) (hM : M0 / 60 = M) (hS : N % 60 = S) (z : M0 = 0) :
    Calls Tryz.prog 77 #[.int .i64 (-(N : Int))] w fun e w' => e = .returned (.string ⟨(([45] ++ two H)).toArray⟩) ∧ Below w.heap.size w w' := by
  have e1 : (N : Int) / 3600 = (H : Int) := by omega
  have e2 : (N : Int) % 3600 = (M0 : Int) := by omega
  have e4 : (N : Int) % 60 = (S : Int) := by omega
  have t1 : ((M0 : Int) != 0) = false := by simp; omega
  have t2 : ((S : Int) != 0) = false := by simp; omega
  have HH : Hid (H < 100) := Lib.hid (by omega)
  have hn : -(N : Int) < 0 := by omega
  have X0 : Hid ((w.alloc (.cells #[.int .u8 45] 5)).ownsRow w.heap.size 5 1 (.slice (some ⟨w.heap.size, 0, none⟩) 1 1) 1 (ubl [45])) := Lib.hid (World.ownsRow_lit w #[.int .u8 45] 1 (Nat.le_refl _) (by decide) rfl)
  have B0 : Hid (w.heap.size ≤ (w.alloc (.cells #[.int .u8 45] 5)).heap.size ∧ 1 ≤ 20) := Lib.hid ⟨by simp, by omega⟩
  have K0 : Hid (Below w.heap.size w (w.alloc (.cells #[.int .u8 45] 5))) := Lib.hid ((Below.refl _ _).alloc (Nat.le_refl _) _)
  have bH : H < 100 := by omega
  have b0 : M0 < 3600 := by omega
  have bM : M < 100 := by omega
  have bS : S < 60 := by omega
  clear hH hM0 hM hS z h0
  go_enter Tryz.func77, Tryz.ntmps77
  go_wp2_with (first
    | (go_at_call 106; with_reducible refine (twod_is (n2 := 3) H _ HH (by rfl) X0 B0).mono ?_; rintro e w1 ⟨A1, c1, rfl, x1, k1⟩; simp only []
       have X1 := Lib.hid x1
       have K1 := Lib.hid (K0.out.trans k1)
       have B1 : Hid (w.heap.size ≤ w1.heap.size ∧ 3 ≤ 20) := Lib.hid ⟨K1.out.size, by omega⟩
       have hcv := ab_str X1.out (by omega)
       clear x1 k1)
    )
  go_ret
  exact ⟨rfl, K1.out⟩

set_option maxHeartbeats 1600000 in
theorem tx_n2 (N H M0 M S : Nat) (w : World) (h : N < 360000) (h0 : 0 < N) (hH : N / 3600 = H) (hM0 : N % 3600 = M0) (hM : M0 / 60 = M) (hS : N % 60 = S) (z : M0 ≠ 0) (z2 : S = 0) :
    Calls Tryz.prog 77 #[.int .i64 (-(N : Int))] w fun e w' => e = .returned (.string ⟨(([45] ++ two H) ++ two M).toArray⟩) ∧ Below w.heap.size w w' := by
  have e1 : (N : Int) / 3600 = (H : Int) := by omega
  have e2 : (N : Int) % 3600 = (M0 : Int) := by omega
  have e4 : (N : Int) % 60 = (S : Int) := by omega
  have e3 : (M0 : Int) / 60 = (M : Int) := by omega
  have t1 : ((M0 : Int) != 0) = true := by simp; omega
  have t2 : ((S : Int) != 0) = false := by simp; omega
  have HH : Hid (H < 100) := Lib.hid (by omega)
  have HM : Hid (M < 100) := Lib.hid (by omega)
  have hn : -(N : Int) < 0 := by omega
  have X0 : Hid ((w.alloc (.cells #[.int .u8 45] 5)).ownsRow w.heap.size 5 1 (.slice (some ⟨w.heap.size, 0, none⟩) 1 1) 1 (ubl [45])) := Lib.hid (World.ownsRow_lit w #[.int .u8 45] 1 (Nat.le_refl _) (by decide) rfl)
  have B0 : Hid (w.heap.size ≤ (w.alloc (.cells #[.int .u8 45] 5)).heap.size ∧ 1 ≤ 20) := Lib.hid ⟨by simp, by omega⟩
  have K0 : Hid (Below w.heap.size w (w.alloc (.cells #[.int .u8 45] 5))) := Lib.hid ((Below.refl _ _).alloc (Nat.le_refl _) _)
  have bH : H < 100 := by omega
  have b0 : M0 < 3600 := by omega
  have bM : M < 100 := by omega
  have bS : S < 60 := by omega
  clear hH hM0 hM hS z h0 z2
  go_enter Tryz.func77, Tryz.ntmps77
  go_wp2_with (first
    | (go_at_call 106; with_reducible refine (twod_is (n2 := 3) H _ HH (by rfl) X0 B0).mono ?_; rintro e w1 ⟨A1, c1, rfl, x1, k1⟩; simp only []
       have X1 := Lib.hid x1
       have K1 := Lib.hid (K0.out.trans k1)
       have B1 : Hid (w.heap.size ≤ w1.heap.size ∧ 3 ≤ 20) := Lib.hid ⟨K1.out.size, by omega⟩
       clear x1 k1)
    | (go_at_call 106; with_reducible refine (twod_is (n2 := 5) M _ HM (by rfl) X1 B1).mono ?_; rintro e w2 ⟨A2, c2, rfl, x2, k2⟩; simp only []
       have X2 := Lib.hid x2
       have K2 := Lib.hid (K1.out.trans k2)
       have B2 : Hid (w.heap.size ≤ w2.heap.size ∧ 5 ≤ 20) := Lib.hid ⟨K2.out.size, by omega⟩
       have hcv := ab_str X2.out (by omega)
       clear x2 k2)
    )
  go_ret
  exact ⟨rfl, K2.out⟩

set_option maxHeartbeats 1600000 in
theorem tx_n3 (N H M0 M S : Nat) (w : World) (h : N < 360000) (h0 : 0 < N) (hH : N / 3600 = H) (hM0 : N % 3600 = M0) (hM : M0 / 60 = M) (hS : N % 60 = S) (z : M0 ≠ 0) (z2 : S ≠ 0) :
    Calls Tryz.prog 77 #[.int .i64 (-(N : Int))] w fun e w' => e = .returned (.string ⟨(([45] ++ two H) ++ two M ++ two S).toArray⟩) ∧ Below w.heap.size w w' := by
  have e1 : (N : Int) / 3600 = (H : Int) := by omega
  have e2 : (N : Int) % 3600 = (M0 : Int) := by omega
  have e4 : (N : Int) % 60 = (S : Int) := by omega
  have e3 : (M0 : Int) / 60 = (M : Int) := by omega
  have t1 : ((M0 : Int) != 0) = true := by simp; omega
  have t2 : ((S : Int) != 0) = true := by simp; omega
  have HH : Hid (H < 100) := Lib.hid (by omega)
  have HM : Hid (M < 100) := Lib.hid (by omega)
  have HS : Hid (S < 100) := Lib.hid (by omega)
  have hn : -(N : Int) < 0 := by omega
  have X0 : Hid ((w.alloc (.cells #[.int .u8 45] 5)).ownsRow w.heap.size 5 1 (.slice (some ⟨w.heap.size, 0, none⟩) 1 1) 1 (ubl [45])) := Lib.hid (World.ownsRow_lit w #[.int .u8 45] 1 (Nat.le_refl _) (by decide) rfl)
  have B0 : Hid (w.heap.size ≤ (w.alloc (.cells #[.int .u8 45] 5)).heap.size ∧ 1 ≤ 20) := Lib.hid ⟨by simp, by omega⟩
  have K0 : Hid (Below w.heap.size w (w.alloc (.cells #[.int .u8 45] 5))) := Lib.hid ((Below.refl _ _).alloc (Nat.le_refl _) _)
  have bH : H < 100 := by omega
  have b0 : M0 < 3600 := by omega
  have bM : M < 100 := by omega
  have bS : S < 60 := by omega
  clear hH hM0 hM hS z h0 z2
  go_enter Tryz.func77, Tryz.ntmps77
  go_wp2_with (first
    | (go_at_call 106; with_reducible refine (twod_is (n2 := 3) H _ HH (by rfl) X0 B0).mono ?_; rintro e w1 ⟨A1, c1, rfl, x1, k1⟩; simp only []
       have X1 := Lib.hid x1
       have K1 := Lib.hid (K0.out.trans k1)
       have B1 : Hid (w.heap.size ≤ w1.heap.size ∧ 3 ≤ 20) := Lib.hid ⟨K1.out.size, by omega⟩
       clear x1 k1)
    | (go_at_call 106; with_reducible refine (twod_is (n2 := 5) M _ HM (by rfl) X1 B1).mono ?_; rintro e w2 ⟨A2, c2, rfl, x2, k2⟩; simp only []
       have X2 := Lib.hid x2
       have K2 := Lib.hid (K1.out.trans k2)
       have B2 : Hid (w.heap.size ≤ w2.heap.size ∧ 5 ≤ 20) := Lib.hid ⟨K2.out.size, by omega⟩
       clear x2 k2)
    | (go_at_call 106; with_reducible refine (twod_is (n2 := 7) S _ HS (by rfl) X2 B2).mono ?_; rintro e w3 ⟨A3, c3, rfl, x3, k3⟩; simp only []
       have X3 := Lib.hid x3
       have K3 := Lib.hid (K2.out.trans k3)
       have B3 : Hid (w.heap.size ≤ w3.heap.size ∧ 7 ≤ 20) := Lib.hid ⟨K3.out.size, by omega⟩
       have hcv := ab_str X3.out (by omega)
       clear x3 k3)
    )
  go_ret
  exact ⟨rfl, K3.out⟩

theorem text_is (off : Int) (T : List UInt8) (w : World) (h1 : -360000 < off) (h2 : off < 360000) (HT : Hid (ofT off = T)) :
    Calls Tryz.prog 77 #[.int .i64 off] w fun e w' => e = .returned (.string ⟨T.toArray⟩) ∧ Below w.heap.size w w' := by
  rw [← HT.out]
  clear HT
  by_cases h0 : off < 0
  · obtain ⟨N, rfl⟩ : ∃ N : Nat, off = -(N : Int) := ⟨off.natAbs, by omega⟩
    have e : ofT (-(N : Int)) = txO 45 N := by unfold ofT; rw [if_pos h0]; congr 1; omega
    rw [e]
    unfold txO
    by_cases z : N % 3600 = 0
    · have := tx_n1 N _ _ _ _ w (by omega) (by omega) rfl rfl rfl rfl z
      rw [if_pos z]; simpa using this
    · by_cases z2 : N % 60 = 0
      · have := tx_n2 N _ _ _ _ w (by omega) (by omega) rfl rfl rfl rfl z z2
        rw [if_neg z, if_pos z2]; simpa using this
      · have := tx_n3 N _ _ _ _ w (by omega) (by omega) rfl rfl rfl rfl z z2
        rw [if_neg z, if_neg z2]; simpa using this
  · obtain ⟨N, rfl⟩ : ∃ N : Nat, off = (N : Int) := ⟨off.natAbs, by omega⟩
    have e : ofT (N : Int) = txO 43 N := by unfold ofT; rw [if_neg h0]; rfl
    rw [e]
    unfold txO
    by_cases z : N % 3600 = 0
    · have := tx_p1 N _ _ _ _ w (by omega) rfl rfl rfl rfl z
      rw [if_pos z]; simpa using this
    · by_cases z2 : N % 60 = 0
      · have := tx_p2 N _ _ _ _ w (by omega) rfl rfl rfl rfl z z2
        rw [if_neg z, if_pos z2]; simpa using this
      · have := tx_p3 N _ _ _ _ w (by omega) rfl rfl rfl rfl z z2
        rw [if_neg z, if_neg z2]; simpa using this
theorem offset_is (off : Int) (T : List UInt8) (e0 : Int) (w : World) (HV : Hid (ofS off = T ∧ ofE off = e0)) :
    Calls Tryz.prog 49 #[.int .i64 off] w fun e w' => e = .returned (.tuple #[.string ⟨T.toArray⟩, .int .i64 e0]) ∧ Below w.heap.size w w' := by
  obtain ⟨rfl, rfl⟩ := HV.out
  clear HV
  by_cases h1 : off ≤ -360000
  · have e : Hid (ofS off = [] ∧ ofE off = 10) := Lib.hid ⟨by unfold ofS; rw [if_pos (.inl h1)], by unfold ofE; rw [if_pos (.inl h1)]⟩
    go_enter Tryz.func49, Tryz.ntmps49
    go_wp2
    go_ret2
    rw [e.out.1, e.out.2]
    exact ⟨rfl, Below.refl _ _⟩
  · by_cases h2 : 360000 ≤ off
    · have e : Hid (ofS off = [] ∧ ofE off = 10) := Lib.hid ⟨by unfold ofS; rw [if_pos (.inr h2)], by unfold ofE; rw [if_pos (.inr h2)]⟩
      go_enter Tryz.func49, Tryz.ntmps49
      go_wp2
      go_ret2
      rw [e.out.1, e.out.2]
      exact ⟨rfl, Below.refl _ _⟩
    · obtain ⟨T, hT⟩ : ∃ T, ofT off = T := ⟨_, rfl⟩
      have e : Hid (ofS off = T ∧ ofE off = 0) := Lib.hid ⟨by unfold ofS; rw [if_neg (by omega), hT], by unfold ofE; rw [if_neg (by omega)]⟩
      have HT := Lib.hid hT
      have B := Lib.hid (And.intro (show -360000 < off by omega) (show off < 360000 by omega))
      clear hT
      go_enter Tryz.func49, Tryz.ntmps49
      go_wp2_with (first | (go_at_call 77; refine (text_is off T _ B.out.1 B.out.2 HT).mono ?_; rintro e w1 ⟨rfl, k1⟩; simp only []))
      go_ret2
      rw [e.out.1, e.out.2]
      exact ⟨rfl, k1⟩
end Go.Proofs.YtjpppffgebecdaaGreatDoor
