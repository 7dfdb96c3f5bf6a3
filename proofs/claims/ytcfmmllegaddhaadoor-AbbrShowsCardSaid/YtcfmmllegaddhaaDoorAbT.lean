/- The contracts of the document's answer's pair and Offset; nothing that was in memory changes. -/
import Derived.Test.YtcfmmllegaddhaaDoorAbH
namespace Go.Proofs.YtcfmmllegaddhaaDoor
open Go.RowKit
attribute [local go_sem] Oper.semAt_some

theorem rtwo_bytes (W : World) (d e : UInt8) : (convert 58 9 (.slice (some ⟨W.heap.size, 0, none⟩) 2 2)).run Tryd.prog (W.alloc (.cells #[.int .u8 (d.toNat : Int), .int .u8 (e.toNat : Int)] 5)) = .ok (.string ⟨[d, e].toArray⟩) (W.alloc (.cells #[.int .u8 (d.toNat : Int), .int .u8 (e.toNat : Int)] 5)) :=
  ab_str (World.ownsRow_lit W #[.int .u8 (d.toNat : Int), .int .u8 (e.toNat : Int)] 2 (Nat.le_refl _) (by decide) rfl) (by omega)
theorem pair_is (n : Nat) (T : List UInt8) (w : World) (h : Hid (n < 100)) (hT : Hid (two n = T)) :
    Calls Tryd.prog 24 #[.int .i64 (n : Int)] w fun e w' => e = .returned (.string ⟨T.toArray⟩) ∧ Below w.heap.size w w' := by
  obtain ⟨d, e, hde, hd, he⟩ := digs n h.out
  have HT : Hid (T = [d, e]) := Lib.hid (by rw [← hT.out, hde])
  have hn := h.out
  have e0 : (n : Int) / 10 % 10 = (n : Int) / 10 := by omega
  have e1 : 48 + (n : Int) / 10 = (d.toNat : Int) := hd.symm
  have e2 : 48 + (n : Int) % 10 = (e.toNat : Int) := he.symm
  have cv := rtwo_bytes w d e
  clear hd he hde hT
  go_enter Tryd.func24, Tryd.ntmps24
  go_wp2
  go_ret
  rw [HT.out]
  exact ⟨rfl, (Below.refl _ _).alloc (Nat.le_refl _) _⟩

set_option maxHeartbeats 1600000 in
theorem rt_p1 (N H M0 M S Q R : Nat) (w : World) (h : N < 360000) (hH : N / 3600 = H) (hM0 : N % 3600 = M0) (hM : M0 / 60 = M) (hS : N % 60 = S) (hQ : N / 60 = Q) (hR : 60 * M = R) (z : M = 0) (z2 : S = 0) :
    Calls Tryd.prog 14 #[.int .i64 (N : Int)] w fun e w' => e = .returned (.string ⟨(([43] ++ two H)).toArray⟩) ∧ Below w.heap.size w w' := by
  have e1 : (N : Int) / 3600 = (H : Int) := by omega
  have e2 : (N : Int) / 60 = (Q : Int) := by omega
  have e3 : (Q : Int) - 60 * (H : Int) = (M : Int) := by omega
  have e4 : (N : Int) - 3600 * (H : Int) = (M0 : Int) := by omega
  have e5 : 60 * (M : Int) = (R : Int) := by omega
  have e6 : (M0 : Int) - (R : Int) = (S : Int) := by omega
  have t1 : ((M : Int) != 0) = false := by simp; omega
  have t2 : ((S : Int) != 0) = false := by simp; omega
  have HH : Hid (H < 100) := Lib.hid (by omega)
  obtain ⟨TH, hTH⟩ : ∃ T, two H = T := ⟨_, rfl⟩
  have lH : TH.length = 2 := by rw [← hTH]; rfl
  have WH := Lib.hid hTH
  obtain ⟨A0, hA0⟩ : ∃ A, ([43] : List UInt8) ++ TH = A := ⟨_, rfl⟩
  have ad0 := wadd_lists ([43] : List UInt8) TH (by simp) (by omega)
  rw [hA0] at ad0
  have lA0 : A0.length ≤ 3 := by rw [← hA0]; simp; omega
  have F : Hid (([43] ++ two H) = A0) := Lib.hid (by rw [hTH, hA0])
  rw [F.out]
  have hn : ¬ (N : Int) < 0 := by omega
  have bH : H < 100 := by omega
  have b0 : M0 < 3600 := by omega
  have bM : M < 60 := by omega
  have bS : S < 60 := by omega
  have bQ : Q < 6000 := by omega
  have bR : R < 3600 := by omega
  clear hH hM0 hM hS hQ hR z2 F z hTH hA0 lA0
  clear lH
  have K0 : Hid (Below w.heap.size w w) := Lib.hid (Below.refl _ _)
  go_enter Tryd.func14, Tryd.ntmps14
  go_wp2_with (first
    | (go_at_call 24; with_reducible refine (pair_is H _ _ HH WH).mono ?_; rintro e w1 ⟨rfl, k1⟩; simp only []
       have K1 := Lib.hid (K0.out.trans (k1.mono K0.out.size))
       clear k1))
  go_ret
  exact ⟨rfl, K1.out⟩
set_option maxHeartbeats 1600000 in
theorem rt_p2 (N H M0 M S Q R : Nat) (w : World) (h : N < 360000) (hH : N / 3600 = H) (hM0 : N % 3600 = M0) (hM : M0 / 60 = M) (hS : N % 60 = S) (hQ : N / 60 = Q) (hR : 60 * M = R) (z : M ≠ 0) (z2 : S = 0) :
    Calls Tryd.prog 14 #[.int .i64 (N : Int)] w fun e w' => e = .returned (.string ⟨(([43] ++ two H) ++ two M).toArray⟩) ∧ Below w.heap.size w w' := by
  have e1 : (N : Int) / 3600 = (H : Int) := by omega
  have e2 : (N : Int) / 60 = (Q : Int) := by omega
  have e3 : (Q : Int) - 60 * (H : Int) = (M : Int) := by omega
  have e4 : (N : Int) - 3600 * (H : Int) = (M0 : Int) := by omega
  have e5 : 60 * (M : Int) = (R : Int) := by omega
  have e6 : (M0 : Int) - (R : Int) = (S : Int) := by omega
  have t1 : ((M : Int) != 0) = true := by simp; omega
  have t2 : ((S : Int) != 0) = false := by simp; omega
  have HH : Hid (H < 100) := Lib.hid (by omega)
  have HM : Hid (M < 100) := Lib.hid (by omega)
  obtain ⟨TH, hTH⟩ : ∃ T, two H = T := ⟨_, rfl⟩
  have lH : TH.length = 2 := by rw [← hTH]; rfl
  have WH := Lib.hid hTH
  obtain ⟨TM, hTM⟩ : ∃ T, two M = T := ⟨_, rfl⟩
  have lM : TM.length = 2 := by rw [← hTM]; rfl
  have WM := Lib.hid hTM
  obtain ⟨A0, hA0⟩ : ∃ A, ([43] : List UInt8) ++ TH = A := ⟨_, rfl⟩
  have ad0 := wadd_lists ([43] : List UInt8) TH (by simp) (by omega)
  rw [hA0] at ad0
  have lA0 : A0.length ≤ 3 := by rw [← hA0]; simp; omega
  obtain ⟨A1, hA1⟩ : ∃ A, A0 ++ TM = A := ⟨_, rfl⟩
  have ad1 := wadd_lists A0 TM (by omega) (by omega)
  rw [hA1] at ad1
  have lA1 : A1.length ≤ 5 := by rw [← hA1]; simp; omega
  have F : Hid (([43] ++ two H) ++ two M = A1) := Lib.hid (by rw [hTH, hTM, hA0, hA1])
  rw [F.out]
  have hn : ¬ (N : Int) < 0 := by omega
  have bH : H < 100 := by omega
  have b0 : M0 < 3600 := by omega
  have bM : M < 60 := by omega
  have bS : S < 60 := by omega
  have bQ : Q < 6000 := by omega
  have bR : R < 3600 := by omega
  clear hH hM0 hM hS hQ hR z2 F z hTH hTM hA0 lA0 hA1 lA1
  clear lH lM
  have K0 : Hid (Below w.heap.size w w) := Lib.hid (Below.refl _ _)
  go_enter Tryd.func14, Tryd.ntmps14
  go_wp2_with (first
    | (go_at_call 24; with_reducible refine (pair_is H _ _ HH WH).mono ?_; rintro e w1 ⟨rfl, k1⟩; simp only []
       have K1 := Lib.hid (K0.out.trans (k1.mono K0.out.size))
       clear k1)
    | (go_at_call 24; with_reducible refine (pair_is M _ _ HM WM).mono ?_; rintro e w2 ⟨rfl, k2⟩; simp only []
       have K2 := Lib.hid (K1.out.trans (k2.mono K1.out.size))
       clear k2))
  go_ret
  exact ⟨rfl, K2.out⟩
set_option maxHeartbeats 1600000 in
theorem rt_p3 (N H M0 M S Q R : Nat) (w : World) (h : N < 360000) (hH : N / 3600 = H) (hM0 : N % 3600 = M0) (hM : M0 / 60 = M) (hS : N % 60 = S) (hQ : N / 60 = Q) (hR : 60 * M = R) (z2 : S ≠ 0) :
    Calls Tryd.prog 14 #[.int .i64 (N : Int)] w fun e w' => e = .returned (.string ⟨(([43] ++ two H) ++ two M ++ two S).toArray⟩) ∧ Below w.heap.size w w' := by
  have e1 : (N : Int) / 3600 = (H : Int) := by omega
  have e2 : (N : Int) / 60 = (Q : Int) := by omega
  have e3 : (Q : Int) - 60 * (H : Int) = (M : Int) := by omega
  have e4 : (N : Int) - 3600 * (H : Int) = (M0 : Int) := by omega
  have e5 : 60 * (M : Int) = (R : Int) := by omega
  have e6 : (M0 : Int) - (R : Int) = (S : Int) := by omega
  have t2 : ((S : Int) != 0) = true := by simp; omega
  have HH : Hid (H < 100) := Lib.hid (by omega)
  have HM : Hid (M < 100) := Lib.hid (by omega)
  have HS : Hid (S < 100) := Lib.hid (by omega)
  obtain ⟨TH, hTH⟩ : ∃ T, two H = T := ⟨_, rfl⟩
  have lH : TH.length = 2 := by rw [← hTH]; rfl
  have WH := Lib.hid hTH
  obtain ⟨TM, hTM⟩ : ∃ T, two M = T := ⟨_, rfl⟩
  have lM : TM.length = 2 := by rw [← hTM]; rfl
  have WM := Lib.hid hTM
  obtain ⟨TS, hTS⟩ : ∃ T, two S = T := ⟨_, rfl⟩
  have lS : TS.length = 2 := by rw [← hTS]; rfl
  have WS := Lib.hid hTS
  obtain ⟨A0, hA0⟩ : ∃ A, ([43] : List UInt8) ++ TH = A := ⟨_, rfl⟩
  have ad0 := wadd_lists ([43] : List UInt8) TH (by simp) (by omega)
  rw [hA0] at ad0
  have lA0 : A0.length ≤ 3 := by rw [← hA0]; simp; omega
  obtain ⟨A1, hA1⟩ : ∃ A, A0 ++ TM = A := ⟨_, rfl⟩
  have ad1 := wadd_lists A0 TM (by omega) (by omega)
  rw [hA1] at ad1
  have lA1 : A1.length ≤ 5 := by rw [← hA1]; simp; omega
  obtain ⟨A2, hA2⟩ : ∃ A, A1 ++ TS = A := ⟨_, rfl⟩
  have ad2 := wadd_lists A1 TS (by omega) (by omega)
  rw [hA2] at ad2
  have lA2 : A2.length ≤ 7 := by rw [← hA2]; simp; omega
  have F : Hid (([43] ++ two H) ++ two M ++ two S = A2) := Lib.hid (by rw [hTH, hTM, hTS, hA0, hA1, hA2])
  rw [F.out]
  have hn : ¬ (N : Int) < 0 := by omega
  have bH : H < 100 := by omega
  have b0 : M0 < 3600 := by omega
  have bM : M < 60 := by omega
  have bS : S < 60 := by omega
  have bQ : Q < 6000 := by omega
  have bR : R < 3600 := by omega
  clear hH hM0 hM hS hQ hR z2 F hTH hTM hTS hA0 lA0 hA1 lA1 hA2 lA2
  clear lH lM lS
  have K0 : Hid (Below w.heap.size w w) := Lib.hid (Below.refl _ _)
  go_enter Tryd.func14, Tryd.ntmps14
  go_wp2_with (first
    | (go_at_call 24; with_reducible refine (pair_is H _ _ HH WH).mono ?_; rintro e w1 ⟨rfl, k1⟩; simp only []
       have K1 := Lib.hid (K0.out.trans (k1.mono K0.out.size))
       clear k1)
    | (go_at_call 24; with_reducible refine (pair_is M _ _ HM WM).mono ?_; rintro e w2 ⟨rfl, k2⟩; simp only []
       have K2 := Lib.hid (K1.out.trans (k2.mono K1.out.size))
       clear k2)
    | (go_at_call 24; with_reducible refine (pair_is S _ _ HS WS).mono ?_; rintro e w3 ⟨rfl, k3⟩; simp only []
       have K3 := Lib.hid (K2.out.trans (k3.mono K2.out.size))
       clear k3))
  go_ret
  exact ⟨rfl, K3.out⟩
set_option maxHeartbeats 1600000 in
theorem rt_n1 (N H M0 M S Q R : Nat) (w : World) (h : N < 360000) (h0 : 0 < N) (hH : N / 3600 = H) (hM0 : N % 3600 = M0) (hM : M0 / 60 = M) (hS : N % 60 = S) (hQ : N / 60 = Q) (hR : 60 * M = R) (z : M = 0) (z2 : S = 0) :
    Calls Tryd.prog 14 #[.int .i64 (-(N : Int))] w fun e w' => e = .returned (.string ⟨(([45] ++ two H)).toArray⟩) ∧ Below w.heap.size w w' := by
  have e1 : (N : Int) / 3600 = (H : Int) := by omega
  have e2 : (N : Int) / 60 = (Q : Int) := by omega
  have e3 : (Q : Int) - 60 * (H : Int) = (M : Int) := by omega
  have e4 : (N : Int) - 3600 * (H : Int) = (M0 : Int) := by omega
  have e5 : 60 * (M : Int) = (R : Int) := by omega
  have e6 : (M0 : Int) - (R : Int) = (S : Int) := by omega
  have t1 : ((M : Int) != 0) = false := by simp; omega
  have t2 : ((S : Int) != 0) = false := by simp; omega
  have HH : Hid (H < 100) := Lib.hid (by omega)
  obtain ⟨TH, hTH⟩ : ∃ T, two H = T := ⟨_, rfl⟩
  have lH : TH.length = 2 := by rw [← hTH]; rfl
  have WH := Lib.hid hTH
  obtain ⟨A0, hA0⟩ : ∃ A, ([45] : List UInt8) ++ TH = A := ⟨_, rfl⟩
  have ad0 := wadd_lists ([45] : List UInt8) TH (by simp) (by omega)
  rw [hA0] at ad0
  have lA0 : A0.length ≤ 3 := by rw [← hA0]; simp; omega
  have F : Hid (([45] ++ two H) = A0) := Lib.hid (by rw [hTH, hA0])
  rw [F.out]
  have hn : -(N : Int) < 0 := by omega
  have bH : H < 100 := by omega
  have b0 : M0 < 3600 := by omega
  have bM : M < 60 := by omega
  have bS : S < 60 := by omega
  have bQ : Q < 6000 := by omega
  have bR : R < 3600 := by omega
  clear hH hM0 hM hS hQ hR z2 F h0 z hTH hA0 lA0
  clear lH
  have K0 : Hid (Below w.heap.size w w) := Lib.hid (Below.refl _ _)
  go_enter Tryd.func14, Tryd.ntmps14
  go_wp2_with (first
    | (go_at_call 24; with_reducible refine (pair_is H _ _ HH WH).mono ?_; rintro e w1 ⟨rfl, k1⟩; simp only []
       have K1 := Lib.hid (K0.out.trans (k1.mono K0.out.size))
       clear k1))
  go_ret
  exact ⟨rfl, K1.out⟩
set_option maxHeartbeats 1600000 in
theorem rt_n2 (N H M0 M S Q R : Nat) (w : World) (h : N < 360000) (h0 : 0 < N) (hH : N / 3600 = H) (hM0 : N % 3600 = M0) (hM : M0 / 60 = M) (hS : N % 60 = S) (hQ : N / 60 = Q) (hR : 60 * M = R) (z : M ≠ 0) (z2 : S = 0) :
    Calls Tryd.prog 14 #[.int .i64 (-(N : Int))] w fun e w' => e = .returned (.string ⟨(([45] ++ two H) ++ two M).toArray⟩) ∧ Below w.heap.size w w' := by
  have e1 : (N : Int) / 3600 = (H : Int) := by omega
  have e2 : (N : Int) / 60 = (Q : Int) := by omega
  have e3 : (Q : Int) - 60 * (H : Int) = (M : Int) := by omega
  have e4 : (N : Int) - 3600 * (H : Int) = (M0 : Int) := by omega
  have e5 : 60 * (M : Int) = (R : Int) := by omega
  have e6 : (M0 : Int) - (R : Int) = (S : Int) := by omega
  have t1 : ((M : Int) != 0) = true := by simp; omega
  have t2 : ((S : Int) != 0) = false := by simp; omega
  have HH : Hid (H < 100) := Lib.hid (by omega)
  have HM : Hid (M < 100) := Lib.hid (by omega)
  obtain ⟨TH, hTH⟩ : ∃ T, two H = T := ⟨_, rfl⟩
  have lH : TH.length = 2 := by rw [← hTH]; rfl
  have WH := Lib.hid hTH
  obtain ⟨TM, hTM⟩ : ∃ T, two M = T := ⟨_, rfl⟩
  have lM : TM.length = 2 := by rw [← hTM]; rfl
  have WM := Lib.hid hTM
  obtain ⟨A0, hA0⟩ : ∃ A, ([45] : List UInt8) ++ TH = A := ⟨_, rfl⟩
  have ad0 := wadd_lists ([45] : List UInt8) TH (by simp) (by omega)
  rw [hA0] at ad0
  have lA0 : A0.length ≤ 3 := by rw [← hA0]; simp; omega
  obtain ⟨A1, hA1⟩ : ∃ A, A0 ++ TM = A := ⟨_, rfl⟩
  have ad1 := wadd_lists A0 TM (by omega) (by omega)
  rw [hA1] at ad1
  have lA1 : A1.length ≤ 5 := by rw [← hA1]; simp; omega
  have F : Hid (([45] ++ two H) ++ two M = A1) := Lib.hid (by rw [hTH, hTM, hA0, hA1])
  rw [F.out]
  have hn : -(N : Int) < 0 := by omega
  have bH : H < 100 := by omega
  have b0 : M0 < 3600 := by omega
  have bM : M < 60 := by omega
  have bS : S < 60 := by omega
  have bQ : Q < 6000 := by omega
  have bR : R < 3600 := by omega
  clear hH hM0 hM hS hQ hR z2 F h0 z hTH hTM hA0 lA0 hA1 lA1
  clear lH lM
  have K0 : Hid (Below w.heap.size w w) := Lib.hid (Below.refl _ _)
  go_enter Tryd.func14, Tryd.ntmps14
  go_wp2_with (first
    | (go_at_call 24; with_reducible refine (pair_is H _ _ HH WH).mono ?_; rintro e w1 ⟨rfl, k1⟩; simp only []
       have K1 := Lib.hid (K0.out.trans (k1.mono K0.out.size))
       clear k1)
    | (go_at_call 24; with_reducible refine (pair_is M _ _ HM WM).mono ?_; rintro e w2 ⟨rfl, k2⟩; simp only []
       have K2 := Lib.hid (K1.out.trans (k2.mono K1.out.size))
       clear k2))
  go_ret
  exact ⟨rfl, K2.out⟩
set_option maxHeartbeats 1600000 in
theorem rt_n3 (N H M0 M S Q R : Nat) (w : World) (h : N < 360000) (h0 : 0 < N) (hH : N / 3600 = H) (hM0 : N % 3600 = M0) (hM : M0 / 60 = M) (hS : N % 60 = S) (hQ : N / 60 = Q) (hR : 60 * M = R) (z2 : S ≠ 0) :
    Calls Tryd.prog 14 #[.int .i64 (-(N : Int))] w fun e w' => e = .returned (.string ⟨(([45] ++ two H) ++ two M ++ two S).toArray⟩) ∧ Below w.heap.size w w' := by
  have e1 : (N : Int) / 3600 = (H : Int) := by omega
  have e2 : (N : Int) / 60 = (Q : Int) := by omega
  have e3 : (Q : Int) - 60 * (H : Int) = (M : Int) := by omega
  have e4 : (N : Int) - 3600 * (H : Int) = (M0 : Int) := by omega
  have e5 : 60 * (M : Int) = (R : Int) := by omega
  have e6 : (M0 : Int) - (R : Int) = (S : Int) := by omega
  have t2 : ((S : Int) != 0) = true := by simp; omega
  have HH : Hid (H < 100) := Lib.hid (by omega)
  have HM : Hid (M < 100) := Lib.hid (by omega)
  have HS : Hid (S < 100) := Lib.hid (by omega)
  obtain ⟨TH, hTH⟩ : ∃ T, two H = T := ⟨_, rfl⟩
  have lH : TH.length = 2 := by rw [← hTH]; rfl
  have WH := Lib.hid hTH
  obtain ⟨TM, hTM⟩ : ∃ T, two M = T := ⟨_, rfl⟩
  have lM : TM.length = 2 := by rw [← hTM]; rfl
  have WM := Lib.hid hTM
  obtain ⟨TS, hTS⟩ : ∃ T, two S = T := ⟨_, rfl⟩
  have lS : TS.length = 2 := by rw [← hTS]; rfl
  have WS := Lib.hid hTS
  obtain ⟨A0, hA0⟩ : ∃ A, ([45] : List UInt8) ++ TH = A := ⟨_, rfl⟩
  have ad0 := wadd_lists ([45] : List UInt8) TH (by simp) (by omega)
  rw [hA0] at ad0
  have lA0 : A0.length ≤ 3 := by rw [← hA0]; simp; omega
  obtain ⟨A1, hA1⟩ : ∃ A, A0 ++ TM = A := ⟨_, rfl⟩
  have ad1 := wadd_lists A0 TM (by omega) (by omega)
  rw [hA1] at ad1
  have lA1 : A1.length ≤ 5 := by rw [← hA1]; simp; omega
  obtain ⟨A2, hA2⟩ : ∃ A, A1 ++ TS = A := ⟨_, rfl⟩
  have ad2 := wadd_lists A1 TS (by omega) (by omega)
  rw [hA2] at ad2
  have lA2 : A2.length ≤ 7 := by rw [← hA2]; simp; omega
  have F : Hid (([45] ++ two H) ++ two M ++ two S = A2) := Lib.hid (by rw [hTH, hTM, hTS, hA0, hA1, hA2])
  rw [F.out]
  have hn : -(N : Int) < 0 := by omega
  have bH : H < 100 := by omega
  have b0 : M0 < 3600 := by omega
  have bM : M < 60 := by omega
  have bS : S < 60 := by omega
  have bQ : Q < 6000 := by omega
  have bR : R < 3600 := by omega
  clear hH hM0 hM hS hQ hR z2 F h0 hTH hTM hTS hA0 lA0 hA1 lA1 hA2 lA2
  clear lH lM lS
  have K0 : Hid (Below w.heap.size w w) := Lib.hid (Below.refl _ _)
  go_enter Tryd.func14, Tryd.ntmps14
  go_wp2_with (first
    | (go_at_call 24; with_reducible refine (pair_is H _ _ HH WH).mono ?_; rintro e w1 ⟨rfl, k1⟩; simp only []
       have K1 := Lib.hid (K0.out.trans (k1.mono K0.out.size))
       clear k1)
    | (go_at_call 24; with_reducible refine (pair_is M _ _ HM WM).mono ?_; rintro e w2 ⟨rfl, k2⟩; simp only []
       have K2 := Lib.hid (K1.out.trans (k2.mono K1.out.size))
       clear k2)
    | (go_at_call 24; with_reducible refine (pair_is S _ _ HS WS).mono ?_; rintro e w3 ⟨rfl, k3⟩; simp only []
       have K3 := Lib.hid (K2.out.trans (k3.mono K2.out.size))
       clear k3))
  go_ret
  exact ⟨rfl, K3.out⟩
theorem roffset_is (off : Int) (T : List UInt8) (w : World) (h1 : -360000 < off) (h2 : off < 360000) (HT : Hid (ofT off = T)) :
    Calls Tryd.prog 14 #[.int .i64 off] w fun e w' => e = .returned (.string ⟨T.toArray⟩) ∧ Below w.heap.size w w' := by
  rw [← HT.out]
  clear HT
  by_cases h0 : off < 0
  · obtain ⟨N, rfl⟩ : ∃ N : Nat, off = -(N : Int) := ⟨off.natAbs, by omega⟩
    have e : ofT (-(N : Int)) = txO 45 N := by unfold ofT; rw [if_pos h0]; congr 1; omega
    rw [e]
    unfold txO
    by_cases z : N % 3600 = 0
    · have := rt_n1 N _ _ _ _ _ _ w (by omega) (by omega) rfl rfl rfl rfl rfl rfl (by omega) (by omega)
      rw [if_pos z]; simpa using this
    · by_cases z2 : N % 60 = 0
      · have := rt_n2 N _ _ _ _ _ _ w (by omega) (by omega) rfl rfl rfl rfl rfl rfl (by omega) z2
        rw [if_neg z, if_pos z2]; simpa using this
      · have := rt_n3 N _ _ _ _ _ _ w (by omega) (by omega) rfl rfl rfl rfl rfl rfl z2
        rw [if_neg z, if_neg z2]; simpa using this
  · obtain ⟨N, rfl⟩ : ∃ N : Nat, off = (N : Int) := ⟨off.natAbs, by omega⟩
    have e : ofT (N : Int) = txO 43 N := by unfold ofT; rw [if_neg h0]; rfl
    rw [e]
    unfold txO
    by_cases z : N % 3600 = 0
    · have := rt_p1 N _ _ _ _ _ _ w (by omega) rfl rfl rfl rfl rfl rfl (by omega) (by omega)
      rw [if_pos z]; simpa using this
    · by_cases z2 : N % 60 = 0
      · have := rt_p2 N _ _ _ _ _ _ w (by omega) rfl rfl rfl rfl rfl rfl (by omega) z2
        rw [if_neg z, if_pos z2]; simpa using this
      · have := rt_p3 N _ _ _ _ _ _ w (by omega) rfl rfl rfl rfl rfl rfl z2
        rw [if_neg z, if_neg z2]; simpa using this
end Go.Proofs.YtcfmmllegaddhaaDoor
