/- The contract of the reference's Text: the text of a day of a month that may be; nothing that was in memory changes. Written by wip/tools/gentx8.py. -/
import Derived.Test.YtddoapenhlkamaaGreatDoorDrT
namespace Go.Proofs.YtddoapenhlkamaaGreatDoor
open Go.RowKit

theorem low_byte {n : Int} (h : 0 ≤ n) : ((UInt8.ofNat (48 + n.toNat % 10)).toNat : Int) = 48 + n % 10 := by
  rw [UInt8.toNat_ofNat']
  omega
theorem high_byte {n : Int} (h : 0 ≤ n ∧ n ≤ 31) : ((UInt8.ofNat (48 + n.toNat / 10)).toNat : Int) = 48 + n / 10 := by
  rw [UInt8.toNat_ofNat']
  omega
theorem digits_one {n : Int} (h : 0 ≤ n ∧ n ≤ 9) : ∃ b : UInt8, (b.toNat : Int) = 48 + n % 10 ∧ numT n = [b] := by
  refine ⟨UInt8.ofNat (48 + n.toNat % 10), low_byte h.1, ?_⟩
  unfold numT
  rw [if_pos h.2, show n.toNat % 10 = n.toNat by omega]
theorem digits_two {n : Int} (h : 9 < n ∧ n ≤ 31) : ∃ c b : UInt8, (c.toNat : Int) = 48 + n / 10 ∧ (b.toNat : Int) = 48 + n % 10 ∧ numT n = [c, b] := by
  refine ⟨UInt8.ofNat (48 + n.toNat / 10), UInt8.ofNat (48 + n.toNat % 10), high_byte ⟨by omega, h.2⟩, low_byte (by omega), ?_⟩
  unfold numT
  rw [if_neg (by omega)]

set_option maxHeartbeats 3200000 in
theorem rtext_is (k n : Int) (kk : Nat) (T : List UInt8) (w : World) (hd : dfD k (kk : Int) n) (hT : Hid (dfT k (kk : Int) n = T)) :
    Calls Tryz.prog 11 #[.agg #[.int .i64 k, .int .i64 (kk : Int), .int .i64 n]] w fun e w' => e = .returned (.string ⟨T.toArray⟩) ∧ Below w.heap.size w w' := by
  have hk7 : kk < 7 := by unfold dfD at hd; omega
  obtain ⟨p, hp, hp1, hp2⟩ := week_get hk7
  obtain ⟨N, hN⟩ : ∃ N, dname (kk : Int) = N := ⟨_, rfl⟩
  have hNl : N.length = 3 := hN ▸ dname_len kk hk7
  have NM : Hid (∀ W, Calls Tryz.prog 19 #[.string ⟨p.toArray⟩] W fun e w' => e = .returned (.string ⟨N.toArray⟩) ∧ Below W.heap.size W w') := Lib.hid fun W => by rw [← hN, ← hp2]; exact rname_any p W hp1
  obtain ⟨D, hD0⟩ : ∃ D, numT n = D := ⟨_, rfl⟩
  have hDl : D.length ≤ 2 := hD0 ▸ numT_len n
  have hT1 := Lib.hid hD0
  have HP := Lib.hid hp
  have h1 : 0 ≤ n := by unfold dfD at hd; omega
  have h2 : n ≤ 31 := by unfold dfD at hd; omega
  have hk4 : k = 0 ∨ k = 1 ∨ k = 2 ∨ k = 3 := by unfold dfD at hd; omega
  have HT : Hid (T = if k = 0 then D else if k = 1 then lastW4 ++ N else if k = 2 then N ++ [62, 61] ++ D else N ++ [60, 61] ++ D) := Lib.hid (by rw [← hT.out]; unfold dfT; rw [hN, hD0])
  have hk7' : (kk : Int) < 7 := by omega
  have hk0' : 0 ≤ (kk : Int) := by omega
  clear hd hp hp1 hp2 hN hD0 hT
  by_cases h9 : n ≤ 9
  · rcases hk4 with rfl | rfl | rfl | rfl
    · obtain ⟨b, hb, hD⟩ := digits_one ⟨h1, h9⟩
      have hcv := wone_byte (w.alloc (.cells #[.int .i64 0, .int .i64 (kk : Int), .int .i64 n] 23)) b
      rw [hb, World.size_alloc] at hcv
      obtain rfl : D = [b] := by rw [← hT1.out, hD]
      have L1 : decide (9 < n) = false := decide_eq_false (by omega)
      have X0 := Lib.hid ((Trp.new w 0 (kk : Int) n 23).more (.cells #[.int .u8 (48 + n % 10)] 5))
      clear hb hD h9
      obtain rfl : T = [b] := HT.out
      clear HT hT1 hNl hDl
      go_enter Tryz.func11, Tryz.ntmps11
      go_wp2
      go_ret
      exact ⟨rfl, X0.out.bel⟩
    · obtain ⟨b, hb, hD⟩ := digits_one ⟨h1, h9⟩
      have hcv := wone_byte (w.alloc (.cells #[.int .i64 1, .int .i64 (kk : Int), .int .i64 n] 23)) b
      rw [hb, World.size_alloc] at hcv
      obtain rfl : D = [b] := by rw [← hT1.out, hD]
      have L1 : decide (9 < n) = false := decide_eq_false (by omega)
      have X0 := Lib.hid ((Trp.new w 1 (kk : Int) n 23).more (.cells #[.int .u8 (48 + n % 10)] 5))
      clear hb hD h9
      have ad0 : ∀ W : World, (Op.stringOp .add ⟨#[108, 97, 115, 116]⟩ ⟨N.toArray⟩).run Tryz.prog W = .ok (.string ⟨T.toArray⟩) W := by rw [HT.out]; exact wadd_lists [108, 97, 115, 116] N (by simp) (by omega)
      clear HT hT1 hNl hDl
      go_enter Tryz.func11, Tryz.ntmps11
      go_wp2
      have lt := X0.out.lt
      have x0 := X0.out.c0
      have x1 := X0.out.c1
      go_region_with (first
          | (go_at_call 20; refine (rweeks_any _).mono ?_; rintro e w2 ⟨L, rfl, hL1, hL2, k1⟩
             have d1 : w2.cell? ⟨w.heap.size, 1, none⟩ = some (.int .i64 (kk : Int)) := (k1.cell (p := ⟨w.heap.size, 1, none⟩) lt).trans x1
             have hcl := hL2.cell kk p HP.out
             have lt2 := Nat.lt_of_lt_of_le lt k1.size)
          | (go_at_call 19; refine (NM.out _).mono ?_; rintro e w3 ⟨rfl, k2⟩
             have d2 : w3.cell? ⟨w.heap.size, 1, none⟩ = some (.int .i64 (kk : Int)) := (k2.cell (p := ⟨w.heap.size, 1, none⟩) lt2).trans d1))
      all_goals
        have X3 := Lib.hid ((X0.out.drawn.next k1).next k2)
        clear k1 k2 hL1 hL2 d1 d2 hcl lt lt2 x0 x1 X0
        have lt := X3.out.lt
        have x0 := X3.out.c0
        have x1 := X3.out.c1
        have x2 := X3.out.c2
        go_wp2
        go_ret
        exact ⟨rfl, X3.out.bel⟩
    · obtain ⟨b, hb, hD⟩ := digits_one ⟨h1, h9⟩
      have hcv := wone_byte (w.alloc (.cells #[.int .i64 2, .int .i64 (kk : Int), .int .i64 n] 23)) b
      rw [hb, World.size_alloc] at hcv
      obtain rfl : D = [b] := by rw [← hT1.out, hD]
      have L1 : decide (9 < n) = false := decide_eq_false (by omega)
      have X0 := Lib.hid ((Trp.new w 2 (kk : Int) n 23).more (.cells #[.int .u8 (48 + n % 10)] 5))
      clear hb hD h9
      obtain ⟨M, hM⟩ : ∃ M, N ++ [62, 61] = M := ⟨_, rfl⟩
      have hMl : M.length ≤ 1000 := by rw [← hM]; simp; omega
      have ad0 : ∀ W : World, (Op.stringOp .add ⟨N.toArray⟩ ⟨#[62, 61]⟩).run Tryz.prog W = .ok (.string ⟨M.toArray⟩) W := hM ▸ wadd_lists N [62, 61] (by omega) (by simp)
      have ad1 : ∀ W : World, (Op.stringOp .add ⟨M.toArray⟩ ⟨#[b]⟩).run Tryz.prog W = .ok (.string ⟨T.toArray⟩) W := by rw [HT.out, hM]; exact wadd_lists M [b] hMl (by first | omega | simp)
      clear hM hMl
      clear HT hT1 hNl hDl
      go_enter Tryz.func11, Tryz.ntmps11
      go_wp2
      have lt := X0.out.lt
      have x0 := X0.out.c0
      have x1 := X0.out.c1
      go_region_with (first
          | (go_at_call 20; refine (rweeks_any _).mono ?_; rintro e w2 ⟨L, rfl, hL1, hL2, k1⟩
             have d1 : w2.cell? ⟨w.heap.size, 1, none⟩ = some (.int .i64 (kk : Int)) := (k1.cell (p := ⟨w.heap.size, 1, none⟩) lt).trans x1
             have hcl := hL2.cell kk p HP.out
             have lt2 := Nat.lt_of_lt_of_le lt k1.size)
          | (go_at_call 19; refine (NM.out _).mono ?_; rintro e w3 ⟨rfl, k2⟩
             have d2 : w3.cell? ⟨w.heap.size, 1, none⟩ = some (.int .i64 (kk : Int)) := (k2.cell (p := ⟨w.heap.size, 1, none⟩) lt2).trans d1))
      all_goals
        have X3 := Lib.hid ((X0.out.drawn.next k1).next k2)
        clear k1 k2 hL1 hL2 d1 d2 hcl lt lt2 x0 x1 X0
        have lt := X3.out.lt
        have x0 := X3.out.c0
        have x1 := X3.out.c1
        have x2 := X3.out.c2
        go_wp2
        go_ret
        exact ⟨rfl, X3.out.bel⟩
    · obtain ⟨b, hb, hD⟩ := digits_one ⟨h1, h9⟩
      have hcv := wone_byte (w.alloc (.cells #[.int .i64 3, .int .i64 (kk : Int), .int .i64 n] 23)) b
      rw [hb, World.size_alloc] at hcv
      obtain rfl : D = [b] := by rw [← hT1.out, hD]
      have L1 : decide (9 < n) = false := decide_eq_false (by omega)
      have X0 := Lib.hid ((Trp.new w 3 (kk : Int) n 23).more (.cells #[.int .u8 (48 + n % 10)] 5))
      clear hb hD h9
      obtain ⟨M, hM⟩ : ∃ M, N ++ [60, 61] = M := ⟨_, rfl⟩
      have hMl : M.length ≤ 1000 := by rw [← hM]; simp; omega
      have ad0 : ∀ W : World, (Op.stringOp .add ⟨N.toArray⟩ ⟨#[60, 61]⟩).run Tryz.prog W = .ok (.string ⟨M.toArray⟩) W := hM ▸ wadd_lists N [60, 61] (by omega) (by simp)
      have ad1 : ∀ W : World, (Op.stringOp .add ⟨M.toArray⟩ ⟨#[b]⟩).run Tryz.prog W = .ok (.string ⟨T.toArray⟩) W := by rw [HT.out, hM]; exact wadd_lists M [b] hMl (by first | omega | simp)
      clear hM hMl
      clear HT hT1 hNl hDl
      go_enter Tryz.func11, Tryz.ntmps11
      go_wp2
      have lt := X0.out.lt
      have x0 := X0.out.c0
      have x1 := X0.out.c1
      go_region_with (first
          | (go_at_call 20; refine (rweeks_any _).mono ?_; rintro e w2 ⟨L, rfl, hL1, hL2, k1⟩
             have d1 : w2.cell? ⟨w.heap.size, 1, none⟩ = some (.int .i64 (kk : Int)) := (k1.cell (p := ⟨w.heap.size, 1, none⟩) lt).trans x1
             have hcl := hL2.cell kk p HP.out
             have lt2 := Nat.lt_of_lt_of_le lt k1.size)
          | (go_at_call 19; refine (NM.out _).mono ?_; rintro e w3 ⟨rfl, k2⟩
             have d2 : w3.cell? ⟨w.heap.size, 1, none⟩ = some (.int .i64 (kk : Int)) := (k2.cell (p := ⟨w.heap.size, 1, none⟩) lt2).trans d1))
      all_goals
        have X3 := Lib.hid ((X0.out.drawn.next k1).next k2)
        clear k1 k2 hL1 hL2 d1 d2 hcl lt lt2 x0 x1 X0
        have lt := X3.out.lt
        have x0 := X3.out.c0
        have x1 := X3.out.c1
        have x2 := X3.out.c2
        go_wp2
        go_ret
        exact ⟨rfl, X3.out.bel⟩
  · have h9' : 9 < n := by omega
    clear h9
    rcases hk4 with rfl | rfl | rfl | rfl
    · obtain ⟨c, b, hc, hb, hD⟩ := digits_two ⟨h9', h2⟩
      have hcv := wone_byte (w.alloc (.cells #[.int .i64 0, .int .i64 (kk : Int), .int .i64 n] 23)) b
      rw [hb, World.size_alloc] at hcv
      have hcw := wone_byte ((w.alloc (.cells #[.int .i64 0, .int .i64 (kk : Int), .int .i64 n] 23)).alloc (.cells #[.int .u8 (48 + n % 10)] 5)) c
      rw [hc, World.size_alloc, World.size_alloc] at hcw
      have adn : ∀ W : World, (Op.stringOp .add ⟨#[c]⟩ ⟨#[b]⟩).run Tryz.prog W = .ok (.string ⟨D.toArray⟩) W := by rw [← hT1.out, hD]; exact wadd_lists [c] [b] (by simp) (by simp)
      have L1 : decide (9 < n) = true := decide_eq_true h9'
      have X0 := Lib.hid (((Trp.new w 0 (kk : Int) n 23).more (.cells #[.int .u8 (48 + n % 10)] 5)).more (.cells #[.int .u8 (48 + n / 10)] 5))
      clear hb hc hD h9'
      obtain rfl : T = D := HT.out
      clear HT hT1 hNl hDl
      go_enter Tryz.func11, Tryz.ntmps11
      go_wp2
      go_ret
      exact ⟨rfl, X0.out.bel⟩
    · obtain ⟨c, b, hc, hb, hD⟩ := digits_two ⟨h9', h2⟩
      have hcv := wone_byte (w.alloc (.cells #[.int .i64 1, .int .i64 (kk : Int), .int .i64 n] 23)) b
      rw [hb, World.size_alloc] at hcv
      have hcw := wone_byte ((w.alloc (.cells #[.int .i64 1, .int .i64 (kk : Int), .int .i64 n] 23)).alloc (.cells #[.int .u8 (48 + n % 10)] 5)) c
      rw [hc, World.size_alloc, World.size_alloc] at hcw
      have adn : ∀ W : World, (Op.stringOp .add ⟨#[c]⟩ ⟨#[b]⟩).run Tryz.prog W = .ok (.string ⟨D.toArray⟩) W := by rw [← hT1.out, hD]; exact wadd_lists [c] [b] (by simp) (by simp)
      have L1 : decide (9 < n) = true := decide_eq_true h9'
      have X0 := Lib.hid (((Trp.new w 1 (kk : Int) n 23).more (.cells #[.int .u8 (48 + n % 10)] 5)).more (.cells #[.int .u8 (48 + n / 10)] 5))
      clear hb hc hD h9'
      have ad0 : ∀ W : World, (Op.stringOp .add ⟨#[108, 97, 115, 116]⟩ ⟨N.toArray⟩).run Tryz.prog W = .ok (.string ⟨T.toArray⟩) W := by rw [HT.out]; exact wadd_lists [108, 97, 115, 116] N (by simp) (by omega)
      clear HT hT1 hNl hDl
      go_enter Tryz.func11, Tryz.ntmps11
      go_wp2
      have lt := X0.out.lt
      have x0 := X0.out.c0
      have x1 := X0.out.c1
      go_region_with (first
          | (go_at_call 20; refine (rweeks_any _).mono ?_; rintro e w2 ⟨L, rfl, hL1, hL2, k1⟩
             have d1 : w2.cell? ⟨w.heap.size, 1, none⟩ = some (.int .i64 (kk : Int)) := (k1.cell (p := ⟨w.heap.size, 1, none⟩) lt).trans x1
             have hcl := hL2.cell kk p HP.out
             have lt2 := Nat.lt_of_lt_of_le lt k1.size)
          | (go_at_call 19; refine (NM.out _).mono ?_; rintro e w3 ⟨rfl, k2⟩
             have d2 : w3.cell? ⟨w.heap.size, 1, none⟩ = some (.int .i64 (kk : Int)) := (k2.cell (p := ⟨w.heap.size, 1, none⟩) lt2).trans d1))
      all_goals
        have X3 := Lib.hid ((X0.out.drawn.next k1).next k2)
        clear k1 k2 hL1 hL2 d1 d2 hcl lt lt2 x0 x1 X0
        have lt := X3.out.lt
        have x0 := X3.out.c0
        have x1 := X3.out.c1
        have x2 := X3.out.c2
        go_wp2
        go_ret
        exact ⟨rfl, X3.out.bel⟩
    · obtain ⟨c, b, hc, hb, hD⟩ := digits_two ⟨h9', h2⟩
      have hcv := wone_byte (w.alloc (.cells #[.int .i64 2, .int .i64 (kk : Int), .int .i64 n] 23)) b
      rw [hb, World.size_alloc] at hcv
      have hcw := wone_byte ((w.alloc (.cells #[.int .i64 2, .int .i64 (kk : Int), .int .i64 n] 23)).alloc (.cells #[.int .u8 (48 + n % 10)] 5)) c
      rw [hc, World.size_alloc, World.size_alloc] at hcw
      have adn : ∀ W : World, (Op.stringOp .add ⟨#[c]⟩ ⟨#[b]⟩).run Tryz.prog W = .ok (.string ⟨D.toArray⟩) W := by rw [← hT1.out, hD]; exact wadd_lists [c] [b] (by simp) (by simp)
      have L1 : decide (9 < n) = true := decide_eq_true h9'
      have X0 := Lib.hid (((Trp.new w 2 (kk : Int) n 23).more (.cells #[.int .u8 (48 + n % 10)] 5)).more (.cells #[.int .u8 (48 + n / 10)] 5))
      clear hb hc hD h9'
      obtain ⟨M, hM⟩ : ∃ M, N ++ [62, 61] = M := ⟨_, rfl⟩
      have hMl : M.length ≤ 1000 := by rw [← hM]; simp; omega
      have ad0 : ∀ W : World, (Op.stringOp .add ⟨N.toArray⟩ ⟨#[62, 61]⟩).run Tryz.prog W = .ok (.string ⟨M.toArray⟩) W := hM ▸ wadd_lists N [62, 61] (by omega) (by simp)
      have ad1 : ∀ W : World, (Op.stringOp .add ⟨M.toArray⟩ ⟨D.toArray⟩).run Tryz.prog W = .ok (.string ⟨T.toArray⟩) W := by rw [HT.out, hM]; exact wadd_lists M D hMl (by first | omega | simp)
      clear hM hMl
      clear HT hT1 hNl hDl
      go_enter Tryz.func11, Tryz.ntmps11
      go_wp2
      have lt := X0.out.lt
      have x0 := X0.out.c0
      have x1 := X0.out.c1
      go_region_with (first
          | (go_at_call 20; refine (rweeks_any _).mono ?_; rintro e w2 ⟨L, rfl, hL1, hL2, k1⟩
             have d1 : w2.cell? ⟨w.heap.size, 1, none⟩ = some (.int .i64 (kk : Int)) := (k1.cell (p := ⟨w.heap.size, 1, none⟩) lt).trans x1
             have hcl := hL2.cell kk p HP.out
             have lt2 := Nat.lt_of_lt_of_le lt k1.size)
          | (go_at_call 19; refine (NM.out _).mono ?_; rintro e w3 ⟨rfl, k2⟩
             have d2 : w3.cell? ⟨w.heap.size, 1, none⟩ = some (.int .i64 (kk : Int)) := (k2.cell (p := ⟨w.heap.size, 1, none⟩) lt2).trans d1))
      all_goals
        have X3 := Lib.hid ((X0.out.drawn.next k1).next k2)
        clear k1 k2 hL1 hL2 d1 d2 hcl lt lt2 x0 x1 X0
        have lt := X3.out.lt
        have x0 := X3.out.c0
        have x1 := X3.out.c1
        have x2 := X3.out.c2
        go_wp2
        go_ret
        exact ⟨rfl, X3.out.bel⟩
    · obtain ⟨c, b, hc, hb, hD⟩ := digits_two ⟨h9', h2⟩
      have hcv := wone_byte (w.alloc (.cells #[.int .i64 3, .int .i64 (kk : Int), .int .i64 n] 23)) b
      rw [hb, World.size_alloc] at hcv
      have hcw := wone_byte ((w.alloc (.cells #[.int .i64 3, .int .i64 (kk : Int), .int .i64 n] 23)).alloc (.cells #[.int .u8 (48 + n % 10)] 5)) c
      rw [hc, World.size_alloc, World.size_alloc] at hcw
      have adn : ∀ W : World, (Op.stringOp .add ⟨#[c]⟩ ⟨#[b]⟩).run Tryz.prog W = .ok (.string ⟨D.toArray⟩) W := by rw [← hT1.out, hD]; exact wadd_lists [c] [b] (by simp) (by simp)
      have L1 : decide (9 < n) = true := decide_eq_true h9'
      have X0 := Lib.hid (((Trp.new w 3 (kk : Int) n 23).more (.cells #[.int .u8 (48 + n % 10)] 5)).more (.cells #[.int .u8 (48 + n / 10)] 5))
      clear hb hc hD h9'
      obtain ⟨M, hM⟩ : ∃ M, N ++ [60, 61] = M := ⟨_, rfl⟩
      have hMl : M.length ≤ 1000 := by rw [← hM]; simp; omega
      have ad0 : ∀ W : World, (Op.stringOp .add ⟨N.toArray⟩ ⟨#[60, 61]⟩).run Tryz.prog W = .ok (.string ⟨M.toArray⟩) W := hM ▸ wadd_lists N [60, 61] (by omega) (by simp)
      have ad1 : ∀ W : World, (Op.stringOp .add ⟨M.toArray⟩ ⟨D.toArray⟩).run Tryz.prog W = .ok (.string ⟨T.toArray⟩) W := by rw [HT.out, hM]; exact wadd_lists M D hMl (by first | omega | simp)
      clear hM hMl
      clear HT hT1 hNl hDl
      go_enter Tryz.func11, Tryz.ntmps11
      go_wp2
      have lt := X0.out.lt
      have x0 := X0.out.c0
      have x1 := X0.out.c1
      go_region_with (first
          | (go_at_call 20; refine (rweeks_any _).mono ?_; rintro e w2 ⟨L, rfl, hL1, hL2, k1⟩
             have d1 : w2.cell? ⟨w.heap.size, 1, none⟩ = some (.int .i64 (kk : Int)) := (k1.cell (p := ⟨w.heap.size, 1, none⟩) lt).trans x1
             have hcl := hL2.cell kk p HP.out
             have lt2 := Nat.lt_of_lt_of_le lt k1.size)
          | (go_at_call 19; refine (NM.out _).mono ?_; rintro e w3 ⟨rfl, k2⟩
             have d2 : w3.cell? ⟨w.heap.size, 1, none⟩ = some (.int .i64 (kk : Int)) := (k2.cell (p := ⟨w.heap.size, 1, none⟩) lt2).trans d1))
      all_goals
        have X3 := Lib.hid ((X0.out.drawn.next k1).next k2)
        clear k1 k2 hL1 hL2 d1 d2 hcl lt lt2 x0 x1 X0
        have lt := X3.out.lt
        have x0 := X3.out.c0
        have x1 := X3.out.c1
        have x2 := X3.out.c2
        go_wp2
        go_ret
        exact ⟨rfl, X3.out.bel⟩
end Go.Proofs.YtddoapenhlkamaaGreatDoor
