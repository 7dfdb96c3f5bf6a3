/- The contracts of cmp.Or at two whole numbers, and of fire.Letter's closure; nothing that was in memory changes.
The contract of fire.Letter; nothing that was in memory changes. -/
import Derived.Test.YtdmfgechoanmlaaGreatDoorMZW
import Derived.Test.YtdmfgechoanmlaaGreatDoorMZL
import Derived.Deep.RegionHeld3
namespace Go.Proofs.YtdmfgechoanmlaaGreatDoor
open Go Go.RowKit Go.Sort

def corI (a b : Int) : Int := if a = 0 then b else a
theorem cor_is (a b v : Int) (B : Nat) (w : World) (h0 : w.cell? ⟨B, 0, none⟩ = some (.int .i64 a)) (h1 : w.cell? ⟨B, 1, none⟩ = some (.int .i64 b)) (hv : corI a b = v) :
    Calls Tryz.prog 100 #[.slice (some ⟨B, 0, none⟩) 2 2] w fun e w' => e = .returned (.int .i64 v) ∧ w = w' := by
  have HV := Lib.hid hv
  clear hv
  go_enter Tryz.func100, Tryz.ntmps100
  go_wp2
  go_loop [8] (fun t => t = .int .i64 0 ∨ (t = .int .i64 1 ∧ a = 0) ∨ (t = .int .i64 2 ∧ a = 0 ∧ b = 0)) (fun t => (2 - intOf t).toNat)
  case atStart => exact .inl rfl
  case round =>
    rcases hrel with rfl | ⟨rfl, ha⟩ | ⟨rfl, ha, hb⟩
    · by_cases ha : a = 0
      · have e1 : (a != 0) = false := by simp [ha]
        have HA := Lib.hid ha
        clear ha
        go_wp2
        go_round
        case rel => exact .inr (.inl ⟨rfl, HA.out⟩)
        case measure => simp [intOf]
      · have e1 : (a != 0) = true := by simp [ha]
        have HC : Hid (v = a) := by show v = a; rw [← HV.out, corI, if_neg ha]
        clear ha
        go_wp2
        go_ret
        rw [HC.out]
        exact ⟨rfl, rfl⟩
    · have HC : Hid (v = b) := by show v = b; rw [← HV.out, corI, if_pos ha]
      have HA := Lib.hid ha
      clear ha
      by_cases hb : b = 0
      · have e1 : (b != 0) = false := by simp [hb]
        have HB := Lib.hid hb
        clear hb
        go_wp2
        go_round
        case rel => exact .inr (.inr ⟨rfl, HA.out, HB.out⟩)
        case measure => simp [intOf]
      · have e1 : (b != 0) = true := by simp [hb]
        clear hb
        go_wp2
        go_ret
        rw [HC.out]
        exact ⟨rfl, rfl⟩
    · have HC : Hid (v = 0) := by show v = 0; rw [← HV.out, corI, if_pos ha, hb]
      clear ha hb
      go_wp2
      go_ret
      rw [HC.out]
      exact ⟨rfl, rfl⟩

theorem lbet_none (B : Nat) (p : Option Addr) (w : World) (h : w.heap[B]? = some (.cells #[.pointer none] 178 (0, 0))) :
    Calls Tryz.prog 99 #[.pointer p, .pointer (some ⟨B, 0, none⟩)] w fun e w' => e = .returned (.bool true) ∧ Below w.heap.size w w' := by
  have c0 := cel1 h
  go_enter Tryz.func99, Tryz.ntmps99
  go_wp2
  go_quiet (fail)
  go_wp2
  go_ret
  exact ⟨rfl, below_drewN (Below.refl _ _) _⟩

theorem cor_lt (r q : RV) : decide (corI (cmpI r.fr q.fr) (cmpI r.mo q.mo) < 0) = decide (bLt r q) := by
  apply decide_eq_decide.2
  unfold corI cmpI bLt
  repeat' split
  all_goals omega

set_option maxRecDepth 20000 in
set_option maxHeartbeats 8000000 in
theorem lbet_some (B L o o' : Nat) (r q : RV) (v : Bool) (w : World) (h : w.heap[B]? = some (.cells #[.pointer (some ⟨L, o', none⟩)] 178 (0, 0))) (hr : RulAt L o r w) (hq : RulAt L o' q w) (hv : decide (bLt r q) = v) :
    Calls Tryz.prog 99 #[.pointer (some ⟨L, o, none⟩), .pointer (some ⟨B, 0, none⟩)] w fun e w' => e = .returned (.bool v) ∧ Below w.heap.size w w' := by
  have c0 := cel1 h
  obtain ⟨-, r1, -, r3, -⟩ := hr.cells
  obtain ⟨-, q1, -, q3, -⟩ := hq.cells
  rw [← cor_lt] at hv
  obtain ⟨a, ha⟩ : ∃ a, cmpI r.fr q.fr = a := ⟨_, rfl⟩
  obtain ⟨b, hb⟩ : ∃ b, cmpI r.mo q.mo = b := ⟨_, rfl⟩
  obtain ⟨c, hc⟩ : ∃ c, corI a b = c := ⟨_, rfl⟩
  rw [ha, hb, hc] at hv
  have C1 := Lib.hid fun W => fcmp_is r.fr q.fr a W ha
  have C2 := Lib.hid fun W => fcmp_is r.mo q.mo b W hb
  have D := Lib.hid (BlkN.make (Below.refl w.heap.size w) #[.int .i64 a, .int .i64 b] 3).drew
  have C3 := Lib.hid (cor_is a b c w.heap.size _ (cel2 D.out.blk).1 (cel2 D.out.blk).2 hc)
  have HV := Lib.hid hv
  clear ha hb hc hv h hr hq
  go_enter Tryz.func99, Tryz.ntmps99
  go_wp2
  go_region_held3 (fun w' => w'.cell? ⟨B, 0, none⟩ = some (.pointer (some ⟨L, o', none⟩)) ∧ w'.cell? ⟨L, o + 1, none⟩ = some (.int .i64 r.fr) ∧ w'.cell? ⟨L, o + 3, none⟩ = some (.int .i64 r.mo) ∧ w'.cell? ⟨L, o' + 1, none⟩ = some (.int .i64 q.fr) ∧ w'.cell? ⟨L, o' + 3, none⟩ = some (.int .i64 q.mo)) (first | exact ⟨c0, r1, r3, q1, q3⟩ | go_keep)
    (first
      | (go_at_call 101; (with_reducible refine (C1.out _).mono ?_); (rintro e w1 ⟨rfl, rfl⟩); simp only [])
      | (go_at_call 101; (with_reducible refine (C2.out _).mono ?_); (rintro e w1 ⟨rfl, rfl⟩); simp only [])
      | (go_at_call 100; (with_reducible refine C3.out.mono ?_); (rintro e w2 ⟨rfl, rfl⟩); simp only []))
  go_wp2
  go_ret
  rw [HV.out]
  exact ⟨rfl, by first | exact D.out.bel | exact D.out.drew.bel⟩
end Go.Proofs.YtdmfgechoanmlaaGreatDoor

namespace Go.Proofs.YtdmfgechoanmlaaGreatDoor
open Go Go.RowKit Go.Sort

theorem BlkN.set1 {w W : World} {g : Nat} {t : TypeId} {a x : Value} (h : BlkN w g #[a] t W) : BlkN w g #[x] t (W.setCell ⟨g, 0, none⟩ x) :=
  ⟨h.bel.setCell (p := ⟨g, 0, none⟩) h.ge _, h.ge, by
    have := blk_set (i := 0) h.blk x
    simpa using this⟩
/-- The pointer to the best rule of the first ones. -/
def bstP (L off : Nat) : Option (Nat × RV) → Value
  | none => .pointer none
  | some (k, _) => .pointer (some ⟨L, off + k * 11, none⟩)

set_option maxRecDepth 20000 in
set_option maxHeartbeats 8000000 in
theorem fletter_no (w : World) (c0 : Nat) (A0 : Option Addr) :
    Calls Tryz.prog 78 #[.slice A0 0 c0] w fun e w' => e = .returned (.string ⟨#[]⟩) ∧ Below w.heap.size w w' := by
  have X0 := Lib.hid (BlkN.make (Below.refl w.heap.size w) #[.pointer none] 178)
  have g0 := cel1 X0.out.blk
  go_enter Tryz.func78, Tryz.ntmps78
  go_wp2
  go_loopw [10] (fun v wr => v = .int .i64 0 ∧ BlkN w w.heap.size #[.pointer none] 178 wr) (fun v _ => 0)
  case atStart => exact ⟨rfl, X0.out⟩
  case round =>
    clear X0 g0
    obtain ⟨rfl, hX⟩ := hrel
    have X := Lib.hid hX
    have g0 := cel1 hX.blk
    clear hX
    go_wp2
    go_ret
    exact ⟨rfl, X.out.bel⟩

set_option maxRecDepth 20000 in
set_option maxHeartbeats 8000000 in
theorem fletter_in (L off n c0 : Nat) (rs : List RV) (w : World) (hR : RowsAt 11 cR (some ⟨L, off, none⟩) rs w) (hn : rs.length = n) (hn1 : n ≤ 1000) :
    Calls Tryz.prog 78 #[.slice (some ⟨L, off, none⟩) n c0] w fun e w' => e = .returned (.string ⟨(ltrL rs n).toArray⟩) ∧ Below w.heap.size w w' := by
  have HR := Lib.hid hR
  have HN := Lib.hid hn
  have X0 := Lib.hid (BlkN.make (Below.refl w.heap.size w) #[.pointer none] 178)
  have g0 := cel1 X0.out.blk
  clear hR hn
  go_enter Tryz.func78, Tryz.ntmps78
  go_wp2
  go_loopw [10] (fun v wr => ∃ i : Nat, v = .int .i64 i ∧ i ≤ n ∧ BlkN w w.heap.size #[bstP L off (bst rs i)] 178 wr) (fun v _ => n - (intOf v).toNat)
  case atStart => exact ⟨0, rfl, Nat.zero_le _, X0.out⟩
  case round =>
    clear X0 g0
    obtain ⟨i, rfl, i1, hX⟩ := hrel
    have X := Lib.hid hX
    clear hX
    by_cases hlt : i < n
    · have hii : (i : Int) < (n : Int) := by omega
      obtain ⟨r, hr⟩ : ∃ r, rs[i]? = some r := ⟨_, List.getElem?_eq_getElem (by rw [HN.out]; exact hlt)⟩
      obtain ⟨L', off', e, hrul⟩ := rul_at HR.out hr
      cases e
      obtain ⟨r0, r1, r2, r3, r4, r5, r6, r7, r8, r9, r10⟩ := (hrul.next X.out.bel).cells
      have RU := Lib.hid (hrul.next X.out.bel)
      have HRI := Lib.hid hr
      clear hr hrul
      by_cases h0 : r.sv = 0
      · have z0 : (r.sv == 0) = true := by simp [h0]
        have H0 := Lib.hid h0
        clear h0
        cases hb : bst rs i with
        | none =>
          have HB := Lib.hid (bst_new HRI.out H0.out hb)
          rw [hb] at X
          have BT := Lib.hid fun p => lbet_none w.heap.size p wr X.out.blk
          clear hb
          go_wp2_with (go_at_call 99; (with_reducible refine (BT.out _).mono ?_); (rintro e w1 ⟨rfl, k1⟩); have X1 := Lib.hid (X.out.next k1); have f1 := frz (j := 0) X1.out.blk; have g1 := cel1 X1.out.blk; clear k1; simp only [])
          go_round
          case rel => exact ⟨i + 1, rfl, by omega, by rw [HB.out]; exact X1.out.set1⟩
          case measure => simp [intOf]; omega
        | some p =>
          obtain ⟨k, q⟩ := p
          obtain ⟨hk, hq⟩ := bst_is hb
          obtain ⟨L', off', e, hq2⟩ := rul_at HR.out hq
          cases e
          have RQ := Lib.hid (hq2.next X.out.bel)
          have HY := Lib.hid (bst_yes HRI.out H0.out hb)
          have HO := Lib.hid (bst_old HRI.out H0.out hb)
          rw [hb] at X
          clear hb hq hq2
          by_cases c1 : bLt r q
          · have HB := Lib.hid (HY.out c1)
            have BT := Lib.hid (lbet_some w.heap.size L (off + i * 11) (off + k * 11) r q true wr X.out.blk RU.out RQ.out (decide_eq_true c1))
            clear c1
            go_wp2_with (go_at_call 99; (with_reducible refine BT.out.mono ?_); (rintro e w1 ⟨rfl, k1⟩); have X1 := Lib.hid (X.out.next k1); have f1 := frz (j := 0) X1.out.blk; have g1 := cel1 X1.out.blk; clear k1; simp only [])
            go_round
            case rel => exact ⟨i + 1, rfl, by omega, by rw [HB.out]; exact X1.out.set1⟩
            case measure => simp [intOf]; omega
          · have HB := Lib.hid (HO.out c1)
            have BT := Lib.hid (lbet_some w.heap.size L (off + i * 11) (off + k * 11) r q false wr X.out.blk RU.out RQ.out (decide_eq_false c1))
            clear c1
            go_wp2_with (go_at_call 99; (with_reducible refine BT.out.mono ?_); (rintro e w1 ⟨rfl, k1⟩); have X1 := Lib.hid (X.out.next k1); clear k1; simp only [])
            go_round
            case rel => exact ⟨i + 1, rfl, by omega, by rw [HB.out]; exact X1.out⟩
            case measure => simp [intOf]; omega
      · have z0 : (r.sv == 0) = false := by simp [h0]
        have HB := Lib.hid (bst_no HRI.out h0)
        clear h0
        go_wp2
        go_round
        case rel => exact ⟨i + 1, rfl, by omega, by rw [HB.out]; exact X.out⟩
        case measure => simp [intOf]; omega
    · obtain rfl : i = n := by omega
      have HL : Hid (ltrL rs i = match bst rs i with | none => [] | some (_, q) => q.lt) := Lib.hid rfl
      cases hb : bst rs i with
      | none =>
        rw [hb] at HL X
        have g0 := cel1 X.out.blk
        clear hb
        unfold bstP at g0
        go_wp2
        go_ret
        rw [HL.out]
        exact ⟨rfl, X.out.bel⟩
      | some p =>
        obtain ⟨k, q⟩ := p
        obtain ⟨hk, hq⟩ := bst_is hb
        obtain ⟨L', off', e, hq2⟩ := rul_at HR.out hq
        cases e
        obtain ⟨q0, q1, q2, q3, q4, q5, q6, q7, q8, q9, q10⟩ := (hq2.next X.out.bel).cells
        rw [hb] at HL X
        have g0 := cel1 X.out.blk
        clear hb hq hq2
        unfold bstP at g0
        go_wp2
        go_ret
        rw [HL.out]
        exact ⟨rfl, X.out.bel⟩
theorem fletter_any (A0 : Option Addr) (n c0 : Nat) (rs : List RV) (w : World) (hR : RowsAt 11 cR A0 rs w) (hn : rs.length = n) (hn1 : n ≤ 1000) :
    Calls Tryz.prog 78 #[.slice A0 n c0] w fun e w' => e = .returned (.string ⟨(ltrL rs n).toArray⟩) ∧ Below w.heap.size w w' := by
  by_cases h0 : n = 0
  · subst h0
    exact fletter_no w c0 A0
  · obtain ⟨r, hr⟩ : ∃ r, rs[0]? = some r := ⟨_, List.getElem?_eq_getElem (by omega)⟩
    obtain ⟨L, off, rfl, -⟩ := rul_at hR hr
    exact fletter_in L off n c0 rs w hR hn hn1
end Go.Proofs.YtdmfgechoanmlaaGreatDoor
