/- The contracts of crc.noughts and of its closure: a sum, stepped so many times with four bits 0; nothing that was in memory changes. The table reads as it is laid. -/
import Derived.RangeFuncBox
import Derived.Test.YtbdbkbmgiejdfaaDoorChecked
import Derived.Test.YtbdbkbmgiejdfaaDoorWrA
import Derived.Test.YtbdbkbmgiejdfaaDoorCrp
namespace Go.Proofs.YtbdbkbmgiejdfaaDoor
open Go.RowKit
attribute [local go_sem] Oper.semAt_some

/-- The table of what four bits come to reads as it is laid. -/
structure FoAt (w : World) : Prop where
  lt : 0 < w.heap.size
  cell : ∀ i, i < 16 → w.cell? ⟨0, i, none⟩ = some (.int .i64 ((foursL.getD i 0 : Nat) : Int))
theorem FoAt.below {w w' : World} {B : Nat} (h : FoAt w) (k : Below B w w') (hB : 0 < B) : FoAt w' :=
  ⟨Nat.lt_of_lt_of_le h.lt k.size, fun i hi => by rw [k.cell (p := ⟨0, i, none⟩) hB]; exact h.cell i hi⟩
theorem FoAt.next {w w' : World} (h : FoAt w) (k : Below w.heap.size w w') : FoAt w' := h.below k h.lt

set_option maxRecDepth 20000 in
set_option maxHeartbeats 1000000 in
theorem step_any (g c y : Nat) (W : World) (hT : FoAt W) (hb : Go.Boxed W g 3 (.int .i64 (c : Int))) (hc : c < 1099511627776) (hy : Hid (sn 4 c = y)) :
    Calls Tryd.prog 23 #[.pointer (some ⟨g, 0, none⟩)] W fun e W' => e = .returned (.tuple #[]) ∧ Go.Boxed W' g 3 (.int .i64 (y : Int)) ∧ Below g W W' := by
  have c0 := hb.cell
  have f0 := hb.frozen
  have l0 := hb.lt
  have h16 : c % 16 < 16 := Nat.mod_lt _ (by omega)
  have ct := hT.cell (c % 16) h16
  have ht := fours_lt ⟨c % 16, h16⟩
  simp only [] at ht
  obtain ⟨t, htt⟩ : ∃ t, foursL.getD (c % 16) 0 = t := ⟨_, rfl⟩
  have hx : bits .xor .i64 ((c : Int) / 16) (t : Int) = (y : Int) := by
    rw [show ((c : Int) / 16) = ((c / 16 : Nat) : Int) by omega, xor_i64 (by omega) (by rw [← htt]; omega), ← htt, four_step, hy.out]
  have ha := and15 (a := c) (by omega)
  rw [htt] at ct
  have HBX := Lib.hid hb
  clear htt ht hT hb hy
  go_enter Tryd.func23, Tryd.ntmps23
  go_wp2
  go_region
  go_wp2
  go_end0
  exact ⟨rfl, HBX.out.set _, ((Below.refl g W).setCell (p := ⟨g, 0, none⟩) (Nat.le_refl _) _).drew⟩

theorem sn_rest {k t c : Nat} (h : sn (4 * k) c = 0) (hk : k ≤ t) : sn (4 * t) c = 0 := by
  rw [show 4 * t = 4 * k + 4 * (t - k) by omega, sn_add, h, sn_zero]
theorem sn_four (k c : Nat) : sn 4 (sn (4 * k) c) = sn (4 * (k + 1)) c := by rw [Nat.mul_add, sn_add]

set_option maxRecDepth 20000 in
set_option maxHeartbeats 1000000 in
theorem noughts_any (c t v : Nat) (w : World) (hT : FoAt w) (hc : c < 1099511627776) (ht : t ≤ 2097152) (hv : Hid (sn (4 * t) c = v)) :
    Calls Tryd.prog 19 #[.int .i64 (c : Int), .int .i64 (t : Int)] w fun e w' => e = .returned (.int .i64 (v : Int)) ∧ Below w.heap.size w w' := by
  have HT := Lib.hid hT
  have X0 := Lib.hid (Go.Boxed.new w 3 (.int .i64 (c : Int)))
  clear hT
  go_enter Tryd.func19, Tryd.ntmps19
  go_wp2
  go_step3
  go_wp2
  go_step3
  go_wp2
  go_loopw [8] (fun vi w' => ∃ k : Nat, vi = .int .i64 k ∧ k ≤ t ∧ Go.Boxed w' w.heap.size 3 (.int .i64 ((sn (4 * k) c : Nat) : Int)) ∧ Below w.heap.size w w') (fun vi _ => t - (intOf vi).toNat)
  case atStart => exact ⟨0, rfl, Nat.zero_le _, X0.out, (Below.refl _ _).alloc (Nat.le_refl _) _⟩
  case round =>
    obtain ⟨k, rfl, hk, hX, hB⟩ := hrel
    have HX := Lib.hid hX
    have HB := Lib.hid hB
    have hcl := hX.cell
    have HR := Lib.hid (sn_rest (k := k) (t := t) (c := c) · hk)
    have HS := Lib.hid (sn_four k c)
    have hlt := sn_same (4 * k) (k := 40) (c := c) (by omega) (by omega)
    have HK : Hid (k = t → sn (4 * k) c = v) := Lib.hid (fun e => by subst e; exact hv.out)
    obtain ⟨s, hs⟩ : ∃ s, sn (4 * k) c = s := ⟨_, rfl⟩
    rw [hs] at hcl HX HR HS HK hlt
    clear hs hX hB
    by_cases hlt2 : k < t
    · by_cases h0 : s = 0
      · subst h0
        have V0 : Hid (v = 0) := Lib.hid (by rw [← hv.out]; exact HR.out rfl)
        go_wp2
        go_ret
        rw [V0.out]
        exact ⟨rfl, HB.out⟩
      · have hne : ((s : Int) == 0) = false := by simp; omega
        clear h0
        go_wp2_with (go_at_call 23; refine (step_any w.heap.size s (sn 4 s) _ (HT.out.next HB.out) HX.out (by omega) rfl).mono ?_; rintro e w2 ⟨rfl, x2, k2⟩
                     have X2 := Lib.hid x2
                     have B2 := Lib.hid (HB.out.trans k2)
                     clear x2 k2
                     simp only [])
        go_roundw
        case rel => exact ⟨k + 1, by go_num, by omega, by rw [← HS.out]; exact X2.out, B2.out⟩
        case measure => simp [intOf]; omega
    · have V0 : Hid (s = v) := Lib.hid (HK.out (by omega))
      go_wp2
      rw [Exit.noGoto_ret]
      go_ret
      rw [V0.out]
      exact ⟨rfl, HB.out⟩

theorem noughts_is (c t v : Nat) (w : World) (hT : FoAt w) (h : Hid (c < 1099511627776 ∧ t ≤ 2097152 ∧ sn (4 * t) c = v)) :
    Calls Tryd.prog 19 #[.int .i64 (c : Int), .int .i64 (t : Int)] w fun e w' => e = .returned (.int .i64 (v : Int)) ∧ Below w.heap.size w w' :=
  noughts_any c t v w hT h.out.1 h.out.2.1 h.out.2.2

/-- Rows of bytes lie at the address: a slice's elements. -/
def Rows2 (w : World) (a : Option Addr) (rs : List (List UInt8)) : Prop :=
  ∀ k, k < rs.length → ∃ b off A c, a = some ⟨b, off, none⟩ ∧ b < w.heap.size ∧ w.cell? ⟨b, off + k, none⟩ = some (.slice A (rs.getD k []).length c) ∧ By w A (rs.getD k [])
theorem Rows2.next {w w' : World} {a : Option Addr} {rs : List (List UInt8)} (h : Rows2 w a rs) (hb : Below w.heap.size w w') : Rows2 w' a rs := fun k hk => by
  obtain ⟨b, off, A, c, e, hlt, hc, hy⟩ := h k hk
  exact ⟨b, off, A, c, e, Nat.lt_of_lt_of_le hlt hb.size, by rw [hb.cell (p := ⟨b, off + k, none⟩) hlt]; exact hc, hy.next hb⟩
theorem Rows2.nil (w : World) (a : Option Addr) : Rows2 w a [] := fun k hk => by simp at hk

theorem fo_take (c : Nat) (l : List UInt8) (k : Nat) (h : k < l.length) : sn (4 * 2) (fo c (l.take k) ^^^ (l.getD k 0).toNat) = fo c (l.take (k + 1)) := by
  rw [List.take_succ_eq_append_getElem h, fo_snoc]
  simp [List.getD, List.getElem?_eq_getElem h]
theorem fo_rows (c : Nat) (rs : List (List UInt8)) (k : Nat) (h : k < rs.length) : fo (fo c (rs.take k).flatten) (rs.getD k []) = fo c (rs.take (k + 1)).flatten := by
  rw [List.take_succ_eq_append_getElem h, List.flatten_append, fo_app]
  simp [List.getD, List.getElem?_eq_getElem h]

set_option maxRecDepth 20000 in
set_option maxHeartbeats 1000000 in
theorem sum_any (a : Option Addr) (ca n v : Nat) (rs : List (List UInt8)) (w : World) (hT : FoAt w) (hr : Rows2 w a rs) (hn : rs.length = n) (hn2 : n ≤ 100) (hl : ∀ r ∈ rs, r.length ≤ 100000) (hv : Hid (su rs.flatten = v)) :
    Calls Tryd.prog 11 #[.slice a n ca] w fun e w' => e = .returned (.int .i64 (v : Int)) ∧ Below w.heap.size w w' := by
  have HT := Lib.hid hT
  have HR := Lib.hid hr
  have HN := Lib.hid hn
  have HL := Lib.hid hl
  clear hT hr hn hl
  go_enter Tryd.func11, Tryd.ntmps11
  go_wp2
  go_loopw [3, 10] (fun vs vi w' => ∃ (k s : Nat), vs = .int .i64 s ∧ vi = .int .i64 k ∧ k ≤ n ∧ s < 4294967296 ∧ fo 4294967295 (rs.take k).flatten = s ∧ Below w.heap.size w w') (fun _ vi _ => n - (intOf vi).toNat)
  case atStart => exact ⟨0, 4294967295, rfl, rfl, Nat.zero_le _, by decide, by simp [fo], Below.refl _ _⟩
  case round =>
    obtain ⟨k, s, rfl, rfl, hk, hs, hf, hB⟩ := hrel
    have HF := Lib.hid hf
    have HB := Lib.hid hB
    clear hf hB
    by_cases hlt : k < n
    · obtain ⟨b, off, A, c, rfl, hb1, hc1, hy⟩ := HR.out k (by rw [HN.out]; exact hlt)
      have hc2 : wr.cell? ⟨b, off + k, none⟩ = some (.slice A (rs.getD k []).length c) := by rw [HB.out.cell (p := ⟨b, off + k, none⟩) hb1]; exact hc1
      have HFR := Lib.hid (fo_rows 4294967295 rs k (by rw [HN.out]; exact hlt))
      have hr1 : (rs.getD k []).length ≤ 100000 := by
        have := HN.out
        rw [show rs.getD k [] = rs[k] by simp [List.getD, List.getElem?_eq_getElem (show k < rs.length by omega)]]
        exact HL.out _ (List.getElem_mem _)
      obtain ⟨r, hr⟩ : ∃ r, rs.getD k [] = r := ⟨_, rfl⟩
      rw [hr] at hc2 hy HFR hr1
      have HY := Lib.hid hy
      obtain ⟨m, hm⟩ : ∃ m, r.length = m := ⟨_, rfl⟩
      rw [hm] at hc2 hr1
      have HM := Lib.hid hm
      have HFK := HFR.out
      rw [HF.out] at HFK
      have HFK2 := Lib.hid HFK
      clear hc1 hr hy hm HFR HFK
      go_wp2
      go_loopw [3, 16] (fun vs vj w' => ∃ (j q : Nat), vs = .int .i64 q ∧ vj = .int .i64 j ∧ j ≤ m ∧ q < 4294967296 ∧ fo s (r.take j) = q ∧ Below w.heap.size w w') (fun _ vj _ => m - (intOf vj).toNat)
      case atStart => exact ⟨0, s, rfl, rfl, Nat.zero_le _, hs, by simp [fo], HB.out⟩
      case round =>
        obtain ⟨j, q, rfl, rfl, hj, hq, hf, hB⟩ := hrel
        have HQ := Lib.hid hf
        have HC := Lib.hid hB
        have KB := Lib.hid hB.size
        clear hf hB
        by_cases hjm : j < m
        · obtain ⟨b2, off2, rfl, hb2, hd1⟩ := HY.out j (by rw [HM.out]; exact hjm)
          have hd2 : wr.cell? ⟨b2, off2 + j, none⟩ = some (.int .u8 ((r.getD j 0).toNat : Int)) := by rw [HC.out.cell (p := ⟨b2, off2 + j, none⟩) hb2]; exact hd1
          have HFT := fo_take s r j (by rw [HM.out]; exact hjm)
          rw [HQ.out] at HFT
          have hd8 := u8_bd (r.getD j 0)
          obtain ⟨d, hd⟩ : ∃ d, (r.getD j 0).toNat = d := ⟨_, rfl⟩
          rw [hd] at hd2 hd8 HFT
          have hx : bits .xor .i64 (q : Int) (d : Int) = ((q ^^^ d : Nat) : Int) := xor_i64 (by omega) (by omega)
          have hxl : q ^^^ d < 4294967296 := xor_lt (k := 32) hq (by omega)
          obtain ⟨z, hz⟩ : ∃ z, q ^^^ d = z := ⟨_, rfl⟩
          obtain ⟨y, hy⟩ : ∃ y, fo s (r.take (j + 1)) = y := ⟨_, rfl⟩
          rw [hz] at hx hxl HFT
          rw [hy] at HFT
          have hyl : y < 4294967296 := by rw [← HFT]; exact sn_lt hxl
          have HZ : Hid (z < 1099511627776 ∧ 2 ≤ 2097152 ∧ sn (4 * 2) z = y) := Lib.hid ⟨by omega, by omega, HFT⟩
          have HY2 := Lib.hid hy
          clear hd1 hd HFT hz hy
          go_wp2_with (go_at_call 19; refine (noughts_is z 2 y _ (HT.out.next HC.out) HZ).mono ?_; rintro e w2 ⟨rfl, k2⟩
                       have B2 := Lib.hid (HC.out.trans (k2.mono KB.out))
                       clear k2
                       simp only [])
          go_roundw
          case rel => exact ⟨j + 1, y, rfl, by go_num, by omega, hyl, HY2.out, B2.out⟩
          case measure => simp [intOf]; omega
        · have hjm2 : j = m := by omega
          have HE : Hid (fo 4294967295 (rs.take (k + 1)).flatten = q) := Lib.hid (by rw [← HFK2.out, ← HQ.out, hjm2, ← HM.out, List.take_length])
          clear hjm2
          go_wp2
          go_roundw
          case rel => exact ⟨k + 1, q, rfl, by go_num, by omega, hq, HE.out, HC.out⟩
          case measure => simp [intOf]; omega
    · have hk2 : k = n := by omega
      have HX : Hid (bits .xor .i64 (s : Int) 4294967295 = (v : Int)) := Lib.hid (by
        have h1 := HF.out
        rw [hk2, ← HN.out, List.take_length] at h1
        have := xor_i64 (a := s) (b := 4294967295) (by omega) (by omega)
        rw [show ((4294967295 : Nat) : Int) = 4294967295 from rfl] at this
        rw [this, ← h1, ← hv.out]; rfl)
      go_wp2
      go_ret
      rw [HX.out]
      exact ⟨rfl, HB.out⟩
end Go.Proofs.YtbdbkbmgiejdfaaDoor
