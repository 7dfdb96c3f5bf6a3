/- The contract of the reference's Turned: bytes of the call's own, some bits turned; nothing that was in memory changes. -/
import Derived.Test.YtbdbkbmgiejdfaaDoorCrR
namespace Go.Proofs.YtbdbkbmgiejdfaaDoor
open Go.RowKit
attribute [local go_sem] Oper.semAt_some

theorem ubl_set (l : List UInt8) (k x : Nat) (hx : x < 256) : (ubl l).set k (.int .u8 (((l.getD k 0).toNat ^^^ x : Nat) : Int)) = ubl (xs l k x) := by
  rw [ubl, xs, ubl, List.map_set, xor_u8 _ hx]
theorem tu_step (l : List UInt8) (a row i : Nat) : tu l a row (i + 1) = if row / 2 ^ i % 2 = 1 then xs (tu l a row i) ((a + i) / 8) (2 ^ ((a + i) % 8)) else tu l a row i := rfl

set_option maxRecDepth 20000 in
set_option maxHeartbeats 2000000 in
theorem rturned_any (a : Option Addr) (ca n at' row : Nat) (l : List UInt8) (w : World) (ha : By w a l) (hn : l.length = n) (hl : n ≤ 1000) (h0 : a = none → ca = 0) (hrow : row < 4294967296) (h1 : 1 ≤ n) (hin : at' + Lib.bitLen row ≤ 8 * n) :
    Calls Tryd.prog 16 #[.slice a n ca, .int .i64 (at' : Int), .int .i64 (row : Int)] w (Coll (tu l at' row 32) w) := by
  have HA := Lib.hid ha
  have HN := Lib.hid hn
  have H0 := Lib.hid h0
  have HIN : Hid (∀ i, row / 2 ^ i % 2 = 1 → at' + i < 8 * n) := Lib.hid fun i h => row_in (row_fits hrow hin) h
  have ha8 : at' ≤ 8000 := by omega
  clear ha hn h0 hin
  go_enter Tryd.func16, Tryd.ntmps16
  go_wp2_with (at_builtin
               refine wpList_bapp (l := []) (base := w.heap.size) (by rfl) (.tmp 12) (.tmp 13) (by rfl) HN.out (Nat.zero_add n) (World.ownsRow_nil _ _ _ _) (by rfl) (by rfl) HA.out H0.out (by omega) (Nat.le_refl _) ?_
               intro A2 c2 w2 o2 k2
               have O2 := Lib.hid o2
               have B2 := Lib.hid k2
               clear o2 k2)
  obtain ⟨g, cap, rfl, rfl, -⟩ := wown_cells O2.out (by omega)
  have HG := Lib.hid (O2.out.lt g rfl)
  go_loopw [2, 8] (fun vr vi w' => ∃ i : Nat, vr = .int .i64 ((row / 2 ^ i : Nat) : Int) ∧ vi = .int .i64 i ∧ i ≤ 32 ∧ w'.ownsRow w.heap.size 5 1 (.slice (some ⟨g, 0, none⟩) n c2) n (ubl (tu l at' row i)) ∧ Below w.heap.size w w') (fun _ vi _ => 32 - (intOf vi).toNat)
  case atStart => exact ⟨0, by simp, rfl, by omega, O2.out, B2.out⟩
  case round =>
    obtain ⟨i, rfl, rfl, hi, hO, hB⟩ := hrel
    have HO := Lib.hid hO
    have HB := Lib.hid hB
    have HI := Lib.hid (HIN.out i)
    have HS := Lib.hid (tu_step l at' row i)
    have HL : Hid ((tu l at' row i).length = n) := Lib.hid (by rw [tu_len, HN.out])
    have HD : Hid (row / 2 ^ (i + 1) = row / 2 ^ i / 2) := Lib.hid (by rw [Nat.pow_succ, Nat.div_div_eq_div_mul])
    have HE : Hid (i = 32 → tu l at' row i = tu l at' row 32) := Lib.hid (by rintro rfl; rfl)
    have hq8 : row / 2 ^ i ≤ row := Nat.div_le_self _ _
    obtain ⟨q, hq⟩ : ∃ q, row / 2 ^ i = q := ⟨_, rfl⟩
    obtain ⟨m, hm⟩ : ∃ m, tu l at' row i = m := ⟨_, rfl⟩
    rw [hq] at HI HS HD hq8 ⊢
    rw [hm] at HO HS HL HE
    clear hO hB hq hm
    by_cases hlt : i < 32
    · by_cases h2 : q % 2 = 1
      · have hin := HI.out h2
        have h2b : ((q : Int) % 2 == 1) = true := by simp; omega
        have HS1 : Hid (tu l at' row (i + 1) = xs m ((at' + i) / 8) (2 ^ ((at' + i) % 8))) := Lib.hid (by rw [HS.out, if_pos h2])
        obtain ⟨e, he⟩ : ∃ e, (at' + i) % 8 = e := ⟨_, rfl⟩
        have he2 : ((at' : Int) + (i : Int)) % 8 = (e : Int) := by omega
        have he8 : e < 8 := by omega
        have hkn : (at' + i) / 8 < n := by omega
        rw [he] at HS1
        clear h2 hin he
        have HE2 := Lib.hid he2
        clear he2
        go_wp2
        go_loop [10, 11] (fun vb vj => ∃ j b : Nat, vb = .int .i64 b ∧ vj = .int .i64 j ∧ j ≤ e ∧ b = 2 ^ j) (fun _ vj => e - (intOf vj).toNat)
        case atStart => exact ⟨0, 1, rfl, rfl, by omega, rfl⟩
        case round =>
          obtain ⟨j, b, rfl, rfl, hj, hb⟩ := hrel
          have hb8 : b ≤ 128 := by rw [hb]; exact Nat.le_trans (Nat.pow_le_pow_right (by omega) (show j ≤ 7 by omega)) (by decide)
          have HJ := Lib.hid hb
          clear hb
          by_cases hje : j < e
          · have hj2 : (j : Int) < ((at' : Int) + (i : Int)) % 8 := by have := HE2.out; omega
            go_wp2
            go_round
            case rel => exact ⟨j + 1, 2 * b, by go_num, by go_num, by omega, by rw [HJ.out, Nat.pow_succ, Nat.mul_comm]⟩
            case measure => simp [intOf]; omega
          · have hj2 : ¬ (j : Int) < ((at' : Int) + (i : Int)) % 8 := by have := HE2.out; omega
            have HJE : Hid (b = 2 ^ e) := Lib.hid (by rw [HJ.out]; congr 1; omega)
            clear hje
            have hcl : wr.cell? ⟨g, (at' + i) / 8, none⟩ = some (.int .u8 ((m.getD ((at' + i) / 8) 0).toNat : Int)) := by
              rw [HO.out.cellAt _ (by omega), ubl, List.getElem?_map, List.getElem?_eq_getElem (by rw [HL.out]; exact hkn)]
              simp [List.getD, List.getElem?_eq_getElem (show (at' + i) / 8 < m.length by rw [HL.out]; exact hkn)]
            have hfz := HO.out.frozenAt ((at' + i) / 8)
            have hb256 : b < 256 := by omega
            have HU := Lib.hid (ubl_set m ((at' + i) / 8) b hb256)
            have hz256 := xor_lt (k := 8) (m.getD ((at' + i) / 8) 0).toNat_lt hb256
            have hd8 := u8_bd (m.getD ((at' + i) / 8) 0)
            obtain ⟨d, hd⟩ : ∃ d, (m.getD ((at' + i) / 8) 0).toNat = d := ⟨_, rfl⟩
            rw [hd] at hcl HU hz256 hd8
            have hx : bits .xor .i64 (d : Int) (b : Int) = ((d ^^^ b : Nat) : Int) := xor_i64 (by omega) (by omega)
            obtain ⟨z, hz⟩ : ∃ z, d ^^^ b = z := ⟨_, rfl⟩
            rw [hz] at hx HU hz256
            have hz2 : z < 256 := hz256
            have hge : 0 ≤ ((at' : Int) + (i : Int)) / 8 := by omega
            have hlt3 : ((at' : Int) + (i : Int)) / 8 < (n : Int) := by omega
            clear hd hz hz256
            go_wp2
            go_roundw
            case rel =>
              obtain ⟨s1, s2⟩ := HO.out.stored ((at' + i) / 8) (.int .u8 (z : Int))
              exact ⟨i + 1, by rw [HD.out]; go_num, by go_num, by omega, by rw [HS1.out, ← HJE.out, ← HU.out]; exact s1, HB.out.setCell HG.out.1 _⟩
            case measure => simp [intOf]; omega
      · have h2b : ((q : Int) % 2 == 1) = false := by simp; omega
        have HS1 : Hid (tu l at' row (i + 1) = m) := Lib.hid (by rw [HS.out, if_neg h2])
        clear h2
        go_wp2
        go_roundw
        case rel => exact ⟨i + 1, by rw [HD.out]; go_num, by go_num, by omega, by rw [HS1.out]; exact HO.out, HB.out⟩
        case measure => simp [intOf]; omega
    · have hi2 : i = 32 := by omega
      have HF := Lib.hid (HE.out hi2)
      clear hi2
      go_wp2
      go_ret
      have := HO.out
      rw [HF.out] at this
      exact Coll.of (by rw [tu_len, HN.out]) rfl this HB.out
end Go.Proofs.YtbdbkbmgiejdfaaDoor
