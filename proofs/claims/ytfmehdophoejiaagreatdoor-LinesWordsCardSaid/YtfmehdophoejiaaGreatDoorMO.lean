/- The contracts of the reference's letter, digit, Plain, SetName and Name: which bytes, texts and names may be; nothing that was in memory changes. Written by wip/tools/genlra.py.
The contract of the reference's Name: which names of zones may be; nothing that was in memory changes. Written by wip/tools/genlrn.py.
The contract of the reference's Format: which formats may be; nothing that was in memory changes. Written by wip/tools/genlrf.py. -/
import Derived.Test.YtfmehdophoejiaaGreatDoorMB
import Derived.Test.YtfmehdophoejiaaGreatDoorMG
import Derived.BigRegionIn
import Derived.Stop.RegionWithIn
namespace Go.Proofs.YtfmehdophoejiaaGreatDoor
open Go.RowKit

theorem rlet_is (c : UInt8) (v : Bool) (w : World) (hv : Hid (lnL c = v)) :
    Calls Tryz.prog 39 #[.int .u8 (c.toNat : Int)] w fun e w' => e = .returned (.bool v) ∧ w = w' := by
  obtain rfl := hv.out
  rcases five c.toNat with h | h | h | h | h
  · have e : Hid (lnL c = false) := Lib.hid (by simp [lnL]; omega)
    have h0 : ¬ (97 : Int) ≤ (c.toNat : Int) := by omega
    have h1 : ¬ (65 : Int) ≤ (c.toNat : Int) := by omega
    clear h hv
    go_enter Tryz.func39, Tryz.ntmps39
    go_wp2
    go_ret
    rw [e.out]
    exact ⟨rfl, rfl⟩
  · have e : Hid (lnL c = true) := Lib.hid (by simp [lnL]; omega)
    have h0 : ¬ (97 : Int) ≤ (c.toNat : Int) := by omega
    have h1 : (65 : Int) ≤ (c.toNat : Int) := by omega
    have h2 : (c.toNat : Int) ≤ 90 := by omega
    clear h hv
    go_enter Tryz.func39, Tryz.ntmps39
    go_wp2
    go_ret
    rw [e.out]
    exact ⟨rfl, rfl⟩
  · have e : Hid (lnL c = false) := Lib.hid (by simp [lnL]; omega)
    have h0 : ¬ (97 : Int) ≤ (c.toNat : Int) := by omega
    have h1 : (65 : Int) ≤ (c.toNat : Int) := by omega
    have h2 : ¬ (c.toNat : Int) ≤ 90 := by omega
    clear h hv
    go_enter Tryz.func39, Tryz.ntmps39
    go_wp2
    go_ret
    rw [e.out]
    exact ⟨rfl, rfl⟩
  · have e : Hid (lnL c = true) := Lib.hid (by simp [lnL]; omega)
    have h0 : (97 : Int) ≤ (c.toNat : Int) := by omega
    have h1 : (c.toNat : Int) ≤ 122 := by omega
    clear h hv
    go_enter Tryz.func39, Tryz.ntmps39
    go_wp2
    go_ret
    rw [e.out]
    exact ⟨rfl, rfl⟩
  · have e : Hid (lnL c = false) := Lib.hid (by simp [lnL]; omega)
    have h0 : (97 : Int) ≤ (c.toNat : Int) := by omega
    have h1 : ¬ (c.toNat : Int) ≤ 122 := by omega
    have h2 : (65 : Int) ≤ (c.toNat : Int) := by omega
    have h3 : ¬ (c.toNat : Int) ≤ 90 := by omega
    clear h hv
    go_enter Tryz.func39, Tryz.ntmps39
    go_wp2
    go_ret
    rw [e.out]
    exact ⟨rfl, rfl⟩
theorem rdgt_is (c : UInt8) (v : Bool) (w : World) (hv : Hid (isDg c = v)) :
    Calls Tryz.prog 40 #[.int .u8 (c.toNat : Int)] w fun e w' => e = .returned (.bool v) ∧ w = w' := by
  obtain rfl := hv.out
  by_cases h : 48 ≤ c.toNat
  · by_cases k : c.toNat ≤ 57
    · have e : Hid (isDg c = true) := Lib.hid (by simp [isDg]; omega)
      have h0 : (48 : Int) ≤ (c.toNat : Int) := by omega
      have h1 : (c.toNat : Int) ≤ 57 := by omega
      clear h k hv
      go_enter Tryz.func40, Tryz.ntmps40
      go_wp2
      go_ret
      rw [e.out]
      exact ⟨rfl, rfl⟩
    · have e : Hid (isDg c = false) := Lib.hid (by simp [isDg]; omega)
      have h0 : (48 : Int) ≤ (c.toNat : Int) := by omega
      have h1 : ¬ (c.toNat : Int) ≤ 57 := by omega
      clear h k hv
      go_enter Tryz.func40, Tryz.ntmps40
      go_wp2
      go_ret
      rw [e.out]
      exact ⟨rfl, rfl⟩
  · have e : Hid (isDg c = false) := Lib.hid (by simp [isDg]; omega)
    have h0 : ¬ (48 : Int) ≤ (c.toNat : Int) := by omega
    clear h hv
    go_enter Tryz.func40, Tryz.ntmps40
    go_wp2
    go_ret
    rw [e.out]
    exact ⟨rfl, rfl⟩
set_option maxHeartbeats 1600000 in
theorem rplain_is (s : List UInt8) (lo hi : Nat) (v : Bool) (w : World) (hs : s.length ≤ 1000) (_ : lo ≤ 100) (_ : hi ≤ 100) (hv : Hid (txOk lnP lo hi s = v)) :
    Calls Tryz.prog 36 #[.string ⟨s.toArray⟩, .int .i64 (lo : Int), .int .i64 (hi : Int)] w fun e w' => e = .returned (.bool v) ∧ w = w' := by
  have hz := wsize s
  have V := hv
  clear hv
  go_enter Tryz.func36, Tryz.ntmps36
  go_wp2
  go_loopw [7] (fun vi wr => ∃ i : Nat, vi = .int .i64 i ∧ i ≤ s.length ∧ (s.take i).all lnP = true ∧ w = wr) (fun vi _ => s.length - (intOf vi).toNat)
  case atStart => exact ⟨0, rfl, Nat.zero_le _, by simp, rfl⟩
  case round =>
    obtain ⟨i, rfl, i1, ha, rfl⟩ := hrel
    have HA := Lib.hid ha
    clear ha
    by_cases hlt : i < s.length
    · have hii : (i : Int) < (s.length : Int) := by omega
      obtain ⟨b, hb⟩ : ∃ b, s.getD i 0 = b := ⟨_, rfl⟩
      have hix := wbyte_at s i hlt b hb
      have GO : Hid (lnP b = true → ((s.take (i + 1)).all lnP = true)) := Lib.hid fun hc => all_next hlt HA.out (by rw [hb]; exact hc)
      have NO : Hid (lnP b = false → s.all lnP = false) := Lib.hid fun hc => all_cut hlt (by rw [hb]; exact hc)
      clear hb
      cases hl : lnL b with
      | true =>
        have HL := Lib.hid hl
        have HA2 : Hid ((s.take (i + 1)).all lnP = true) := Lib.hid (GO.out (by simp [lnP, hl]))
        clear GO NO hl
        go_wp2_with (first | (go_at_call 39; refine (rlet_is b true _ HL).mono ?_; rintro e w1 ⟨rfl, rfl⟩; simp only []))
        go_roundw
        case rel => exact ⟨i + 1, by go_num, by omega, HA2.out, by first | rfl | trivial⟩
        case measure => simp [intOf]; omega
      | false =>
        have HL := Lib.hid hl
        cases hd : isDg b with
        | true =>
          have HD := Lib.hid hd
          have HA2 : Hid ((s.take (i + 1)).all lnP = true) := Lib.hid (GO.out (by simp [lnP, hl, hd]))
          clear GO NO hl hd
          go_wp2_with (first | (go_at_call 39; refine (rlet_is b false _ HL).mono ?_; rintro e w1 ⟨rfl, rfl⟩; simp only []) | (go_at_call 40; refine (rdgt_is b true _ HD).mono ?_; rintro e w2 ⟨rfl, rfl⟩; simp only []))
          go_roundw
          case rel => exact ⟨i + 1, by go_num, by omega, HA2.out, by first | rfl | trivial⟩
          case measure => simp [intOf]; omega
        | false =>
          have HD := Lib.hid hd
          cases b0 : ((b.toNat : Int) == 43) with
          | true =>
            have n0 : ((b.toNat : Int) != 43) = false := by unfold bne; rw [b0]; rfl
            have d0 : b.toNat = 43 := by simp at b0; omega
            have HA2 : Hid ((s.take (i + 1)).all lnP = true) := Lib.hid (GO.out (by simp [lnP, hl, hd, d0]))
            clear GO NO hl hd d0
            go_wp2_with (first | (go_at_call 39; refine (rlet_is b false _ HL).mono ?_; rintro e w1 ⟨rfl, rfl⟩; simp only []) | (go_at_call 40; refine (rdgt_is b false _ HD).mono ?_; rintro e w2 ⟨rfl, rfl⟩; simp only []))
            go_roundw
            case rel => exact ⟨i + 1, by go_num, by omega, HA2.out, by first | rfl | trivial⟩
            case measure => simp [intOf]; omega
          | false =>
            have n0 : ((b.toNat : Int) != 43) = true := by unfold bne; rw [b0]; rfl
            have d0 : ¬ b.toNat = 43 := by simp at b0; omega
            cases b1 : ((b.toNat : Int) == 45) with
            | true =>
              have n1 : ((b.toNat : Int) != 45) = false := by unfold bne; rw [b1]; rfl
              have d1 : b.toNat = 45 := by simp at b1; omega
              have HA2 : Hid ((s.take (i + 1)).all lnP = true) := Lib.hid (GO.out (by simp [lnP, hl, hd, d1]))
              clear GO NO hl hd d0 d1
              go_wp2_with (first | (go_at_call 39; refine (rlet_is b false _ HL).mono ?_; rintro e w1 ⟨rfl, rfl⟩; simp only []) | (go_at_call 40; refine (rdgt_is b false _ HD).mono ?_; rintro e w2 ⟨rfl, rfl⟩; simp only []))
              go_roundw
              case rel => exact ⟨i + 1, by go_num, by omega, HA2.out, by first | rfl | trivial⟩
              case measure => simp [intOf]; omega
            | false =>
              have n1 : ((b.toNat : Int) != 45) = true := by unfold bne; rw [b1]; rfl
              have d1 : ¬ b.toNat = 45 := by simp at b1; omega
              have e : Hid (s.all lnP = false) := Lib.hid (NO.out (by simp [lnP, hl, hd, d0, d1]))
              clear GO NO hl hd d0 d1
              go_wp2_with (first | (go_at_call 39; refine (rlet_is b false _ HL).mono ?_; rintro e w1 ⟨rfl, rfl⟩; simp only []) | (go_at_call 40; refine (rdgt_is b false _ HD).mono ?_; rintro e w2 ⟨rfl, rfl⟩; simp only []))
              go_ret
              have ev : v = false := by rw [← V.out]; unfold txOk; rw [e.out]; simp
              rw [ev]
              exact ⟨rfl, rfl⟩
    · obtain rfl : i = s.length := by omega
      have hii : ¬ ((s.length : Nat) : Int) < (s.length : Int) := by omega
      have ALL : Hid (s.all lnP = true) := Lib.hid (by have := HA.out; rwa [List.take_length] at this)
      by_cases h1 : lo ≤ s.length
      · have h1' : (lo : Int) ≤ (s.length : Int) := by omega
        by_cases h2 : s.length ≤ hi
        · have h2' : (s.length : Int) ≤ (hi : Int) := by omega
          have ev : Hid (v = true) := Lib.hid (by rw [← V.out]; unfold txOk; rw [ALL.out, decide_eq_true h1, decide_eq_true h2]; rfl)
          go_wp2
          go_ret
          rw [ev.out]
          exact ⟨rfl, rfl⟩
        · have h2' : ¬ (s.length : Int) ≤ (hi : Int) := by omega
          have ev : Hid (v = false) := Lib.hid (by rw [← V.out]; unfold txOk; rw [decide_eq_false h2]; simp)
          go_wp2
          go_ret
          rw [ev.out]
          exact ⟨rfl, rfl⟩
      · have h1' : ¬ (lo : Int) ≤ (s.length : Int) := by omega
        have ev : Hid (v = false) := Lib.hid (by rw [← V.out]; unfold txOk; rw [decide_eq_false h1]; rfl)
        go_wp2
        go_ret
        rw [ev.out]
        exact ⟨rfl, rfl⟩

theorem rfirst_byte (c : UInt8) (r : List UInt8) (X : World) : (Instr.index 9 (.string ⟨(c :: r).toArray⟩) (.int .i64 0)).run Tryz.prog X = .ok (.int .u8 (c.toNat : Int)) X := wbyte_at (c :: r) 0 (by simp) c rfl X
set_option maxHeartbeats 1600000 in
theorem rset_is (s : List UInt8) (v : Bool) (w : World) (hs : s.length ≤ 1000) (hv : Hid (stOk s = v)) :
    Calls Tryz.prog 15 #[.string ⟨s.toArray⟩] w fun e w' => e = .returned (.bool v) ∧ w = w' := by
  have hz := wsize s
  have V : Hid (txOk lnS 1 64 s = false ∨ hdS s = false → v = false) := Lib.hid (by rw [← hv.out]; unfold stOk; rintro (h | h) <;> simp [h])
  have VV := hv
  clear hv
  by_cases h1 : s.length < 1
  · have h1' : (s.length : Int) < 1 := by omega
    have ev : Hid (v = false) := Lib.hid (V.out (.inl (txOk_short h1)))
    go_enter Tryz.func15, Tryz.ntmps15
    go_wp2
    go_ret
    rw [ev.out]
    exact ⟨rfl, rfl⟩
  · have h1' : ¬ (s.length : Int) < 1 := by omega
    by_cases h2 : 64 < s.length
    · have h2' : (64 : Int) < (s.length : Int) := by omega
      have ev : Hid (v = false) := Lib.hid (V.out (.inl (txOk_long h2)))
      go_enter Tryz.func15, Tryz.ntmps15
      go_wp2
      go_ret
      rw [ev.out]
      exact ⟨rfl, rfl⟩
    · have h2' : ¬ (64 : Int) < (s.length : Int) := by omega
      have HIN : Hid (txOk lnS 1 64 s = s.all lnS) := Lib.hid (txOk_in h1 h2)
      obtain ⟨c, r, hsr⟩ : ∃ c r, s = c :: r := by
        cases s with
        | nil => simp at h1
        | cons c r => exact ⟨c, r, rfl⟩
      have i0 : ∀ X : World, (Instr.index 9 (.string ⟨s.toArray⟩) (.int .i64 0)).run Tryz.prog X = .ok (.int .u8 (c.toNat : Int)) X := fun X => by rw [hsr]; exact rfirst_byte c r X
      have HH : Hid (hdS s = (lnL c || decide (c.toNat = 95))) := Lib.hid (by rw [hsr]; rfl)
      clear hsr h1 h2
      cases hl0 : lnL c with
      | true =>
        have HL0 := Lib.hid hl0
        have HY : Hid (hdS s = true) := Lib.hid (by rw [HH.out, hl0]; rfl)
        clear hl0
        go_enter Tryz.func15, Tryz.ntmps15
        go_wp2_with (go_at_call 39; refine (rlet_is c true _ HL0).mono ?_; rintro e w0 ⟨rfl, rfl⟩; simp only [])
        go_loopw [3] (fun vi wr => ∃ i : Nat, vi = .int .i64 i ∧ i ≤ s.length ∧ (s.take i).all lnS = true ∧ w = wr) (fun vi _ => s.length - (intOf vi).toNat)
        case atStart => exact ⟨0, rfl, Nat.zero_le _, by simp, rfl⟩
        case round =>
          obtain ⟨i, rfl, i1, ha, rfl⟩ := hrel
          have HA := Lib.hid ha
          clear ha
          by_cases hlt : i < s.length
          · have hii : (i : Int) < (s.length : Int) := by omega
            obtain ⟨b, hb⟩ : ∃ b, s.getD i 0 = b := ⟨_, rfl⟩
            have hix := wbyte_at s i hlt b hb
            have GO : Hid (lnS b = true → ((s.take (i + 1)).all lnS = true)) := Lib.hid fun hc => all_next hlt HA.out (by rw [hb]; exact hc)
            have NO : Hid (lnS b = false → s.all lnS = false) := Lib.hid fun hc => all_cut hlt (by rw [hb]; exact hc)
            clear hb
            cases hl : lnL b with
            | true =>
              have HL := Lib.hid hl
              have HA2 : Hid ((s.take (i + 1)).all lnS = true) := Lib.hid (GO.out (by simp [lnS, hl]))
              clear GO NO hl
              go_wp2_with (first | (go_at_call 39; refine (rlet_is b true _ HL).mono ?_; rintro e w1 ⟨rfl, rfl⟩; simp only []))
              go_roundw
              case rel => exact ⟨i + 1, by go_num, by omega, HA2.out, by first | rfl | trivial⟩
              case measure => simp [intOf]; omega
            | false =>
              have HL := Lib.hid hl
              cases hd : isDg b with
              | true =>
                have HD := Lib.hid hd
                have HA2 : Hid ((s.take (i + 1)).all lnS = true) := Lib.hid (GO.out (by simp [lnS, hl, hd]))
                clear GO NO hl hd
                go_wp2_with (first | (go_at_call 39; refine (rlet_is b false _ HL).mono ?_; rintro e w1 ⟨rfl, rfl⟩; simp only []) | (go_at_call 40; refine (rdgt_is b true _ HD).mono ?_; rintro e w2 ⟨rfl, rfl⟩; simp only []))
                go_roundw
                case rel => exact ⟨i + 1, by go_num, by omega, HA2.out, by first | rfl | trivial⟩
                case measure => simp [intOf]; omega
              | false =>
                have HD := Lib.hid hd
                cases b0 : ((b.toNat : Int) == 95) with
                | true =>
                  have n0 : ((b.toNat : Int) != 95) = false := by unfold bne; rw [b0]; rfl
                  have d0 : b.toNat = 95 := by simp at b0; omega
                  have HA2 : Hid ((s.take (i + 1)).all lnS = true) := Lib.hid (GO.out (by simp [lnS, hl, hd, d0]))
                  clear GO NO hl hd d0
                  go_wp2_with (first | (go_at_call 39; refine (rlet_is b false _ HL).mono ?_; rintro e w1 ⟨rfl, rfl⟩; simp only []) | (go_at_call 40; refine (rdgt_is b false _ HD).mono ?_; rintro e w2 ⟨rfl, rfl⟩; simp only []))
                  go_roundw
                  case rel => exact ⟨i + 1, by go_num, by omega, HA2.out, by first | rfl | trivial⟩
                  case measure => simp [intOf]; omega
                | false =>
                  have n0 : ((b.toNat : Int) != 95) = true := by unfold bne; rw [b0]; rfl
                  have d0 : ¬ b.toNat = 95 := by simp at b0; omega
                  cases b1 : ((b.toNat : Int) == 45) with
                  | true =>
                    have n1 : ((b.toNat : Int) != 45) = false := by unfold bne; rw [b1]; rfl
                    have d1 : b.toNat = 45 := by simp at b1; omega
                    have HA2 : Hid ((s.take (i + 1)).all lnS = true) := Lib.hid (GO.out (by simp [lnS, hl, hd, d1]))
                    clear GO NO hl hd d0 d1
                    go_wp2_with (first | (go_at_call 39; refine (rlet_is b false _ HL).mono ?_; rintro e w1 ⟨rfl, rfl⟩; simp only []) | (go_at_call 40; refine (rdgt_is b false _ HD).mono ?_; rintro e w2 ⟨rfl, rfl⟩; simp only []))
                    go_roundw
                    case rel => exact ⟨i + 1, by go_num, by omega, HA2.out, by first | rfl | trivial⟩
                    case measure => simp [intOf]; omega
                  | false =>
                    have n1 : ((b.toNat : Int) != 45) = true := by unfold bne; rw [b1]; rfl
                    have d1 : ¬ b.toNat = 45 := by simp at b1; omega
                    have e : Hid (s.all lnS = false) := Lib.hid (NO.out (by simp [lnS, hl, hd, d0, d1]))
                    clear GO NO hl hd d0 d1
                    go_wp2_with (first | (go_at_call 39; refine (rlet_is b false _ HL).mono ?_; rintro e w1 ⟨rfl, rfl⟩; simp only []) | (go_at_call 40; refine (rdgt_is b false _ HD).mono ?_; rintro e w2 ⟨rfl, rfl⟩; simp only []))
                    go_ret
                    rw [V.out (.inl (by rw [HIN.out]; exact e.out))]
                    exact ⟨rfl, rfl⟩
          · obtain rfl : i = s.length := by omega
            have hii : ¬ ((s.length : Nat) : Int) < (s.length : Int) := by omega
            have ALL : Hid (s.all lnS = true) := Lib.hid (by have := HA.out; rwa [List.take_length] at this)
            go_wp2
            go_ret
            have ev : v = true := by rw [← VV.out]; unfold stOk; rw [HIN.out, ALL.out, HY.out]; rfl
            rw [ev]
            exact ⟨rfl, rfl⟩
      | false =>
        have HL0 := Lib.hid hl0
        cases hc : ((c.toNat : Int) == 95) with
        | true =>
          have nc : ((c.toNat : Int) != 95) = false := by unfold bne; rw [hc]; rfl
          have HY : Hid (hdS s = true) := Lib.hid (by rw [HH.out, hl0]; simp at hc ⊢; omega)
          clear hl0
          go_enter Tryz.func15, Tryz.ntmps15
          go_wp2_with (go_at_call 39; refine (rlet_is c false _ HL0).mono ?_; rintro e w0 ⟨rfl, rfl⟩; simp only [])
          go_loopw [3] (fun vi wr => ∃ i : Nat, vi = .int .i64 i ∧ i ≤ s.length ∧ (s.take i).all lnS = true ∧ w = wr) (fun vi _ => s.length - (intOf vi).toNat)
          case atStart => exact ⟨0, rfl, Nat.zero_le _, by simp, rfl⟩
          case round =>
            obtain ⟨i, rfl, i1, ha, rfl⟩ := hrel
            have HA := Lib.hid ha
            clear ha
            by_cases hlt : i < s.length
            · have hii : (i : Int) < (s.length : Int) := by omega
              obtain ⟨b, hb⟩ : ∃ b, s.getD i 0 = b := ⟨_, rfl⟩
              have hix := wbyte_at s i hlt b hb
              have GO : Hid (lnS b = true → ((s.take (i + 1)).all lnS = true)) := Lib.hid fun hc => all_next hlt HA.out (by rw [hb]; exact hc)
              have NO : Hid (lnS b = false → s.all lnS = false) := Lib.hid fun hc => all_cut hlt (by rw [hb]; exact hc)
              clear hb
              cases hl : lnL b with
              | true =>
                have HL := Lib.hid hl
                have HA2 : Hid ((s.take (i + 1)).all lnS = true) := Lib.hid (GO.out (by simp [lnS, hl]))
                clear GO NO hl
                go_wp2_with (first | (go_at_call 39; refine (rlet_is b true _ HL).mono ?_; rintro e w1 ⟨rfl, rfl⟩; simp only []))
                go_roundw
                case rel => exact ⟨i + 1, by go_num, by omega, HA2.out, by first | rfl | trivial⟩
                case measure => simp [intOf]; omega
              | false =>
                have HL := Lib.hid hl
                cases hd : isDg b with
                | true =>
                  have HD := Lib.hid hd
                  have HA2 : Hid ((s.take (i + 1)).all lnS = true) := Lib.hid (GO.out (by simp [lnS, hl, hd]))
                  clear GO NO hl hd
                  go_wp2_with (first | (go_at_call 39; refine (rlet_is b false _ HL).mono ?_; rintro e w1 ⟨rfl, rfl⟩; simp only []) | (go_at_call 40; refine (rdgt_is b true _ HD).mono ?_; rintro e w2 ⟨rfl, rfl⟩; simp only []))
                  go_roundw
                  case rel => exact ⟨i + 1, by go_num, by omega, HA2.out, by first | rfl | trivial⟩
                  case measure => simp [intOf]; omega
                | false =>
                  have HD := Lib.hid hd
                  cases b0 : ((b.toNat : Int) == 95) with
                  | true =>
                    have n0 : ((b.toNat : Int) != 95) = false := by unfold bne; rw [b0]; rfl
                    have d0 : b.toNat = 95 := by simp at b0; omega
                    have HA2 : Hid ((s.take (i + 1)).all lnS = true) := Lib.hid (GO.out (by simp [lnS, hl, hd, d0]))
                    clear GO NO hl hd d0
                    go_wp2_with (first | (go_at_call 39; refine (rlet_is b false _ HL).mono ?_; rintro e w1 ⟨rfl, rfl⟩; simp only []) | (go_at_call 40; refine (rdgt_is b false _ HD).mono ?_; rintro e w2 ⟨rfl, rfl⟩; simp only []))
                    go_roundw
                    case rel => exact ⟨i + 1, by go_num, by omega, HA2.out, by first | rfl | trivial⟩
                    case measure => simp [intOf]; omega
                  | false =>
                    have n0 : ((b.toNat : Int) != 95) = true := by unfold bne; rw [b0]; rfl
                    have d0 : ¬ b.toNat = 95 := by simp at b0; omega
                    cases b1 : ((b.toNat : Int) == 45) with
                    | true =>
                      have n1 : ((b.toNat : Int) != 45) = false := by unfold bne; rw [b1]; rfl
                      have d1 : b.toNat = 45 := by simp at b1; omega
                      have HA2 : Hid ((s.take (i + 1)).all lnS = true) := Lib.hid (GO.out (by simp [lnS, hl, hd, d1]))
                      clear GO NO hl hd d0 d1
                      go_wp2_with (first | (go_at_call 39; refine (rlet_is b false _ HL).mono ?_; rintro e w1 ⟨rfl, rfl⟩; simp only []) | (go_at_call 40; refine (rdgt_is b false _ HD).mono ?_; rintro e w2 ⟨rfl, rfl⟩; simp only []))
                      go_roundw
                      case rel => exact ⟨i + 1, by go_num, by omega, HA2.out, by first | rfl | trivial⟩
                      case measure => simp [intOf]; omega
                    | false =>
                      have n1 : ((b.toNat : Int) != 45) = true := by unfold bne; rw [b1]; rfl
                      have d1 : ¬ b.toNat = 45 := by simp at b1; omega
                      have e : Hid (s.all lnS = false) := Lib.hid (NO.out (by simp [lnS, hl, hd, d0, d1]))
                      clear GO NO hl hd d0 d1
                      go_wp2_with (first | (go_at_call 39; refine (rlet_is b false _ HL).mono ?_; rintro e w1 ⟨rfl, rfl⟩; simp only []) | (go_at_call 40; refine (rdgt_is b false _ HD).mono ?_; rintro e w2 ⟨rfl, rfl⟩; simp only []))
                      go_ret
                      rw [V.out (.inl (by rw [HIN.out]; exact e.out))]
                      exact ⟨rfl, rfl⟩
            · obtain rfl : i = s.length := by omega
              have hii : ¬ ((s.length : Nat) : Int) < (s.length : Int) := by omega
              have ALL : Hid (s.all lnS = true) := Lib.hid (by have := HA.out; rwa [List.take_length] at this)
              go_wp2
              go_ret
              have ev : v = true := by rw [← VV.out]; unfold stOk; rw [HIN.out, ALL.out, HY.out]; rfl
              rw [ev]
              exact ⟨rfl, rfl⟩
        | false =>
          have nc : ((c.toNat : Int) != 95) = true := by unfold bne; rw [hc]; rfl
          have HN : Hid (hdS s = false) := Lib.hid (by rw [HH.out, hl0]; simp at hc ⊢; omega)
          clear hl0
          go_enter Tryz.func15, Tryz.ntmps15
          go_wp2_with (go_at_call 39; refine (rlet_is c false _ HL0).mono ?_; rintro e w0 ⟨rfl, rfl⟩; simp only [])
          go_ret
          rw [V.out (.inr HN.out)]
          exact ⟨rfl, rfl⟩

end Go.Proofs.YtfmehdophoejiaaGreatDoor

namespace Go.Proofs.YtfmehdophoejiaaGreatDoor
open Go.RowKit

/-- Does a part begin here? -/
def fsT (s : List UInt8) (i : Nat) : Bool := decide (i = 0) || decide (s.getD (i - 1) 0 = 47)
structure NmAt (s : List UInt8) (i : Nat) : Prop where
  al : (s.take i).all lnN = true
  st : nmR true s = nmR (fsT s i) (s.drop i)
  lt : fsT s i = true → i < s.length
theorem ndrop_at {s : List UInt8} {i : Nat} {c : UInt8} (h : i < s.length) (hc : s.getD i 0 = c) : s.drop i = c :: s.drop (i + 1) := by
  rw [List.drop_eq_getElem_cons h]
  congr 1
  rw [← hc]; simp [h]
theorem nm_bad1 {s : List UInt8} {i : Nat} (h : NmAt s i) (hi : i < s.length) (hb : s.getD i 0 = 47) (hf : fsT s i = true) : nmR true s = false := by
  rw [h.st, ndrop_at hi hb, hf]; rfl
theorem nm_bad2 {s : List UInt8} {i : Nat} (h : NmAt s i) (hi : i < s.length) (hb : s.getD i 0 = 47) (hl : i + 1 = s.length) : nmR true s = false := by
  rw [h.st, ndrop_at hi hb, hl, List.drop_length]
  cases fsT s i <;> rfl
theorem nm_bad3 {s : List UInt8} {i : Nat} (h : NmAt s i) (hi : i < s.length) (hb : s.getD i 0 = 45) (hf : fsT s i = true) : nmR true s = false := by
  rw [h.st, ndrop_at hi hb, hf]; rfl
theorem nm_go {s : List UInt8} {i : Nat} {b : UInt8} (h : NmAt s i) (hi : i < s.length) (hb : s.getD i 0 = b) (hn : lnN b = true) (h1 : b = 47 → fsT s i = false ∧ i + 1 ≠ s.length) (h2 : b = 45 → fsT s i = false) : NmAt s (i + 1) := by
  have ef : fsT s (i + 1) = decide (b = 47) := by
    unfold fsT
    rw [decide_eq_false (by omega), Bool.false_or, show i + 1 - 1 = i by omega, hb]
  refine ⟨all_next hi h.al (by rw [hb]; exact hn), ?_, ?_⟩
  · rw [h.st, ndrop_at hi hb, ef]
    by_cases c : b = 47
    · rw [(h1 c).1, decide_eq_true c]
      conv => lhs; unfold nmR
      rw [if_pos c]; rfl
    · rw [decide_eq_false c]
      conv => lhs; unfold nmR
      rw [if_neg c]
      by_cases d : b = 45
      · rw [h2 d]; rfl
      · rw [decide_eq_false d, Bool.and_false]; rfl
  · rw [ef]
    intro c
    have := (h1 (of_decide_eq_true c)).2
    omega
theorem nm_end {s : List UInt8} (h : NmAt s s.length) : nmR true s = true ∧ s.all lnN = true := by
  have hf : fsT s s.length = false := by
    cases e : fsT s s.length
    · rfl
    · exact absurd (h.lt e) (by omega)
  refine ⟨by rw [h.st, hf, List.drop_length]; rfl, ?_⟩
  have := h.al
  rwa [List.take_length] at this
theorem nsub_run (s : List UInt8) (f i : Nat) (p : List UInt8) (hp : (s.drop f).take (i - f) = p) (h1 : f ≤ i) (h2 : i ≤ s.length) (W : World) :
    (Instr.slice 9 (.string ⟨s.toArray⟩) (some (.int .i64 (f : Int))) (some (.int .i64 (i : Int))) none).run Tryz.prog W = .ok (.string ⟨p.toArray⟩) W := by
  have hs : (⟨s.toArray⟩ : ByteArray).size = s.length := by simp [ByteArray.size]
  rw [run_slice_string_if (h := Tryz.underlying9), if_pos ⟨by omega, by rw [hs]; omega⟩, if_pos ⟨by omega, by omega⟩]
  subst hp
  congr 2
  simp [ByteArray.extract_mk]
theorem one_run (s : List UInt8) (i : Nat) (b : UInt8) (h : i < s.length) (hb : s.getD i 0 = b) (W : World) : (Instr.slice 9 (.string ⟨s.toArray⟩) (some (.int .i64 (i : Int))) (some (.int .i64 ((i : Int) + 1))) none).run Tryz.prog W = .ok (.string ⟨[b].toArray⟩) W := by
  have e : ((i : Int) + 1) = ((i + 1 : Nat) : Int) := by omega
  rw [e]
  exact nsub_run s i (i + 1) [b] (by rw [ndrop_at h hb, show i + 1 - i = 1 by omega]; rfl) (by omega) (by omega) W
theorem prev_byte (s : List UInt8) (i : Nat) (h0 : 0 < i) (h : i ≤ s.length) (a : UInt8) (ha : s.getD (i - 1) 0 = a) (W : World) : (Instr.index 9 (.string ⟨s.toArray⟩) (.int .i64 ((i : Int) - 1))).run Tryz.prog W = .ok (.int .u8 (a.toNat : Int)) W := by
  rw [show ((i : Int) - 1) = ((i - 1 : Nat) : Int) by omega]
  exact wbyte_at s (i - 1) (by omega) a ha W
theorem plain_one (b : UInt8) : txOk lnP 1 1 [b] = lnP b := by
  unfold txOk; simp

set_option maxHeartbeats 3200000 in
theorem rname_is (s : List UInt8) (v : Bool) (w : World) (hs : s.length ≤ 1000) (hv : Hid (nmOk s = v)) :
    Calls Tryz.prog 13 #[.string ⟨s.toArray⟩] w fun e w' => e = .returned (.bool v) ∧ w = w' := by
  have hz := wsize s
  by_cases h1 : s.length < 1
  · have h1' : (s.length : Int) < 1 := by omega
    have ev : Hid (v = false) := Lib.hid (by rw [← hv.out]; unfold nmOk; rw [txOk_short h1]; rfl)
    go_enter Tryz.func13, Tryz.ntmps13
    go_wp2
    go_ret
    rw [ev.out]
    exact ⟨rfl, rfl⟩
  · have h1' : ¬ (s.length : Int) < 1 := by omega
    by_cases h2 : 64 < s.length
    · have h2' : (64 : Int) < (s.length : Int) := by omega
      have ev : Hid (v = false) := Lib.hid (by rw [← hv.out]; unfold nmOk; rw [txOk_long h2]; rfl)
      go_enter Tryz.func13, Tryz.ntmps13
      go_wp2
      go_ret
      rw [ev.out]
      exact ⟨rfl, rfl⟩
    · have h2' : ¬ (64 : Int) < (s.length : Int) := by omega
      have VF : Hid (nmR true s = false ∨ s.all lnN = false → v = false) := Lib.hid (by rw [← hv.out]; unfold nmOk; rw [txOk_in h1 h2]; rintro (h | h) <;> simp [h])
      have VT : Hid (nmR true s = true ∧ s.all lnN = true → v = true) := Lib.hid (by rw [← hv.out]; unfold nmOk; rw [txOk_in h1 h2]; rintro ⟨h, k⟩; simp [h, k])
      have N0 : Hid (NmAt s 0) := Lib.hid ⟨by simp, rfl, fun _ => by omega⟩
      clear hv
      go_enter Tryz.func13, Tryz.ntmps13
      go_wp2
      go_loopw [3] (fun vi wr => ∃ i : Nat, vi = .int .i64 i ∧ i ≤ s.length ∧ NmAt s i ∧ w = wr) (fun vi _ => s.length - (intOf vi).toNat)
      case atStart => exact ⟨0, rfl, Nat.zero_le _, N0.out, rfl⟩
      case round =>
        obtain ⟨i, rfl, i1, ha, rfl⟩ := hrel
        have NA := Lib.hid ha
        clear ha
        by_cases hlt : i < s.length
        · have hii : (i : Int) < (s.length : Int) := by omega
          obtain ⟨b, hb⟩ : ∃ b, s.getD i 0 = b := ⟨_, rfl⟩
          have hix := wbyte_at s i hlt b hb
          have sl := one_run s i b hlt hb
          have BAD1 : Hid (b = 47 → fsT s i = true → v = false) := Lib.hid fun e hf => VF.out (.inl (nm_bad1 NA.out hlt (hb.trans e) hf))
          have BAD2 : Hid (b = 47 → i + 1 = s.length → v = false) := Lib.hid fun e hf => VF.out (.inl (nm_bad2 NA.out hlt (hb.trans e) hf))
          have BAD3 : Hid (b = 45 → fsT s i = true → v = false) := Lib.hid fun e hf => VF.out (.inl (nm_bad3 NA.out hlt (hb.trans e) hf))
          have BAD4 : Hid (lnN b = false → v = false) := Lib.hid fun hc => VF.out (.inr (all_cut hlt (by rw [hb]; exact hc)))
          have GO : Hid (lnN b = true → (b = 47 → fsT s i = false ∧ i + 1 ≠ s.length) → (b = 45 → fsT s i = false) → NmAt s (i + 1)) := Lib.hid fun a1 a2 a3 => nm_go NA.out hlt hb a1 a2 a3
          clear hb
          by_cases h0 : i = 0
          · have e0 : ((i : Int) == 0) = true := by simp; omega
            have HF : Hid (fsT s i = true) := Lib.hid (by unfold fsT; rw [h0]; rfl)
            clear h0
            cases c47 : ((b.toNat : Int) == 47) with
            | true =>
              have n47 : ((b.toNat : Int) != 47) = false := by unfold bne; rw [c47]; rfl
              have d47 : b = 47 := by simp at c47; exact UInt8.toNat_inj.1 (by simpa using (show b.toNat = 47 by omega))
              have ev : Hid (v = false) := Lib.hid (BAD1.out d47 HF.out)
              clear BAD1 BAD2 BAD3 BAD4 GO HF d47
              go_wp2
              go_ret
              rw [ev.out]
              exact ⟨rfl, rfl⟩
            | false =>
              have n47 : ((b.toNat : Int) != 47) = true := by unfold bne; rw [c47]; rfl
              have d47 : ¬ b = 47 := by rintro rfl; simp at c47
              cases c45 : ((b.toNat : Int) == 45) with
              | true =>
                have d45 : b = 45 := by simp at c45; exact UInt8.toNat_inj.1 (by simpa using (show b.toNat = 45 by omega))
                have ev : Hid (v = false) := Lib.hid (BAD3.out d45 HF.out)
                clear BAD1 BAD2 BAD3 BAD4 GO HF d47 d45
                go_wp2
                go_ret
                rw [ev.out]
                exact ⟨rfl, rfl⟩
              | false =>
                have d45 : ¬ b = 45 := by rintro rfl; simp at c45
                cases c95 : ((b.toNat : Int) == 95) with
                | true =>
                  have n95 : ((b.toNat : Int) != 95) = false := by unfold bne; rw [c95]; rfl
                  have d95 : b = 95 := by simp at c95; exact UInt8.toNat_inj.1 (by simpa using (show b.toNat = 95 by omega))
                  have N2 : Hid (NmAt s (i + 1)) := Lib.hid (GO.out (by rw [d95]; decide) (fun c => absurd c d47) (fun c => absurd c d45))
                  clear BAD1 BAD2 BAD3 BAD4 GO HF d47 d45 d95
                  go_wp2
                  go_roundw
                  case rel => exact ⟨i + 1, by go_num, by omega, N2.out, by first | rfl | trivial⟩
                  case measure => simp [intOf]; omega
                | false =>
                  have n95 : ((b.toNat : Int) != 95) = true := by unfold bne; rw [c95]; rfl
                  cases hp : lnP b with
                  | true =>
                    have N2 : Hid (NmAt s (i + 1)) := Lib.hid (GO.out (by unfold lnN; rw [hp]; rfl) (fun c => absurd c d47) (fun c => absurd c d45))
                    have PP : Hid (txOk lnP 1 1 [b] = true) := Lib.hid (by rw [plain_one, hp])
                    clear BAD1 BAD2 BAD3 BAD4 GO HF d47 d45 hp
                    go_wp2_with (go_at_call 36; refine (rplain_is [b] 1 1 true _ (by simp) (by omega) (by omega) PP).mono ?_; rintro e w1 ⟨rfl, rfl⟩; simp only [])
                    go_roundw
                    case rel => exact ⟨i + 1, by go_num, by omega, N2.out, by first | rfl | trivial⟩
                    case measure => simp [intOf]; omega
                  | false =>
                    have ev : Hid (v = false) := Lib.hid (BAD4.out (by unfold lnN; rw [hp]; simp at c47 c95 ⊢; omega))
                    have PP : Hid (txOk lnP 1 1 [b] = false) := Lib.hid (by rw [plain_one, hp])
                    clear BAD1 BAD2 BAD3 BAD4 GO HF d47 d45 hp
                    go_wp2_with (go_at_call 36; refine (rplain_is [b] 1 1 false _ (by simp) (by omega) (by omega) PP).mono ?_; rintro e w1 ⟨rfl, rfl⟩; simp only [])
                    go_ret
                    rw [ev.out]
                    exact ⟨rfl, rfl⟩
          · have e0 : ((i : Int) == 0) = false := by simp; omega
            obtain ⟨a, ha⟩ : ∃ a, s.getD (i - 1) 0 = a := ⟨_, rfl⟩
            have hip := prev_byte s i (by omega) i1 a ha
            have EF : Hid (fsT s i = decide (a = 47)) := Lib.hid (by unfold fsT; rw [decide_eq_false h0, ha]; rfl)
            have i0 : (0 : Int) < (i : Int) := by omega
            clear ha h0
            cases a47 : ((a.toNat : Int) == 47) with
            | true =>
              have HF : Hid (fsT s i = true) := Lib.hid (by rw [EF.out]; simp at a47; exact decide_eq_true (UInt8.toNat_inj.1 (by simpa using (show a.toNat = 47 by omega))))
              clear EF
              cases c47 : ((b.toNat : Int) == 47) with
              | true =>
                have n47 : ((b.toNat : Int) != 47) = false := by unfold bne; rw [c47]; rfl
                have d47 : b = 47 := by simp at c47; exact UInt8.toNat_inj.1 (by simpa using (show b.toNat = 47 by omega))
                have ev : Hid (v = false) := Lib.hid (BAD1.out d47 HF.out)
                clear BAD1 BAD2 BAD3 BAD4 GO HF d47
                go_wp2
                go_ret
                rw [ev.out]
                exact ⟨rfl, rfl⟩
              | false =>
                have n47 : ((b.toNat : Int) != 47) = true := by unfold bne; rw [c47]; rfl
                have d47 : ¬ b = 47 := by rintro rfl; simp at c47
                cases c45 : ((b.toNat : Int) == 45) with
                | true =>
                  have d45 : b = 45 := by simp at c45; exact UInt8.toNat_inj.1 (by simpa using (show b.toNat = 45 by omega))
                  have ev : Hid (v = false) := Lib.hid (BAD3.out d45 HF.out)
                  clear BAD1 BAD2 BAD3 BAD4 GO HF d47 d45
                  go_wp2
                  go_ret
                  rw [ev.out]
                  exact ⟨rfl, rfl⟩
                | false =>
                  have d45 : ¬ b = 45 := by rintro rfl; simp at c45
                  cases c95 : ((b.toNat : Int) == 95) with
                  | true =>
                    have n95 : ((b.toNat : Int) != 95) = false := by unfold bne; rw [c95]; rfl
                    have d95 : b = 95 := by simp at c95; exact UInt8.toNat_inj.1 (by simpa using (show b.toNat = 95 by omega))
                    have N2 : Hid (NmAt s (i + 1)) := Lib.hid (GO.out (by rw [d95]; decide) (fun c => absurd c d47) (fun c => absurd c d45))
                    clear BAD1 BAD2 BAD3 BAD4 GO HF d47 d45 d95
                    go_wp2
                    go_roundw
                    case rel => exact ⟨i + 1, by go_num, by omega, N2.out, by first | rfl | trivial⟩
                    case measure => simp [intOf]; omega
                  | false =>
                    have n95 : ((b.toNat : Int) != 95) = true := by unfold bne; rw [c95]; rfl
                    cases hp : lnP b with
                    | true =>
                      have N2 : Hid (NmAt s (i + 1)) := Lib.hid (GO.out (by unfold lnN; rw [hp]; rfl) (fun c => absurd c d47) (fun c => absurd c d45))
                      have PP : Hid (txOk lnP 1 1 [b] = true) := Lib.hid (by rw [plain_one, hp])
                      clear BAD1 BAD2 BAD3 BAD4 GO HF d47 d45 hp
                      go_wp2_with (go_at_call 36; refine (rplain_is [b] 1 1 true _ (by simp) (by omega) (by omega) PP).mono ?_; rintro e w1 ⟨rfl, rfl⟩; simp only [])
                      go_roundw
                      case rel => exact ⟨i + 1, by go_num, by omega, N2.out, by first | rfl | trivial⟩
                      case measure => simp [intOf]; omega
                    | false =>
                      have ev : Hid (v = false) := Lib.hid (BAD4.out (by unfold lnN; rw [hp]; simp at c47 c95 ⊢; omega))
                      have PP : Hid (txOk lnP 1 1 [b] = false) := Lib.hid (by rw [plain_one, hp])
                      clear BAD1 BAD2 BAD3 BAD4 GO HF d47 d45 hp
                      go_wp2_with (go_at_call 36; refine (rplain_is [b] 1 1 false _ (by simp) (by omega) (by omega) PP).mono ?_; rintro e w1 ⟨rfl, rfl⟩; simp only [])
                      go_ret
                      rw [ev.out]
                      exact ⟨rfl, rfl⟩
            | false =>
              have HF : Hid (fsT s i = false) := Lib.hid (by rw [EF.out]; exact decide_eq_false (by rintro rfl; simp at a47))
              clear EF
              cases c47 : ((b.toNat : Int) == 47) with
              | true =>
                have n47 : ((b.toNat : Int) != 47) = false := by unfold bne; rw [c47]; rfl
                have d47 : b = 47 := by simp at c47; exact UInt8.toNat_inj.1 (by simpa using (show b.toNat = 47 by omega))
                by_cases hl : i + 1 = s.length
                · have el : ((i : Int) == (s.length : Int) - 1) = true := by simp; omega
                  have ev : Hid (v = false) := Lib.hid (BAD2.out d47 hl)
                  clear BAD1 BAD2 BAD3 BAD4 GO HF d47 hl
                  go_wp2
                  go_ret
                  rw [ev.out]
                  exact ⟨rfl, rfl⟩
                · have el : ((i : Int) == (s.length : Int) - 1) = false := by simp; omega
                  have N2 : Hid (NmAt s (i + 1)) := Lib.hid (GO.out (by rw [d47]; decide) (fun _ => ⟨HF.out, hl⟩) (fun _ => HF.out))
                  clear BAD1 BAD2 BAD3 BAD4 GO HF d47 hl
                  have e45 : ((b.toNat : Int) == 45) = false := by simp at c47 ⊢; omega
                  go_wp2
                  go_roundw
                  case rel => exact ⟨i + 1, by go_num, by omega, N2.out, by first | rfl | trivial⟩
                  case measure => simp [intOf]; omega
              | false =>
                have n47 : ((b.toNat : Int) != 47) = true := by unfold bne; rw [c47]; rfl
                have d47 : ¬ b = 47 := by rintro rfl; simp at c47
                cases c45 : ((b.toNat : Int) == 45) with
                | true =>
                  have d45 : b = 45 := by simp at c45; exact UInt8.toNat_inj.1 (by simpa using (show b.toNat = 45 by omega))
                  have n95 : ((b.toNat : Int) != 95) = true := by simp at c45 ⊢; omega
                  have N2 : Hid (NmAt s (i + 1)) := Lib.hid (GO.out (by rw [d45]; decide) (fun c => absurd c d47) (fun _ => HF.out))
                  have PP : Hid (txOk lnP 1 1 [b] = true) := Lib.hid (by rw [plain_one, d45]; decide)
                  clear BAD1 BAD2 BAD3 BAD4 GO HF d47 d45
                  go_wp2_with (go_at_call 36; refine (rplain_is [b] 1 1 true _ (by simp) (by omega) (by omega) PP).mono ?_; rintro e w1 ⟨rfl, rfl⟩; simp only [])
                  go_roundw
                  case rel => exact ⟨i + 1, by go_num, by omega, N2.out, by first | rfl | trivial⟩
                  case measure => simp [intOf]; omega
                | false =>
                  have d45 : ¬ b = 45 := by rintro rfl; simp at c45
                  cases c95 : ((b.toNat : Int) == 95) with
                  | true =>
                    have n95 : ((b.toNat : Int) != 95) = false := by unfold bne; rw [c95]; rfl
                    have d95 : b = 95 := by simp at c95; exact UInt8.toNat_inj.1 (by simpa using (show b.toNat = 95 by omega))
                    have N2 : Hid (NmAt s (i + 1)) := Lib.hid (GO.out (by rw [d95]; decide) (fun c => absurd c d47) (fun c => absurd c d45))
                    clear BAD1 BAD2 BAD3 BAD4 GO HF d47 d45 d95
                    go_wp2
                    go_roundw
                    case rel => exact ⟨i + 1, by go_num, by omega, N2.out, by first | rfl | trivial⟩
                    case measure => simp [intOf]; omega
                  | false =>
                    have n95 : ((b.toNat : Int) != 95) = true := by unfold bne; rw [c95]; rfl
                    cases hp : lnP b with
                    | true =>
                      have N2 : Hid (NmAt s (i + 1)) := Lib.hid (GO.out (by unfold lnN; rw [hp]; rfl) (fun c => absurd c d47) (fun c => absurd c d45))
                      have PP : Hid (txOk lnP 1 1 [b] = true) := Lib.hid (by rw [plain_one, hp])
                      clear BAD1 BAD2 BAD3 BAD4 GO HF d47 d45 hp
                      go_wp2_with (go_at_call 36; refine (rplain_is [b] 1 1 true _ (by simp) (by omega) (by omega) PP).mono ?_; rintro e w1 ⟨rfl, rfl⟩; simp only [])
                      go_roundw
                      case rel => exact ⟨i + 1, by go_num, by omega, N2.out, by first | rfl | trivial⟩
                      case measure => simp [intOf]; omega
                    | false =>
                      have ev : Hid (v = false) := Lib.hid (BAD4.out (by unfold lnN; rw [hp]; simp at c47 c95 ⊢; omega))
                      have PP : Hid (txOk lnP 1 1 [b] = false) := Lib.hid (by rw [plain_one, hp])
                      clear BAD1 BAD2 BAD3 BAD4 GO HF d47 d45 hp
                      go_wp2_with (go_at_call 36; refine (rplain_is [b] 1 1 false _ (by simp) (by omega) (by omega) PP).mono ?_; rintro e w1 ⟨rfl, rfl⟩; simp only [])
                      go_ret
                      rw [ev.out]
                      exact ⟨rfl, rfl⟩
        · obtain rfl : i = s.length := by omega
          have hii : ¬ ((s.length : Nat) : Int) < (s.length : Int) := by omega
          have ev : Hid (v = true) := Lib.hid (VT.out (nm_end NA.out))
          go_wp2
          go_ret
          rw [ev.out]
          exact ⟨rfl, rfl⟩
end Go.Proofs.YtfmehdophoejiaaGreatDoor

namespace Go.Proofs.YtfmehdophoejiaaGreatDoor
open Go.RowKit

theorem occ_two (s : List UInt8) (a b : UInt8) (i : Nat) : Lib.occAt s [a, b] i = true ↔ s[i]? = some a ∧ s[i + 1]? = some b := by
  unfold Lib.occAt
  rw [List.isPrefixOf_iff_prefix]
  have e0 : s[i]? = (s.drop i)[0]? := by simp
  have e1 : s[i + 1]? = (s.drop i)[1]? := by simp
  rw [e0, e1]
  generalize s.drop i = l
  cases l with
  | nil => simp
  | cons x l =>
    cases l with
    | nil => simp [List.cons_prefix_cons]
    | cons y l => simp [List.cons_prefix_cons]; constructor <;> rintro ⟨h1, h2⟩ <;> exact ⟨h1.symm, h2.symm⟩
theorem occ_one (s : List UInt8) (a : UInt8) (i : Nat) : Lib.occAt s [a] i = true ↔ s[i]? = some a := by
  unfold Lib.occAt
  rw [List.isPrefixOf_iff_prefix]
  have e0 : s[i]? = (s.drop i)[0]? := by simp
  rw [e0]
  generalize s.drop i = l
  cases l with
  | nil => simp
  | cons x l => simp [List.cons_prefix_cons]; exact ⟨fun h => h.symm, fun h => h.symm⟩
/-- A format of two parts around a slash, or around a letter, at place j. -/
def hitS (s : List UInt8) (j : Nat) : Prop := s[j]? = some 47 ∧ shOk (s.take j) = true ∧ shOk (s.drop (j + 1)) = true
def hitP (s : List UInt8) (j : Nat) : Prop := s[j]? = some 37 ∧ s[j + 1]? = some 115 ∧ txOk lnP 1 6 (s.take j ++ s.drop (j + 2)) = true
theorem txOk_all {f : UInt8 → Bool} {lo hi : Nat} {s : List UInt8} (h : txOk f lo hi s = true) : ∀ c ∈ s, f c = true := by
  unfold txOk at h
  simp only [Bool.and_eq_true, List.all_eq_true] at h
  exact h.2.2
theorem plain_no {s : List UInt8} (h : ∀ c ∈ s, lnP c = true) {i : Nat} {c : UInt8} (hi : s[i]? = some c) : c ≠ 47 ∧ c ≠ 37 := by
  have := h c (List.mem_of_getElem? hi)
  constructor <;> rintro rfl <;> revert this <;> decide
theorem cut_yes {s sep : List UInt8} {j : Nat} (hj : j ≤ s.length) (h : Lib.occAt s sep j = true) (hn : ∀ k, k < j → Lib.occAt s sep k = false) : Lib.cut s sep = (s.take j, s.drop (j + sep.length), true) := by
  have e := Lib.index_first hj h hn
  unfold Lib.cut
  rw [e, if_pos (by omega)]
  simp
theorem cut_no {s sep : List UInt8} (h : ∀ k, Lib.occAt s sep k = false) : Lib.cut s sep = (s, [], false) := by
  have e := Lib.index_none fun k (_ : k ≤ s.length) => h k
  unfold Lib.cut
  rw [e, if_neg (by omega)]
theorem occ_false {s sep : List UInt8} {k : Nat} (h : ¬ Lib.occAt s sep k = true) : Lib.occAt s sep k = false := by simpa using h
theorem get_take {s : List UInt8} {p i : Nat} {v : UInt8} (h : i < p) (hs : s[i]? = some v) : (s.take p)[i]? = some v := by rw [List.getElem?_take_of_lt h, hs]
theorem get_drop {s : List UInt8} {p i : Nat} {v : UInt8} (h : p ≤ i) (hs : s[i]? = some v) : (s.drop p)[i - p]? = some v := by rw [List.getElem?_drop, show p + (i - p) = i by omega, hs]
theorem fm_slash {s : List UInt8} {j : Nat} (h : hitS s j) : fmOk s = true := by
  obtain ⟨h1, h2, h3⟩ := h
  have p2 := txOk_all h2
  have p3 := txOk_all h3
  have hl : j < s.length := (List.getElem?_eq_some_iff.1 h1).1
  have no37 : ∀ k : Nat, s[k]? ≠ some 37 := by
    intro k hk
    rcases Nat.lt_trichotomy k j with c | c | c
    · exact (plain_no p2 (get_take c hk)).2 rfl
    · subst c; rw [h1] at hk; exact absurd hk (by decide)
    · exact (plain_no p3 (get_drop (p := j + 1) (by omega) hk)).2 rfl
  have c1 : Lib.cut s [37, 115] = (s, [], false) := cut_no fun k => occ_false fun c => no37 k ((occ_two s 37 115 k).1 c).1
  have c2 : Lib.cut s [47] = (s.take j, s.drop (j + 1), true) := cut_yes (by omega) ((occ_one s 47 j).2 h1) fun k hk => occ_false fun c => (plain_no p2 (get_take hk ((occ_one s 47 k).1 c))).1 rfl
  unfold fmOk
  rw [c1, c2]
  simp only [h2, h3]
  split <;> rfl
theorem fm_pct {s : List UInt8} {j : Nat} (h : hitP s j) : fmOk s = true := by
  obtain ⟨h1, h2, h3⟩ := h
  have p3 := txOk_all h3
  have hl : j < s.length := (List.getElem?_eq_some_iff.1 h1).1
  have c1 : Lib.cut s [37, 115] = (s.take j, s.drop (j + 2), true) := cut_yes (by omega) ((occ_two s 37 115 j).2 ⟨h1, h2⟩) fun k hk => occ_false fun c => by
    have := get_take hk ((occ_two s 37 115 k).1 c).1
    exact (plain_no p3 (i := k) (by rw [List.getElem?_append_left ((List.getElem?_eq_some_iff.1 this).1), this])).2 rfl
  unfold fmOk
  rw [c1]
  simp only [h3]
  split <;> rfl
theorem fm_show {s : List UInt8} (h : shOk s = true) : fmOk s = true := by
  have p := txOk_all h
  have c1 : Lib.cut s [37, 115] = (s, [], false) := cut_no fun k => occ_false fun c => (plain_no p ((occ_two s 37 115 k).1 c).1).2 rfl
  have c2 : Lib.cut s [47] = (s, [], false) := cut_no fun k => occ_false fun c => (plain_no p ((occ_one s 47 k).1 c)).1 rfl
  unfold fmOk
  rw [c1, c2]
  simp only [h]
  split <;> rfl
theorem fm_none {s : List UInt8} (h0 : s ≠ [37, 122]) (h1 : shOk s = false) (h2 : ∀ j, j < s.length → ¬ hitS s j ∧ ¬ hitP s j) : fmOk s = false := by
  unfold fmOk
  rw [if_neg h0]
  rcases Lib.index_spec s [37, 115] with ⟨_, hn⟩ | ⟨i, _, hi, ho, hf⟩
  · have c1 : Lib.cut s [37, 115] = (s, [], false) := by
      unfold Lib.cut
      rw [Lib.index_none hn, if_neg (by omega)]
    rw [c1]
    simp only [Bool.false_eq_true, if_false]
    rcases Lib.index_spec s [47] with ⟨_, hn⟩ | ⟨i, _, hi, ho, hf⟩
    · have c2 : Lib.cut s [47] = (s, [], false) := by
        unfold Lib.cut
        rw [Lib.index_none hn, if_neg (by omega)]
      rw [c2]
      simp [h1]
    · rw [cut_yes hi ho hf]
      have hk := (occ_one s 47 i).1 ho
      have hl : i < s.length := (List.getElem?_eq_some_iff.1 hk).1
      have := (h2 i hl).1
      unfold hitS at this
      simp only [if_true, List.length_cons, List.length_nil, Nat.zero_add]
      cases e1 : shOk (s.take i)
      · rfl
      · cases e2 : shOk (s.drop (i + 1))
        · rfl
        · exact absurd ⟨hk, e1, e2⟩ this
  · rw [cut_yes hi ho hf]
    have hk := (occ_two s 37 115 i).1 ho
    have hl : i < s.length := (List.getElem?_eq_some_iff.1 hk.1).1
    have := (h2 i hl).2
    unfold hitP at this
    simp only [if_true, List.length_cons, List.length_nil, Nat.zero_add]
    cases e1 : txOk lnP 1 6 (s.take i ++ s.drop (i + 2))
    · rfl
    · exact absurd ⟨hk.1, hk.2, e1⟩ this

theorem head_run (s : List UInt8) (i : Nat) (p : List UInt8) (hp : s.take i = p) (h2 : i ≤ s.length) (W : World) :
    (Instr.slice 9 (.string ⟨s.toArray⟩) none (some (.int .i64 (i : Int))) none).run Tryz.prog W = .ok (.string ⟨p.toArray⟩) W := by
  have hs : (⟨s.toArray⟩ : ByteArray).size = s.length := by simp [ByteArray.size]
  rw [run_slice_string_to_if (h := Tryz.underlying9), if_pos ⟨by omega, by rw [hs]; omega⟩]
  subst hp
  congr 2
  simp [ByteArray.extract_mk]
theorem tail_run (s : List UInt8) (i : Int) (n : Nat) (t : List UInt8) (hi : i = (n : Int)) (ht : s.drop n = t) (h2 : n ≤ s.length) (W : World) : (Instr.slice 9 (.string ⟨s.toArray⟩) (some (.int .i64 i)) none none).run Tryz.prog W = .ok (.string ⟨t.toArray⟩) W := by
  subst hi ht
  rw [run_slice_string_from_if (h := Tryz.underlying9), if_pos ⟨by omega, by rw [wsize]; omega⟩]
  congr 2
  simp [ByteArray.extract_mk, ByteArray.size]
  rw [List.take_of_length_le (by simp)]
theorem next_byte (s : List UInt8) (i : Nat) (h : i + 1 < s.length) (c : UInt8) (hc : s.getD (i + 1) 0 = c) (W : World) : (Instr.index 9 (.string ⟨s.toArray⟩) (.int .i64 ((i : Int) + 1))).run Tryz.prog W = .ok (.int .u8 (c.toNat : Int)) W := wbyte_at s (i + 1) h c hc W
theorem get_of {s : List UInt8} {i : Nat} {b : UInt8} (h : i < s.length) (hb : s.getD i 0 = b) : s[i]? = some b := by
  rw [← hb, List.getD_eq_getElem?_getD, List.getElem?_eq_getElem h]; rfl
theorem byte_of {b : UInt8} {n : Nat} (h : b.toNat = n) (hn : n < 256) : b = UInt8.ofNat n := by
  apply UInt8.toNat_inj.1
  rw [h, UInt8.toNat_ofNat']; omega

set_option maxHeartbeats 3200000 in
theorem rformat_is (s : List UInt8) (v : Bool) (w : World) (hs : s.length ≤ 500) (hv : Hid (fmOk s = v)) :
    Calls Tryz.prog 17 #[.string ⟨s.toArray⟩] w fun e w' => e = .returned (.bool v) ∧ Below w.heap.size w w' := by
  have hz := wsize s
  by_cases hp : s = [37, 122]
  · have ev : Hid (v = true) := Lib.hid (by rw [← hv.out, hp]; rfl)
    subst hp
    go_enter Tryz.func17, Tryz.ntmps17
    go_wp2
    go_ret
    rw [ev.out]
    exact ⟨rfl, Below.refl _ _⟩
  · have hp' : (s == [37, 122]) = false := by simpa using hp
    cases hsh : txOk lnP 3 8 s with
    | true =>
      have HSH := Lib.hid hsh
      have ev : Hid (v = true) := Lib.hid (by rw [← hv.out]; exact fm_show hsh)
      clear hv hsh hp
      go_enter Tryz.func17, Tryz.ntmps17
      go_wp2_with (go_at_call 36; refine (rplain_is s 3 8 true _ (by omega) (by omega) (by omega) HSH).mono ?_; rintro e w0 ⟨rfl, rfl⟩; simp only [])
      go_ret
      rw [ev.out]
      exact ⟨rfl, Below.refl _ _⟩
    | false =>
      have HSH := Lib.hid hsh
      have END : Hid ((∀ j, j < s.length → ¬ hitS s j ∧ ¬ hitP s j) → v = false) := Lib.hid fun h => hv.out.symm.trans (fm_none hp hsh h)
      have HIT : Hid (∀ j, hitS s j ∨ hitP s j → v = true) := Lib.hid fun j h => hv.out.symm.trans (h.elim fm_slash fm_pct)
      clear hv hsh hp
      go_enter Tryz.func17, Tryz.ntmps17
      go_wp2_with (go_at_call 36; refine (rplain_is s 3 8 false _ (by omega) (by omega) (by omega) HSH).mono ?_; rintro e w0 ⟨rfl, rfl⟩; simp only [])
      go_loopw [3] (fun vi wr => ∃ i : Nat, vi = .int .i64 i ∧ i ≤ s.length ∧ (∀ j, j < i → ¬ hitS s j ∧ ¬ hitP s j) ∧ Below w.heap.size w wr) (fun vi _ => s.length - (intOf vi).toNat)
      case atStart => exact ⟨0, rfl, Nat.zero_le _, fun j h => absurd h (by omega), Below.refl _ _⟩
      case round =>
        obtain ⟨i, rfl, i1, ha, hB⟩ := hrel
        have HB := Lib.hid hB
        have NA := Lib.hid ha
        clear ha hB
        by_cases hlt : i < s.length
        · have hii : (i : Int) < (s.length : Int) := by omega
          have wr1 : IntKind.i64.wrap ((i : Int) + 1) = (i : Int) + 1 := w64 (by omega) (by omega)
          have wr2 : IntKind.i64.wrap ((i : Int) + 2) = (i : Int) + 2 := w64 (by omega) (by omega)
          obtain ⟨b, hb⟩ : ∃ b, s.getD i 0 = b := ⟨_, rfl⟩
          have hix := wbyte_at s i hlt b hb
          have GB := Lib.hid (get_of hlt hb)
          have GO : Hid (¬ hitS s i → ¬ hitP s i → ∀ j, j < i + 1 → ¬ hitS s j ∧ ¬ hitP s j) := Lib.hid fun h1 h2 j hj => by
            by_cases c : j < i
            · exact NA.out j c
            · obtain rfl : j = i := by omega
              exact ⟨h1, h2⟩
          clear hb
          cases c47 : ((b.toNat : Int) == 47) with
          | true =>
            have d47 : b = 47 := byte_of (n := 47) (by simp at c47; omega) (by omega)
            have c37 : ((b.toNat : Int) == 37) = false := by simp at c47 ⊢; omega
            have nP : Hid (¬ hitP s i) := Lib.hid fun h => by have := h.1; rw [GB.out, d47] at this; exact absurd this (by decide)
            obtain ⟨T, hT⟩ : ∃ T, s.take i = T := ⟨_, rfl⟩
            obtain ⟨D, hD⟩ : ∃ D, s.drop (i + 1) = D := ⟨_, rfl⟩
            have hr := head_run s i T hT (by omega)
            have tr := tail_run s ((i : Int) + 1) (i + 1) D (by omega) hD (by omega)
            have lT : T.length ≤ 500 := by rw [← hT]; simp; omega
            have lD : D.length ≤ 500 := by rw [← hD]; simp; omega
            have ES : Hid (hitS s i ↔ txOk lnP 3 8 T = true ∧ txOk lnP 3 8 D = true) := Lib.hid (by unfold hitS shOk; rw [GB.out, d47, hT, hD]; simp)
            clear hT hD d47
            cases s1 : txOk lnP 3 8 T with
            | true =>
              have S1 := Lib.hid s1
              cases s2 : txOk lnP 3 8 D with
              | true =>
                have S2 := Lib.hid s2
                have ev : Hid (v = true) := Lib.hid (HIT.out i (.inl (ES.out.2 ⟨s1, s2⟩)))
                clear s1 s2 ES nP GO GB
                have CT : Hid (∀ W, Calls Tryz.prog 36 #[.string ⟨T.toArray⟩, .int .i64 3, .int .i64 8] W fun e w' => e = .returned (.bool true) ∧ W = w') := Lib.hid fun W => rplain_is T 3 8 true W (by omega) (by omega) (by omega) S1
                have CD : Hid (∀ W, Calls Tryz.prog 36 #[.string ⟨D.toArray⟩, .int .i64 3, .int .i64 8] W fun e w' => e = .returned (.bool true) ∧ W = w') := Lib.hid fun W => rplain_is D 3 8 true W (by omega) (by omega) (by omega) S2
                go_wp2_with (first | (go_at_call 36; with_reducible refine (CT.out _).mono ?_; rintro e w1 ⟨rfl, rfl⟩; simp only []) | (go_at_call 36; with_reducible refine (CD.out _).mono ?_; rintro e w2 ⟨rfl, rfl⟩; simp only []))
                go_ret
                rw [ev.out]
                exact ⟨rfl, by first | exact HB.out | exact below_drewN HB.out _⟩
              | false =>
                have S2 := Lib.hid s2
                have N2 := Lib.hid (GO.out (fun h => by rw [ES.out, s2] at h; exact absurd h.2 (by simp)) nP.out)
                clear s1 s2 ES nP GO GB
                have CT : Hid (∀ W, Calls Tryz.prog 36 #[.string ⟨T.toArray⟩, .int .i64 3, .int .i64 8] W fun e w' => e = .returned (.bool true) ∧ W = w') := Lib.hid fun W => rplain_is T 3 8 true W (by omega) (by omega) (by omega) S1
                have CD : Hid (∀ W, Calls Tryz.prog 36 #[.string ⟨D.toArray⟩, .int .i64 3, .int .i64 8] W fun e w' => e = .returned (.bool false) ∧ W = w') := Lib.hid fun W => rplain_is D 3 8 false W (by omega) (by omega) (by omega) S2
                go_wp2_with (first | (go_at_call 36; with_reducible refine (CT.out _).mono ?_; rintro e w1 ⟨rfl, rfl⟩; simp only []) | (go_at_call 36; with_reducible refine (CD.out _).mono ?_; rintro e w2 ⟨rfl, rfl⟩; simp only []))
                go_quiet (fail)
                go_wp2
                go_roundw
                case rel => exact ⟨i + 1, by go_num, by omega, N2.out, by first | exact HB.out | exact below_drewN HB.out _⟩
                case measure => simp [intOf]; omega
            | false =>
              have S1 := Lib.hid s1
              have N2 := Lib.hid (GO.out (fun h => by rw [ES.out, s1] at h; exact absurd h.1 (by simp)) nP.out)
              clear s1 ES nP GO GB
              have CT : Hid (∀ W, Calls Tryz.prog 36 #[.string ⟨T.toArray⟩, .int .i64 3, .int .i64 8] W fun e w' => e = .returned (.bool false) ∧ W = w') := Lib.hid fun W => rplain_is T 3 8 false W (by omega) (by omega) (by omega) S1
              go_wp2_with (first | (go_at_call 36; with_reducible refine (CT.out _).mono ?_; rintro e w1 ⟨rfl, rfl⟩; simp only []))
              go_quiet (fail)
              go_wp2
              go_roundw
              case rel => exact ⟨i + 1, by go_num, by omega, N2.out, by first | exact HB.out | exact below_drewN HB.out _⟩
              case measure => simp [intOf]; omega
          | false =>
            have nS : Hid (¬ hitS s i) := Lib.hid fun h => by
              have := h.1
              rw [GB.out] at this
              injection this with e
              rw [e] at c47
              exact absurd c47 (by decide)
            cases c37 : ((b.toNat : Int) == 37) with
            | false =>
              have N2 := Lib.hid (GO.out nS.out fun h => by
                have := h.1
                rw [GB.out] at this
                injection this with e
                rw [e] at c37
                exact absurd c37 (by decide))
              clear nS GO GB
              go_wp2
              go_quiet (fail)
              go_wp2
              go_roundw
              case rel => exact ⟨i + 1, by go_num, by omega, N2.out, by first | exact HB.out | exact below_drewN HB.out _⟩
              case measure => simp [intOf]; omega
            | true =>
              have d37 : b = 37 := byte_of (n := 37) (by simp at c37; omega) (by omega)
              by_cases h1 : i + 1 < s.length
              · have h1' : (i : Int) + 1 < (s.length : Int) := by omega
                have h1w : IntKind.i64.wrap ((i : Int) + 1) < (s.length : Int) := by rw [wr1]; exact h1'
                obtain ⟨c, hc⟩ : ∃ c, s.getD (i + 1) 0 = c := ⟨_, rfl⟩
                have hix1 := next_byte s i h1 c hc
                have hix2 := wbyte_at s (i + 1) h1 c hc
                have hix3 : ∀ W : World, (Instr.index 9 (.string ⟨s.toArray⟩) (.int .i64 (IntKind.i64.wrap ((i : Int) + 1)))).run Tryz.prog W = .ok (.int .u8 (c.toNat : Int)) W := by rw [wr1]; exact hix1
                have GC := Lib.hid (get_of h1 hc)
                clear hc
                cases c115 : ((c.toNat : Int) == 115) with
                | true =>
                  have d115 : c = 115 := byte_of (n := 115) (by simp at c115; omega) (by omega)
                  obtain ⟨T, hT⟩ : ∃ T, s.take i = T := ⟨_, rfl⟩
                  obtain ⟨D, hD⟩ : ∃ D, s.drop (i + 2) = D := ⟨_, rfl⟩
                  obtain ⟨U, hU⟩ : ∃ U, T ++ D = U := ⟨_, rfl⟩
                  have hr := head_run s i T hT (by omega)
                  have tr := tail_run s ((i : Int) + 2) (i + 2) D (by omega) hD (by omega)
                  have cat : (⟨T.toArray⟩ ++ ⟨D.toArray⟩ : ByteArray) = ⟨U.toArray⟩ := by subst hU; rw [ByteArray.mk_append_mk]
                  have lTD : ¬ 9223372036854775807 < T.length + D.length := by have e1 : T.length ≤ s.length := (by rw [← hT]; simp; omega); have e2 : D.length ≤ s.length := (by rw [← hD]; simp); omega
                  have lU : U.length ≤ 1000 := by rw [← hU, ← hT, ← hD]; simp; omega
                  have EP : Hid (hitP s i ↔ txOk lnP 1 6 U = true) := Lib.hid (by unfold hitP; rw [GB.out, GC.out, d37, d115, hT, hD, hU]; simp)
                  clear hT hD hU d37 d115
                  cases s1 : txOk lnP 1 6 U with
                  | true =>
                    have S1 := Lib.hid s1
                    have ev : Hid (v = true) := Lib.hid (HIT.out i (.inr (EP.out.2 s1)))
                    clear s1 EP nS GO GB GC
                    have CU : Hid (∀ W, Calls Tryz.prog 36 #[.string ⟨U.toArray⟩, .int .i64 1, .int .i64 6] W fun e w' => e = .returned (.bool true) ∧ W = w') := Lib.hid fun W => rplain_is U 1 6 true W (by omega) (by omega) (by omega) S1
                    have RP : Hid (∀ W, Calls Tryz.prog 36 #[.string ⟨U.toArray⟩, .int .i64 1, .int .i64 6] W fun e w' => e = .returned (.bool true) ∧ w' = W) := Lib.hid fun W => (rplain_is U 1 6 true W (by omega) (by omega) (by omega) S1).mono fun _ _ h => ⟨h.1, h.2.symm⟩
                    go_wp2
                    go_quiet ((go_at_call 36; exact Calls.quiet_of_same (RP.out _)))
                    go_wp2
                    go_ret
                    rw [ev.out]
                    exact ⟨rfl, by first | exact HB.out | exact below_drewN HB.out _⟩
                  | false =>
                    have S1 := Lib.hid s1
                    have N2 := Lib.hid (GO.out nS.out fun h => by rw [EP.out, s1] at h; exact absurd h (by simp))
                    clear s1 EP nS GO GB GC
                    have CU : Hid (∀ W, Calls Tryz.prog 36 #[.string ⟨U.toArray⟩, .int .i64 1, .int .i64 6] W fun e w' => e = .returned (.bool false) ∧ W = w') := Lib.hid fun W => rplain_is U 1 6 false W (by omega) (by omega) (by omega) S1
                    have RP : Hid (∀ W, Calls Tryz.prog 36 #[.string ⟨U.toArray⟩, .int .i64 1, .int .i64 6] W fun e w' => e = .returned (.bool false) ∧ w' = W) := Lib.hid fun W => (rplain_is U 1 6 false W (by omega) (by omega) (by omega) S1).mono fun _ _ h => ⟨h.1, h.2.symm⟩
                    go_wp2
                    go_quiet ((go_at_call 36; exact Calls.quiet_of_same (RP.out _)))
                    go_wp2
                    go_roundw
                    case rel => exact ⟨i + 1, by go_num, by omega, N2.out, by first | exact HB.out | exact below_drewN HB.out _⟩
                    case measure => simp [intOf]; omega
                | false =>
                  have N2 := Lib.hid (GO.out nS.out fun h => by
                    have := h.2.1
                    rw [GC.out] at this
                    injection this with e
                    rw [e] at c115
                    exact absurd c115 (by decide))
                  clear nS GO GB GC d37
                  go_wp2
                  go_quiet (fail)
                  go_wp2
                  go_roundw
                  case rel => exact ⟨i + 1, by go_num, by omega, N2.out, by first | exact HB.out | exact below_drewN HB.out _⟩
                  case measure => simp [intOf]; omega
              · have h1' : ¬ (i : Int) + 1 < (s.length : Int) := by omega
                have hd1 : decide ((i : Int) + 1 < (s.length : Int)) = false := decide_eq_false h1'
                have N2 := Lib.hid (GO.out nS.out fun h => by
                  have := (List.getElem?_eq_some_iff.1 h.2.1).1
                  omega)
                clear nS GO GB d37 h1
                go_wp2
                go_quiet (fail)
                go_wp2
                go_roundw
                case rel => exact ⟨i + 1, by go_num, by omega, N2.out, by first | exact HB.out | exact below_drewN HB.out _⟩
                case measure => simp [intOf]; omega
        · obtain rfl : i = s.length := by omega
          have hii : ¬ ((s.length : Nat) : Int) < (s.length : Int) := by omega
          have ev : Hid (v = false) := Lib.hid (END.out NA.out)
          go_wp2
          go_ret
          rw [ev.out]
          exact ⟨rfl, HB.out⟩
end Go.Proofs.YtfmehdophoejiaaGreatDoor
