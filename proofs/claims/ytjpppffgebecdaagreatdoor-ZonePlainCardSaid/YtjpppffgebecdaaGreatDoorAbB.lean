/- The contract of abbr.piece: the kind that what a text begins with makes a format, and its size; nothing that was in memory changes. -/
import Derived.Test.YtjpppffgebecdaaGreatDoorAbA
namespace Go.Proofs.YtjpppffgebecdaaGreatDoor
open Go.RowKit

theorem byte_zero (s : List UInt8) (c : UInt8) (r : List UInt8) (h : s = c :: r) (W : World) : (Instr.index 9 (.string ⟨s.toArray⟩) (.int .i64 0)).run Tryz.prog W = .ok (.int .u8 (c.toNat : Int)) W := by
  subst h
  exact wbyte_at (c :: r) 0 (by simp) c rfl W
/-- What piece answers, by its tests. -/
theorem pc_ways (c : UInt8) (r : List UInt8) (k z : Int) (hk : (pcM (c :: r) : Int) = k) (hz : (pcZ (c :: r) : Int) = z) : ∃ p1 p2 p3 l : Bool, [37, 115].isPrefixOf (c :: r) = p1 ∧ [37, 122].isPrefixOf (c :: r) = p2 ∧ [47].isPrefixOf (c :: r) = p3 ∧ abL c = l ∧
    k = (if p1 then 1 else if p2 then 2 else if p3 then 3 else 0) ∧ z = (if p1 then 2 else if p2 then 2 else if p3 then 1 else if l then 1 else 0) := by
  refine ⟨_, _, _, _, rfl, rfl, rfl, rfl, ?_, ?_⟩
  · rw [← hk]; unfold pcM; split <;> (try split) <;> (try split) <;> rfl
  · rw [← hz]; unfold pcZ pcM
    cases [37, 115].isPrefixOf (c :: r) <;> cases [37, 122].isPrefixOf (c :: r) <;> cases [47].isPrefixOf (c :: r) <;> cases h : abL c <;> simp [mkB, h]
set_option maxHeartbeats 1600000 in
theorem piece_is (c : UInt8) (r : List UInt8) (k z : Int) (w : World) (hA : LaidB w) (HV : Hid ((pcM (c :: r) : Int) = k ∧ (pcZ (c :: r) : Int) = z)) :
    Calls Tryz.prog 47 #[.string ⟨(c :: r).toArray⟩] w fun e w' => e = .returned (.tuple #[.int .i64 k, .int .i64 z]) ∧ Below w.heap.size w w' := by
  obtain ⟨p1, p2, p3, l, h1, h2, h3, h4, hk, hz⟩ := pc_ways c r k z HV.out.1 HV.out.2
  have b0 := byte_zero _ c r rfl
  obtain ⟨s, hs⟩ : ∃ s, c :: r = s := ⟨_, rfl⟩
  rw [hs] at h1 h2 h3 b0 ⊢
  have c1 := hA.mks.cell 1 _ rfl
  have c2 := hA.mks.cell 2 _ rfl
  have c3 := hA.mks.cell 3 _ rfl
  have H1 := Lib.hid h1
  have H2 := Lib.hid h2
  have H3 := Lib.hid h3
  have H4 := Lib.hid h4
  have K := Lib.hid hk
  have Z := Lib.hid hz
  clear HV hA hs h1 h2 h3 h4 hk hz
  go_enter Tryz.func47, Tryz.ntmps47
  go_wp2
  go_loop [4] (fun v => v = .int .i64 1 ∨ (v = .int .i64 2 ∧ p1 = false) ∨ (v = .int .i64 3 ∧ p1 = false ∧ p2 = false) ∨ (v = .int .i64 4 ∧ p1 = false ∧ p2 = false ∧ p3 = false)) (fun v => (4 - intOf v).toNat)
  case atStart => exact .inl rfl
  case round =>
    rcases hrel with rfl | ⟨rfl, rfl⟩ | ⟨rfl, rfl, rfl⟩ | ⟨rfl, rfl, rfl, rfl⟩
    · cases p1
      · go_wp2_with (first | (go_at_call 73; refine (pre_is s [37, 115] _ _ H1).mono ?_; rintro e w1 ⟨rfl, rfl⟩; simp only []))
        go_round
        case rel => simp
        case measure => simp [intOf]
      · go_wp2_with (first | (go_at_call 73; refine (pre_is s [37, 115] _ _ H1).mono ?_; rintro e w1 ⟨rfl, rfl⟩; simp only []))
        go_quiet (fail)
        go_wp2
        go_ret2
        rw [K.out, Z.out]
        exact ⟨rfl, bdrews (Below.refl _ _) _⟩
    · cases p2
      · go_wp2_with (first | (go_at_call 73; refine (pre_is s [37, 122] _ _ H2).mono ?_; rintro e w1 ⟨rfl, rfl⟩; simp only []))
        go_round
        case rel => simp
        case measure => simp [intOf]
      · go_wp2_with (first | (go_at_call 73; refine (pre_is s [37, 122] _ _ H2).mono ?_; rintro e w1 ⟨rfl, rfl⟩; simp only []))
        go_quiet (fail)
        go_wp2
        go_ret2
        rw [K.out, Z.out]
        exact ⟨rfl, bdrews (Below.refl _ _) _⟩
    · cases p3
      · go_wp2_with (first | (go_at_call 73; refine (pre_is s [47] _ _ H3).mono ?_; rintro e w1 ⟨rfl, rfl⟩; simp only []))
        go_round
        case rel => simp
        case measure => simp [intOf]
      · go_wp2_with (first | (go_at_call 73; refine (pre_is s [47] _ _ H3).mono ?_; rintro e w1 ⟨rfl, rfl⟩; simp only []))
        go_quiet (fail)
        go_wp2
        go_ret2
        rw [K.out, Z.out]
        exact ⟨rfl, bdrews (Below.refl _ _) _⟩
    · cases l
      all_goals go_wp2_with (first | (go_at_call 75; refine (plain_is c _ _ H4).mono ?_; rintro e w1 ⟨rfl, rfl⟩; simp only []))
      all_goals go_ret2
      all_goals rw [K.out, Z.out]
      all_goals exact ⟨rfl, Below.refl _ _⟩
end Go.Proofs.YtjpppffgebecdaaGreatDoor
