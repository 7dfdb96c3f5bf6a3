/- The contract of abbr.Kind: which kind of a format a text is, or that it is none; nothing that was in memory changes. -/
import Derived.Test.YtjpppffgebecdaaGreatDoorAbB
namespace Go.Proofs.YtjpppffgebecdaaGreatDoor
open Go.RowKit

def lenOf : Value → Nat
  | .string s => s.size
  | _ => 0
def tailOk (s : List UInt8) : Prop := s.getLast? ≠ some 47
theorem tailOk.cons {c : UInt8} {r : List UInt8} (h : tailOk (c :: r)) (hr : r ≠ []) : tailOk r := by
  unfold tailOk at h ⊢
  cases r with
  | nil => exact absurd rfl hr
  | cons d t => rw [List.getLast?_cons_cons] at h; exact h
theorem tailOk.drop {s : List UInt8} (h : tailOk s) (n : Nat) : tailOk (s.drop n) := by
  unfold tailOk at h ⊢
  intro e
  by_cases hn : n < s.length
  · rw [List.getLast?_drop, if_neg (by omega)] at e; exact h e
  · rw [List.drop_eq_nil_of_le (by omega)] at e; cases e
theorem drop_run (s t : List UInt8) (n : Nat) (z : Int) (hz : (n : Int) = z) (ht : s.drop n = t) (h : n ≤ s.length) (W : World) : (Instr.slice 9 (.string ⟨s.toArray⟩) (some (.int .i64 z)) none none).run Tryz.prog W = .ok (.string ⟨t.toArray⟩) W := by
  subst hz ht
  have hs : (⟨s.toArray⟩ : ByteArray).size = s.length := by simp [ByteArray.size]
  rw [run_slice_string_from_if (h := Tryz.underlying9), if_pos ⟨by omega, by rw [hs]; omega⟩]
  congr 2
  simp only [ByteArray.extract_mk, ByteArray.size, Int.toNat_natCast, List.size_toArray]
  rw [List.take_of_length_le (by rw [List.length_drop]; exact Nat.le_refl _)]
/-- One round: what it leaves, or that there is no format. -/
theorem kd_round (k : Nat) (c : UInt8) (r : List UInt8) (ht : tailOk (c :: r)) : (pcM (c :: r) = 0 ∧ pcZ (c :: r) = 0 ∧ kdF k (c :: r) = none) ∨ (pcM (c :: r) ≠ 0 ∧ k ≠ 0 ∧ pcZ (c :: r) ≠ 0 ∧ kdF k (c :: r) = none) ∨
    (pcM (c :: r) = 0 ∧ pcZ (c :: r) = 1 ∧ kdF k (c :: r) = kdF k r) ∨ (pcM (c :: r) ≠ 0 ∧ k = 0 ∧ pcM (c :: r) ≤ 3 ∧ 0 < pcZ (c :: r) ∧ pcZ (c :: r) ≤ (c :: r).length ∧ kdF k (c :: r) = kdF (pcM (c :: r)) ((c :: r).drop (pcZ (c :: r)))) := by
  by_cases hl : abL c = true
  · have e := pcM_letter r hl
    refine .inr (.inr (.inl ⟨e, ?_, ?_⟩))
    · unfold pcZ; rw [if_pos e]; simp [hl]
    · conv => lhs; unfold kdF
      rw [if_pos hl]
  · have hl' : abL c = false := by simpa using hl
    by_cases e : pcM (c :: r) = 0
    · refine Or.inl ⟨e, ?_, ?_⟩
      · unfold pcZ; rw [if_pos e]; simp [hl']
      · unfold kdF
        rw [if_neg hl, if_pos (Or.inl e)]
        simp
    · obtain ⟨s1, s2, s3⟩ := pcM_split e
      have z : pcZ (c :: r) = (mkB (pcM (c :: r))).length := by unfold pcZ; rw [if_neg e]
      by_cases hk0 : k = 0
      · refine .inr (.inr (.inr ⟨e, hk0, pcM_le _, by omega, by omega, ?_⟩))
        rw [z, kdF_skip e]
        conv => lhs; unfold kdF
        rw [if_neg hl, if_neg (by simpa using hk0), if_neg]
        rintro (h | ⟨rfl, rfl⟩)
        · exact e h
        · exact ht rfl
      · refine .inr (.inl ⟨e, hk0, by omega, ?_⟩)
        unfold kdF
        rw [if_neg hl, if_pos hk0]
set_option maxHeartbeats 3200000 in
theorem kind_is (s : List UInt8) (v e0 : Int) (w : World) (hA : LaidB w) (hs : s.length ≤ 1000) (HV : Hid (kdV s = v ∧ kdE s = e0)) :
    Calls Tryz.prog 26 #[.string ⟨s.toArray⟩] w fun e w' => e = .returned (.tuple #[.int .i64 v, .int .i64 e0]) ∧ Below w.heap.size w w' := by
  have HA := Lib.hid hA
  obtain ⟨m, hm⟩ : ∃ m, mayS s = m := ⟨_, rfl⟩
  have HM := Lib.hid hm
  clear hA
  cases m with
  | false =>
    have E : Hid (v = 0 ∧ e0 = 12) := Lib.hid (by
      have : kdK s = none := by
        unfold kdK
        by_cases hf : fmOk s = true
        · rw [if_pos hf]
          unfold mayS at hm
          rw [hf] at hm
          exact kdF_last s 0 (by simpa using hm)
        · rw [if_neg hf]
      rw [← HV.out.1, ← HV.out.2]; unfold kdV kdE; rw [this]; exact ⟨rfl, rfl⟩)
    clear HV hm
    go_enter Tryz.func26, Tryz.ntmps26
    go_wp2
    go_step3
    go_wp2_with (first | (go_at_call 46; refine (may_is s _ _ HA.out hs HM).mono ?_; rintro e w1 ⟨rfl, rfl⟩; simp only []))
    rw [Exit.noGoto_ret]
    go_ret2
    rw [E.out.1, E.out.2]
    exact ⟨rfl, Below.refl _ _⟩
  | true =>
    have hf : fmOk s = true ∧ tailOk s := by
      unfold mayS at hm
      rw [Bool.and_eq_true] at hm
      exact ⟨hm.1, by simpa [tailOk] using hm.2⟩
    have HT := Lib.hid hf.2
    have HK : Hid (kdF 0 s = kdK s) := Lib.hid (by unfold kdK; rw [if_pos hf.1])
    have HL := Lib.hid hs
    clear hm hf hs
    go_enter Tryz.func26, Tryz.ntmps26
    go_wp2
    go_step3
    go_wp2_with (first | (go_at_call 46; refine (may_is s _ _ HA.out HL.out HM).mono ?_; rintro e w1 ⟨rfl, rfl⟩; simp only []))
    go_step3
    go_wp2
    go_loopw [4, 5] (fun vk vl wr => ∃ (k : Nat) (l : List UInt8), vk = .int .i64 (k : Int) ∧ vl = .string ⟨l.toArray⟩ ∧ k ≤ 3 ∧ l.length ≤ 1000 ∧ tailOk l ∧ kdF k l = kdK s ∧ LaidB wr ∧ Below w1.heap.size w1 wr) (fun _ l _ => lenOf l)
    case atStart => exact ⟨0, s, rfl, rfl, by omega, HL.out, HT.out, HK.out, HA.out, Below.refl _ _⟩
    case round =>
      obtain ⟨k, l, rfl, rfl, hk, hl, ht, hK, hA, hB⟩ := hrel
      have A2 := Lib.hid hA
      have B2 := Lib.hid hB
      have K2 := Lib.hid hK
      have Hk := Lib.hid hk
      have Hl := Lib.hid hl
      have Ht := Lib.hid ht
      clear HT HK hA hB hK hk
      cases l with
      | nil =>
        have E : Hid (v = (k : Int) ∧ e0 = 0) := Lib.hid (by
          have : kdK s = some k := K2.out.symm
          rw [← HV.out.1, ← HV.out.2]; unfold kdV kdE; rw [this]; exact ⟨rfl, rfl⟩)
        clear hl ht
        go_wp2
        try rw [Exit.noGoto_ret]
        go_ret2
        rw [E.out.1, E.out.2]
        exact ⟨rfl, B2.out⟩
      | cons c r =>
        have hne : (c :: r).isEmpty = false := rfl
        obtain ⟨pk, hpk⟩ : ∃ pk, pcM (c :: r) = pk := ⟨_, rfl⟩
        obtain ⟨pz, hpz⟩ : ∃ pz, pcZ (c :: r) = pz := ⟨_, rfl⟩
        have P := Lib.hid (And.intro (congrArg (fun n : Nat => (n : Int)) hpk) (congrArg (fun n : Nat => (n : Int)) hpz))
        have R := kd_round k c r ht
        rw [hpk, hpz] at R
        have NO : Hid (kdK s = none → v = 0 ∧ e0 = 12) := Lib.hid fun h => by rw [← HV.out.1, ← HV.out.2]; unfold kdV kdE; rw [h]; exact ⟨rfl, rfl⟩
        rcases R with ⟨rfl, rfl, R⟩ | ⟨r1, r2, r3, R⟩ | ⟨rfl, rfl, R⟩ | ⟨r1, rfl, r2, r3, r4, R⟩
        · have E := Lib.hid (NO.out (by rw [← K2.out, R]))
          clear R ht hl hpk hpz
          go_wp2_with (first | (go_at_call 47; refine (piece_is c r _ _ _ A2.out P).mono ?_; rintro e w2 ⟨rfl, k2⟩; simp only []))
          rw [Exit.noGoto_ret]
          go_ret2
          rw [E.out.1, E.out.2]
          exact ⟨rfl, B2.out.trans (k2.mono B2.out.size)⟩
        · have E := Lib.hid (NO.out (by rw [← K2.out, R]))
          have t1 : ((pz : Int) == 0) = false := by simpa using r3
          have t2 : ((pk : Int) != 0) = true := by simpa using r1
          have t3 : ((k : Int) != 0) = true := by simpa using r2
          clear R ht hl hpk hpz r1 r2 r3
          go_wp2_with (first | (go_at_call 47; refine (piece_is c r _ _ _ A2.out P).mono ?_; rintro e w2 ⟨rfl, k2⟩; simp only []))
          rw [Exit.noGoto_ret]
          go_ret2
          rw [E.out.1, E.out.2]
          exact ⟨rfl, B2.out.trans (k2.mono B2.out.size)⟩
        · have sl := drop_run (c :: r) r 1 1 rfl rfl (by simp)
          have RR : Hid (r.length ≤ 1000 ∧ tailOk r ∧ kdF k r = kdK s) := Lib.hid ⟨by simp at hl; omega, by
            cases r with
            | nil => intro h; cases h
            | cons d r' => exact ht.cons (by simp), by rw [← R]; exact K2.out⟩
          clear R ht hl hpk hpz
          go_wp2_with (first | (go_at_call 47; refine (piece_is c r _ _ _ A2.out P).mono ?_; rintro e w2 ⟨rfl, k2⟩; simp only []))
          go_roundw
          case rel => exact ⟨k, r, rfl, rfl, Hk.out, RR.out.1, RR.out.2.1, RR.out.2.2, A2.out.next k2, B2.out.trans (k2.mono B2.out.size)⟩
          case measure => simp [lenOf, ByteArray.size]
        · obtain ⟨l', hl'⟩ : ∃ l', (c :: r).drop pz = l' := ⟨_, rfl⟩
          have sl := drop_run (c :: r) l' pz (pz : Int) rfl hl' r4
          have RR : Hid (l'.length ≤ 1000 ∧ tailOk l' ∧ kdF pk l' = kdK s ∧ pk ≤ 3 ∧ l'.length < (c :: r).length) := Lib.hid ⟨by rw [← hl', List.length_drop]; omega, by rw [← hl']; exact ht.drop _, by rw [← hl', ← R]; exact K2.out, r2, by rw [← hl', List.length_drop]; omega⟩
          have t1 : ((pz : Int) == 0) = false := by simp; omega
          have t2 : ((pk : Int) != 0) = true := by simpa using r1
          clear R ht hl hpk hpz r1 r2 r3 r4 hl'
          go_wp2_with (first | (go_at_call 47; refine (piece_is c r _ _ _ A2.out P).mono ?_; rintro e w2 ⟨rfl, k2⟩; simp only []))
          go_roundw
          case rel => exact ⟨pk, l', rfl, rfl, RR.out.2.2.2.1, RR.out.1, RR.out.2.1, RR.out.2.2.1, A2.out.next k2, B2.out.trans (k2.mono B2.out.size)⟩
          case measure => have := RR.out.2.2.2.2; simp [lenOf, ByteArray.size] at this ⊢; exact this
end Go.Proofs.YtjpppffgebecdaaGreatDoor
