/- The contracts of abbr.seconds and Parse: which offset a text is, or that it is none; nothing that was in memory changes. -/
import Derived.Test.YtcfmmllegaddhaaDoorAbO
namespace Go.Proofs.YtcfmmllegaddhaaDoor
open Go.RowKit

theorem scA_len2 (acc : Nat) : ∀ (D : List UInt8), D.length < 2 → scA acc D = acc
  | [], _ => rfl
  | [_], _ => rfl
  | _ :: _ :: _, h => absurd h (by simp)
theorem scA_step (acc : Nat) (D : List UInt8) (p : Nat) (h : p + 1 < D.length) : scA acc (D.drop p) = scA (60 * acc + 10 * bd (D.getD p 0) + bd (D.getD (p + 1) 0)) (D.drop (p + 2)) := by
  rw [List.drop_eq_getElem_cons (show p < D.length by omega), List.drop_eq_getElem_cons (show p + 1 < D.length by omega)]
  show scA (60 * acc + 10 * bd D[p] + bd D[p + 1]) _ = _
  simp [List.getD, show p < D.length by omega, show p + 1 < D.length by omega]
theorem bd_lt (b : UInt8) : bd b < 256 := by unfold bd; omega
theorem bd_wrap (b : UInt8) : IntKind.u8.wrap ((b.toNat : Int) - 48) = (bd b : Int) := by
  have := b.toNat_lt
  unfold bd
  simp [IntKind.wrap, IntKind.bits, IntKind.signed]
  omega
theorem dgs_len {s : List UInt8} (h : 3 ≤ s.length) : (dgs s).length = 6 := by unfold dgs; simp; omega
set_option maxHeartbeats 3200000 in
theorem seconds_is (s : List UInt8) (v : Int) (w : World) (h3 : 3 ≤ s.length) (h7 : s.length ≤ 7) (HV : Hid (scV s = v)) :
    Calls Tryd.prog 25 #[.string ⟨s.toArray⟩] w fun e w' => e = .returned (.int .i64 v) ∧ Below w.heap.size w w' := by
  obtain ⟨s1, hs1⟩ : ∃ s1, s.drop 1 = s1 := ⟨_, rfl⟩
  obtain ⟨D, hD⟩ : ∃ D, dgs s = D := ⟨_, rfl⟩
  have hDl : D.length = 6 := by rw [← hD]; exact dgs_len h3
  have hl1 : s1.length ≤ 6 := by rw [← hs1, List.length_drop]; omega
  have sl1 := drop_run s s1 1 1 rfl hs1 (by omega)
  have ad1 := wadd_lists s1 [48, 48, 48, 48] (by omega) (by simp)
  have sl2 : ∀ W, (Instr.slice 9 (.string ⟨(s1 ++ [48, 48, 48, 48]).toArray⟩) none (some (.int .i64 6)) none).run Tryd.prog W = .ok (.string ⟨D.toArray⟩) W := wsub_run (s1 ++ [48, 48, 48, 48]) 6 D (by rw [← hD, ← hs1]; rfl) (by rw [← hs1]; simp; omega)
  obtain ⟨c, r, hcr⟩ : ∃ c r, s = c :: r := by
    cases s with
    | nil => simp at h3
    | cons c r => exact ⟨c, r, rfl⟩
  have b0 := byte_zero s c r hcr
  obtain ⟨R, hR⟩ : ∃ R, scA 0 D = R := ⟨_, rfl⟩
  have E : Hid ((c = 45 → v = -(R : Int)) ∧ (c ≠ 45 → v = (R : Int))) := Lib.hid (by
    have e : scV s = if c = 45 then -(R : Int) else (R : Int) := by
      unfold scV; rw [hD, hR, hcr]; simp
    rw [← HV.out, e]
    exact ⟨fun h => by rw [if_pos h], fun h => by rw [if_neg h]⟩)
  have HR := Lib.hid hR
  have HDl := Lib.hid hDl
  clear HV hs1 hD hcr hR h3 h7 hl1 hDl
  go_enter Tryd.func25, Tryd.ntmps25
  go_wp2
  go_loopw [4, 5] (fun va vp wr => ∃ (acc p : Nat), va = .int .i64 (acc : Int) ∧ vp = .int .i64 (p : Int) ∧ ((p = 0 ∧ acc = 0) ∨ (p = 2 ∧ acc ≤ 2805) ∨ (p = 4 ∧ acc ≤ 171105) ∨ (p = 6 ∧ acc ≤ 10269105)) ∧ scA acc (D.drop p) = R ∧ Below w.heap.size w wr) (fun _ vp _ => (6 - intOf vp).toNat)
  case atStart => exact ⟨0, 0, rfl, rfl, .inl ⟨rfl, rfl⟩, HR.out, Below.refl _ _⟩
  case round =>
    obtain ⟨acc, p, rfl, rfl, hp, hA, hB⟩ := hrel
    have B2 := Lib.hid hB
    have A2 := Lib.hid hA
    have hlen : (⟨D.toArray⟩ : ByteArray).size = 6 := by rw [wsize]; exact HDl.out
    have hDl := HDl.out
    clear HR hB hA
    by_cases h6 : p = 6
    · have hacc : acc = R := by
        have := A2.out
        rw [h6, List.drop_eq_nil_of_le (by omega)] at this
        exact this
      have hb : acc ≤ 10269105 := by omega
      subst h6 hacc
      clear hp hDl A2
      by_cases hc : c = 45
      · have ev := Lib.hid (E.out.1 hc)
        subst hc
        clear E
        go_wp2
        go_ret
        rw [ev.out]
        exact ⟨rfl, B2.out⟩
      · have ev := Lib.hid (E.out.2 hc)
        have tc : ((c.toNat : Int) == 45) = false := by
          simp; intro h; apply hc; exact UInt8.toNat.inj (by simpa using (by omega : c.toNat = 45))
        clear E hc
        go_wp2
        go_ret
        rw [ev.out]
        exact ⟨rfl, B2.out⟩
    · obtain ⟨a, ha⟩ : ∃ a, D.getD p 0 = a := ⟨_, rfl⟩
      obtain ⟨b, hb⟩ : ∃ b, D.getD (p + 1) 0 = b := ⟨_, rfl⟩
      obtain ⟨p1, hp1⟩ : ∃ p1, p + 1 = p1 := ⟨_, rfl⟩
      have ix0 := wbyte_at D p (by omega) a ha
      have ix1 := wbyte_at D p1 (by omega) b (by rw [← hp1]; exact hb)
      obtain ⟨va, hva⟩ : ∃ va, bd a = va := ⟨_, rfl⟩
      obtain ⟨vb, hvb⟩ : ∃ vb, bd b = vb := ⟨_, rfl⟩
      have la : va < 256 := by rw [← hva]; exact bd_lt a
      have lb : vb < 256 := by rw [← hvb]; exact bd_lt b
      have wa : IntKind.u8.wrap ((a.toNat : Int) - 48) = (va : Int) := by rw [← hva]; exact bd_wrap a
      have wb : IntKind.u8.wrap ((b.toNat : Int) - 48) = (vb : Int) := by rw [← hvb]; exact bd_wrap b
      obtain ⟨x1, e1⟩ : ∃ x, 60 * acc = x := ⟨_, rfl⟩
      obtain ⟨x2, e2⟩ : ∃ x, 10 * va = x := ⟨_, rfl⟩
      obtain ⟨x3, e3⟩ : ∃ x, x1 + x2 = x := ⟨_, rfl⟩
      obtain ⟨x4, e4⟩ : ∃ x, x3 + vb = x := ⟨_, rfl⟩
      have hab : acc ≤ 171105 := by omega
      have w0 : IntKind.i64.wrap ((p : Int) + 1) = (p1 : Int) := by rw [wrap_small _ (by omega) (by omega)]; omega
      have w1 : IntKind.i64.wrap (60 * (acc : Int)) = (x1 : Int) := by rw [wrap_small _ (by omega) (by omega)]; omega
      have w2 : IntKind.i64.wrap (10 * (va : Int)) = (x2 : Int) := by rw [wrap_small _ (by omega) (by omega)]; omega
      have w3 : IntKind.i64.wrap ((x1 : Int) + (x2 : Int)) = (x3 : Int) := by rw [wrap_small _ (by omega) (by omega)]; omega
      have w4 : IntKind.i64.wrap ((x3 : Int) + (vb : Int)) = (x4 : Int) := by rw [wrap_small _ (by omega) (by omega)]; omega
      have hp6 : (p : Int) < 6 := by omega
      have NX : Hid (((p + 2 = 2 ∧ x4 ≤ 2805) ∨ (p + 2 = 4 ∧ x4 ≤ 171105) ∨ (p + 2 = 6 ∧ x4 ≤ 10269105)) ∧ scA x4 (D.drop (p + 2)) = R) := Lib.hid ⟨by omega, by
        rw [← A2.out, scA_step acc D p (by omega), ha, hb, hva, hvb]
        congr 1; omega⟩
      have hpl : p ≤ 4 := by omega
      clear hp A2 ha hb hva hvb e1 e2 e3 e4 h6 hDl
      go_wp2
      go_quiet (fail)
      go_wp2
      go_roundw
      case rel => exact ⟨x4, p + 2, rfl, by go_num, .inr NX.out.1, NX.out.2, bdrews B2.out _⟩
      case measure => simp [intOf]; omega
/-- What the answer's test comes to. -/
theorem ps_ways (s : List UInt8) (h3 : 3 ≤ s.length) (h7 : s.length ≤ 7) : (ofE (scV s) = 0 ∧ ofS (scV s) = s ∧ psO s = true) ∨ (ofE (scV s) = 0 ∧ ofS (scV s) ≠ s ∧ psO s = false) ∨ (ofE (scV s) = 10 ∧ psO s = false) := by
  by_cases h : scV s ≤ -360000 ∨ 360000 ≤ scV s
  · refine .inr (.inr ⟨by unfold ofE; rw [if_pos h], ?_⟩)
    unfold psO
    rw [decide_eq_false]
    rintro ⟨-, -, h1, h2, -⟩
    omega
  · have e : ofE (scV s) = 0 ∧ ofS (scV s) = ofT (scV s) := ⟨by unfold ofE; rw [if_neg h], by unfold ofS; rw [if_neg h]⟩
    by_cases hs : ofT (scV s) = s
    · refine .inl ⟨e.1, by rw [e.2]; exact hs, ?_⟩
      unfold psO
      rw [decide_eq_true]
      exact ⟨h3, h7, by omega, by omega, hs⟩
    · refine .inr (.inl ⟨e.1, by rw [e.2]; exact hs, ?_⟩)
      unfold psO
      rw [decide_eq_false]
      rintro ⟨-, -, -, -, h2⟩
      exact hs h2
set_option maxHeartbeats 1600000 in
theorem parse_is (s : List UInt8) (v e0 : Int) (w : World) (hs : s.length ≤ 1000) (HV : Hid (psV s = v ∧ psE s = e0)) :
    Calls Tryd.prog 15 #[.string ⟨s.toArray⟩] w fun e w' => e = .returned (.tuple #[.int .i64 v, .int .i64 e0]) ∧ Below w.heap.size w w' := by
  obtain ⟨rfl, rfl⟩ := HV.out
  clear HV
  have NO : Hid (psO s = false → psV s = 0 ∧ psE s = 12) := Lib.hid fun h => by unfold psV psE; rw [h]; exact ⟨rfl, rfl⟩
  have YES : Hid (psO s = true → psV s = scV s ∧ psE s = 0) := Lib.hid fun h => by unfold psV psE; rw [h]; exact ⟨rfl, rfl⟩
  by_cases h3 : s.length < 3
  · have e := Lib.hid (NO.out (by unfold psO; rw [decide_eq_false]; omega))
    have h3' : (s.length : Int) < 3 := by omega
    clear NO YES
    go_enter Tryd.func15, Tryd.ntmps15
    go_wp2
    go_ret2
    rw [e.out.1, e.out.2]
    exact ⟨rfl, Below.refl _ _⟩
  · have h3' : ¬ (s.length : Int) < 3 := by omega
    by_cases h7 : 7 < s.length
    · have e := Lib.hid (NO.out (by unfold psO; rw [decide_eq_false]; omega))
      have h7' : (7 : Int) < (s.length : Int) := by omega
      clear NO YES
      go_enter Tryd.func15, Tryd.ntmps15
      go_wp2
      go_ret2
      rw [e.out.1, e.out.2]
      exact ⟨rfl, Below.refl _ _⟩
    · have h7' : ¬ (7 : Int) < (s.length : Int) := by omega
      have L := Lib.hid (And.intro (show 3 ≤ s.length by omega) (show s.length ≤ 7 by omega))
      have W := ps_ways s L.out.1 L.out.2
      obtain ⟨n, hn⟩ : ∃ n, scV s = n := ⟨_, rfl⟩
      obtain ⟨T, hT⟩ : ∃ T, ofS n = T := ⟨_, rfl⟩
      obtain ⟨e1, he1⟩ : ∃ e1, ofE n = e1 := ⟨_, rfl⟩
      rw [hn] at W YES
      rw [hT, he1] at W
      have HN := Lib.hid hn
      have HO := Lib.hid (And.intro hT he1)
      clear hn hT he1
      rcases W with ⟨rfl, rfl, q⟩ | ⟨rfl, tn, q⟩ | ⟨rfl, q⟩
      · have e := Lib.hid (YES.out q)
        clear NO YES q h3 h7
        go_enter Tryd.func15, Tryd.ntmps15
        go_wp2_with (first | (go_at_call 25; refine (seconds_is T n _ L.out.1 L.out.2 HN).mono ?_; rintro e w1 ⟨rfl, k1⟩; simp only []) | (go_at_call 13; refine (offset_is n T 0 _ HO).mono ?_; rintro e w2 ⟨rfl, k2⟩; simp only []))
        go_ret2
        rw [e.out.1, e.out.2]
        exact ⟨rfl, k1.trans (k2.mono k1.size)⟩
      · have e := Lib.hid (NO.out q)
        have tq2 : (T == s) = false := by simpa using tn
        clear NO YES q h3 h7 tn
        go_enter Tryd.func15, Tryd.ntmps15
        go_wp2_with (first | (go_at_call 25; refine (seconds_is s n _ L.out.1 L.out.2 HN).mono ?_; rintro e w1 ⟨rfl, k1⟩; simp only []) | (go_at_call 13; refine (offset_is n T 0 _ HO).mono ?_; rintro e w2 ⟨rfl, k2⟩; simp only []))
        go_ret2
        rw [e.out.1, e.out.2]
        exact ⟨rfl, k1.trans (k2.mono k1.size)⟩
      · have e := Lib.hid (NO.out q)
        clear NO YES q h3 h7
        go_enter Tryd.func15, Tryd.ntmps15
        go_wp2_with (first | (go_at_call 25; refine (seconds_is s n _ L.out.1 L.out.2 HN).mono ?_; rintro e w1 ⟨rfl, k1⟩; simp only []) | (go_at_call 13; refine (offset_is n T 10 _ HO).mono ?_; rintro e w2 ⟨rfl, k2⟩; simp only []))
        go_ret2
        rw [e.out.1, e.out.2]
        exact ⟨rfl, k1.trans (k2.mono k1.size)⟩
end Go.Proofs.YtcfmmllegaddhaaDoor
