/- Plain facts on strings.ToLower of four bytes: they are the word in small letters just if the bytes are its letters, small or capital; no program is named. -/
import Derived.Test.YtddoapenhlkamaaGreatDoorWrd
import Derived.Shelf.Strings.CaseAny
namespace Go.Proofs.YtddoapenhlkamaaGreatDoor
open Go

theorem lowerB_is (c : UInt8) : Lib.lowerB c = lowB c := by
  unfold Lib.lowerB Lib.isUpperB lowB
  congr 1
  simp [UInt8.le_iff_toNat_le]
theorem lowerA_is (l : List UInt8) : Lib.toLowerA l = low l := by
  unfold Lib.toLowerA low
  exact List.map_congr_left fun c _ => lowerB_is c
theorem encode_len (r : Int) (h : 128 ≤ r) : 2 ≤ (Lib.encodeRune r).length := by
  unfold Lib.encodeRune Lib.encodeRuneZ
  rw [List.length_map, if_neg (by omega)]
  split
  · simp
  · split
    · simp
    · split <;> simp
theorem bad_rune : Lib.toLowerU 65533 = 65533 := by decide +kernel
theorem decode_two {c : UInt8} (r : List UInt8) (h : ¬ c.toNat < 128) (hv : (Lib.decodeL (c :: r)).1 ≠ 65533) : 2 ≤ (Lib.decodeL (c :: r)).2 := by
  have hb := decode_big r h
  have e := Lib.encode_decode (c :: r) (by simp) (fun hc => hv hc.1)
  have := encode_len ((Lib.decodeL (c :: r)).1 : Int) (by omega)
  rw [e, List.length_take] at this
  omega
/-- Where the small letters are all below 128, no byte was more, or the text has become shorter. -/
theorem lower_short : ∀ (n : Nat) (l : List UInt8), l.length ≤ n → ascii (Lib.toLowerD l) → (Lib.toLowerD l).length ≤ l.length ∧ ((Lib.toLowerD l).length = l.length → ascii l)
  | _, [], _, _ => by
    refine ⟨by simp [Lib.toLowerD, Lib.mapD_nil], fun _ c hc => by simp at hc⟩
  | 0, c :: r, h, _ => by simp at h
  | n + 1, c :: r, h, ha => by
    have hs := Lib.mapD_step Lib.toLowerU (c :: r) (by simp)
    have hr := Lib.decodeL_rune (c :: r)
    have hlr := Lib.toLowerU_range (Lib.decodeL (c :: r)).1 hr
    rw [if_pos hlr.1] at hs
    change Lib.toLowerD (c :: r) = _ ++ Lib.toLowerD _ at hs
    rw [hs] at ha ⊢
    have ha1 : ascii (Lib.encodeRune (Lib.toLowerU (Lib.decodeL (c :: r)).1)) := fun x hx => ha x (List.mem_append_left _ hx)
    have ha2 : ascii (Lib.toLowerD ((c :: r).drop (Lib.decodeL (c :: r)).2)) := fun x hx => ha x (List.mem_append_right _ hx)
    have hw := Lib.decodeL_width (c :: r)
    have hle := Lib.decodeL_le (c :: r) (by simp)
    have hl1 : (Lib.encodeRune (Lib.toLowerU (Lib.decodeL (c :: r)).1)).length = 1 := by
      by_cases hb : 128 ≤ Lib.toLowerU (Lib.decodeL (c :: r)).1
      · obtain ⟨d, t, he, hd⟩ := encode_big hb
        have := ha1 d (by rw [he]; simp)
        omega
      · unfold Lib.encodeRune
        rw [Lib.encodeRuneZ_one hlr.1 (by omega)]; rfl
    have ih := lower_short n ((c :: r).drop (Lib.decodeL (c :: r)).2) (by rw [List.length_drop]; omega) ha2
    rw [List.length_drop] at ih
    rw [List.length_append, hl1]
    by_cases hc : c.toNat < 128
    · rw [decode_one r hc] at ih ⊢
      simp only [List.drop_succ_cons, List.drop_zero, List.length_cons] at ih ⊢
      refine ⟨by omega, fun e x hx => ?_⟩
      rcases List.mem_cons.1 hx with rfl | hx
      · exact hc
      · exact ih.2 (by omega) x hx
    · have h2 : 2 ≤ (Lib.decodeL (c :: r)).2 := by
        refine decode_two r hc fun hv => ?_
        rw [hv] at hl1
        have e : Lib.toLowerU ((65533 : Nat) : Int) = 65533 := bad_rune
        rw [e] at hl1
        have := encode_len 65533 (by omega)
        omega
      exact ⟨by omega, fun e => by omega⟩
/-- Four bytes, small. -/
theorem lower_is {l : List UInt8} {a b c d : UInt8} (hl : l.length = 4) (hw : ascii [a, b, c, d]) : (Lib.toLowerD l == [a, b, c, d]) = (low l == [a, b, c, d]) := by
  by_cases hs : ascii l
  · rw [Lib.toLowerD_ascii l hs, lowerA_is]
  · have h1 : Lib.toLowerD l ≠ [a, b, c, d] := fun e => by
      have := lower_short l.length l (Nat.le_refl _) (by rw [e]; exact hw)
      exact hs (this.2 (by rw [e, hl]; rfl))
    have h2 : low l ≠ [a, b, c, d] := fun e => by
      refine hs fun x hx => ?_
      have := hw (lowB x) (by rw [← e]; exact List.mem_map_of_mem hx)
      rw [lowB_toNat] at this
      split at this <;> omega
    rw [beq_eq_false_iff_ne.2 h1, beq_eq_false_iff_ne.2 h2]
end Go.Proofs.YtddoapenhlkamaaGreatDoor
