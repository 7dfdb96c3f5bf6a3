/- The contract of meridianref03.Span: what it returns, for every text of up to 1000 bytes; nothing that was in memory changes.
The contract of meridianref03.Parse: what it returns, for every text of up to 900 bytes; nothing that was in memory changes. -/
import Derived.Test.YtfmehdophoejiaaGreatDoorMP
import Derived.Test.YtfmehdophoejiaaGreatDoorMI
import Derived.Test.YtfmehdophoejiaaGreatDoorMK
import Derived.Laws.Strings3
namespace Go.Proofs.YtfmehdophoejiaaGreatDoor
open Go.RowKit

theorem rdig_is (p : List UInt8) (v : Int) (w : World) (hp : p.length ≤ 9) (h : Hid (digV p = v)) :
    Calls Tryz.prog 130 #[.string ⟨p.toArray⟩] w fun e w' => e = .returned (.int .i64 v) ∧ w = w' := by
  refine (rdig_any p w (by omega)).mono ?_
  rintro e w' ⟨u, hu, rfl, rfl⟩
  rw [hu hp, h.out]; exact ⟨rfl, rfl⟩

theorem ix_take {L : List (List UInt8)} {i : Nat} {p : List UInt8} (h : L[i]? = some p) : (ix 0 L).take (i + 1) = (ix 0 L).take i ++ [(i, p)] := by
  have hx : (ix 0 L)[i]? = some (i, p) := by rw [ix_at, h]; simp
  have hi : i < (ix 0 L).length := by
    rcases Nat.lt_or_ge i (ix 0 L).length with h | h
    · exact h
    · rw [List.getElem?_eq_none h] at hx; cases hx
  rw [List.take_succ_eq_append_getElem hi]
  rw [List.getElem?_eq_getElem hi] at hx
  rw [Option.some.inj hx]
theorem not_ok {L : List (List UInt8)} {i : Nat} {p : List UInt8} (h : L[i]? = some p) (hf : fldOk i p = false) : okP (ix 0 L) = false := by
  rw [← List.take_append_drop (i + 1) (ix 0 L), ix_take h]
  simp only [okP, List.all_append, List.all_cons, hf]
  simp
theorem far_part {L : List (List UInt8)} (h : 3 < L.length) : okP (ix 0 L) = false := by
  obtain ⟨p, hp⟩ : ∃ p, L[3]? = some p := ⟨L[3], by simp [h]⟩
  exact not_ok hp (by simp [fldOk])
/-- The first i pieces are as they have to be, and come to so much. -/
def SumAt (L : List (List UInt8)) (i : Nat) (v : Int) : Prop := okP ((ix 0 L).take i) = true ∧ v = (sumP ((ix 0 L).take i) : Int)
theorem SumAt.next {L : List (List UInt8)} {i : Nat} {v : Int} {p : List UInt8} (h : SumAt L i v) (hp : L[i]? = some p) (hf : fldOk i p = true) : SumAt L (i + 1) (v + (fldV i p : Int)) := by
  unfold SumAt
  rw [ix_take hp, okP_snoc, sumP_snoc, h.1, h.2]
  refine ⟨hf, ?_⟩
  show _ = ((sumP ((ix 0 L).take i) + fldV i p : Nat) : Int)
  omega
theorem SumAt.bd {L : List (List UInt8)} {i : Nat} {v : Int} (h : SumAt L i v) (hi : i ≤ 3) : 0 ≤ v ∧ v ≤ 10800000 := by
  have := sumP_bd h.1
  rw [List.length_take] at this
  have := h.2
  omega
theorem SumAt.all {L : List (List UInt8)} {v : Int} (h : SumAt L L.length v) : okP (ix 0 L) = true ∧ v = (sumP (ix 0 L) : Int) := by
  have e : (ix 0 L).take L.length = ix 0 L := List.take_of_length_le (Nat.le_of_eq (ix_len 0 L))
  unfold SumAt at h
  rwa [e] at h

theorem dig_neg {p : List UInt8} (h : digV p < 0) : allDig p = false ∨ p = [] := by
  unfold digV at h
  split at h
  · omega
  · rename_i c
    by_cases h0 : p = []
    · exact .inr h0
    · left
      rw [← Bool.not_eq_true]
      exact fun d => c ⟨h0, d⟩
theorem dig_pos {p : List UInt8} (h : 0 ≤ digV p) : p ≠ [] ∧ allDig p = true ∧ digV p = numOf p := by
  unfold digV at h ⊢
  split at h
  · rename_i c
    rw [if_pos c]; exact ⟨c.1, c.2, rfl⟩
  · omega
theorem fld0_bad {p : List UInt8} (h : 3 < p.length ∨ digV p < 0) : fldOk 0 p = false := by
  rcases h with h | h
  · simp [fldOk, fw, mo]; omega
  · rcases dig_neg h with d | d
    · simp [fldOk, d]
    · subst d; simp [fldOk, fw]
theorem fld0_ok {p : List UInt8} (h : p.length ≤ 3) (hd : 0 ≤ digV p) : fldOk 0 p = true ∧ (fldV 0 p : Int) = 3600 * digV p := by
  obtain ⟨h0, h1, h2⟩ := dig_pos hd
  have := numOf_bd p h1 3 h (by omega)
  have hl : 1 ≤ p.length := by cases p with | nil => exact absurd rfl h0 | cons _ _ => simp
  refine ⟨by simp [fldOk, fw, mo, bl, h1, hl, h, this], ?_⟩
  rw [h2]; unfold fldV un; simp; omega
theorem fldk_bad {k : Nat} {p : List UInt8} (hk : k = 1 ∨ k = 2) (h : p.length ≠ 2 ∨ digV p < 0 ∨ 59 < digV p) : fldOk k p = false := by
  have e : fw k = 2 ∧ mo k = 2 ∧ bl k = 60 := by rcases hk with rfl | rfl <;> exact ⟨rfl, rfl, rfl⟩
  unfold fldOk
  rw [e.1, e.2.1, e.2.2]
  rcases h with h | h | h
  · by_cases c : 2 ≤ p.length
    · have : ¬ p.length ≤ 2 := by omega
      simp [this]
    · simp [c]
  · rcases dig_neg h with d | d
    · simp [d]
    · subst d; simp
  · have := dig_pos (p := p) (by omega)
    have h2 : ¬ numOf p < 60 := by omega
    simp [h2]
theorem fldk_ok {k : Nat} {p : List UInt8} (hk : k = 1 ∨ k = 2) (h : p.length = 2) (h1 : 0 ≤ digV p) (h2 : digV p ≤ 59) : fldOk k p = true ∧ (fldV k p : Int) = (if k = 1 then 60 * digV p else digV p) := by
  obtain ⟨d0, d1, d2⟩ := dig_pos h1
  have h3 : numOf p < 60 := by omega
  have e : fw k = 2 ∧ mo k = 2 ∧ bl k = 60 := by rcases hk with rfl | rfl <;> exact ⟨rfl, rfl, rfl⟩
  refine ⟨by unfold fldOk; rw [e.1, e.2.1, e.2.2]; simp [h, d1, h3]; omega, ?_⟩
  rw [d2]
  rcases hk with rfl | rfl
  · unfold fldV un; simp; omega
  · unfold fldV un; simp

theorem own_cell {W : World} {base g n c i : Nat} {l : List (List UInt8)} {p : List UInt8} (h : W.ownsRow base 9 1 (.slice (some ⟨g, 0, none⟩) n c) n (scl l)) (hp : l[i]? = some p) : W.cell? ⟨g, i, none⟩ = some (.string ⟨p.toArray⟩) := by
  have := h.cells (g := g) rfl i (.string ⟨p.toArray⟩) (by simp [scl, hp])
  rcases i with _ | i
  · simpa [Addr.add] using this
  · simpa [Addr.add] using this

theorem drop_run (b : UInt8) (t : List UInt8) (W : World) :
    (Instr.slice 9 (.string ⟨(b :: t).toArray⟩) (some (.int .i64 1)) none none).run Tryz.prog W = .ok (.string ⟨t.toArray⟩) W := by
  have hs : (⟨(b :: t).toArray⟩ : ByteArray).size = t.length + 1 := by simp [ByteArray.size]
  rw [run_slice_string_from_if (h := Tryz.underlying9), if_pos ⟨by omega, by rw [hs]; omega⟩, hs]
  congr 2
  simp [ByteArray.extract_mk]

theorem pcs_le (s : List UInt8) : ∀ (cur p : List UInt8), p ∈ pcs cur s → p.length ≤ cur.length + s.length := by
  induction s with
  | nil => intro cur p h; simp [pcs] at h; subst h; omega
  | cons b r ih =>
    intro cur p h
    unfold pcs at h
    split at h
    · rcases List.mem_cons.1 h with rfl | h
      · simp
      · have := ih [] p h; simp at this ⊢; omega
    · have := ih _ p h; simp at this ⊢; omega

/-- The text s, without its sign t, neg or not, of the pieces L. -/
def SpanOf (s t : List UInt8) (neg : Bool) (L : List (List UInt8)) : Prop := s ≠ [45] ∧ Lib.trimPrefix s [45] = t ∧ Lib.hasPrefix s [45] = neg ∧ pcs [] t = L
theorem of_form {s t : List UInt8} {neg : Bool} {L : List (List UInt8)} (h : SpanOf s t neg L) (ho : okP (ix 0 L) = false) : spanN s = 0 ∧ spanE s = 12 := by
  obtain ⟨h1, rfl, _, rfl⟩ := h
  exact span_form h1 ho
theorem of_long {s t : List UInt8} {neg : Bool} {L : List (List UInt8)} {u : Int} (h : SpanOf s t neg L) (ho : okP (ix 0 L) = true ∧ u = (sumP (ix 0 L) : Int)) (hu : 604800 ≤ u) : spanN s = 0 ∧ spanE s = 10 := by
  obtain ⟨h1, rfl, _, rfl⟩ := h
  exact span_long h1 ho.1 (by show _ ≤ sumP _; omega)
theorem of_neg {s t : List UInt8} {L : List (List UInt8)} {u : Int} (h : SpanOf s t true L) (ho : okP (ix 0 L) = true ∧ u = (sumP (ix 0 L) : Int)) (hu : u < 604800) : spanN s = -u ∧ spanE s = 0 := by
  obtain ⟨h1, rfl, h3, rfl⟩ := h
  have := span_neg h1 ho.1 (by show sumP _ < _; omega) h3
  rw [ho.2]; exact this
theorem of_pos {s t : List UInt8} {L : List (List UInt8)} {u : Int} (h : SpanOf s t false L) (ho : okP (ix 0 L) = true ∧ u = (sumP (ix 0 L) : Int)) (hu : u < 604800) : spanN s = u ∧ spanE s = 0 := by
  obtain ⟨h1, rfl, h3, rfl⟩ := h
  have := span_pos h1 ho.1 (by show sumP _ < _; omega) h3
  rw [ho.2]; exact this

def PartsIs (L : List (List UInt8)) (N : Nat) (w : World) (e : Ending) (w' : World) : Prop := ∃ A c, e = .returned (.slice A N c) ∧ w'.ownsRow w.heap.size 9 1 (.slice A N c) N (scl L) ∧ Below w.heap.size w w'
theorem rparts_is (t : List UInt8) (L : List (List UInt8)) (N : Nat) (w : World) (ht : t.length ≤ 1000) (h : Hid (pcs [] t = L ∧ L.length = N)) :
    Calls Tryz.prog 129 #[.string ⟨t.toArray⟩] w (PartsIs L N w) := by
  refine (rparts_any t w ht).mono ?_
  rintro e w' ⟨A, c, rfl, O, k⟩
  obtain ⟨rfl, rfl⟩ := h.out
  exact ⟨A, c, rfl, O, k⟩
theorem own_some {W : World} {base n c : Nat} {A : Option Addr} {l : List Value} (h : W.ownsRow base 9 1 (.slice A n c) n l) (h0 : 0 < n) : ∃ g, A = some ⟨g, 0, none⟩ := by
  obtain ⟨g', cap, hv, _, _⟩ := h.form h0
  exact ⟨g', by injection hv⟩

set_option maxRecDepth 100000 in
set_option maxHeartbeats 3200000 in
theorem rspan_nil (w : World) :
    Calls Tryz.prog 102 #[.string ⟨#[]⟩] w fun e w' => e = .returned (.tuple #[.int .i64 (spanN []), .int .i64 (spanE [])]) ∧ Below w.heap.size w w' := by
  have HE : Hid (spanN [] = 0 ∧ spanE [] = 12) := Lib.hid (by decide)
  have HPL : Hid (pcs [] [] = [[]] ∧ ([[]] : List (List UInt8)).length = 1) := Lib.hid ⟨rfl, rfl⟩
  have HV : Hid (digV [] = -1) := Lib.hid digV_nil
  go_enter Tryz.func102, Tryz.ntmps102
  go_wp2_with fail
  refine (rparts_is [] [[]] 1 _ (by simp) HPL).mono ?_
  rintro e w1 ⟨A, c, rfl, O, k1⟩
  simp only []
  have K1 := Lib.hid k1
  obtain ⟨g, rfl⟩ := own_some O (by omega)
  have c0 : w1.cell? ⟨g, 0, none⟩ = some (.string ⟨#[]⟩) := own_cell (p := []) O rfl
  clear O k1
  go_wp2_with (go_at_call 130; refine (rdig_is [] (-1) _ (by simp) HV).mono ?_; rintro e w2 ⟨rfl, rfl⟩; simp only [])
  go_ret2
  rw [HE.out.1, HE.out.2]
  exact ⟨rfl, K1.out⟩

set_option maxRecDepth 100000 in
set_option maxHeartbeats 3200000 in
theorem rspan_pos (b : UInt8) (r s t : List UInt8) (w : World) (hs0 : b :: r = s) (ht0 : b :: r = t) (hb : b ≠ 45) (hl : r.length ≤ 900) :
    Calls Tryz.prog 102 #[.string ⟨t.toArray⟩] w fun e w' => e = .returned (.tuple #[.int .i64 (spanN s), .int .i64 (spanE s)]) ∧ Below w.heap.size w w' := by
  have HS : Hid (s ≠ [45] ∧ Lib.trimPrefix s [45] = t ∧ Lib.hasPrefix s [45] = false) := Lib.hid (by
    subst hs0 ht0
    refine ⟨by simp [hb], ?_, by rw [hasPre]; simp [hb]⟩
    unfold Lib.trimPrefix
    rw [hasPre]; simp [hb])
  have tl : t.length ≤ 1000 := by rw [← ht0]; simp; omega
  have t1 : 0 < t.length := by rw [← ht0]; simp
  have hz : (⟨t.toArray⟩ : ByteArray).size = t.length := by simp [ByteArray.size]
  have h1 : (t == [45]) = false := by rw [← ht0]; simp [hb]
  have hix : ∀ W : World, (Instr.index 9 (.string ⟨t.toArray⟩) (.int .i64 0)).run Tryz.prog W = .ok (.int .u8 (b.toNat : Int)) W := byte_run t 0 t1 b (by rw [← ht0]; rfl)
  have hbn : ((b.toNat : Int) == 45) = false := by
    simp only [beq_eq_false_iff_ne]
    intro e
    exact hb (UInt8.toNat_inj.1 (by show b.toNat = 45; omega))
  clear hs0 ht0 hb hl
  go_enter Tryz.func102, Tryz.ntmps102
  obtain ⟨L, hL⟩ : ∃ L, pcs [] t = L := ⟨_, rfl⟩
  obtain ⟨N, hN⟩ : ∃ N, L.length = N := ⟨_, rfl⟩
  have HPL := Lib.hid (And.intro hL hN)
  have SO : Hid (SpanOf s t false L) := Lib.hid ⟨HS.out.1, HS.out.2.1, HS.out.2.2, hL⟩
  have n1 : 1 ≤ N := by rw [← hN, ← hL]; exact pcs_pos t []
  have hmem : ∀ (i : Nat) (p : List UInt8), L[i]? = some p → p.length ≤ 1000 := by
    intro i p hp
    have := pcs_le t [] p (by rw [hL]; exact List.mem_of_getElem? hp)
    simp at this; omega
  have HMEM := Lib.hid hmem
  clear hmem hL hN
  go_wp2_with fail
  refine (rparts_is t L N _ tl HPL).mono ?_
  rintro e w1 ⟨A, c, rfl, O, k1⟩
  simp only []
  have K1 := Lib.hid k1
  have HO := Lib.hid O
  clear k1 O
  by_cases h3 : 3 < N
  · have HE := Lib.hid (of_form SO.out (far_part (by rw [HPL.out.2]; exact h3)))
    have h3' : (3 : Int) < (N : Int) := by omega
    go_wp2
    go_ret2
    rw [HE.out.1, HE.out.2]
    exact ⟨rfl, K1.out⟩
  · obtain ⟨g, rfl⟩ := own_some HO.out (by omega)
    have h3' : (N : Int) ≤ 3 := by omega
    have n1' : 0 < N := by omega
    obtain ⟨p0, hp0⟩ : ∃ p, L[0]? = some p := ⟨L[0]'(by rw [HPL.out.2]; omega), by simp⟩
    have c0 := own_cell HO.out hp0
    have z0 : (⟨p0.toArray⟩ : ByteArray).size = p0.length := by simp [ByteArray.size]
    by_cases l3 : 3 < p0.length
    · have HE := Lib.hid (of_form SO.out (not_ok hp0 (fld0_bad (.inl l3))))
      have l3' : (3 : Int) < (p0.length : Int) := by omega
      clear hp0
      go_wp2
      go_ret2
      rw [HE.out.1, HE.out.2]
      exact ⟨rfl, K1.out⟩
    · have l3' : (p0.length : Int) ≤ 3 := by omega
      have l9 : p0.length ≤ 9 := by omega
      obtain ⟨v0, hv0⟩ : ∃ v, digV p0 = v := ⟨_, rfl⟩
      by_cases hv : v0 < 0
      · have HE := Lib.hid (of_form SO.out (not_ok hp0 (fld0_bad (.inr (by rw [hv0]; exact hv)))))
        have HV := Lib.hid hv0
        clear hp0 hv0
        go_wp2_with (go_at_call 130; ((with_reducible refine (rdig_is p0 v0 _ l9 HV).mono ?_)); rintro e w2 ⟨rfl, rfl⟩; simp only [])
        go_ret2
        rw [HE.out.1, HE.out.2]
        exact ⟨rfl, K1.out⟩
      · have v0' : 0 ≤ v0 := by omega
        have HV := Lib.hid hv0
        have F0 := fld0_ok (p := p0) (by omega) (by rw [hv0]; exact v0')
        rw [hv0] at F0
        have S1 : Hid (SumAt L 1 (3600 * v0)) := Lib.hid (by
          have := SumAt.next (i := 0) (v := 0) ⟨rfl, rfl⟩ hp0 F0.1
          rw [F0.2, Int.zero_add] at this; exact this)
        have sb := S1.out.bd (by omega)
        have vb : v0 ≤ 3000 := by omega
        clear hp0 hv0 F0 sb hv
        go_wp2_with (go_at_call 130; ((with_reducible refine (rdig_is p0 v0 _ l9 HV).mono ?_)); rintro e w2 ⟨rfl, rfl⟩; simp only [])
        go_loop [6, 7] (fun vn vi => ∃ (i : Nat) (u : Int), vi = .int .i64 i ∧ 1 ≤ i ∧ i ≤ N ∧ vn = .int .i64 u ∧ SumAt L i u) (fun _ vi => N - (intOf vi).toNat)
        case atStart => exact ⟨1, _, rfl, by omega, n1, rfl, S1.out⟩
        case round =>
          clear c0 z0 l3 l3' l9 v0' vb S1 HV
          obtain ⟨i, u, rfl, i1, i2, rfl, hS⟩ := hrel
          have HSum := Lib.hid hS
          have ub := hS.bd (by omega)
          clear hS
          by_cases hi : i < N
          · obtain ⟨p, hp⟩ : ∃ p, L[i]? = some p := ⟨L[i]'(by rw [HPL.out.2]; exact hi), by simp⟩
            have ci := own_cell HO.out hp
            have pl := HMEM.out i p hp
            have zp : (⟨p.toArray⟩ : ByteArray).size = p.length := by simp [ByteArray.size]
            have HPp := Lib.hid hp
            clear hp
            have i12 : i = 1 ∨ i = 2 := by omega
            rcases i12 with rfl | rfl
            · have hiN : (1 : Int) < (N : Int) := by omega
              by_cases h2 : p.length = 2
              · obtain ⟨v, hv⟩ : ∃ v, digV p = v := ⟨_, rfl⟩
                have p9 : p.length ≤ 9 := by omega
                by_cases hneg : v < 0
                · have HE := Lib.hid (of_form SO.out (not_ok HPp.out (fldk_bad (by omega) (.inr (.inl (by rw [hv]; exact hneg))))))
                  have HV := Lib.hid hv
                  clear hv
                  go_wp2_with (go_at_call 130; ((with_reducible refine (rdig_is p v _ p9 HV).mono ?_)); rintro e w2 ⟨rfl, rfl⟩; simp only [])
                  go_ret2
                  rw [HE.out.1, HE.out.2]
                  exact ⟨rfl, K1.out⟩
                · have v0' : 0 ≤ v := by omega
                  by_cases h59 : 59 < v
                  · have HE := Lib.hid (of_form SO.out (not_ok HPp.out (fldk_bad (by omega) (.inr (.inr (by rw [hv]; exact h59))))))
                    have HV := Lib.hid hv
                    clear hv
                    go_wp2_with (go_at_call 130; ((with_reducible refine (rdig_is p v _ p9 HV).mono ?_)); rintro e w2 ⟨rfl, rfl⟩; simp only [])
                    go_ret2
                    rw [HE.out.1, HE.out.2]
                    exact ⟨rfl, K1.out⟩
                  · have v59 : v ≤ 59 := by omega
                    have FK := fldk_ok (k := 1) (p := p) (by omega) h2 (by rw [hv]; exact v0') (by rw [hv]; exact v59)
                    rw [hv] at FK
                    have SN := SumAt.next HSum.out HPp.out FK.1
                    rw [FK.2] at SN
                    have HSN : Hid (SumAt L (1 + 1) (u + 60 * v)) := Lib.hid SN
                    have HV := Lib.hid hv
                    clear hv FK SN h59 hneg
                    go_wp2_with (go_at_call 130; ((with_reducible refine (rdig_is p v _ p9 HV).mono ?_)); rintro e w2 ⟨rfl, rfl⟩; simp only [])
                    go_round
                    case rel => exact ⟨2, _, rfl, by omega, by omega, rfl, HSN.out⟩
                    case measure => simp [intOf]; omega
              · have HE := Lib.hid (of_form SO.out (not_ok HPp.out (fldk_bad (by omega) (.inl h2))))
                have h2' : ((p.length : Int) != 2) = true := by simp; omega
                go_wp2_with (go_at_call 130; ((with_reducible refine (rdig_any p _ pl).mono ?_)); rintro e w2 ⟨v, hv, rfl, rfl⟩; simp only []; clear hv)
                go_ret2
                rw [HE.out.1, HE.out.2]
                exact ⟨rfl, K1.out⟩
            · have hiN : (2 : Int) < (N : Int) := by omega
              by_cases h2 : p.length = 2
              · obtain ⟨v, hv⟩ : ∃ v, digV p = v := ⟨_, rfl⟩
                have p9 : p.length ≤ 9 := by omega
                by_cases hneg : v < 0
                · have HE := Lib.hid (of_form SO.out (not_ok HPp.out (fldk_bad (by omega) (.inr (.inl (by rw [hv]; exact hneg))))))
                  have HV := Lib.hid hv
                  clear hv
                  go_wp2_with (go_at_call 130; ((with_reducible refine (rdig_is p v _ p9 HV).mono ?_)); rintro e w2 ⟨rfl, rfl⟩; simp only [])
                  go_ret2
                  rw [HE.out.1, HE.out.2]
                  exact ⟨rfl, K1.out⟩
                · have v0' : 0 ≤ v := by omega
                  by_cases h59 : 59 < v
                  · have HE := Lib.hid (of_form SO.out (not_ok HPp.out (fldk_bad (by omega) (.inr (.inr (by rw [hv]; exact h59))))))
                    have HV := Lib.hid hv
                    clear hv
                    go_wp2_with (go_at_call 130; ((with_reducible refine (rdig_is p v _ p9 HV).mono ?_)); rintro e w2 ⟨rfl, rfl⟩; simp only [])
                    go_ret2
                    rw [HE.out.1, HE.out.2]
                    exact ⟨rfl, K1.out⟩
                  · have v59 : v ≤ 59 := by omega
                    have FK := fldk_ok (k := 2) (p := p) (by omega) h2 (by rw [hv]; exact v0') (by rw [hv]; exact v59)
                    rw [hv] at FK
                    have SN := SumAt.next HSum.out HPp.out FK.1
                    rw [FK.2] at SN
                    have HSN : Hid (SumAt L (2 + 1) (u + v)) := Lib.hid SN
                    have HV := Lib.hid hv
                    clear hv FK SN h59 hneg
                    go_wp2_with (go_at_call 130; ((with_reducible refine (rdig_is p v _ p9 HV).mono ?_)); rintro e w2 ⟨rfl, rfl⟩; simp only [])
                    go_round
                    case rel => exact ⟨3, _, rfl, by omega, by omega, rfl, HSN.out⟩
                    case measure => simp [intOf]; omega
              · have HE := Lib.hid (of_form SO.out (not_ok HPp.out (fldk_bad (by omega) (.inl h2))))
                have h2' : ((p.length : Int) != 2) = true := by simp; omega
                go_wp2_with (go_at_call 130; ((with_reducible refine (rdig_any p _ pl).mono ?_)); rintro e w2 ⟨v, hv, rfl, rfl⟩; simp only []; clear hv)
                go_ret2
                rw [HE.out.1, HE.out.2]
                exact ⟨rfl, K1.out⟩
          · obtain rfl : i = N := by omega
            have ALL : Hid (okP (ix 0 L) = true ∧ u = (sumP (ix 0 L) : Int)) := Lib.hid (SumAt.all (by rw [HPL.out.2]; exact HSum.out))
            have hi' : ¬ (i : Int) < (i : Int) := by omega
            by_cases hu : 604800 ≤ u
            · have HE := Lib.hid (of_long SO.out ALL.out hu)
              go_wp2
              go_ret2
              rw [HE.out.1, HE.out.2]
              exact ⟨rfl, K1.out⟩
            · have HE := Lib.hid (of_pos SO.out ALL.out (by omega))
              have hu' : u < 604800 := by omega
              clear hu
              go_wp2
              go_ret2
              rw [HE.out.1, HE.out.2]
              exact ⟨rfl, K1.out⟩

set_option maxRecDepth 100000 in
set_option maxHeartbeats 3200000 in
theorem rspan_neg (s t : List UInt8) (w : World) (hs0 : 45 :: t = s) (h0 : 0 < t.length) (hl : t.length ≤ 900) :
    Calls Tryz.prog 102 #[.string ⟨s.toArray⟩] w fun e w' => e = .returned (.tuple #[.int .i64 (spanN s), .int .i64 (spanE s)]) ∧ Below w.heap.size w w' := by
  have HS : Hid (s ≠ [45] ∧ Lib.trimPrefix s [45] = t ∧ Lib.hasPrefix s [45] = true) := Lib.hid (by
    subst hs0
    refine ⟨by intro e; injection e with _ e; rw [e] at h0; simp at h0, ?_, by rw [hasPre]; simp⟩
    unfold Lib.trimPrefix
    rw [hasPre]; simp)
  have tl : t.length ≤ 1000 := by omega
  have hdr := drop_run 45 t
  rw [hs0] at hdr
  have s1 : 0 < s.length := by rw [← hs0]; simp
  have hix : ∀ W : World, (Instr.index 9 (.string ⟨s.toArray⟩) (.int .i64 0)).run Tryz.prog W = .ok (.int .u8 45) W := byte_run s 0 s1 45 (by rw [← hs0]; rfl)
  have hz : (⟨s.toArray⟩ : ByteArray).size = s.length := by simp [ByteArray.size]
  have h1 : (s == [45]) = false := by
    rw [← hs0]
    cases t with
    | nil => simp at h0
    | cons _ _ => simp
  clear hs0 hl h0
  go_enter Tryz.func102, Tryz.ntmps102
  obtain ⟨L, hL⟩ : ∃ L, pcs [] t = L := ⟨_, rfl⟩
  obtain ⟨N, hN⟩ : ∃ N, L.length = N := ⟨_, rfl⟩
  have HPL := Lib.hid (And.intro hL hN)
  have SO : Hid (SpanOf s t true L) := Lib.hid ⟨HS.out.1, HS.out.2.1, HS.out.2.2, hL⟩
  have n1 : 1 ≤ N := by rw [← hN, ← hL]; exact pcs_pos t []
  have hmem : ∀ (i : Nat) (p : List UInt8), L[i]? = some p → p.length ≤ 1000 := by
    intro i p hp
    have := pcs_le t [] p (by rw [hL]; exact List.mem_of_getElem? hp)
    simp at this; omega
  have HMEM := Lib.hid hmem
  clear hmem hL hN
  go_wp2_with fail
  refine (rparts_is t L N _ tl HPL).mono ?_
  rintro e w1 ⟨A, c, rfl, O, k1⟩
  simp only []
  have K1 := Lib.hid k1
  have HO := Lib.hid O
  clear k1 O
  by_cases h3 : 3 < N
  · have HE := Lib.hid (of_form SO.out (far_part (by rw [HPL.out.2]; exact h3)))
    have h3' : (3 : Int) < (N : Int) := by omega
    go_wp2
    go_ret2
    rw [HE.out.1, HE.out.2]
    exact ⟨rfl, K1.out⟩
  · obtain ⟨g, rfl⟩ := own_some HO.out (by omega)
    have h3' : (N : Int) ≤ 3 := by omega
    have n1' : 0 < N := by omega
    obtain ⟨p0, hp0⟩ : ∃ p, L[0]? = some p := ⟨L[0]'(by rw [HPL.out.2]; omega), by simp⟩
    have c0 := own_cell HO.out hp0
    have z0 : (⟨p0.toArray⟩ : ByteArray).size = p0.length := by simp [ByteArray.size]
    by_cases l3 : 3 < p0.length
    · have HE := Lib.hid (of_form SO.out (not_ok hp0 (fld0_bad (.inl l3))))
      have l3' : (3 : Int) < (p0.length : Int) := by omega
      clear hp0
      go_wp2
      go_ret2
      rw [HE.out.1, HE.out.2]
      exact ⟨rfl, K1.out⟩
    · have l3' : (p0.length : Int) ≤ 3 := by omega
      have l9 : p0.length ≤ 9 := by omega
      obtain ⟨v0, hv0⟩ : ∃ v, digV p0 = v := ⟨_, rfl⟩
      by_cases hv : v0 < 0
      · have HE := Lib.hid (of_form SO.out (not_ok hp0 (fld0_bad (.inr (by rw [hv0]; exact hv)))))
        have HV := Lib.hid hv0
        clear hp0 hv0
        go_wp2_with (go_at_call 130; ((with_reducible refine (rdig_is p0 v0 _ l9 HV).mono ?_)); rintro e w2 ⟨rfl, rfl⟩; simp only [])
        go_ret2
        rw [HE.out.1, HE.out.2]
        exact ⟨rfl, K1.out⟩
      · have v0' : 0 ≤ v0 := by omega
        have HV := Lib.hid hv0
        have F0 := fld0_ok (p := p0) (by omega) (by rw [hv0]; exact v0')
        rw [hv0] at F0
        have S1 : Hid (SumAt L 1 (3600 * v0)) := Lib.hid (by
          have := SumAt.next (i := 0) (v := 0) ⟨rfl, rfl⟩ hp0 F0.1
          rw [F0.2, Int.zero_add] at this; exact this)
        have sb := S1.out.bd (by omega)
        have vb : v0 ≤ 3000 := by omega
        clear hp0 hv0 F0 sb hv
        go_wp2_with (go_at_call 130; ((with_reducible refine (rdig_is p0 v0 _ l9 HV).mono ?_)); rintro e w2 ⟨rfl, rfl⟩; simp only [])
        go_loop [6, 7] (fun vn vi => ∃ (i : Nat) (u : Int), vi = .int .i64 i ∧ 1 ≤ i ∧ i ≤ N ∧ vn = .int .i64 u ∧ SumAt L i u) (fun _ vi => N - (intOf vi).toNat)
        case atStart => exact ⟨1, _, rfl, by omega, n1, rfl, S1.out⟩
        case round =>
          clear c0 z0 l3 l3' l9 v0' vb S1 HV
          obtain ⟨i, u, rfl, i1, i2, rfl, hS⟩ := hrel
          have HSum := Lib.hid hS
          have ub := hS.bd (by omega)
          clear hS
          by_cases hi : i < N
          · obtain ⟨p, hp⟩ : ∃ p, L[i]? = some p := ⟨L[i]'(by rw [HPL.out.2]; exact hi), by simp⟩
            have ci := own_cell HO.out hp
            have pl := HMEM.out i p hp
            have zp : (⟨p.toArray⟩ : ByteArray).size = p.length := by simp [ByteArray.size]
            have HPp := Lib.hid hp
            clear hp
            have i12 : i = 1 ∨ i = 2 := by omega
            rcases i12 with rfl | rfl
            · have hiN : (1 : Int) < (N : Int) := by omega
              by_cases h2 : p.length = 2
              · obtain ⟨v, hv⟩ : ∃ v, digV p = v := ⟨_, rfl⟩
                have p9 : p.length ≤ 9 := by omega
                by_cases hneg : v < 0
                · have HE := Lib.hid (of_form SO.out (not_ok HPp.out (fldk_bad (by omega) (.inr (.inl (by rw [hv]; exact hneg))))))
                  have HV := Lib.hid hv
                  clear hv
                  go_wp2_with (go_at_call 130; ((with_reducible refine (rdig_is p v _ p9 HV).mono ?_)); rintro e w2 ⟨rfl, rfl⟩; simp only [])
                  go_ret2
                  rw [HE.out.1, HE.out.2]
                  exact ⟨rfl, K1.out⟩
                · have v0' : 0 ≤ v := by omega
                  by_cases h59 : 59 < v
                  · have HE := Lib.hid (of_form SO.out (not_ok HPp.out (fldk_bad (by omega) (.inr (.inr (by rw [hv]; exact h59))))))
                    have HV := Lib.hid hv
                    clear hv
                    go_wp2_with (go_at_call 130; ((with_reducible refine (rdig_is p v _ p9 HV).mono ?_)); rintro e w2 ⟨rfl, rfl⟩; simp only [])
                    go_ret2
                    rw [HE.out.1, HE.out.2]
                    exact ⟨rfl, K1.out⟩
                  · have v59 : v ≤ 59 := by omega
                    have FK := fldk_ok (k := 1) (p := p) (by omega) h2 (by rw [hv]; exact v0') (by rw [hv]; exact v59)
                    rw [hv] at FK
                    have SN := SumAt.next HSum.out HPp.out FK.1
                    rw [FK.2] at SN
                    have HSN : Hid (SumAt L (1 + 1) (u + 60 * v)) := Lib.hid SN
                    have HV := Lib.hid hv
                    clear hv FK SN h59 hneg
                    go_wp2_with (go_at_call 130; ((with_reducible refine (rdig_is p v _ p9 HV).mono ?_)); rintro e w2 ⟨rfl, rfl⟩; simp only [])
                    go_round
                    case rel => exact ⟨2, _, rfl, by omega, by omega, rfl, HSN.out⟩
                    case measure => simp [intOf]; omega
              · have HE := Lib.hid (of_form SO.out (not_ok HPp.out (fldk_bad (by omega) (.inl h2))))
                have h2' : ((p.length : Int) != 2) = true := by simp; omega
                go_wp2_with (go_at_call 130; ((with_reducible refine (rdig_any p _ pl).mono ?_)); rintro e w2 ⟨v, hv, rfl, rfl⟩; simp only []; clear hv)
                go_ret2
                rw [HE.out.1, HE.out.2]
                exact ⟨rfl, K1.out⟩
            · have hiN : (2 : Int) < (N : Int) := by omega
              by_cases h2 : p.length = 2
              · obtain ⟨v, hv⟩ : ∃ v, digV p = v := ⟨_, rfl⟩
                have p9 : p.length ≤ 9 := by omega
                by_cases hneg : v < 0
                · have HE := Lib.hid (of_form SO.out (not_ok HPp.out (fldk_bad (by omega) (.inr (.inl (by rw [hv]; exact hneg))))))
                  have HV := Lib.hid hv
                  clear hv
                  go_wp2_with (go_at_call 130; ((with_reducible refine (rdig_is p v _ p9 HV).mono ?_)); rintro e w2 ⟨rfl, rfl⟩; simp only [])
                  go_ret2
                  rw [HE.out.1, HE.out.2]
                  exact ⟨rfl, K1.out⟩
                · have v0' : 0 ≤ v := by omega
                  by_cases h59 : 59 < v
                  · have HE := Lib.hid (of_form SO.out (not_ok HPp.out (fldk_bad (by omega) (.inr (.inr (by rw [hv]; exact h59))))))
                    have HV := Lib.hid hv
                    clear hv
                    go_wp2_with (go_at_call 130; ((with_reducible refine (rdig_is p v _ p9 HV).mono ?_)); rintro e w2 ⟨rfl, rfl⟩; simp only [])
                    go_ret2
                    rw [HE.out.1, HE.out.2]
                    exact ⟨rfl, K1.out⟩
                  · have v59 : v ≤ 59 := by omega
                    have FK := fldk_ok (k := 2) (p := p) (by omega) h2 (by rw [hv]; exact v0') (by rw [hv]; exact v59)
                    rw [hv] at FK
                    have SN := SumAt.next HSum.out HPp.out FK.1
                    rw [FK.2] at SN
                    have HSN : Hid (SumAt L (2 + 1) (u + v)) := Lib.hid SN
                    have HV := Lib.hid hv
                    clear hv FK SN h59 hneg
                    go_wp2_with (go_at_call 130; ((with_reducible refine (rdig_is p v _ p9 HV).mono ?_)); rintro e w2 ⟨rfl, rfl⟩; simp only [])
                    go_round
                    case rel => exact ⟨3, _, rfl, by omega, by omega, rfl, HSN.out⟩
                    case measure => simp [intOf]; omega
              · have HE := Lib.hid (of_form SO.out (not_ok HPp.out (fldk_bad (by omega) (.inl h2))))
                have h2' : ((p.length : Int) != 2) = true := by simp; omega
                go_wp2_with (go_at_call 130; ((with_reducible refine (rdig_any p _ pl).mono ?_)); rintro e w2 ⟨v, hv, rfl, rfl⟩; simp only []; clear hv)
                go_ret2
                rw [HE.out.1, HE.out.2]
                exact ⟨rfl, K1.out⟩
          · obtain rfl : i = N := by omega
            have ALL : Hid (okP (ix 0 L) = true ∧ u = (sumP (ix 0 L) : Int)) := Lib.hid (SumAt.all (by rw [HPL.out.2]; exact HSum.out))
            have hi' : ¬ (i : Int) < (i : Int) := by omega
            by_cases hu : 604800 ≤ u
            · have HE := Lib.hid (of_long SO.out ALL.out hu)
              go_wp2
              go_ret2
              rw [HE.out.1, HE.out.2]
              exact ⟨rfl, K1.out⟩
            · have HE := Lib.hid (of_neg SO.out ALL.out (by omega))
              have hu' : u < 604800 := by omega
              clear hu
              go_wp2
              go_ret2
              rw [HE.out.1, HE.out.2]
              exact ⟨rfl, K1.out⟩

theorem rspan_any (s : List UInt8) (w : World) (hs : s.length ≤ 900) :
    Calls Tryz.prog 102 #[.string ⟨s.toArray⟩] w fun e w' => e = .returned (.tuple #[.int .i64 (spanN s), .int .i64 (spanE s)]) ∧ Below w.heap.size w w' := by
  cases s with
  | nil => exact rspan_nil w
  | cons b r =>
    simp only [List.length_cons] at hs
    by_cases hb : b = 45
    · subst hb
      cases r with
      | nil =>
        go_enter Tryz.func102, Tryz.ntmps102
        go_wp2
        go_ret2
        rw [spanN_dash.1, spanN_dash.2]
        exact ⟨rfl, Below.refl _ _⟩
      | cons c r => exact rspan_neg _ (c :: r) w rfl (by simp) (by simp only [List.length_cons] at hs ⊢; omega)
    · exact rspan_pos b r _ _ w rfl rfl hb (by omega)
end Go.Proofs.YtfmehdophoejiaaGreatDoor

namespace Go.Proofs.YtfmehdophoejiaaGreatDoor
open Go.RowKit

theorem last_run (s : List UInt8) (c : UInt8) (h : s.getLast? = some c) (W : World) : (Instr.index 9 (.string ⟨s.toArray⟩) (.int .i64 ((s.length : Int) - 1))).run Tryz.prog W = .ok (.int .u8 (c.toNat : Int)) W := by
  obtain ⟨q, rfl⟩ := List.getLast?_eq_some_iff.1 h
  have e : (((q ++ [c]).length : Int) - 1) = ((q.length : Nat) : Int) := by simp
  rw [e]
  exact byte_run (q ++ [c]) q.length (by simp) c (by simp) W
theorem init_run (s : List UInt8) (h : 0 < s.length) (W : World) : (Instr.slice 9 (.string ⟨s.toArray⟩) none (some (.int .i64 ((s.length : Int) - 1))) none).run Tryz.prog W = .ok (.string ⟨s.dropLast.toArray⟩) W := by
  have hs : (⟨s.toArray⟩ : ByteArray).size = s.length := by simp [ByteArray.size]
  rw [run_slice_string_to_if (h := Tryz.underlying9), if_pos ⟨by omega, by rw [hs]; omega⟩]
  have e : ((s.length : Int) - 1).toNat = s.length - 1 := by omega
  rw [e]
  congr 2
  simp [ByteArray.extract_mk, List.dropLast_eq_take]
theorem rspan_is (s : List UInt8) (n x : Int) (w : World) (hs : s.length ≤ 900) (h : Hid (spanN s = n ∧ spanE s = x)) :
    Calls Tryz.prog 102 #[.string ⟨s.toArray⟩] w fun e w' => e = .returned (.tuple #[.int .i64 n, .int .i64 x]) ∧ Below w.heap.size w w' := by
  have := rspan_any s w hs
  rwa [h.out.1, h.out.2] at this
theorem byte_ne {b c : UInt8} (h : b ≠ c) : ((b.toNat : Int) == (c.toNat : Int)) = false := by
  simp only [beq_eq_false_iff_ne]
  intro e
  exact h (UInt8.toNat_inj.1 (by omega))

theorem rpar_nil_ok  (n : Int) (w : World) (h : Hid (spanN [] = n ∧ spanE [] = 0)) :
    Calls Tryz.prog 65 #[.string ⟨#[]⟩] w fun e w' => e = .returned (.tuple #[.agg #[.int .i64 n, .int .i64 0], .int .i64 0]) ∧ Below w.heap.size w w' := by
  have B := Lib.hid (Blk2.new w 0 0 32)
  go_enter Tryz.func65, Tryz.ntmps65
  go_wp2_with (go_at_call 102; ((with_reducible refine (rspan_is [] n 0 _ (by simp) h).mono ?_)); rintro e w1 ⟨rfl, k1⟩; simp only []
               have B1 := Lib.hid (B.out.next k1)
               have lt := B1.out.lt
               have c0 := B1.out.c0
               have c1 := B1.out.c1
               have f0 := B1.out.f0
               have f1 := B1.out.f1)
  refine ((Blk2.new w 0 0 32).next k1).store n 0 |>.ret fun W' B3 => ?_
  clear lt c0 c1 f0 f1
  have c0 := B3.c0
  have c1 := B3.c1
  exact bodyPost_ret (v := .tuple #[.agg #[.int .i64 n, .int .i64 0], .int .i64 0]) (by simp [results, Tryz.results65, go_sem, c0, c1]) rfl ⟨rfl, B3.bel⟩

theorem rpar_nil_er  (n x : Int) (w : World) (h : Hid (spanN [] = n ∧ spanE [] = x)) (hx : x ≠ 0) :
    Calls Tryz.prog 65 #[.string ⟨#[]⟩] w fun e w' => e = .returned (.tuple #[.agg #[.int .i64 0, .int .i64 0], .int .i64 x]) ∧ Below w.heap.size w w' := by
  have B := Lib.hid (Blk2.new w 0 0 32)
  go_enter Tryz.func65, Tryz.ntmps65
  go_wp2_with (go_at_call 102; ((with_reducible refine (rspan_is [] n x _ (by simp) h).mono ?_)); rintro e w1 ⟨rfl, k1⟩; simp only []
               have B1 := Lib.hid (B.out.next k1)
               have lt := B1.out.lt
               have c0 := B1.out.c0
               have c1 := B1.out.c1
               have f0 := B1.out.f0
               have f1 := B1.out.f1)
  refine ((Blk2.new w 0 0 32).next k1).store 0 0 |>.ret fun W' B3 => ?_
  clear lt c0 c1 f0 f1
  have c0 := B3.c0
  have c1 := B3.c1
  exact bodyPost_ret (v := .tuple #[.agg #[.int .i64 0, .int .i64 0], .int .i64 x]) (by simp [results, Tryz.results65, go_sem, c0, c1]) rfl ⟨rfl, B3.bel⟩

theorem rpar_o_ok (c : UInt8) (s : List UInt8) (hs : s.length ≤ 900) (hl : s.getLast? = some c) (n0 : c ≠ 119) (n1 : c ≠ 115) (n2 : c ≠ 117) (n3 : c ≠ 103) (n4 : c ≠ 122) (n : Int) (w : World) (h : Hid (spanN s = n ∧ spanE s = 0)) :
    Calls Tryz.prog 65 #[.string ⟨s.toArray⟩] w fun e w' => e = .returned (.tuple #[.agg #[.int .i64 n, .int .i64 0], .int .i64 0]) ∧ Below w.heap.size w w' := by
  have hix := last_run s c hl
  have hz : (⟨s.toArray⟩ : ByteArray).size = s.length := by simp [ByteArray.size]
  have m0 : ((c.toNat : Int) == 119) = false := byte_ne n0
  have m1 : ((c.toNat : Int) == 115) = false := byte_ne n1
  have m2 : ((c.toNat : Int) == 117) = false := byte_ne n2
  have m3 : ((c.toNat : Int) == 103) = false := byte_ne n3
  have m4 : ((c.toNat : Int) == 122) = false := byte_ne n4
  have s0 : 0 < s.length := by cases s with | nil => simp at hl | cons _ _ => simp
  have s1 : 0 < (s.length : Int) := by omega
  clear hl n0 n1 n2 n3 n4
  have B := Lib.hid (Blk2.new w 0 0 32)
  go_enter Tryz.func65, Tryz.ntmps65
  go_wp2_with (go_at_call 102; ((with_reducible refine (rspan_is s n 0 _ hs h).mono ?_)); rintro e w1 ⟨rfl, k1⟩; simp only []
               have B1 := Lib.hid (B.out.next k1)
               have lt := B1.out.lt
               have c0 := B1.out.c0
               have c1 := B1.out.c1
               have f0 := B1.out.f0
               have f1 := B1.out.f1)
  refine ((Blk2.new w 0 0 32).next k1).store n 0 |>.ret fun W' B3 => ?_
  clear lt c0 c1 f0 f1
  have c0 := B3.c0
  have c1 := B3.c1
  exact bodyPost_ret (v := .tuple #[.agg #[.int .i64 n, .int .i64 0], .int .i64 0]) (by simp [results, Tryz.results65, go_sem, c0, c1]) rfl ⟨rfl, B3.bel⟩

theorem rpar_o_er (c : UInt8) (s : List UInt8) (hs : s.length ≤ 900) (hl : s.getLast? = some c) (n0 : c ≠ 119) (n1 : c ≠ 115) (n2 : c ≠ 117) (n3 : c ≠ 103) (n4 : c ≠ 122) (n x : Int) (w : World) (h : Hid (spanN s = n ∧ spanE s = x)) (hx : x ≠ 0) :
    Calls Tryz.prog 65 #[.string ⟨s.toArray⟩] w fun e w' => e = .returned (.tuple #[.agg #[.int .i64 0, .int .i64 0], .int .i64 x]) ∧ Below w.heap.size w w' := by
  have hix := last_run s c hl
  have hz : (⟨s.toArray⟩ : ByteArray).size = s.length := by simp [ByteArray.size]
  have m0 : ((c.toNat : Int) == 119) = false := byte_ne n0
  have m1 : ((c.toNat : Int) == 115) = false := byte_ne n1
  have m2 : ((c.toNat : Int) == 117) = false := byte_ne n2
  have m3 : ((c.toNat : Int) == 103) = false := byte_ne n3
  have m4 : ((c.toNat : Int) == 122) = false := byte_ne n4
  have s0 : 0 < s.length := by cases s with | nil => simp at hl | cons _ _ => simp
  have s1 : 0 < (s.length : Int) := by omega
  clear hl n0 n1 n2 n3 n4
  have B := Lib.hid (Blk2.new w 0 0 32)
  go_enter Tryz.func65, Tryz.ntmps65
  go_wp2_with (go_at_call 102; ((with_reducible refine (rspan_is s n x _ hs h).mono ?_)); rintro e w1 ⟨rfl, k1⟩; simp only []
               have B1 := Lib.hid (B.out.next k1)
               have lt := B1.out.lt
               have c0 := B1.out.c0
               have c1 := B1.out.c1
               have f0 := B1.out.f0
               have f1 := B1.out.f1)
  refine ((Blk2.new w 0 0 32).next k1).store 0 0 |>.ret fun W' B3 => ?_
  clear lt c0 c1 f0 f1
  have c0 := B3.c0
  have c1 := B3.c1
  exact bodyPost_ret (v := .tuple #[.agg #[.int .i64 0, .int .i64 0], .int .i64 x]) (by simp [results, Tryz.results65, go_sem, c0, c1]) rfl ⟨rfl, B3.bel⟩

theorem rpar_w_ok (s : List UInt8) (hs : s.length ≤ 900) (hl : s.getLast? = some 119) (n : Int) (w : World) (h : Hid (spanN s.dropLast = n ∧ spanE s.dropLast = 0)) :
    Calls Tryz.prog 65 #[.string ⟨s.toArray⟩] w fun e w' => e = .returned (.tuple #[.agg #[.int .i64 n, .int .i64 0], .int .i64 0]) ∧ Below w.heap.size w w' := by
  have hix : ∀ W : World, (Instr.index 9 (.string ⟨s.toArray⟩) (.int .i64 ((s.length : Int) - 1))).run Tryz.prog W = .ok (.int .u8 119) W := last_run s 119 hl
  have hz : (⟨s.toArray⟩ : ByteArray).size = s.length := by simp [ByteArray.size]
  have s0 : 0 < s.length := by cases s with | nil => simp at hl | cons _ _ => simp
  have s1 : 0 < (s.length : Int) := by omega
  have hsl := init_run s s0
  have tl : s.dropLast.length ≤ 900 := by rw [List.length_dropLast]; omega
  clear hl
  have B := Lib.hid (Blk2.new w 0 0 32)
  go_enter Tryz.func65, Tryz.ntmps65
  go_wp2_with (go_at_call 102; ((with_reducible refine (rspan_is s.dropLast n 0 _ tl h).mono ?_)); rintro e w1 ⟨rfl, k1⟩; simp only []
               have B1 := Lib.hid (B.out.next k1)
               have lt := B1.out.lt
               have c0 := B1.out.c0
               have c1 := B1.out.c1
               have f0 := B1.out.f0
               have f1 := B1.out.f1)
  refine ((Blk2.new w 0 0 32).next k1).store n 0 |>.ret fun W' B3 => ?_
  clear lt c0 c1 f0 f1
  have c0 := B3.c0
  have c1 := B3.c1
  exact bodyPost_ret (v := .tuple #[.agg #[.int .i64 n, .int .i64 0], .int .i64 0]) (by simp [results, Tryz.results65, go_sem, c0, c1]) rfl ⟨rfl, B3.bel⟩

theorem rpar_w_er (s : List UInt8) (hs : s.length ≤ 900) (hl : s.getLast? = some 119) (n x : Int) (w : World) (h : Hid (spanN s.dropLast = n ∧ spanE s.dropLast = x)) (hx : x ≠ 0) :
    Calls Tryz.prog 65 #[.string ⟨s.toArray⟩] w fun e w' => e = .returned (.tuple #[.agg #[.int .i64 0, .int .i64 0], .int .i64 x]) ∧ Below w.heap.size w w' := by
  have hix : ∀ W : World, (Instr.index 9 (.string ⟨s.toArray⟩) (.int .i64 ((s.length : Int) - 1))).run Tryz.prog W = .ok (.int .u8 119) W := last_run s 119 hl
  have hz : (⟨s.toArray⟩ : ByteArray).size = s.length := by simp [ByteArray.size]
  have s0 : 0 < s.length := by cases s with | nil => simp at hl | cons _ _ => simp
  have s1 : 0 < (s.length : Int) := by omega
  have hsl := init_run s s0
  have tl : s.dropLast.length ≤ 900 := by rw [List.length_dropLast]; omega
  clear hl
  have B := Lib.hid (Blk2.new w 0 0 32)
  go_enter Tryz.func65, Tryz.ntmps65
  go_wp2_with (go_at_call 102; ((with_reducible refine (rspan_is s.dropLast n x _ tl h).mono ?_)); rintro e w1 ⟨rfl, k1⟩; simp only []
               have B1 := Lib.hid (B.out.next k1)
               have lt := B1.out.lt
               have c0 := B1.out.c0
               have c1 := B1.out.c1
               have f0 := B1.out.f0
               have f1 := B1.out.f1)
  refine ((Blk2.new w 0 0 32).next k1).store 0 0 |>.ret fun W' B3 => ?_
  clear lt c0 c1 f0 f1
  have c0 := B3.c0
  have c1 := B3.c1
  exact bodyPost_ret (v := .tuple #[.agg #[.int .i64 0, .int .i64 0], .int .i64 x]) (by simp [results, Tryz.results65, go_sem, c0, c1]) rfl ⟨rfl, B3.bel⟩

theorem rpar_s_ok (s : List UInt8) (hs : s.length ≤ 900) (hl : s.getLast? = some 115) (n : Int) (w : World) (h : Hid (spanN s.dropLast = n ∧ spanE s.dropLast = 0)) :
    Calls Tryz.prog 65 #[.string ⟨s.toArray⟩] w fun e w' => e = .returned (.tuple #[.agg #[.int .i64 n, .int .i64 1], .int .i64 0]) ∧ Below w.heap.size w w' := by
  have hix : ∀ W : World, (Instr.index 9 (.string ⟨s.toArray⟩) (.int .i64 ((s.length : Int) - 1))).run Tryz.prog W = .ok (.int .u8 115) W := last_run s 115 hl
  have hz : (⟨s.toArray⟩ : ByteArray).size = s.length := by simp [ByteArray.size]
  have s0 : 0 < s.length := by cases s with | nil => simp at hl | cons _ _ => simp
  have s1 : 0 < (s.length : Int) := by omega
  have hsl := init_run s s0
  have tl : s.dropLast.length ≤ 900 := by rw [List.length_dropLast]; omega
  clear hl
  have B := Lib.hid (Blk2.new w 0 0 32)
  go_enter Tryz.func65, Tryz.ntmps65
  go_wp2_with (go_at_call 102; ((with_reducible refine (rspan_is s.dropLast n 0 _ tl h).mono ?_)); rintro e w1 ⟨rfl, k1⟩; simp only []
               have B1 := Lib.hid (B.out.next k1)
               have lt := B1.out.lt
               have c0 := B1.out.c0
               have c1 := B1.out.c1
               have f0 := B1.out.f0
               have f1 := B1.out.f1)
  refine ((Blk2.new w 0 0 32).next k1).store n 1 |>.ret fun W' B3 => ?_
  clear lt c0 c1 f0 f1
  have c0 := B3.c0
  have c1 := B3.c1
  exact bodyPost_ret (v := .tuple #[.agg #[.int .i64 n, .int .i64 1], .int .i64 0]) (by simp [results, Tryz.results65, go_sem, c0, c1]) rfl ⟨rfl, B3.bel⟩

theorem rpar_s_er (s : List UInt8) (hs : s.length ≤ 900) (hl : s.getLast? = some 115) (n x : Int) (w : World) (h : Hid (spanN s.dropLast = n ∧ spanE s.dropLast = x)) (hx : x ≠ 0) :
    Calls Tryz.prog 65 #[.string ⟨s.toArray⟩] w fun e w' => e = .returned (.tuple #[.agg #[.int .i64 0, .int .i64 0], .int .i64 x]) ∧ Below w.heap.size w w' := by
  have hix : ∀ W : World, (Instr.index 9 (.string ⟨s.toArray⟩) (.int .i64 ((s.length : Int) - 1))).run Tryz.prog W = .ok (.int .u8 115) W := last_run s 115 hl
  have hz : (⟨s.toArray⟩ : ByteArray).size = s.length := by simp [ByteArray.size]
  have s0 : 0 < s.length := by cases s with | nil => simp at hl | cons _ _ => simp
  have s1 : 0 < (s.length : Int) := by omega
  have hsl := init_run s s0
  have tl : s.dropLast.length ≤ 900 := by rw [List.length_dropLast]; omega
  clear hl
  have B := Lib.hid (Blk2.new w 0 0 32)
  go_enter Tryz.func65, Tryz.ntmps65
  go_wp2_with (go_at_call 102; ((with_reducible refine (rspan_is s.dropLast n x _ tl h).mono ?_)); rintro e w1 ⟨rfl, k1⟩; simp only []
               have B1 := Lib.hid (B.out.next k1)
               have lt := B1.out.lt
               have c0 := B1.out.c0
               have c1 := B1.out.c1
               have f0 := B1.out.f0
               have f1 := B1.out.f1)
  refine ((Blk2.new w 0 0 32).next k1).store 0 0 |>.ret fun W' B3 => ?_
  clear lt c0 c1 f0 f1
  have c0 := B3.c0
  have c1 := B3.c1
  exact bodyPost_ret (v := .tuple #[.agg #[.int .i64 0, .int .i64 0], .int .i64 x]) (by simp [results, Tryz.results65, go_sem, c0, c1]) rfl ⟨rfl, B3.bel⟩

theorem rpar_u_ok (s : List UInt8) (hs : s.length ≤ 900) (hl : s.getLast? = some 117) (n : Int) (w : World) (h : Hid (spanN s.dropLast = n ∧ spanE s.dropLast = 0)) :
    Calls Tryz.prog 65 #[.string ⟨s.toArray⟩] w fun e w' => e = .returned (.tuple #[.agg #[.int .i64 n, .int .i64 2], .int .i64 0]) ∧ Below w.heap.size w w' := by
  have hix : ∀ W : World, (Instr.index 9 (.string ⟨s.toArray⟩) (.int .i64 ((s.length : Int) - 1))).run Tryz.prog W = .ok (.int .u8 117) W := last_run s 117 hl
  have hz : (⟨s.toArray⟩ : ByteArray).size = s.length := by simp [ByteArray.size]
  have s0 : 0 < s.length := by cases s with | nil => simp at hl | cons _ _ => simp
  have s1 : 0 < (s.length : Int) := by omega
  have hsl := init_run s s0
  have tl : s.dropLast.length ≤ 900 := by rw [List.length_dropLast]; omega
  clear hl
  have B := Lib.hid (Blk2.new w 0 0 32)
  go_enter Tryz.func65, Tryz.ntmps65
  go_wp2_with (go_at_call 102; ((with_reducible refine (rspan_is s.dropLast n 0 _ tl h).mono ?_)); rintro e w1 ⟨rfl, k1⟩; simp only []
               have B1 := Lib.hid (B.out.next k1)
               have lt := B1.out.lt
               have c0 := B1.out.c0
               have c1 := B1.out.c1
               have f0 := B1.out.f0
               have f1 := B1.out.f1)
  refine ((Blk2.new w 0 0 32).next k1).store n 2 |>.ret fun W' B3 => ?_
  clear lt c0 c1 f0 f1
  have c0 := B3.c0
  have c1 := B3.c1
  exact bodyPost_ret (v := .tuple #[.agg #[.int .i64 n, .int .i64 2], .int .i64 0]) (by simp [results, Tryz.results65, go_sem, c0, c1]) rfl ⟨rfl, B3.bel⟩

theorem rpar_u_er (s : List UInt8) (hs : s.length ≤ 900) (hl : s.getLast? = some 117) (n x : Int) (w : World) (h : Hid (spanN s.dropLast = n ∧ spanE s.dropLast = x)) (hx : x ≠ 0) :
    Calls Tryz.prog 65 #[.string ⟨s.toArray⟩] w fun e w' => e = .returned (.tuple #[.agg #[.int .i64 0, .int .i64 0], .int .i64 x]) ∧ Below w.heap.size w w' := by
  have hix : ∀ W : World, (Instr.index 9 (.string ⟨s.toArray⟩) (.int .i64 ((s.length : Int) - 1))).run Tryz.prog W = .ok (.int .u8 117) W := last_run s 117 hl
  have hz : (⟨s.toArray⟩ : ByteArray).size = s.length := by simp [ByteArray.size]
  have s0 : 0 < s.length := by cases s with | nil => simp at hl | cons _ _ => simp
  have s1 : 0 < (s.length : Int) := by omega
  have hsl := init_run s s0
  have tl : s.dropLast.length ≤ 900 := by rw [List.length_dropLast]; omega
  clear hl
  have B := Lib.hid (Blk2.new w 0 0 32)
  go_enter Tryz.func65, Tryz.ntmps65
  go_wp2_with (go_at_call 102; ((with_reducible refine (rspan_is s.dropLast n x _ tl h).mono ?_)); rintro e w1 ⟨rfl, k1⟩; simp only []
               have B1 := Lib.hid (B.out.next k1)
               have lt := B1.out.lt
               have c0 := B1.out.c0
               have c1 := B1.out.c1
               have f0 := B1.out.f0
               have f1 := B1.out.f1)
  refine ((Blk2.new w 0 0 32).next k1).store 0 0 |>.ret fun W' B3 => ?_
  clear lt c0 c1 f0 f1
  have c0 := B3.c0
  have c1 := B3.c1
  exact bodyPost_ret (v := .tuple #[.agg #[.int .i64 0, .int .i64 0], .int .i64 x]) (by simp [results, Tryz.results65, go_sem, c0, c1]) rfl ⟨rfl, B3.bel⟩

theorem rpar_g_ok (s : List UInt8) (hs : s.length ≤ 900) (hl : s.getLast? = some 103) (n : Int) (w : World) (h : Hid (spanN s.dropLast = n ∧ spanE s.dropLast = 0)) :
    Calls Tryz.prog 65 #[.string ⟨s.toArray⟩] w fun e w' => e = .returned (.tuple #[.agg #[.int .i64 n, .int .i64 2], .int .i64 0]) ∧ Below w.heap.size w w' := by
  have hix : ∀ W : World, (Instr.index 9 (.string ⟨s.toArray⟩) (.int .i64 ((s.length : Int) - 1))).run Tryz.prog W = .ok (.int .u8 103) W := last_run s 103 hl
  have hz : (⟨s.toArray⟩ : ByteArray).size = s.length := by simp [ByteArray.size]
  have s0 : 0 < s.length := by cases s with | nil => simp at hl | cons _ _ => simp
  have s1 : 0 < (s.length : Int) := by omega
  have hsl := init_run s s0
  have tl : s.dropLast.length ≤ 900 := by rw [List.length_dropLast]; omega
  clear hl
  have B := Lib.hid (Blk2.new w 0 0 32)
  go_enter Tryz.func65, Tryz.ntmps65
  go_wp2_with (go_at_call 102; ((with_reducible refine (rspan_is s.dropLast n 0 _ tl h).mono ?_)); rintro e w1 ⟨rfl, k1⟩; simp only []
               have B1 := Lib.hid (B.out.next k1)
               have lt := B1.out.lt
               have c0 := B1.out.c0
               have c1 := B1.out.c1
               have f0 := B1.out.f0
               have f1 := B1.out.f1)
  refine ((Blk2.new w 0 0 32).next k1).store n 2 |>.ret fun W' B3 => ?_
  clear lt c0 c1 f0 f1
  have c0 := B3.c0
  have c1 := B3.c1
  exact bodyPost_ret (v := .tuple #[.agg #[.int .i64 n, .int .i64 2], .int .i64 0]) (by simp [results, Tryz.results65, go_sem, c0, c1]) rfl ⟨rfl, B3.bel⟩

theorem rpar_g_er (s : List UInt8) (hs : s.length ≤ 900) (hl : s.getLast? = some 103) (n x : Int) (w : World) (h : Hid (spanN s.dropLast = n ∧ spanE s.dropLast = x)) (hx : x ≠ 0) :
    Calls Tryz.prog 65 #[.string ⟨s.toArray⟩] w fun e w' => e = .returned (.tuple #[.agg #[.int .i64 0, .int .i64 0], .int .i64 x]) ∧ Below w.heap.size w w' := by
  have hix : ∀ W : World, (Instr.index 9 (.string ⟨s.toArray⟩) (.int .i64 ((s.length : Int) - 1))).run Tryz.prog W = .ok (.int .u8 103) W := last_run s 103 hl
  have hz : (⟨s.toArray⟩ : ByteArray).size = s.length := by simp [ByteArray.size]
  have s0 : 0 < s.length := by cases s with | nil => simp at hl | cons _ _ => simp
  have s1 : 0 < (s.length : Int) := by omega
  have hsl := init_run s s0
  have tl : s.dropLast.length ≤ 900 := by rw [List.length_dropLast]; omega
  clear hl
  have B := Lib.hid (Blk2.new w 0 0 32)
  go_enter Tryz.func65, Tryz.ntmps65
  go_wp2_with (go_at_call 102; ((with_reducible refine (rspan_is s.dropLast n x _ tl h).mono ?_)); rintro e w1 ⟨rfl, k1⟩; simp only []
               have B1 := Lib.hid (B.out.next k1)
               have lt := B1.out.lt
               have c0 := B1.out.c0
               have c1 := B1.out.c1
               have f0 := B1.out.f0
               have f1 := B1.out.f1)
  refine ((Blk2.new w 0 0 32).next k1).store 0 0 |>.ret fun W' B3 => ?_
  clear lt c0 c1 f0 f1
  have c0 := B3.c0
  have c1 := B3.c1
  exact bodyPost_ret (v := .tuple #[.agg #[.int .i64 0, .int .i64 0], .int .i64 x]) (by simp [results, Tryz.results65, go_sem, c0, c1]) rfl ⟨rfl, B3.bel⟩

theorem rpar_z_ok (s : List UInt8) (hs : s.length ≤ 900) (hl : s.getLast? = some 122) (n : Int) (w : World) (h : Hid (spanN s.dropLast = n ∧ spanE s.dropLast = 0)) :
    Calls Tryz.prog 65 #[.string ⟨s.toArray⟩] w fun e w' => e = .returned (.tuple #[.agg #[.int .i64 n, .int .i64 2], .int .i64 0]) ∧ Below w.heap.size w w' := by
  have hix : ∀ W : World, (Instr.index 9 (.string ⟨s.toArray⟩) (.int .i64 ((s.length : Int) - 1))).run Tryz.prog W = .ok (.int .u8 122) W := last_run s 122 hl
  have hz : (⟨s.toArray⟩ : ByteArray).size = s.length := by simp [ByteArray.size]
  have s0 : 0 < s.length := by cases s with | nil => simp at hl | cons _ _ => simp
  have s1 : 0 < (s.length : Int) := by omega
  have hsl := init_run s s0
  have tl : s.dropLast.length ≤ 900 := by rw [List.length_dropLast]; omega
  clear hl
  have B := Lib.hid (Blk2.new w 0 0 32)
  go_enter Tryz.func65, Tryz.ntmps65
  go_wp2_with (go_at_call 102; ((with_reducible refine (rspan_is s.dropLast n 0 _ tl h).mono ?_)); rintro e w1 ⟨rfl, k1⟩; simp only []
               have B1 := Lib.hid (B.out.next k1)
               have lt := B1.out.lt
               have c0 := B1.out.c0
               have c1 := B1.out.c1
               have f0 := B1.out.f0
               have f1 := B1.out.f1)
  refine ((Blk2.new w 0 0 32).next k1).store n 2 |>.ret fun W' B3 => ?_
  clear lt c0 c1 f0 f1
  have c0 := B3.c0
  have c1 := B3.c1
  exact bodyPost_ret (v := .tuple #[.agg #[.int .i64 n, .int .i64 2], .int .i64 0]) (by simp [results, Tryz.results65, go_sem, c0, c1]) rfl ⟨rfl, B3.bel⟩

theorem rpar_z_er (s : List UInt8) (hs : s.length ≤ 900) (hl : s.getLast? = some 122) (n x : Int) (w : World) (h : Hid (spanN s.dropLast = n ∧ spanE s.dropLast = x)) (hx : x ≠ 0) :
    Calls Tryz.prog 65 #[.string ⟨s.toArray⟩] w fun e w' => e = .returned (.tuple #[.agg #[.int .i64 0, .int .i64 0], .int .i64 x]) ∧ Below w.heap.size w w' := by
  have hix : ∀ W : World, (Instr.index 9 (.string ⟨s.toArray⟩) (.int .i64 ((s.length : Int) - 1))).run Tryz.prog W = .ok (.int .u8 122) W := last_run s 122 hl
  have hz : (⟨s.toArray⟩ : ByteArray).size = s.length := by simp [ByteArray.size]
  have s0 : 0 < s.length := by cases s with | nil => simp at hl | cons _ _ => simp
  have s1 : 0 < (s.length : Int) := by omega
  have hsl := init_run s s0
  have tl : s.dropLast.length ≤ 900 := by rw [List.length_dropLast]; omega
  clear hl
  have B := Lib.hid (Blk2.new w 0 0 32)
  go_enter Tryz.func65, Tryz.ntmps65
  go_wp2_with (go_at_call 102; ((with_reducible refine (rspan_is s.dropLast n x _ tl h).mono ?_)); rintro e w1 ⟨rfl, k1⟩; simp only []
               have B1 := Lib.hid (B.out.next k1)
               have lt := B1.out.lt
               have c0 := B1.out.c0
               have c1 := B1.out.c1
               have f0 := B1.out.f0
               have f1 := B1.out.f1)
  refine ((Blk2.new w 0 0 32).next k1).store 0 0 |>.ret fun W' B3 => ?_
  clear lt c0 c1 f0 f1
  have c0 := B3.c0
  have c1 := B3.c1
  exact bodyPost_ret (v := .tuple #[.agg #[.int .i64 0, .int .i64 0], .int .i64 x]) (by simp [results, Tryz.results65, go_sem, c0, c1]) rfl ⟨rfl, B3.bel⟩

theorem rparse_any (s : List UInt8) (w : World) (hs : s.length ≤ 900) :
    Calls Tryz.prog 65 #[.string ⟨s.toArray⟩] w fun e w' => e = .returned (.tuple #[.agg #[.int .i64 (parN s), .int .i64 (parK s)], .int .i64 (parE s)]) ∧ Below w.heap.size w w' := by
  have ok : ∀ {k : Int} {t : List UInt8}, kS s = t → kN s = k → spanE t = 0 → parN s = spanN t ∧ parK s = k ∧ parE s = 0 := by
    intro k t h1 h2 h3
    rw [parN, parK, parE, h1, h2, h3]; exact ⟨rfl, rfl, rfl⟩
  have er : ∀ {t : List UInt8}, kS s = t → spanE t ≠ 0 → parN s = 0 ∧ parK s = 0 ∧ parE s = spanE t := by
    intro t h1 h3
    rw [parN, parK, parE, h1, if_neg h3, if_neg h3]; exact ⟨rfl, rfl, rfl⟩
  cases hl : s.getLast? with
  | none =>
    have hs0 : s = [] := by simpa using hl
    subst hs0
    have := er (t := []) (by decide) (by decide)
    rw [this.1, this.2.1, this.2.2]
    exact rpar_nil_er _ _ w (Lib.hid ⟨rfl, rfl⟩) (by decide)
  | some c =>
    have J : kJ s = if c = 119 then 0 else if c = 115 then 1 else if c = 117 then 2 else if c = 103 then 3 else if c = 122 then 4 else 5 := by
      unfold kJ; simp only [hl, Option.some.injEq]
    by_cases n0 : c = 119
    · subst n0
      have j : kJ s = 0 := by rw [J]; rfl
      have e1 : kS s = s.dropLast := by rw [kS, j]; rfl
      have e2 : kN s = 0 := by rw [kN, j]; rfl
      by_cases hx : spanE s.dropLast = 0
      · have := ok e1 e2 hx
        rw [this.1, this.2.1, this.2.2]
        exact rpar_w_ok s hs hl _ w (Lib.hid ⟨rfl, hx⟩)
      · have := er e1 hx
        rw [this.1, this.2.1, this.2.2]
        exact rpar_w_er s hs hl _ _ w (Lib.hid ⟨rfl, rfl⟩) hx
    by_cases n1 : c = 115
    · subst n1
      have j : kJ s = 1 := by rw [J]; rfl
      have e1 : kS s = s.dropLast := by rw [kS, j]; rfl
      have e2 : kN s = 1 := by rw [kN, j]; rfl
      by_cases hx : spanE s.dropLast = 0
      · have := ok e1 e2 hx
        rw [this.1, this.2.1, this.2.2]
        exact rpar_s_ok s hs hl _ w (Lib.hid ⟨rfl, hx⟩)
      · have := er e1 hx
        rw [this.1, this.2.1, this.2.2]
        exact rpar_s_er s hs hl _ _ w (Lib.hid ⟨rfl, rfl⟩) hx
    by_cases n2 : c = 117
    · subst n2
      have j : kJ s = 2 := by rw [J]; rfl
      have e1 : kS s = s.dropLast := by rw [kS, j]; rfl
      have e2 : kN s = 2 := by rw [kN, j]; rfl
      by_cases hx : spanE s.dropLast = 0
      · have := ok e1 e2 hx
        rw [this.1, this.2.1, this.2.2]
        exact rpar_u_ok s hs hl _ w (Lib.hid ⟨rfl, hx⟩)
      · have := er e1 hx
        rw [this.1, this.2.1, this.2.2]
        exact rpar_u_er s hs hl _ _ w (Lib.hid ⟨rfl, rfl⟩) hx
    by_cases n3 : c = 103
    · subst n3
      have j : kJ s = 3 := by rw [J]; rfl
      have e1 : kS s = s.dropLast := by rw [kS, j]; rfl
      have e2 : kN s = 2 := by rw [kN, j]; rfl
      by_cases hx : spanE s.dropLast = 0
      · have := ok e1 e2 hx
        rw [this.1, this.2.1, this.2.2]
        exact rpar_g_ok s hs hl _ w (Lib.hid ⟨rfl, hx⟩)
      · have := er e1 hx
        rw [this.1, this.2.1, this.2.2]
        exact rpar_g_er s hs hl _ _ w (Lib.hid ⟨rfl, rfl⟩) hx
    by_cases n4 : c = 122
    · subst n4
      have j : kJ s = 4 := by rw [J]; rfl
      have e1 : kS s = s.dropLast := by rw [kS, j]; rfl
      have e2 : kN s = 2 := by rw [kN, j]; rfl
      by_cases hx : spanE s.dropLast = 0
      · have := ok e1 e2 hx
        rw [this.1, this.2.1, this.2.2]
        exact rpar_z_ok s hs hl _ w (Lib.hid ⟨rfl, hx⟩)
      · have := er e1 hx
        rw [this.1, this.2.1, this.2.2]
        exact rpar_z_er s hs hl _ _ w (Lib.hid ⟨rfl, rfl⟩) hx
    have j : kJ s = 5 := by rw [J, if_neg n0, if_neg n1, if_neg n2, if_neg n3, if_neg n4]
    have e1 : kS s = s := by rw [kS, j]; rfl
    have e2 : kN s = 0 := by rw [kN, j]; rfl
    by_cases hx : spanE s = 0
    · have := ok e1 e2 hx
      rw [this.1, this.2.1, this.2.2]
      exact rpar_o_ok c s hs hl n0 n1 n2 n3 n4 _ w (Lib.hid ⟨rfl, hx⟩)
    · have := er e1 hx
      rw [this.1, this.2.1, this.2.2]
      exact rpar_o_er c s hs hl n0 n1 n2 n3 n4 _ _ w (Lib.hid ⟨rfl, rfl⟩) hx
end Go.Proofs.YtfmehdophoejiaaGreatDoor
