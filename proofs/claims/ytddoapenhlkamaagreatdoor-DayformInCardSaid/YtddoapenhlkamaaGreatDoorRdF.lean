/- The contract of the reference's Find: which word of a list a word is; nothing that was in memory changes. -/
import Derived.Test.YtddoapenhlkamaaGreatDoorWdA
namespace Go.Proofs.YtddoapenhlkamaaGreatDoor
open Go.RowKit

/-- What is known at the head of the loop: many words before place i are meant, the last of them at 'found'. -/
structure FindAt (b : List UInt8) (ws : List (List UInt8)) (i many : Nat) (at' : Int) : Prop where
  le : i ≤ ws.length
  my : many ≤ i
  ex : ∃ found : Nat, (1 ≤ many → at' = (found : Int)) ∧ scan b (ws.drop i) i many found = findL b ws
theorem wdrop_at {ws : List (List UInt8)} {i : Nat} {p : List UInt8} (hp : ws[i]? = some p) : ws.drop i = p :: ws.drop (i + 1) := by
  obtain ⟨h, e⟩ := List.getElem?_eq_some_iff.1 hp
  rw [List.drop_eq_getElem_cons h, e]
theorem find_same {b p : List UInt8} {ws : List (List UInt8)} {i many : Nat} {a : Int} (h : FindAt b ws i many a) (hp : ws[i]? = some p) (he : p = b) : findL b ws = some i := by
  obtain ⟨_, _, f, _, h⟩ := h
  rw [wdrop_at hp] at h
  rw [← h]; unfold scan; rw [if_pos he]
theorem find_more {b p : List UInt8} {ws : List (List UInt8)} {i many : Nat} {a : Int} (h : FindAt b ws i many a) (hp : ws[i]? = some p) (he : p ≠ b) (hb : begins b p = true) : FindAt b ws (i + 1) (many + 1) i := by
  obtain ⟨h1, h2, f, h3, h⟩ := h
  have hi := (List.getElem?_eq_some_iff.1 hp).1
  refine ⟨hi, by omega, i, fun _ => rfl, ?_⟩
  rw [wdrop_at hp] at h
  rw [← h]; conv => rhs; unfold scan
  rw [if_neg he, if_pos hb]
theorem find_on {b p : List UInt8} {ws : List (List UInt8)} {i many : Nat} {a : Int} (h : FindAt b ws i many a) (hp : ws[i]? = some p) (he : p ≠ b) (hb : begins b p = false) : FindAt b ws (i + 1) many a := by
  obtain ⟨h1, h2, f, h3, h⟩ := h
  have hi := (List.getElem?_eq_some_iff.1 hp).1
  refine ⟨hi, by omega, f, h3, ?_⟩
  rw [wdrop_at hp] at h
  rw [← h]; conv => rhs; unfold scan
  rw [if_neg he, if_neg (by simp [hb])]
theorem find_end {b : List UInt8} {ws : List (List UInt8)} {many : Nat} {a : Int} (h : FindAt b ws ws.length many a) : (many = 1 → wantZ (findL b ws) = a) ∧ (many ≠ 1 → wantZ (findL b ws) = -1) := by
  obtain ⟨_, _, f, h3, h⟩ := h
  rw [List.drop_length] at h
  rw [← h]; unfold scan
  constructor
  · intro e; rw [if_pos e, h3 (by omega)]; rfl
  · intro e; rw [if_neg e]; rfl

theorem begins_no {b p : List UInt8} (h : begins b p = false) (h0 : b ≠ []) : p.take b.length ≠ b := by
  intro e
  have : begins b p = true := begins_iff.2 ⟨h0, by rw [← e]; exact List.take_prefix _ _⟩
  rw [h] at this; cases this
theorem begins_yes {b p : List UInt8} (h : begins b p = true) (hne : p ≠ b) : b ≠ [] ∧ b.length < p.length ∧ p.take b.length = b := by
  obtain ⟨h0, q, rfl⟩ := begins_iff.1 h
  refine ⟨h0, ?_, by simp⟩
  cases q with
  | nil => simp at hne
  | cons c q => simp

set_option maxHeartbeats 1600000 in
theorem rfind_is (s : List UInt8) (ws : List (List UInt8)) (L n : Nat) (v : Int) (w : World) (hs : s.length ≤ 100) (hn : ws.length = n) (hn2 : n ≤ 100) (hw : ∀ p ∈ ws, p.length ≤ 100) (hL : ListAt L ws w) (hv : Hid (wantZ (findL (low s) ws) = v)) :
    Calls Tryz.prog 21 #[.string ⟨s.toArray⟩, .slice (some ⟨L, 0, none⟩) n n] w fun e w' => e = .returned (.int .i64 v) ∧ Below w.heap.size w w' := by
  have HL := Lib.hid hL
  have HN := Lib.hid hn
  have HW := Lib.hid hw
  clear hL hn hw
  obtain ⟨b, hb⟩ : ∃ b, low s = b := ⟨_, rfl⟩
  have hbl : b.length ≤ 100 := by rw [← hb, low_len]; exact hs
  have hbz := wsize b
  have SM : Hid (∀ W : World, Calls Tryz.prog 36 #[.string ⟨s.toArray⟩] W fun e w' => e = .returned (.string ⟨b.toArray⟩) ∧ Below W.heap.size W w') := Lib.hid fun W => hb ▸ rsmall_any s W hs
  rw [hb] at hv
  clear hb
  go_enter Tryz.func21, Tryz.ntmps21
  go_wp2_with (first
    | (go_at_call 36; refine (SM.out _).mono ?_; rintro e w1 ⟨rfl, k1⟩
       have HL1 := Lib.hid (HL.out.next k1)
       have K1 := Lib.hid k1
       clear k1))
  go_loopw [5, 6, 7] (fun vn va vi w' => ∃ (i many : Nat) (a : Int), vn = .int .i64 many ∧ va = .int .i64 a ∧ vi = .int .i64 i ∧ FindAt b ws i many a ∧ Below w.heap.size w w' ∧ ListAt L ws w') (fun _ _ vi _ => n - (intOf vi).toNat)
  case atStart => exact ⟨0, 0, -1, rfl, rfl, rfl, ⟨by omega, by omega, 0, by omega, rfl⟩, K1.out, HL1.out⟩
  case round =>
    obtain ⟨i, many, a, rfl, rfl, rfl, hF, kb, hl⟩ := hrel
    have KB := Lib.hid kb
    have HF := Lib.hid hF
    have HLr := Lib.hid hl
    have i1 : i ≤ n := by rw [← HN.out]; exact hF.le
    have m1 := hF.my
    clear kb hF hl HL1 K1 SM HL
    by_cases hi : i < n
    · obtain ⟨p, hp⟩ : ∃ p, ws[i]? = some p := ⟨_, List.getElem?_eq_getElem (by rw [HN.out]; exact hi)⟩
      have HP := Lib.hid hp
      have hpc := HLr.out.cell i p hp
      have hpl : p.length ≤ 100 := HW.out p (List.mem_of_getElem? hp)
      have hLs := HLr.out.lt
      have hpz := wsize p
      have hi' : (i : Int) < (n : Int) := by omega
      clear hp
      by_cases hpb : p = b
      · have V : Hid (v = (i : Int)) := Lib.hid (by rw [← hv.out, find_same HF.out HP.out hpb]; rfl)
        subst hpb
        go_wp2
        go_ret
        rw [V.out]
        exact ⟨rfl, KB.out⟩
      · have hpb' : (p == b) = false := by simp [hpb]
        have HNE := Lib.hid hpb
        by_cases hbg : begins b p = true
        · obtain ⟨b0, bl, bt⟩ := begins_yes hbg hpb
          have FM := Lib.hid (find_more HF.out HP.out hpb hbg)
          have hsl := wsub_run p b.length b bt (by omega)
          have b0' : b.isEmpty = false := by cases b <;> simp_all
          have bl' : (b.length : Int) < (p.length : Int) := by omega
          clear hpb hbg b0 bt
          go_wp2
          go_roundw
          case rel => exact ⟨i + 1, many + 1, i, by go_num, rfl, by go_num, FM.out, KB.out, HLr.out⟩
          case measure => simp [intOf]; omega
        · have hbg' : begins b p = false := by simpa using hbg
          have FO := Lib.hid (find_on HF.out HP.out hpb hbg')
          clear hbg
          by_cases b0 : b = []
          · subst b0
            clear hpb hbg'
            go_wp2
            go_roundw
            case rel => exact ⟨i + 1, many, a, by go_num, rfl, by go_num, FO.out, KB.out, HLr.out⟩
            case measure => simp [intOf]; omega
          · have b0' : b.isEmpty = false := by cases b <;> simp_all
            by_cases bl : b.length < p.length
            · obtain ⟨t, ht⟩ : ∃ t, p.take b.length = t := ⟨_, rfl⟩
              have hsl := wsub_run p b.length t ht (by omega)
              have htb : (t == b) = false := by
                have := begins_no hbg' b0
                rw [ht] at this
                simp [this]
              have bl' : (b.length : Int) < (p.length : Int) := by omega
              clear hpb hbg' b0 ht
              go_wp2
              go_roundw
              case rel => exact ⟨i + 1, many, a, by go_num, rfl, by go_num, FO.out, KB.out, HLr.out⟩
              case measure => simp [intOf]; omega
            · have bl' : ¬ (b.length : Int) < (p.length : Int) := by omega
              clear hpb hbg' b0
              go_wp2
              go_roundw
              case rel => exact ⟨i + 1, many, a, by go_num, rfl, by go_num, FO.out, KB.out, HLr.out⟩
              case measure => simp [intOf]; omega
    · obtain rfl : i = n := by omega
      have hi' : ¬ ((i : Int) < (i : Int)) := by omega
      have FE := Lib.hid (find_end (HN.out ▸ HF.out))
      by_cases hm : many = 1
      · have V : Hid (v = a) := Lib.hid (by rw [← hv.out]; exact FE.out.1 hm)
        subst hm
        go_wp2
        go_ret
        rw [V.out]
        exact ⟨rfl, KB.out⟩
      · have V : Hid (v = -1) := Lib.hid (by rw [← hv.out]; exact FE.out.2 hm)
        have hm' : ((many : Int) == 1) = false := by simp; omega
        clear hm
        go_wp2
        go_ret
        rw [V.out]
        exact ⟨rfl, KB.out⟩
end Go.Proofs.YtddoapenhlkamaaGreatDoor
