/- The walk of the law LexerLines. -/
import Derived.Test.YtomiopdmgdidnaaDoorLxH
import Derived.Test.YtomiopdmgdidnaaDoorLxP
import Derived.Test.YtomiopdmgdidnaaDoorLxR
import Derived.Test.YtomiopdmgdidnaaDoorLxT
namespace Go.Proofs.YtomiopdmgdidnaaDoor
open Go.RowKit
attribute [local go_sem] Oper.semAt_some

theorem take_one {α : Type} {l : List α} {i : Nat} {x : α} (h : l[i]? = some x) : l.take (i + 1) = l.take i ++ [x] := by rw [List.take_add_one, h]; rfl
/-- One line more. -/
theorem ln_more {ps : List (List UInt8)} {i : Nat} {p : List UInt8} (hi : ps[i]? = some p) (h0 : toldE (ps.take i) = 0) : toldE (ps.take (i + 1)) = lexE p ∧ toldL 1 (ps.take (i + 1)) = toldL 1 (ps.take i) ++ toldL (i + 1) [p] := by
  have hl := (List.getElem?_eq_some_iff.1 hi).1
  rw [take_one hi, toldE_app, if_pos h0, told_app, if_pos h0, List.length_take, Nat.min_eq_left (by omega), Nat.add_comm 1 i]
  refine ⟨?_, rfl⟩
  unfold toldE
  by_cases h : lexE p = 0
  · rw [if_neg (by simpa using h), h]; rfl
  · rw [if_pos h]
theorem ln_at {ps : List (List UInt8)} {i k : Nat} {t : Told} (h : toldL 1 (ps.take (i + 1)) = toldL 1 (ps.take i) ++ [t]) (hk : (toldL 1 (ps.take i)).length = k) : (toldL 1 ps)[k]? = some t := by
  have e : toldL 1 ps = if toldE (ps.take (i + 1)) = 0 then toldL 1 (ps.take (i + 1)) ++ toldL (1 + (ps.take (i + 1)).length) (ps.drop (i + 1)) else toldL 1 (ps.take (i + 1)) := by
    rw [← told_app, List.take_append_drop]
  rw [e, h]
  split
  · rw [List.append_assoc, List.getElem?_append_right (by omega), hk, Nat.sub_self]; rfl
  · rw [List.getElem?_append_right (by omega), hk, Nat.sub_self]; rfl
theorem ln_end {ps : List (List UInt8)} {i : Nat} (h : i = ps.length ∨ toldE (ps.take i) ≠ 0) : toldL 1 (ps.take i) = toldL 1 ps ∧ toldE (ps.take i) = toldE ps := by
  rcases h with rfl | h
  · rw [List.take_length]; exact ⟨rfl, rfl⟩
  · have e1 : toldL 1 ps = toldL 1 (ps.take i) := by rw [← List.take_append_drop i ps, told_app, List.take_append_drop, if_neg h]
    have e2 : toldE ps = toldE (ps.take i) := by rw [← List.take_append_drop i ps, toldE_app, List.take_append_drop, if_neg h]
    exact ⟨e1.symm, e2.symm⟩

theorem Ls.at_ {W : World} {A : Option Addr} {ts : List Told} (h : Ls W A ts) {n : Nat} {x : Told} (hx : ts[n]? = some x) : ∃ g o, A = some ⟨g, o, none⟩ ∧ g < W.heap.size ∧ W.cell? ⟨g, o + n * 2, none⟩ = some (.int .i64 (x.1 : Int)) ∧ ∃ A' c, W.cell? ⟨g, o + n * 2 + 1, none⟩ = some (.slice A' x.2.length c) ∧ Ws W A' x.2 := by
  obtain ⟨g, o, e, hl, h1, A', c, h2, h3⟩ := h n x hx
  exact ⟨g, o, e, hl, by rw [Nat.mul_comm n 2]; exact h1, A', c, by rw [Nat.mul_comm n 2, Nat.add_assoc]; exact h2, h3⟩
theorem split_short {s p : List UInt8} (h : p ∈ splitF s) : p.length ≤ s.length := by
  have h1 : ∀ ls : List (List UInt8), p ∈ ls → p.length ≤ sizes ls := by
    intro ls
    induction ls with
    | nil => intro h; cases h
    | cons a ls ih =>
      intro h
      simp only [sizes, List.map_cons, List.sum_cons] at ih ⊢
      rcases List.mem_cons.1 h with rfl | h
      · omega
      · have := ih h; omega
  exact Nat.le_trans (h1 _ h) (split_sizes s)
theorem parts_short {s p : List UInt8} (h : p ∈ partsL s) : p.length ≤ s.length := by
  unfold partsL at h
  split at h
  · exact split_short (List.dropLast_subset _ h)
  · exact split_short h

set_option maxHeartbeats 4000000 in
theorem lexerLines_walk (s : List UInt8) (w : World) (hM : MaxIs w) : Calls Tryd.prog 5 #[.string ⟨s.toArray⟩] w fun e w' => e = .returned (.bool true) ∧ Below w.heap.size w w' := by
  have hz := lxsize s
  have AW := Lib.hid lxawake
  by_cases hl : 400 < s.length
  · have hl' : (400 : Int) < (s.length : Int) := by omega
    clear hl
    go_enter Tryd.func5, Tryd.ntmps5
    go_wp2_with (first
      | (go_at_call 9; refine (AW.out _).mono ?_; rintro e w1 ⟨rfl, k1⟩
         have K1 := Lib.hid k1
         clear k1
         simp only []))
    go_ret
    exact ⟨rfl, K1.out⟩
  · have hl' : ¬ (400 : Int) < (s.length : Int) := by omega
    obtain ⟨ps, hps⟩ : ∃ ps, partsL s = ps := ⟨_, rfl⟩
    obtain ⟨ts, hts⟩ : ∃ ts, toldL 1 ps = ts := ⟨_, rfl⟩
    obtain ⟨te, hte⟩ : ∃ te, toldE ps = te := ⟨_, rfl⟩
    obtain ⟨m, hm⟩ : ∃ m, ts.length = m := ⟨_, rfl⟩
    have TP := told_parts s 1
    rw [hps] at TP
    have TO := Lib.hid (fun W h => told_any s ts te m W (by omega) h (Lib.hid ⟨by rw [← TP.1]; exact hts, by rw [← TP.2]; exact hte, hm⟩))
    have PA := Lib.hid (fun W => rparts_is s ps W (by omega) (Lib.hid hps))
    have HM := Lib.hid hM
    have HTS := Lib.hid (And.intro hts (And.intro hte hm))
    have PL : Hid (∀ p ∈ ps, p.length ≤ 1000) := Lib.hid (by rw [← hps]; intro p hp; have := parts_short hp; omega)
    clear hps hts hte hl hM TP hm
    go_enter Tryd.func5, Tryd.ntmps5
    go_wp2_with (first
      | (go_at_call 15; refine (TO.out _ HM.out).mono ?_; rintro e w1 ⟨A1, c1, rfl, hL1, k1⟩
         have L1 := Lib.hid hL1
         have K1 := Lib.hid k1
         clear hL1 k1
         simp only [])
      | (go_at_call 16; refine (PA.out _).mono ?_; rintro e w2 ⟨A2, np, c2, rfl, hnp, hnl, hW2, k2⟩
         have L2 := Lib.hid (L1.out.next k2)
         have P2 := Lib.hid hW2
         have NP := Lib.hid hnp
         have K2 := Lib.hid (K1.out.trans (k2.mono K1.out.size))
         clear hnp hW2 k2
         simp only []))
    go_loopw [7, 8, 9] (fun vn ve vi wr => ∃ (i n : Nat) (er : Int), vn = .int .i64 n ∧ ve = .int .i64 er ∧ vi = .int .i64 i ∧ i ≤ np ∧ n ≤ i ∧ (toldL 1 (ps.take i)).length = n ∧ toldE (ps.take i) = er ∧ Below w2.heap.size w2 wr) (fun _ _ vi _ => np - (intOf vi).toNat)
    case atStart => exact ⟨0, 0, 0, rfl, rfl, rfl, Nat.zero_le _, Nat.le_refl _, rfl, rfl, Below.refl _ _⟩
    case round =>
      obtain ⟨i, n, er, rfl, rfl, rfl, hi, hni, hn, he, hk⟩ := hrel
      have HN := Lib.hid hn
      have HE := Lib.hid he
      have HK := Lib.hid hk
      clear hn he hk
      have HI := Lib.hid (And.intro hi hni)
      by_cases hlt : i < np
      · obtain ⟨p, hp⟩ : ∃ p, ps[i]? = some p := ⟨_, List.getElem?_eq_getElem (by rw [NP.out]; exact hlt)⟩
        obtain ⟨g2, o2, rfl, hg2, hpc⟩ := P2.out i p hp
        have hpw : wr.cell? ⟨g2, o2 + i, none⟩ = some (.string ⟨p.toArray⟩) := by rw [HK.out.cell (p := ⟨g2, o2 + i, none⟩) hg2]; exact hpc
        have hii : (i : Int) < (np : Int) := by omega
        by_cases he0 : er = 0
        · subst he0
          obtain ⟨er2, her⟩ : ∃ er2, lexE p = er2 := ⟨_, rfl⟩
          obtain ⟨ws, hws⟩ : ∃ ws, wordsL p = ws := ⟨_, rfl⟩
          have hpl := PL.out p (List.mem_of_getElem? hp)
          have RW := Lib.hid (fun W => rwords_is p ws er2 W hpl (Lib.hid ⟨her, hws⟩))
          have MO := Lib.hid (ln_more hp HE.out)
          have HV := Lib.hid (And.intro her hws)
          clear hp hpc her hws hpl
          by_cases hz0 : er2 = 0 ∧ ws = []
          · obtain ⟨rfl, rfl⟩ := hz0
            have E2 : Hid (toldL 1 (ps.take (i + 1)) = toldL 1 (ps.take i)) := Lib.hid (by rw [MO.out.2, toldL, if_neg (by rw [HV.out.1]; decide), if_pos HV.out.2]; simp [toldL])
            go_wp2_with (first
              | (go_at_call 11; refine (RW.out _).mono ?_; rintro e w3 ⟨A3, c3, rfl, o3, k3⟩
                 have K3 := Lib.hid (HK.out.trans (k3.mono HK.out.size))
                 clear o3 k3
                 simp only []))
            go_roundw
            case rel => exact ⟨i + 1, n, 0, rfl, rfl, by go_num, by omega, by omega, by rw [E2.out, HN.out], by rw [MO.out.1, HV.out.1], K3.out⟩
            case measure => simp [intOf]; omega
          · have E2 : Hid (toldL 1 (ps.take (i + 1)) = toldL 1 (ps.take i) ++ [(i + 1, ws)]) := Lib.hid (by
              rw [MO.out.2, toldL]
              by_cases h0 : er2 = 0
              · have hw : ws ≠ [] := fun h => hz0 ⟨h0, h⟩
                rw [if_neg (by rw [HV.out.1, h0]; decide), if_neg (by rw [HV.out.2]; exact hw), HV.out.2]; rfl
              · have hw : ws = [] := by rw [← HV.out.2]; exact words_none (by rw [HV.out.1]; exact h0)
                rw [if_pos (by rw [HV.out.1]; exact h0), hw])
            have AT : Hid (ts[n]? = some (i + 1, ws)) := Lib.hid (by rw [← HTS.out.1]; exact ln_at E2.out HN.out)
            have HL : Hid (ws.length ≤ 32) := Lib.hid (by rw [← HV.out.2]; exact words_len p)
            have hnm : n < m := by have := (List.getElem?_eq_some_iff.1 AT.out).1; have := HTS.out.2.2; omega
            have hnm2 : ¬ (m : Int) ≤ (n : Int) := by omega
            by_cases h0 : er2 = 0
            · subst h0
              have hwl : ((ws.length : Int) == 0) = false := by
                have : ws ≠ [] := fun h => hz0 ⟨rfl, h⟩
                have := List.length_pos_iff.2 this
                simp; omega
              clear hz0
              go_wp2_with (first
                | (go_at_call 11; refine (RW.out _).mono ?_; rintro e w3 ⟨A3, c3, rfl, o3, k3⟩
                   have K3 := Lib.hid (HK.out.trans (k3.mono HK.out.size))
                   obtain ⟨g, o, hA, hgl, hno, A4, c4, hsl, hW4⟩ := (L2.out.next K3.out).at_ AT.out
                   subst hA
                   have X1 := Lib.hid (texts_is A4 A3 ws.length c4 c3 ws ws true w3 hW4 (Ws.of_own o3) (by have := HL.out; omega) ws.length rfl rfl (Lib.hid (decide_eq_true rfl)))
                   simp only [Int.natCast_add, Int.natCast_one] at hno
                   simp only [] at hsl
                   clear o3 k3
                   simp only [])
                | (go_at_call 12; with_reducible refine X1.out.mono ?_; rintro e w4 ⟨rfl, k4⟩
                   have K4 := Lib.hid (K3.out.trans (k4.mono K3.out.size))
                   clear k4
                   simp only []))
              go_roundw
              case rel => exact ⟨i + 1, n + 1, 0, by go_num, rfl, by go_num, by omega, by omega, by rw [E2.out, List.length_append, HN.out]; rfl, by rw [MO.out.1, HV.out.1], K4.out⟩
              case measure => simp [intOf]; omega
            · have h0' : (er2 == 0) = false := by simpa using h0
              clear hz0 h0
              go_wp2_with (first
                | (go_at_call 11; refine (RW.out _).mono ?_; rintro e w3 ⟨A3, c3, rfl, o3, k3⟩
                   have K3 := Lib.hid (HK.out.trans (k3.mono HK.out.size))
                   obtain ⟨g, o, hA, hgl, hno, A4, c4, hsl, hW4⟩ := (L2.out.next K3.out).at_ AT.out
                   subst hA
                   have X1 := Lib.hid (texts_is A4 A3 ws.length c4 c3 ws ws true w3 hW4 (Ws.of_own o3) (by have := HL.out; omega) ws.length rfl rfl (Lib.hid (decide_eq_true rfl)))
                   simp only [Int.natCast_add, Int.natCast_one] at hno
                   simp only [] at hsl
                   clear o3 k3
                   simp only [])
                | (go_at_call 12; with_reducible refine X1.out.mono ?_; rintro e w4 ⟨rfl, k4⟩
                   have K4 := Lib.hid (K3.out.trans (k4.mono K3.out.size))
                   clear k4
                   simp only []))
              go_roundw
              case rel => exact ⟨i + 1, n + 1, er2, by go_num, rfl, by go_num, by omega, by omega, by rw [E2.out, List.length_append, HN.out]; rfl, by rw [MO.out.1, HV.out.1], K4.out⟩
              case measure => simp [intOf]; omega
        · have EN := Lib.hid (ln_end (ps := ps) (i := i) (.inr (by rw [HE.out]; exact he0)))
          obtain rfl : n = m := by rw [← HN.out, EN.out.1, HTS.out.1]; exact HTS.out.2.2
          obtain rfl : er = te := by rw [← HE.out, EN.out.2]; exact HTS.out.2.1
          have he : (er == 0) = false := by simpa using he0
          clear he0 hp hpc
          go_wp2_with (first
            | (go_at_call 9; refine (AW.out _).mono ?_; rintro e w3 ⟨rfl, k3⟩
               have K3 := Lib.hid (K2.out.trans ((HK.out.trans (k3.mono HK.out.size)).mono K2.out.size))
               clear k3
               simp only []))
          go_ret
          exact ⟨rfl, K3.out⟩
      · have hin : i = np := by omega
        have EN := Lib.hid (ln_end (ps := ps) (i := i) (.inl (by rw [NP.out]; exact hin)))
        obtain rfl : n = m := by rw [← HN.out, EN.out.1, HTS.out.1]; exact HTS.out.2.2
        obtain rfl : er = te := by rw [← HE.out, EN.out.2]; exact HTS.out.2.1
        have hii : ¬ (i : Int) < (np : Int) := by omega
        clear hlt hin
        go_wp2_with (first
          | (go_at_call 9; refine (AW.out _).mono ?_; rintro e w3 ⟨rfl, k3⟩
             have K3 := Lib.hid (K2.out.trans ((HK.out.trans (k3.mono HK.out.size)).mono K2.out.size))
             clear k3
             simp only []))
        go_ret
        exact ⟨rfl, K3.out⟩
end Go.Proofs.YtomiopdmgdidnaaDoor
