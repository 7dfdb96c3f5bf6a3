/- The contract of the reference's Words: byte by byte; nothing that was in memory changes. -/
import Derived.Laws.Rows
import Derived.Test.YtomiopdmgdidnaaDoorLxB
namespace Go.Proofs.YtomiopdmgdidnaaDoor
open Go.RowKit
attribute [local go_sem] Oper.semAt_some

theorem own_last {w : World} {base m n c g : Nat} {os : List (List UInt8)} {p : List UInt8} (p' : List UInt8) (h : w.ownsRow base 9 1 (.slice (some ⟨g, 0, none⟩) n c) n (tcl (os ++ [p]))) (hm : os.length = m) :
    (w.setCell ⟨g, m, none⟩ (.string ⟨p'.toArray⟩)).ownsRow base 9 1 (.slice (some ⟨g, 0, none⟩) n c) n (tcl (os ++ [p'])) := by
  have hl := h.1
  rw [tcl_len, List.length_append, List.length_singleton] at hl
  rcases h.2 with ⟨h1, _⟩ | ⟨g', cap, cur, hv, hb, hg, h1, h2, h3, h4⟩
  · injection h1 with e1; cases e1
  · injection hv with e1 e2 e3
    obtain rfl : g = g' := by injection e1 with e1; injection e1
    refine ⟨by rw [tcl_len, List.length_append, List.length_singleton]; omega, .inr ⟨g, cap, _, by rw [e3], hb, heap_setCell_same w g m cur _ _ hg, h1, h2, by simpa using h3, ?_⟩⟩
    have e5 : (cur.setIfInBounds m (.string ⟨p'.toArray⟩)).toList = cur.toList.set m (.string ⟨p'.toArray⟩) := by simp
    rw [e5, List.take_set, h4, tcl_app, tcl_app]
    have e6 : m = (tcl os).length := by rw [tcl_len, hm]
    rw [e6, List.set_append_right _ _ (Nat.le_refl _), Nat.sub_self]
    rfl

theorem auto_q34 {c : UInt8} (l : List UInt8) (i : Bool) (o : List (List UInt8)) (h : (c == 34) = true) : auto (c :: l) i true o = auto l i false o := by rw [auto, if_pos rfl, if_pos h]
theorem auto_qm {c : UInt8} (l : List UInt8) (i : Bool) (o : List (List UInt8)) (h : (c == 34) = false) : auto (c :: l) i true o = auto l i true (addLast o c) := by rw [auto, if_pos rfl, if_neg (by rw [h]; decide)]
theorem take_any {s : List UInt8} {i : Nat} {c : UInt8} (p : UInt8 → Bool) (h : i < s.length) (hc : s.getD i 0 = c) : (s.take (i + 1)).any p = ((s.take i).any p || p c) := by
  rw [lxtake_at h hc, List.any_append]; simp
theorem take_hit {s : List UInt8} {i : Nat} {c : UInt8} (p : UInt8 → Bool) (h : i < s.length) (hc : s.getD i 0 = c) (hp : p c = true) : s.any p = true := by
  have : (s.take (i + 1)).any p = true := by rw [take_any p h hc, hp, Bool.or_true]
  rw [List.any_eq_true] at this ⊢
  obtain ⟨x, hx, hpx⟩ := this
  exact ⟨x, List.mem_of_mem_take hx, hpx⟩

/-- What is left to do is what is to be told. -/
structure AtR (s : List UInt8) (i : Nat) (ii q : Bool) (o : List (List UInt8)) : Prop where
  run : auto (s.drop i) ii q o = auto s false false []
  le : i ≤ s.length
  few : o.length ≤ i
  short : ∀ p ∈ o, p.length ≤ i
  one : ii = true → o ≠ []
  two : q = true → o ≠ []
theorem AtR.start (s : List UInt8) : AtR s 0 false false [] := ⟨rfl, Nat.zero_le _, Nat.le_refl _, fun _ h => by simp at h, fun h => by simp at h, fun h => by simp at h⟩
theorem AtR.bump {s : List UInt8} {i : Nat} {ii q ii' q' : Bool} {o : List (List UInt8)} (h : AtR s i ii q o) (hi : i < s.length) (hr : auto (s.drop (i + 1)) ii' q' o = auto (s.drop i) ii q o) (h1 : ii' = true → o ≠ []) (h2 : q' = true → o ≠ []) : AtR s (i + 1) ii' q' o :=
  ⟨hr.trans h.run, hi, Nat.le_succ_of_le h.few, fun p hp => Nat.le_succ_of_le (h.short p hp), h1, h2⟩
theorem AtR.last {s : List UInt8} {i : Nat} {ii q : Bool} {o : List (List UInt8)} (h : AtR s i ii q o) (ho : o ≠ []) : ∃ os p, o = os ++ [p] ∧ p.length ≤ i := by
  refine ⟨o.dropLast, o.getLast ho, (List.dropLast_concat_getLast ho).symm, h.short _ (List.getLast_mem ho)⟩
theorem AtR.add {s : List UInt8} {i : Nat} {ii q ii' q' : Bool} {os : List (List UInt8)} {p : List UInt8} {c : UInt8} (h : AtR s i ii q (os ++ [p])) (hi : i < s.length) (hr : auto (s.drop (i + 1)) ii' q' (os ++ [p ++ [c]]) = auto (s.drop i) ii q (os ++ [p])) : AtR s (i + 1) ii' q' (os ++ [p ++ [c]]) := by
  have hf := h.few
  refine ⟨hr.trans h.run, hi, by simp at hf ⊢; omega, fun x hx => ?_, fun _ => by simp, fun _ => by simp⟩
  rcases List.mem_append.1 hx with hx | hx
  · exact Nat.le_succ_of_le (h.short x (by simp [hx]))
  · obtain rfl : x = p ++ [c] := by simpa using hx
    have := h.short p (by simp)
    simp; omega
/-- A word more, with nothing in it, or with a byte. -/
theorem AtR.fresh {s : List UInt8} {i : Nat} {q ii' q' : Bool} {o : List (List UInt8)} {p : List UInt8} {ii : Bool} (h : AtR s i ii q o) (hi : i < s.length) (hp : p.length ≤ 1) (hr : auto (s.drop (i + 1)) ii' q' (o ++ [p]) = auto (s.drop i) ii q o) : AtR s (i + 1) ii' q' (o ++ [p]) := by
  have hf := h.few
  refine ⟨hr.trans h.run, hi, by simp at hf ⊢; omega, fun x hx => ?_, fun _ => by simp, fun _ => by simp⟩
  rcases List.mem_append.1 hx with hx | hx
  · exact Nat.le_succ_of_le (h.short x hx)
  · obtain rfl : x = p := by simpa using hx
    omega

theorem ref_fin {s : List UInt8} {o ws : List (List UInt8)} {q : Bool} {er : Int} (hb : s.any barB = false) (h : auto s false false [] = (o, q)) (HV : lexE s = er ∧ wordsL s = ws) :
    (q = true → er = 12 ∧ ws = []) ∧ (q = false → 32 < o.length → er = 14 ∧ ws = []) ∧ (q = false → ¬ 32 < o.length → er = 0 ∧ ws = o) := by
  rw [auto_all] at h
  injection h with h1 h2
  obtain ⟨rfl, rfl⟩ := HV
  have hl : (wlist s).length = o.length := by rw [← h1, List.length_map]
  refine ⟨fun hq => ?_, fun hq hn => ?_, fun hq hn => ?_⟩
  · have e1 : lexE s = 12 := by unfold lexE; rw [hb, h2, hq, if_neg (by decide), if_pos rfl]
    exact ⟨e1, words_none (by rw [e1]; decide)⟩
  · have e1 : lexE s = 14 := by unfold lexE; rw [hb, h2, hq, if_neg (by decide), if_neg (by decide), if_pos (by omega)]
    exact ⟨e1, words_none (by rw [e1]; decide)⟩
  · have e1 : lexE s = 0 := by unfold lexE; rw [hb, h2, hq, if_neg (by decide), if_neg (by decide), if_neg (by omega)]
    exact ⟨e1, by unfold wordsL; rw [if_pos e1, h1]⟩

set_option maxRecDepth 20000 in
set_option maxHeartbeats 4000000 in
theorem rwords_is (s : List UInt8) (ws : List (List UInt8)) (er : Int) (w : World) (hs : s.length ≤ 1000) (HV : Hid (lexE s = er ∧ wordsL s = ws)) : Calls Tryd.prog 11 #[.string ⟨s.toArray⟩] w (CollT ws er w) := by
  have hz := lxsize s
  go_enter Tryd.func11, Tryd.ntmps11
  go_wp2
  go_loopw [7] (fun v wr => ∃ i : Nat, v = .int .i64 i ∧ i ≤ s.length ∧ (s.take i).any barB = false ∧ wr = w) (fun v _ => s.length - (intOf v).toNat)
  case atStart => exact ⟨0, rfl, Nat.zero_le _, rfl, rfl⟩
  case round =>
    obtain ⟨i, rfl, hi, hb, rfl⟩ := hrel
    have HB := Lib.hid hb
    clear hb
    by_cases hlt : i < s.length
    · obtain ⟨c, hc⟩ : ∃ c, s.getD i 0 = c := ⟨_, rfl⟩
      have hix := lxbyte_at s i hlt c hc
      have hii : (i : Int) < (s.length : Int) := by omega
      have HC := Lib.hid hc
      have out : barB c = true → er = 12 ∧ ws = [] := fun h => by
        have := lex_bar (take_hit barB hlt HC.out h)
        exact ⟨HV.out.1 ▸ this.1, HV.out.2 ▸ this.2⟩
      clear hc
      cases h0 : c == 0
      · have t0 := byte_ne 0 0 rfl h0
        cases h10 : c == 10
        · have t10 := byte_ne 10 10 rfl h10
          cases h13 : c == 13
          · have t13 := byte_ne 13 13 rfl h13
            have HN : Hid ((s.take (i + 1)).any barB = false) := Lib.hid (by rw [take_any barB hlt HC.out, HB.out, show barB c = false from by unfold barB; rw [h0, h10, h13]; rfl]; rfl)
            clear out
            go_wp2
            go_roundw
            case rel => exact ⟨i + 1, by go_num, by omega, HN.out, trivial⟩
            case measure => simp [intOf]; omega
          · have t13 := byte_eq 13 13 rfl h13
            obtain ⟨rfl, rfl⟩ := out (by unfold barB; rw [h13, Bool.or_true])
            go_wp2
            go_ret2
            exact CollT.none (Below.refl _ _)
        · have t10 := byte_eq 10 10 rfl h10
          obtain ⟨rfl, rfl⟩ := out (by unfold barB; rw [h10, Bool.or_true, Bool.true_or])
          go_wp2
          go_ret2
          exact CollT.none (Below.refl _ _)
      · have t0 := byte_eq 0 0 rfl h0
        obtain ⟨rfl, rfl⟩ := out (by unfold barB; rw [h0, Bool.true_or, Bool.true_or])
        go_wp2
        go_ret2
        exact CollT.none (Below.refl _ _)
    · obtain rfl : i = s.length := by omega
      have hii : ¬ ((s.length : Nat) : Int) < (s.length : Int) := by omega
      have HB2 : Hid (s.any barB = false) := Lib.hid (by have := HB.out; rwa [List.take_length] at this)
      clear hlt hi HB
      obtain ⟨w0, hw0⟩ : ∃ w0, w0 = wr := ⟨_, rfl⟩
      subst hw0
      go_wp2
      go_loopw [4, 5, 6, 8] (fun vo vii vq vi w' => ∃ (i n c : Nat) (o : List (List UInt8)) (A : Option Addr) (ii q : Bool), vi = .int .i64 i ∧ vii = .bool ii ∧ vq = .bool q ∧ vo = .slice A n c ∧ o.length = n ∧ AtR s i ii q o ∧ w'.ownsRow w0.heap.size 9 1 (.slice A n c) n (tcl o) ∧ Below w0.heap.size w0 w') (fun _ _ _ vi _ => s.length - (intOf vi).toNat)
      case atStart => exact ⟨0, 0, 0, [], none, false, false, rfl, rfl, rfl, rfl, rfl, AtR.start s, World.ownsRow_nil _ _ _ _, Below.refl _ _⟩
      case round =>
        obtain ⟨i, n, cc, o, A, ii, q, rfl, rfl, rfl, rfl, hn, hA, hO, hBW⟩ := hrel
        have HN := Lib.hid hn
        have HA := Lib.hid hA
        have HO := Lib.hid hO
        have HBW := Lib.hid hBW
        have hnb : n ≤ s.length := by have := hA.few; have := hA.le; omega
        have hile := hA.le
        clear hn hA hO hBW
        by_cases hlt : i < s.length
        · obtain ⟨c, hc⟩ : ∃ c, s.getD i 0 = c := ⟨_, rfl⟩
          have hix := lxbyte_at s i hlt c hc
          have hii : (i : Int) < (s.length : Int) := by omega
          have HD := Lib.hid (lxdrop_at hlt hc)
          have HS1 : Hid ((s.drop i).take (i + 1 - i) = [c]) := Lib.hid (by rw [HD.out, show i + 1 - i = 1 by omega]; rfl)
          clear hc
          cases q
          · cases h35 : c == 35
            · have t35 := byte_ne 35 35 rfl h35
              cases h32 : c == 32
              · have t32 := byte_ne 32 32 rfl h32
                cases h9 : c == 9
                · have t9 := byte_ne 9 9 rfl h9
                  have he : endB c = false := by unfold endB; rw [h32, h9, h35]; rfl
                  cases ii
                  · cases h34 : c == 34
                    · have t34 := byte_ne 34 34 rfl h34
                      have hadd := lxadd [] [c] (by simp) (by simp)
                      have hsl : ∀ W, (Instr.slice 9 (.string ⟨s.toArray⟩) (some (.int .i64 (i : Int))) (some (.int .i64 ((i : Int) + 1))) none).run Tryd.prog W = .ok (.string ⟨[c].toArray⟩) W := lxsub_run s i (i + 1) [c] HS1.out (by omega) hlt
                      have HA2 : Hid (AtR s (i + 1) true false (o ++ [[c]])) := Lib.hid (HA.out.fresh hlt (by simp) (by rw [HD.out, auto_more _ _ _ he h34]; rw [if_neg (by decide), addLast_snoc]; rfl))
                      have PU := Lib.hid (PushT.of (W := wr) (w0 := w0) 71 72 [] (.string ⟨#[]⟩) rfl HN.out HO.out HBW.out (by omega))
                      go_wp2_with (at_builtin
                                   refine PU.out _ _ _ _ _ (by rfl) (by rfl) (by rfl) (by rfl) ?_
                                   intro A2 c2 w2 o2 b2
                                   have O2 := Lib.hid o2
                                   have B2 := Lib.hid b2
                                   obtain ⟨g, rfl, hgl, hgb, _, hgo, hgc⟩ := lxown_cells O2.out (by omega)
                                   have hcell := hgc n (.string ⟨#[]⟩) (by rw [tcl_app, List.getElem?_append_right (by rw [tcl_len, HN.out]; exact Nat.le_refl _), tcl_len, HN.out, Nat.sub_self]; rfl)
                                   have hfz := hgo n
                                   have HW := Lib.hid (own_last [c] O2.out HN.out)
                                   have HBS := Lib.hid (B2.out.drew.setCell (p := ⟨g, n, none⟩) hgb (.string ⟨[c].toArray⟩))
                                   clear hgc hgo
                                   clear o2 b2)
                      go_region
                      go_wp2
                      go_roundw
                      case rel => exact ⟨i + 1, n + 1, c2, o ++ [[c]], some ⟨g, 0, none⟩, true, false, by go_num, rfl, rfl, rfl, by rw [List.length_append, HN.out]; rfl, HA2.out, lxown_keep HW.out (by exact ⟨rfl, rfl, rfl, Nat.le_refl _, fun _ _ => rfl⟩), HBS.out⟩
                      case measure => simp [intOf]; omega
                    · have t34 := byte_eq 34 34 rfl h34
                      have HA2 : Hid (AtR s (i + 1) true true (o ++ [[]])) := Lib.hid (HA.out.fresh hlt (by simp) (by rw [HD.out, auto_34 _ _ _ h34, if_neg (by decide)]))
                      have PU := Lib.hid (PushT.of (W := wr) (w0 := w0) 71 72 [] (.string ⟨#[]⟩) rfl HN.out HO.out HBW.out (by omega))
                      go_wp2_with (at_builtin
                                   refine PU.out _ _ _ _ _ (by rfl) (by rfl) (by rfl) (by rfl) ?_
                                   intro A2 c2 w2 o2 b2
                                   have O2 := Lib.hid o2
                                   have B2 := Lib.hid b2
                                   clear o2 b2)
                      go_roundw
                      case rel => exact ⟨i + 1, n + 1, c2, o ++ [[]], A2, true, true, by go_num, rfl, rfl, rfl, by rw [List.length_append, HN.out]; rfl, HA2.out, O2.out, B2.out⟩
                      case measure => simp [intOf]; omega
                  · have hne := HA.out.one rfl
                    cases h34 : c == 34
                    · have t34 := byte_ne 34 34 rfl h34
                      obtain ⟨os, p, rfl, hpl⟩ := HA.out.last hne
                      obtain ⟨m, hm⟩ : ∃ m, os.length = m := ⟨_, rfl⟩
                      obtain rfl : n = m + 1 := by rw [← HN.out, ← hm]; simp
                      obtain ⟨g, rfl, hgl, hgb, _, hgo, hgc⟩ := lxown_cells HO.out (by omega)
                      have hcell := hgc m (.string ⟨p.toArray⟩) (by rw [tcl_app, List.getElem?_append_right (by rw [tcl_len, hm]; exact Nat.le_refl _), tcl_len, hm, Nat.sub_self]; rfl)
                      have hfz := hgo m
                      have hadd := lxadd p [c] (by omega) (by simp)
                      have hsl : ∀ W, (Instr.slice 9 (.string ⟨s.toArray⟩) (some (.int .i64 (i : Int))) (some (.int .i64 ((i : Int) + 1))) none).run Tryd.prog W = .ok (.string ⟨[c].toArray⟩) W := lxsub_run s i (i + 1) [c] HS1.out (by omega) hlt
                      have HW := Lib.hid (own_last (p ++ [c]) HO.out hm)
                      have HBS := Lib.hid (HBW.out.drew.setCell (p := ⟨g, m, none⟩) hgb (.string ⟨(p ++ [c]).toArray⟩))
                      have HA2 : Hid (AtR s (i + 1) true false (os ++ [p ++ [c]])) := Lib.hid (HA.out.add hlt (by rw [HD.out, auto_more _ _ _ he h34, if_pos rfl, addLast_snoc]))
                      clear hgc hgo hm
                      go_wp2
                      go_region
                      go_wp2
                      go_roundw
                      case rel => exact ⟨i + 1, m + 1, cc, os ++ [p ++ [c]], some ⟨g, 0, none⟩, true, false, by go_num, rfl, rfl, rfl, by have := HN.out; simp at this ⊢; omega, HA2.out, lxown_keep HW.out (by exact ⟨rfl, rfl, rfl, Nat.le_refl _, fun _ _ => rfl⟩), HBS.out⟩
                      case measure => simp [intOf]; omega
                    · have t34 := byte_eq 34 34 rfl h34
                      have HA2 : Hid (AtR s (i + 1) true true o) := Lib.hid (HA.out.bump hlt (by rw [HD.out, auto_34 _ _ _ h34, if_pos rfl]) (fun _ => hne) (fun _ => hne))
                      clear hne
                      go_wp2
                      go_roundw
                      case rel => exact ⟨i + 1, n, cc, o, A, true, true, by go_num, rfl, rfl, rfl, HN.out, HA2.out, HO.out, HBW.out⟩
                      case measure => simp [intOf]; omega
                · have t9 := byte_eq 9 9 rfl h9
                  have hg : gapB c = true := by unfold gapB; rw [h9, Bool.or_true]
                  have HA2 : Hid (AtR s (i + 1) false false o) := Lib.hid (HA.out.bump hlt (by rw [HD.out, auto_gap _ _ _ hg h35]) (fun h => by cases h) (fun h => by cases h))
                  clear hg
                  go_wp2
                  go_roundw
                  case rel => exact ⟨i + 1, n, cc, o, A, false, false, by go_num, rfl, rfl, rfl, HN.out, HA2.out, HO.out, HBW.out⟩
                  case measure => simp [intOf]; omega
              · have t32 := byte_eq 32 32 rfl h32
                have hg : gapB c = true := by unfold gapB; rw [h32, Bool.true_or]
                have HA2 : Hid (AtR s (i + 1) false false o) := Lib.hid (HA.out.bump hlt (by rw [HD.out, auto_gap _ _ _ hg h35]) (fun h => by cases h) (fun h => by cases h))
                clear hg
                go_wp2
                go_roundw
                case rel => exact ⟨i + 1, n, cc, o, A, false, false, by go_num, rfl, rfl, rfl, HN.out, HA2.out, HO.out, HBW.out⟩
                case measure => simp [intOf]; omega
            · have t35 := byte_eq 35 35 rfl h35
              have HF : auto s false false [] = (o, false) := by rw [← HA.out.run, HD.out, auto_35 _ _ _ h35]
              have F := Lib.hid (ref_fin HB2.out HF HV.out)
              clear HF
              by_cases hn32 : 32 < n
              · obtain ⟨rfl, rfl⟩ := F.out.2.1 rfl (by rw [HN.out]; exact hn32)
                have hn' : (32 : Int) < (n : Int) := by omega
                go_wp2
                go_ret2
                exact CollT.none HBW.out
              · obtain ⟨rfl, rfl⟩ := F.out.2.2 rfl (by rw [HN.out]; exact hn32)
                have hn' : ¬ (32 : Int) < (n : Int) := by omega
                go_wp2
                go_ret2
                exact CollT.of HN.out rfl HO.out HBW.out
          · cases h34 : c == 34
            · have t34 := byte_ne 34 34 rfl h34
              have hne := HA.out.two rfl
              obtain ⟨os, p, rfl, hpl⟩ := HA.out.last hne
              obtain ⟨m, hm⟩ : ∃ m, os.length = m := ⟨_, rfl⟩
              obtain rfl : n = m + 1 := by rw [← HN.out, ← hm]; simp
              obtain ⟨g, rfl, hgl, hgb, _, hgo, hgc⟩ := lxown_cells HO.out (by omega)
              have hcell := hgc m (.string ⟨p.toArray⟩) (by rw [tcl_app, List.getElem?_append_right (by rw [tcl_len, hm]; exact Nat.le_refl _), tcl_len, hm, Nat.sub_self]; rfl)
              have hfz := hgo m
              have hadd := lxadd p [c] (by omega) (by simp)
              have hsl : ∀ W, (Instr.slice 9 (.string ⟨s.toArray⟩) (some (.int .i64 (i : Int))) (some (.int .i64 ((i : Int) + 1))) none).run Tryd.prog W = .ok (.string ⟨[c].toArray⟩) W := lxsub_run s i (i + 1) [c] HS1.out (by omega) hlt
              have HW := Lib.hid (own_last (p ++ [c]) HO.out hm)
              have HBS := Lib.hid (HBW.out.drew.setCell (p := ⟨g, m, none⟩) hgb (.string ⟨(p ++ [c]).toArray⟩))
              have HA2 : Hid (AtR s (i + 1) ii true (os ++ [p ++ [c]])) := Lib.hid (HA.out.add hlt (by rw [HD.out, auto_qm _ _ _ h34, addLast_snoc]))
              clear hgc hgo hm
              go_wp2
              go_region
              go_wp2
              go_roundw
              case rel => exact ⟨i + 1, m + 1, cc, os ++ [p ++ [c]], some ⟨g, 0, none⟩, ii, true, by go_num, rfl, rfl, rfl, by have := HN.out; simp at this ⊢; omega, HA2.out, lxown_keep HW.out (by exact ⟨rfl, rfl, rfl, Nat.le_refl _, fun _ _ => rfl⟩), HBS.out⟩
              case measure => simp [intOf]; omega
            · have t34 := byte_eq 34 34 rfl h34
              have HA2 : Hid (AtR s (i + 1) ii false o) := Lib.hid (HA.out.bump hlt (by rw [HD.out, auto_q34 _ _ _ h34]) HA.out.one (fun h => by cases h))
              go_wp2
              go_roundw
              case rel => exact ⟨i + 1, n, cc, o, A, ii, false, by go_num, rfl, rfl, rfl, HN.out, HA2.out, HO.out, HBW.out⟩
              case measure => simp [intOf]; omega
        · obtain rfl : i = s.length := by omega
          have hii : ¬ ((s.length : Nat) : Int) < (s.length : Int) := by omega
          have HF : auto s false false [] = (o, q) := by rw [← HA.out.run, List.drop_length]; rfl
          have F := Lib.hid (ref_fin HB2.out HF HV.out)
          clear HF HA
          cases q
          · by_cases hn32 : 32 < n
            · obtain ⟨rfl, rfl⟩ := F.out.2.1 rfl (by rw [HN.out]; exact hn32)
              have hn' : (32 : Int) < (n : Int) := by omega
              go_wp2
              go_ret2
              exact CollT.none HBW.out
            · obtain ⟨rfl, rfl⟩ := F.out.2.2 rfl (by rw [HN.out]; exact hn32)
              have hn' : ¬ (32 : Int) < (n : Int) := by omega
              go_wp2
              go_ret2
              exact CollT.of HN.out rfl HO.out HBW.out
          · obtain ⟨rfl, rfl⟩ := F.out.1 rfl
            go_wp2
            go_ret2
            exact CollT.none HBW.out
end Go.Proofs.YtomiopdmgdidnaaDoor
