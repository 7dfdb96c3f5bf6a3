/- The walk of the law LexerGaps. -/
import Derived.Test.YtomiopdmgdidnaaDoorLxY
import Derived.Test.YtomiopdmgdidnaaDoorLxO
namespace Go.Proofs.YtomiopdmgdidnaaDoor
open Go.RowKit
attribute [local go_sem] Oper.semAt_some

/-- What is known of the line so far: its words, whatever stands behind. -/
structure GapLine (ws : List (List UInt8)) (acc : List UInt8) : Prop where
  words : ∀ t, stops t → wlist (acc ++ t) = ws.map (·, true) ++ wlist t
  bar : acc.any barB = false
theorem GapLine.nil : GapLine [] [] := ⟨fun _ _ => rfl, rfl⟩
theorem GapLine.add {ws : List (List UInt8)} {acc p : List UInt8} (h : GapLine ws acc) (g : List UInt8) (hp : p.any badB = false) (hg : g.all gapB = true) (hb : g.any barB = false) (c : UInt8) (r : List UInt8) (hc : g = c :: r) (he : endB c = true) : GapLine (ws ++ [p]) (acc ++ (g ++ putQ p)) := by
  obtain ⟨h1, h2⟩ := bar_bad hp
  refine ⟨fun t ht => ?_, ?_⟩
  · rw [List.append_assoc, List.append_assoc, h.words _ (.inr ⟨c, r ++ (putQ p ++ t), by rw [hc]; rfl, he⟩), wlist_put g p t hg h2 ht]
    simp
  · rw [List.any_append, List.any_append, h.bar, hb, putQ_bar, h1]; rfl
theorem GapLine.behind {ws : List (List UInt8)} {acc : List UInt8} (h : GapLine ws acc) (hn : ws.length ≤ 32) : lexE (acc ++ [32, 32]) = 0 ∧ wordsL (acc ++ [32, 32]) = ws := by
  refine lex_tail ?_ ?_ hn
  · rw [h.words _ (.inr ⟨32, [32], rfl, rfl⟩), wlist_nil (l := [32, 32]) (by decide), List.append_nil]
  · rw [List.any_append, h.bar]; rfl
theorem comment_none (x : List UInt8) : fromQ (32 :: 35 :: x) = [] := by
  have e : (32 :: 35 :: x).dropWhile gapB = 35 :: x := by
    rw [List.dropWhile_cons, if_pos (by decide), List.dropWhile_cons, if_neg (by decide)]
  unfold fromQ
  rw [e]; rfl
theorem GapLine.comment {ws : List (List UInt8)} {acc x : List UInt8} (h : GapLine ws acc) (hn : ws.length ≤ 32) (hx : x.any barB = false) : lexE (acc ++ 32 :: 35 :: x) = 0 ∧ wordsL (acc ++ 32 :: 35 :: x) = ws := by
  refine lex_tail ?_ ?_ hn
  · rw [h.words _ (.inr ⟨32, _, rfl, rfl⟩), wlist_nil (comment_none x), List.append_nil]
  · rw [List.any_append, h.bar, List.any_cons, List.any_cons, hx]; rfl
theorem comment_bar {acc x : List UInt8} (hx : x.any barB = true) : lexE (acc ++ 32 :: 35 :: x) = 12 ∧ wordsL (acc ++ 32 :: 35 :: x) = [] :=
  lex_bar (by rw [List.any_append, List.any_cons, List.any_cons, hx]; simp)

set_option maxRecDepth 20000 in
set_option maxHeartbeats 8000000 in
theorem lexerGaps_walk (A : Option Addr) (c : Nat) (ws : List (List UInt8)) (A2 : Option Addr) (c2 : Nat) (zs : List Int) (x : List UInt8) (w : World) (_ : ws.length ≤ maxLen) (hW : Ws w A ws) (hzm : zs.length ≤ maxLen) (hZ : Is w A2 zs) : Calls Tryd.prog 6 #[.slice A ws.length c, .slice A2 zs.length c2, .string ⟨x.toArray⟩] w fun e w' => e = .returned (.bool true) ∧ Below w.heap.size w w' := by
  have AW := Lib.hid lxawake
  have hzx := lxsize x
  obtain ⟨n, hn⟩ : ∃ n, ws.length = n := ⟨_, rfl⟩
  obtain ⟨m, hm⟩ : ∃ m, zs.length = m := ⟨_, rfl⟩
  rw [hn, hm]
  have HN := Lib.hid hn
  have HM := Lib.hid hm
  have HW := Lib.hid hW
  have HZ := Lib.hid hZ
  have HZM := Lib.hid hzm
  clear hW hn hm hZ hzm
  by_cases h20 : 20 < n
  · have h20' : (20 : Int) < (n : Int) := by omega
    clear h20
    go_enter Tryd.func6, Tryd.ntmps6
    go_wp2_with (first
      | (go_at_call 9; refine (AW.out _).mono ?_; rintro e w1 ⟨rfl, k1⟩
         have K1 := Lib.hid k1
         clear k1
         simp only []))
    go_ret
    exact ⟨rfl, K1.out⟩
  · have h20' : ¬ (20 : Int) < (n : Int) := by omega
    have hn20 : n ≤ 20 := by omega
    clear h20
    by_cases h40 : 40 < x.length
    · have h40' : (40 : Int) < (x.length : Int) := by omega
      clear h40
      go_enter Tryd.func6, Tryd.ntmps6
      go_wp2_with (first
        | (go_at_call 9; refine (AW.out _).mono ?_; rintro e w1 ⟨rfl, k1⟩
           have K1 := Lib.hid k1
           clear k1
           simp only []))
      go_ret
      exact ⟨rfl, K1.out⟩
    · have h40' : ¬ (40 : Int) < (x.length : Int) := by omega
      have hx40 : x.length ≤ 40 := by omega
      clear h40
      go_enter Tryd.func6, Tryd.ntmps6
      go_wp2
      go_loopw [7, 8] (fun vs v w' => ∃ (i : Nat) (acc : List UInt8), v = .int .i64 i ∧ vs = .string ⟨acc.toArray⟩ ∧ i ≤ n ∧ GapLine (ws.take i) acc ∧ acc.length ≤ 40 * i ∧ Below w.heap.size w w') (fun _ v _ => n - (intOf v).toNat)
      case atStart => exact ⟨0, [], rfl, rfl, Nat.zero_le _, GapLine.nil, Nat.zero_le _, Below.refl _ _⟩
      case round =>
        obtain ⟨i, acc, rfl, rfl, hi, hg, hl, hB⟩ := hrel
        have HG := Lib.hid hg
        have HB := Lib.hid hB
        clear hg hB
        by_cases hlt : i < n
        · obtain ⟨p, hp⟩ : ∃ p, ws[i]? = some p := ⟨_, List.getElem?_eq_getElem (by rw [HN.out]; exact hlt)⟩
          obtain ⟨g, o, rfl, hgl, hcell0⟩ := HW.out i p hp
          have hcell : wr.cell? ⟨g, o + i, none⟩ = some (.string ⟨p.toArray⟩) := by rw [HB.out.cell (p := ⟨g, o + i, none⟩) hgl]; exact hcell0
          have hii : (i : Int) < (n : Int) := by omega
          have hz := lxsize p
          have HP := Lib.hid hp
          clear hp hcell0
          by_cases hpl : 30 < p.length
          · have hpl' : (30 : Int) < (p.length : Int) := by omega
            clear hpl
            go_wp2_with (first
              | (go_at_call 9; refine (AW.out _).mono ?_; rintro e w1 ⟨rfl, k1⟩
                 have K1 := Lib.hid (HB.out.trans (k1.mono HB.out.size))
                 clear k1
                 simp only []))
            go_ret
            exact ⟨rfl, K1.out⟩
          · have hpl' : ¬ (30 : Int) < (p.length : Int) := by omega
            have hp30 : p.length ≤ 30 := by omega
            obtain ⟨er, her⟩ : ∃ er, joinE [p] = er := ⟨_, rfl⟩
            obtain ⟨u, hu⟩ : ∃ u, joinL [p] = u := ⟨_, rfl⟩
            have BA := Lib.hid (HB.out.alloc HB.out.size (.cells #[.string ⟨p.toArray⟩] 9))
            have JP := Lib.hid (join_is (some ⟨wr.heap.size, 0, none⟩) 1 1 [p] er u (wr.alloc (.cells #[.string ⟨p.toArray⟩] 9)) (Ws.new wr [p] _ _ rfl) rfl (fun q hq => by rw [List.mem_singleton.1 hq]; omega) (Lib.hid ⟨her, hu⟩))
            clear hpl
            by_cases h0 : er = 0
            · subst h0
              have hbad : p.any badB = false := (joinE_zero her).2 p (by simp)
              have hup : u = putQ p := by rw [← hu, joinL, if_pos her]; simp [tailG]
              have hul : u.length ≤ 32 := by have := putQ_len p; rw [hup]; omega
              have TK : Hid (ws.take (i + 1) = ws.take i ++ [p]) := Lib.hid (by rw [List.take_add_one, HP.out]; rfl)
              have HU := Lib.hid hup
              have HBD := Lib.hid hbad
              clear her hu hup hbad
              by_cases hk : i < m
              · have hk' : (i : Int) < (m : Int) := by omega
                obtain ⟨g2, o2, rfl, hgl2, hcz, hin⟩ := HZ.out i (by rw [HM.out]; exact hk)
                have HCZ := Lib.hid hcz
                have HGL2 := Lib.hid hgl2
                obtain ⟨k, hkk⟩ : ∃ k, zs.getD i 0 = k := ⟨_, rfl⟩
                rw [hkk] at hcz
                have HCK := Lib.hid hcz
                clear hcz hin hkk hk
                by_cases r1 : Int.tmod k 3 = 1
                · have r1' : (Int.tmod k 3 == 1) = true := by simpa using r1
                  have r2' : (Int.tmod k 3 == 2) = false := by rw [r1]; rfl
                  clear r1
                  have GL : Hid (GapLine (ws.take (i + 1)) (acc ++ ([9] ++ u))) := Lib.hid (by rw [TK.out, HU.out]; exact HG.out.add [9] HBD.out (by decide) (by decide) 9 [] rfl (by decide))
                  have ad1 := lxadd acc [9] (by omega) (by simp)
                  have ad2 : ∀ W, (Op.stringOp .add ⟨(acc ++ [9]).toArray⟩ ⟨u.toArray⟩).run Tryd.prog W = .ok (.string ⟨(acc ++ ([9] ++ u)).toArray⟩) W := fun W => by
                    have := lxadd (acc ++ [9]) u (by simp; omega) (by omega) W
                    rwa [List.append_assoc] at this
                  go_wp2_with (first
                    | (go_at_call 13; with_reducible refine JP.out.mono ?_; rintro e w2 ⟨rfl, k2⟩
                       have K2 := Lib.hid (BA.out.trans (k2.mono BA.out.size))
                       have hck : w2.cell? ⟨g2, o2 + i, none⟩ = some (.int .i64 k) := by rw [K2.out.cell (p := ⟨g2, o2 + i, none⟩) HGL2.out]; exact HCK.out
                       clear k2
                       simp only []))
                  go_roundw
                  case rel => exact ⟨i + 1, acc ++ ([9] ++ u), by go_num, rfl, by omega, GL.out, by simp; omega, K2.out⟩
                  case measure => simp [intOf]; omega
                · have r1' : (Int.tmod k 3 == 1) = false := by simpa using r1
                  clear r1
                  by_cases r2 : Int.tmod k 3 = 2
                  · have r2' : (Int.tmod k 3 == 2) = true := by simpa using r2
                    clear r2
                    have GL : Hid (GapLine (ws.take (i + 1)) (acc ++ ([32, 9, 32] ++ u))) := Lib.hid (by rw [TK.out, HU.out]; exact HG.out.add [32, 9, 32] HBD.out (by decide) (by decide) 32 [9, 32] rfl (by decide))
                    have ad1 := lxadd acc [32, 9, 32] (by omega) (by simp)
                    have ad2 : ∀ W, (Op.stringOp .add ⟨(acc ++ [32, 9, 32]).toArray⟩ ⟨u.toArray⟩).run Tryd.prog W = .ok (.string ⟨(acc ++ ([32, 9, 32] ++ u)).toArray⟩) W := fun W => by
                      have := lxadd (acc ++ [32, 9, 32]) u (by simp; omega) (by omega) W
                      rwa [List.append_assoc] at this
                    go_wp2_with (first
                      | (go_at_call 13; with_reducible refine JP.out.mono ?_; rintro e w2 ⟨rfl, k2⟩
                         have K2 := Lib.hid (BA.out.trans (k2.mono BA.out.size))
                         have hck : w2.cell? ⟨g2, o2 + i, none⟩ = some (.int .i64 k) := by rw [K2.out.cell (p := ⟨g2, o2 + i, none⟩) HGL2.out]; exact HCK.out
                         clear k2
                         simp only []))
                    go_roundw
                    case rel => exact ⟨i + 1, acc ++ ([32, 9, 32] ++ u), by go_num, rfl, by omega, GL.out, by simp; omega, K2.out⟩
                    case measure => simp [intOf]; omega
                  · have r2' : (Int.tmod k 3 == 2) = false := by simpa using r2
                    clear r2
                    have GL : Hid (GapLine (ws.take (i + 1)) (acc ++ ([32] ++ u))) := Lib.hid (by rw [TK.out, HU.out]; exact HG.out.add [32] HBD.out (by decide) (by decide) 32 [] rfl (by decide))
                    have ad1 := lxadd acc [32] (by omega) (by simp)
                    have ad2 : ∀ W, (Op.stringOp .add ⟨(acc ++ [32]).toArray⟩ ⟨u.toArray⟩).run Tryd.prog W = .ok (.string ⟨(acc ++ ([32] ++ u)).toArray⟩) W := fun W => by
                      have := lxadd (acc ++ [32]) u (by simp; omega) (by omega) W
                      rwa [List.append_assoc] at this
                    go_wp2_with (first
                      | (go_at_call 13; with_reducible refine JP.out.mono ?_; rintro e w2 ⟨rfl, k2⟩
                         have K2 := Lib.hid (BA.out.trans (k2.mono BA.out.size))
                         have hck : w2.cell? ⟨g2, o2 + i, none⟩ = some (.int .i64 k) := by rw [K2.out.cell (p := ⟨g2, o2 + i, none⟩) HGL2.out]; exact HCK.out
                         clear k2
                         simp only []))
                    go_roundw
                    case rel => exact ⟨i + 1, acc ++ ([32] ++ u), by go_num, rfl, by omega, GL.out, by simp; omega, K2.out⟩
                    case measure => simp [intOf]; omega
              · have hk' : ¬ (i : Int) < (m : Int) := by omega
                clear hk
                have GL : Hid (GapLine (ws.take (i + 1)) (acc ++ ([32] ++ u))) := Lib.hid (by rw [TK.out, HU.out]; exact HG.out.add [32] HBD.out (by decide) (by decide) 32 [] rfl (by decide))
                have ad1 := lxadd acc [32] (by omega) (by simp)
                have ad2 : ∀ W, (Op.stringOp .add ⟨(acc ++ [32]).toArray⟩ ⟨u.toArray⟩).run Tryd.prog W = .ok (.string ⟨(acc ++ ([32] ++ u)).toArray⟩) W := fun W => by
                  have := lxadd (acc ++ [32]) u (by simp; omega) (by omega) W
                  rwa [List.append_assoc] at this
                go_wp2_with (first
                  | (go_at_call 13; with_reducible refine JP.out.mono ?_; rintro e w2 ⟨rfl, k2⟩
                     have K2 := Lib.hid (BA.out.trans (k2.mono BA.out.size))
                     clear k2
                     simp only []))
                go_roundw
                case rel => exact ⟨i + 1, acc ++ ([32] ++ u), by go_num, rfl, by omega, GL.out, by simp; omega, K2.out⟩
                case measure => simp [intOf]; omega
            · have h0' : (er == 0) = false := by simpa using h0
              clear h0 her hu
              go_wp2_with (first
                | (go_at_call 13; with_reducible refine JP.out.mono ?_; rintro e w2 ⟨rfl, k2⟩
                   have K2 := Lib.hid (BA.out.trans (k2.mono BA.out.size))
                   clear k2
                   simp only [])
                | (go_at_call 9; refine (AW.out _).mono ?_; rintro e w1 ⟨rfl, k1⟩
                   have K1 := Lib.hid (K2.out.trans (k1.mono K2.out.size))
                   clear k1
                   simp only []))
              go_ret
              exact ⟨rfl, K1.out⟩
        · obtain rfl : i = n := by omega
          have hii : ¬ (i : Int) < (i : Int) := by omega
          have HG2 : Hid (GapLine ws acc) := Lib.hid (by have := HG.out; rwa [List.take_of_length_le (by rw [HN.out]; exact Nat.le_refl _)] at this)
          have hwn : ws.length ≤ 32 := by rw [HN.out]; omega
          have ad1 := lxadd acc [32, 32] (by omega) (by simp)
          have ad2 := lxadd acc [32, 35] (by omega) (by simp)
          have ad3 : ∀ W, (Op.stringOp .add ⟨(acc ++ [32, 35]).toArray⟩ ⟨x.toArray⟩).run Tryd.prog W = .ok (.string ⟨(acc ++ 32 :: 35 :: x).toArray⟩) W := fun W => by
            have := lxadd (acc ++ [32, 35]) x (by simp; omega) (by omega) W
            rwa [show acc ++ [32, 35] ++ x = acc ++ 32 :: 35 :: x from by simp] at this
          have VA := Lib.hid (fun W => words_is (acc ++ [32, 32]) ws 0 W (by simp; omega) (Lib.hid (HG2.out.behind hwn)))
          unfold CollT at VA
          rw [HN.out] at VA
          cases hb : x.any barB
          · have VB := Lib.hid (fun W => words_is (acc ++ 32 :: 35 :: x) ws 0 W (by simp; omega) (Lib.hid (HG2.out.comment hwn hb)))
            unfold CollT at VB
            rw [HN.out] at VB
            have HX := Lib.hid hb
            clear hwn hb
            go_wp2_with (first
              | (go_at_call 10
                 first
                   | (with_reducible refine (VA.out _).mono ?_
                      rintro e w2 ⟨A3, c3, rfl, o3, k3⟩
                      have K2 := Lib.hid (HB.out.trans (k3.mono HB.out.size))
                      have O3 := Lib.hid (Ws.of_own o3)
                      clear o3 k3
                      simp only [])
                   | (with_reducible refine (VB.out _).mono ?_
                      rintro e w3 ⟨A5, c5, rfl, o5, k5⟩
                      have K3 := Lib.hid (K2.out.trans (k5.mono K2.out.size))
                      have XA := Lib.hid (texts_is A3 A i c3 c ws ws true w3 (O3.out.next k5) (HW.out.next (K2.out.trans (k5.mono K2.out.size))) (by rw [HN.out]; omega) i HN.out HN.out (Lib.hid (decide_eq_true rfl)))
                      have O5 := Lib.hid (Ws.of_own o5)
                      clear o5 k5
                      simp only []))
              | (go_at_call 12; with_reducible refine XA.out.mono ?_; rintro e w4 ⟨rfl, k4⟩
                 have K4 := Lib.hid (K3.out.trans (k4.mono K3.out.size))
                 have XB := Lib.hid (texts_is A5 A i c5 c ws ws true w4 (O5.out.next k4) (HW.out.next (K3.out.trans (k4.mono K3.out.size))) (by rw [HN.out]; omega) i HN.out HN.out (Lib.hid (decide_eq_true rfl)))
                 clear k4
                 simp only []))
            go_loopw [17] (fun v w' => ∃ j : Nat, v = .int .i64 j ∧ j ≤ x.length ∧ w' = w4) (fun v _ => x.length - (intOf v).toNat)
            case atStart => exact ⟨0, rfl, Nat.zero_le _, rfl⟩
            case round =>
              obtain ⟨j, rfl, hj, hwr⟩ := hrel
              subst hwr
              by_cases hjl : j < x.length
              · obtain ⟨b, hbb⟩ : ∃ b, x.getD j 0 = b := ⟨_, rfl⟩
                have hix := lxbyte_at x j hjl b hbb
                have hjj : (j : Int) < (x.length : Int) := by omega
                have hbf : barB b = false := by
                  have := (List.any_eq_false.1 HX.out) b (by rw [← hbb]; simp [hjl])
                  simpa using this
                unfold barB at hbf
                simp only [Bool.or_eq_false_iff] at hbf
                have t0 := byte_ne 0 0 rfl hbf.1.1
                have t10 := byte_ne 10 10 rfl hbf.1.2
                have t13 := byte_ne 13 13 rfl hbf.2
                clear hbb hbf
                go_wp2
                go_roundw
                case rel => exact ⟨j + 1, by go_num, by omega, by first | rfl | trivial⟩
                case measure => simp [intOf]; omega
              · obtain rfl : j = x.length := by omega
                have hjj : ¬ ((x.length : Nat) : Int) < (x.length : Int) := by omega
                go_wp2_with (first
                  | (go_at_call 12; with_reducible refine XB.out.mono ?_; rintro e w5 ⟨rfl, k5⟩
                     have K5 := Lib.hid (K4.out.trans (k5.mono K4.out.size))
                     clear k5
                     simp only [])
                  | (go_at_call 9; refine (AW.out _).mono ?_; rintro e w6 ⟨rfl, k6⟩
                     have K6 := Lib.hid (K5.out.trans (k6.mono K5.out.size))
                     clear k6
                     simp only []))
                go_ret
                exact ⟨rfl, K6.out⟩
          · have VB := Lib.hid (fun W => words_is (acc ++ 32 :: 35 :: x) [] 12 W (by simp; omega) (Lib.hid (comment_bar (acc := acc) hb)))
            have HX := Lib.hid hb
            clear hwn hb
            go_wp2_with (first
              | (go_at_call 10
                 first
                   | (with_reducible refine (VA.out _).mono ?_
                      rintro e w2 ⟨A3, c3, rfl, o3, k3⟩
                      have K2 := Lib.hid (HB.out.trans (k3.mono HB.out.size))
                      have O3 := Lib.hid (Ws.of_own o3)
                      clear o3 k3
                      simp only [])
                   | (with_reducible refine (VB.out _).mono ?_
                      rintro e w3 ⟨A5, c5, rfl, o5, k5⟩
                      have K3 := Lib.hid (K2.out.trans (k5.mono K2.out.size))
                      have XA := Lib.hid (texts_is A3 A i c3 c ws ws true w3 (O3.out.next k5) (HW.out.next (K2.out.trans (k5.mono K2.out.size))) (by rw [HN.out]; omega) i HN.out HN.out (Lib.hid (decide_eq_true rfl)))
                      clear o5 k5
                      simp only []))
              | (go_at_call 12; with_reducible refine XA.out.mono ?_; rintro e w4 ⟨rfl, k4⟩
                 have K4 := Lib.hid (K3.out.trans (k4.mono K3.out.size))
                 clear k4
                 simp only []))
            go_loopw [17] (fun v w' => ∃ j : Nat, v = .int .i64 j ∧ j ≤ x.length ∧ (x.take j).any barB = false ∧ w' = w4) (fun v _ => x.length - (intOf v).toNat)
            case atStart => exact ⟨0, rfl, Nat.zero_le _, rfl, rfl⟩
            case round =>
              obtain ⟨j, rfl, hj, hjb, hwr⟩ := hrel
              subst hwr
              have HJB := Lib.hid hjb
              clear hjb
              by_cases hjl : j < x.length
              · obtain ⟨b, hbb⟩ : ∃ b, x.getD j 0 = b := ⟨_, rfl⟩
                have hix := lxbyte_at x j hjl b hbb
                have hjj : (j : Int) < (x.length : Int) := by omega
                have HT : Hid ((x.take (j + 1)).any barB = barB b) := Lib.hid (by rw [lxtake_at hjl hbb, List.any_append, HJB.out]; simp)
                clear hbb
                cases h0 : b == 0
                · have t0 := byte_ne 0 0 rfl h0
                  cases h10 : b == 10
                  · have t10 := byte_ne 10 10 rfl h10
                    cases h13 : b == 13
                    · have t13 := byte_ne 13 13 rfl h13
                      have HT2 : Hid ((x.take (j + 1)).any barB = false) := Lib.hid (by rw [HT.out]; unfold barB; rw [h0, h10, h13]; rfl)
                      go_wp2
                      go_roundw
                      case rel => exact ⟨j + 1, by go_num, by omega, HT2.out, by first | rfl | trivial⟩
                      case measure => simp [intOf]; omega
                    · have t13 := byte_eq 13 13 rfl h13
                      go_wp2_with (first
                        | (go_at_call 9; refine (AW.out _).mono ?_; rintro e w6 ⟨rfl, k6⟩
                           have K6 := Lib.hid (K4.out.trans (k6.mono K4.out.size))
                           clear k6
                           simp only []))
                      go_ret
                      exact ⟨rfl, K6.out⟩
                  · have t10 := byte_eq 10 10 rfl h10
                    go_wp2_with (first
                      | (go_at_call 9; refine (AW.out _).mono ?_; rintro e w6 ⟨rfl, k6⟩
                         have K6 := Lib.hid (K4.out.trans (k6.mono K4.out.size))
                         clear k6
                         simp only []))
                    go_ret
                    exact ⟨rfl, K6.out⟩
                · have t0 := byte_eq 0 0 rfl h0
                  go_wp2_with (first
                    | (go_at_call 9; refine (AW.out _).mono ?_; rintro e w6 ⟨rfl, k6⟩
                       have K6 := Lib.hid (K4.out.trans (k6.mono K4.out.size))
                       clear k6
                       simp only []))
                  go_ret
                  exact ⟨rfl, K6.out⟩
              · exfalso
                have := HJB.out
                rw [List.take_of_length_le (by omega), HX.out] at this
                cases this
end Go.Proofs.YtomiopdmgdidnaaDoor
