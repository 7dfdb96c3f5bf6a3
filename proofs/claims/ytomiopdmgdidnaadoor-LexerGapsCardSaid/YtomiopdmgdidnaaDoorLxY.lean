/- The walk of the law LexerOnce. -/
import Derived.Test.YtomiopdmgdidnaaDoorLxT
import Derived.Test.YtomiopdmgdidnaaDoorLxK
namespace Go.Proofs.YtomiopdmgdidnaaDoor
open Go.RowKit
attribute [local go_sem] Oper.semAt_some

theorem cutQ_sz : ∀ (l : List UInt8) (q : Bool), (cutQ l q).1.length + (cutQ l q).2.1.length ≤ l.length
  | [], _ => Nat.le_refl _
  | c :: l, q => by
    unfold cutQ
    split
    · have := cutQ_sz l (!q); simp only [List.length_cons]; omega
    · split
      · simp
      · have := cutQ_sz l q; simp only [List.length_cons]; omega
theorem wlist_sz (n : Nat) : ∀ l : List UInt8, l.length ≤ n → sizes ((wlist l).map (·.1)) ≤ l.length := by
  induction n with
  | zero =>
    intro l h
    have : l = [] := List.length_eq_zero_iff.1 (by omega)
    subst this
    rw [wlist_nil rfl]; exact Nat.le_refl _
  | succ n ih =>
    intro l hl
    cases hf : fromQ l with
    | nil => rw [wlist_nil hf]; exact Nat.zero_le _
    | cons d r =>
      have hlt := cutQ_lt hf
      have hq := cutQ_sz (fromQ l) false
      have hl2 := fromQ_len l
      rw [wlist_cons (by rw [hf]; exact List.cons_ne_nil _ _)]
      rw [← hf] at hlt
      have := ih (cutQ (fromQ l) false).2.1 (by omega)
      simp only [sizes, List.map_cons, List.sum_cons] at this ⊢
      omega
theorem words_sz (l : List UInt8) : sizes (wordsL l) ≤ l.length := by
  unfold wordsL
  split
  · exact wlist_sz l.length l (Nat.le_refl _)
  · exact Nat.zero_le _
theorem mem_sz {ws : List (List UInt8)} {p : List UInt8} (h : p ∈ ws) : p.length ≤ sizes ws := by
  induction ws with
  | nil => cases h
  | cons x ws ih =>
    simp only [sizes, List.map_cons, List.sum_cons] at ih ⊢
    rcases List.mem_cons.1 h with rfl | h
    · omega
    · have := ih h; omega
theorem tailG_sz : ∀ (ws : List (List UInt8)) (f : Bool), (tailG f ws).length ≤ sizes ws + 3 * ws.length
  | [], _ => Nat.zero_le _
  | w :: ws, f => by
    have h1 := tailG_sz ws false
    have h2 := putQ_len w
    have : (if f = true then [] else [(32 : UInt8)]).length ≤ 1 := by cases f <;> simp
    rw [tailG, List.length_append, List.length_append, List.length_cons]
    simp only [sizes, List.map_cons, List.sum_cons] at h1 ⊢
    omega

set_option maxHeartbeats 4000000 in
theorem lexerOnce_walk (s : List UInt8) (w : World) : Calls Tryd.prog 8 #[.string ⟨s.toArray⟩] w fun e w' => e = .returned (.bool true) ∧ Below w.heap.size w w' := by
  have hz := lxsize s
  have AW := Lib.hid lxawake
  by_cases hl : 300 < s.length
  · have hl' : (300 : Int) < (s.length : Int) := by omega
    clear hl
    go_enter Tryd.func8, Tryd.ntmps8
    go_wp2_with (first
      | (go_at_call 9; refine (AW.out _).mono ?_; rintro e w1 ⟨rfl, k1⟩
         have K1 := Lib.hid k1
         clear k1
         simp only []))
    go_ret
    exact ⟨rfl, K1.out⟩
  · have hl' : ¬ (300 : Int) < (s.length : Int) := by omega
    have hsl : s.length ≤ 2000 := by omega
    obtain ⟨er, her⟩ : ∃ er, lexE s = er := ⟨_, rfl⟩
    obtain ⟨ws, hws⟩ : ∃ ws, wordsL s = ws := ⟨_, rfl⟩
    have V1 := Lib.hid (fun W => words_is s ws er W hsl (Lib.hid ⟨her, hws⟩))
    by_cases h0 : er = 0
    · subst h0
      have hg := words_good her
      have hsz := words_sz s
      rw [hws] at hg hsz
      have hj := joinE_of hg.1 hg.2
      obtain ⟨t, ht⟩ : ∃ t, joinL ws = t := ⟨_, rfl⟩
      have hb := joined_back hj
      rw [ht] at hb
      have htl : t.length ≤ 2000 := by
        have := tailG_sz ws true
        rw [← ht, joinL, if_pos hj]; omega
      obtain ⟨n, hn⟩ : ∃ n, ws.length = n := ⟨_, rfl⟩
      have hn32 : n ≤ 32 := by rw [← hn]; exact hg.1
      have HG := Lib.hid hg.2
      have HL := Lib.hid (fun p (hp : p ∈ ws) => (show p.length ≤ 300 by have := mem_sz hp; omega))
      have HN := Lib.hid hn
      have VT := Lib.hid (fun W => words_is t ws 0 W htl (Lib.hid hb))
      have HJ := Lib.hid (And.intro hj ht)
      clear her hws hl hsl hg hsz hj ht hb htl
      unfold CollT at V1 VT
      rw [hn] at V1 VT
      clear hn
      go_enter Tryd.func8, Tryd.ntmps8
      go_wp2_with (first
        | (go_at_call 10
           first
             | (with_reducible refine (V1.out _).mono ?_
                rintro e w1 ⟨A1, c1, rfl, o1, k1⟩
                have O1 := Lib.hid (Ws.of_own o1)
                have K1 := Lib.hid k1
                have J1 := Lib.hid (join_is A1 n c1 ws 0 t w1 (Ws.of_own o1) HN.out (fun p hp => by have := HL.out p hp; omega) HJ)
                clear o1 k1
                simp only [])
             | (with_reducible refine (VT.out _).mono ?_
                rintro e w3 ⟨A3, c3, rfl, o3, k3⟩
                have O3 := Lib.hid (O2.out.next k3)
                have K3 := Lib.hid (K2.out.trans (k3.mono K2.out.size))
                have X1 := Lib.hid (texts_is A1 A3 n c1 c3 ws ws true w3 (O2.out.next k3) (Ws.of_own o3) (by rw [HN.out]; omega) n HN.out HN.out (Lib.hid (decide_eq_true rfl)))
                clear o3 k3
                simp only []))
        | (go_at_call 13; with_reducible refine J1.out.mono ?_; rintro e w2 ⟨rfl, k2⟩
           have K2 := Lib.hid (K1.out.trans (k2.mono K1.out.size))
           have O2 := Lib.hid (O1.out.next k2)
           clear k2
           simp only [])
        | (go_at_call 12; with_reducible refine X1.out.mono ?_; rintro e w4 ⟨rfl, k4⟩
           have K4 := Lib.hid (K3.out.trans (k4.mono K3.out.size))
           have O4 := Lib.hid (O3.out.next k4)
           clear k4
           simp only []))
      go_loopw [9] (fun v w' => ∃ i : Nat, v = .int .i64 i ∧ i ≤ n ∧ Ws w' A1 ws ∧ Below w.heap.size w w') (fun v _ => n - (intOf v).toNat)
      case atStart => exact ⟨0, rfl, Nat.zero_le _, O4.out, K4.out⟩
      case round =>
        obtain ⟨i, rfl, hi, hO, hB⟩ := hrel
        have HO := Lib.hid hO
        have HB := Lib.hid hB
        clear hO hB
        by_cases hlt : i < n
        · obtain ⟨p, hp⟩ : ∃ p, ws[i]? = some p := ⟨_, List.getElem?_eq_getElem (by rw [HN.out]; exact hlt)⟩
          obtain ⟨g, o, rfl, hgl, hcell⟩ := HO.out i p hp
          have hm := List.mem_of_getElem? hp
          have hpl : p.length ≤ 300 := HL.out p hm
          have hii : (i : Int) < (n : Int) := by omega
          have hj1 : joinE [p] = 0 := joinE_of (by simp) (fun x hx => by rw [List.mem_singleton.1 hx]; exact HG.out p hm)
          obtain ⟨u, hu⟩ : ∃ u, joinL [p] = u := ⟨_, rfl⟩
          have hb1 := joined_back hj1
          rw [hu] at hb1
          have hul : u.length ≤ 2000 := by
            have := putQ_len p
            rw [← hu, joinL, if_pos hj1]
            simp [tailG]; omega
          have VU := Lib.hid (fun W => words_is u [p] 0 W hul (Lib.hid hb1))
          have BA := Lib.hid (HB.out.alloc HB.out.size (.cells #[.string ⟨p.toArray⟩] 9))
          have JP := Lib.hid (join_is (some ⟨wr.heap.size, 0, none⟩) 1 1 [p] 0 u (wr.alloc (.cells #[.string ⟨p.toArray⟩] 9)) (Ws.new wr [p] _ _ rfl) rfl (fun x hx => by rw [List.mem_singleton.1 hx]; omega) (Lib.hid ⟨hj1, hu⟩))
          have OA := Lib.hid (HO.out.next ((Below.refl wr.heap.size wr).alloc (Nat.le_refl _) (.cells #[.string ⟨p.toArray⟩] 9)))
          have HP := Lib.hid hp
          clear hp hm hj1 hu hb1 hul
          go_wp2_with (first
            | (go_at_call 13; with_reducible refine JP.out.mono ?_; rintro e w5 ⟨rfl, k5⟩
               have K5 := Lib.hid (BA.out.trans (k5.mono BA.out.size))
               have O5 := Lib.hid (OA.out.next k5)
               clear k5
               simp only [])
            | (go_at_call 10; (with_reducible refine (VU.out _).mono ?_); rintro e w6 ⟨A6, c6, rfl, o6, k6⟩
               have K6 := Lib.hid (K5.out.trans (k6.mono K5.out.size))
               have O6 := Lib.hid (O5.out.next k6)
               have B6 := Lib.hid (K6.out.alloc K6.out.size (.cells #[.string ⟨p.toArray⟩] 9))
               have O6' := Lib.hid (O6.out.next ((Below.refl w6.heap.size w6).alloc (Nat.le_refl _) (.cells #[.string ⟨p.toArray⟩] 9)))
               have hc6 : w6.cell? ⟨g, o + i, none⟩ = some (.string ⟨p.toArray⟩) := by
                 obtain ⟨g', o', e', _, hh⟩ := O6.out i p HP.out
                 have e2 : g = g' ∧ o = o' := by simpa using e'
                 rw [e2.1, e2.2]; exact hh
               have X6 := Lib.hid (texts_is A6 (some ⟨w6.heap.size, 0, none⟩) 1 c6 1 [p] [p] true (w6.alloc (.cells #[.string ⟨p.toArray⟩] 9)) ((Ws.of_own o6).next ((Below.refl w6.heap.size w6).alloc (Nat.le_refl _) _)) (Ws.new w6 [p] _ _ rfl) (by simp) 1 rfl rfl (Lib.hid (decide_eq_true rfl)))
               clear o6 k6
               simp only [])
            | (go_at_call 12; with_reducible refine X6.out.mono ?_; rintro e w7 ⟨rfl, k7⟩
               have K7 := Lib.hid (B6.out.trans (k7.mono B6.out.size))
               have O7 := Lib.hid (O6'.out.next k7)
               clear k7
               simp only []))
          go_roundw
          case rel => exact ⟨i + 1, by go_num, by omega, O7.out, K7.out⟩
          case measure => simp [intOf]; omega
        · obtain rfl : i = n := by omega
          have hii : ¬ (i : Int) < (i : Int) := by omega
          go_wp2_with (first
            | (go_at_call 9; refine (AW.out _).mono ?_; rintro e w8 ⟨rfl, k8⟩
               have K8 := Lib.hid (HB.out.trans (k8.mono HB.out.size))
               clear k8
               simp only []))
          go_ret
          exact ⟨rfl, K8.out⟩
    · have h0' : (er == 0) = false := by simpa using h0
      have hwn : ws = [] := by rw [← hws]; exact words_none (by rw [her]; exact h0)
      subst hwn
      clear her hws hl hsl h0
      go_enter Tryd.func8, Tryd.ntmps8
      go_wp2_with (first
        | (go_at_call 10; refine (V1.out _).mono ?_; rintro e w1 ⟨A1, c1, rfl, o1, k1⟩
           have K1 := Lib.hid k1
           clear o1 k1
           simp only [])
        | (go_at_call 9; refine (AW.out _).mono ?_; rintro e w2 ⟨rfl, k2⟩
           have K2 := Lib.hid (K1.out.trans (k2.mono K1.out.size))
           clear k2
           simp only []))
      go_ret
      exact ⟨rfl, K2.out⟩
end Go.Proofs.YtomiopdmgdidnaaDoor
