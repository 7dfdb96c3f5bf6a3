/- The contracts of the law's own Texts (whether two lists of texts are the same) and awake; nothing that was in memory changes. -/
import Derived.Test.YtomiopdmgdidnaaDoorLxF
namespace Go.Proofs.YtomiopdmgdidnaaDoor
open Go.RowKit
attribute [local go_sem] Oper.semAt_some

set_option maxHeartbeats 1000000 in
theorem texts_is (a b : Option Addr) (n ca cb : Nat) (l m : List (List UInt8)) (v : Bool) (w : World) (ha : Ws w a l) (hb : Ws w b m) (hl : l.length ≤ 100000) (k : Nat) (hn : l.length = n) (hk : m.length = k) (hv : Hid (decide (l = m) = v)) :
    Calls Tryd.prog 12 #[.slice a n ca, .slice b k cb] w fun e w' => e = .returned (.bool v) ∧ Below w.heap.size w w' := by
  have HA := Lib.hid ha
  have HB := Lib.hid hb
  have HN := Lib.hid hn
  have HK := Lib.hid hk
  clear ha hb
  by_cases hnk : n = k
  · subst hnk
    have hl2 : n ≤ 100000 := by omega
    clear hl hn hk
    go_enter Tryd.func12, Tryd.ntmps12
    go_wp2
    go_loopw [5] (fun i wr => ∃ j : Nat, i = .int .i64 j ∧ j ≤ n ∧ l.take j = m.take j ∧ Below w.heap.size w wr) (fun i _ => n - (intOf i).toNat)
    case atStart => exact ⟨0, rfl, Nat.zero_le _, rfl, Below.refl _ _⟩
    case round =>
      obtain ⟨j, rfl, hj, ht, hbw⟩ := hrel
      have HT := Lib.hid ht
      have HBW := Lib.hid hbw
      clear ht
      by_cases hlt : j < n
      · obtain ⟨x, hx⟩ : ∃ x, l[j]? = some x := ⟨_, List.getElem?_eq_getElem (by rw [HN.out]; exact hlt)⟩
        obtain ⟨y, hy⟩ : ∃ y, m[j]? = some y := ⟨_, List.getElem?_eq_getElem (by rw [HK.out]; exact hlt)⟩
        obtain ⟨g1, o1, rfl, hb1, hc1⟩ := HA.out j x hx
        obtain ⟨g2, o2, rfl, hb2, hc2⟩ := HB.out j y hy
        have h1 : wr.cell? ⟨g1, o1 + j, none⟩ = some (.string ⟨x.toArray⟩) := by rw [hbw.cell (p := ⟨g1, o1 + j, none⟩) hb1]; exact hc1
        have h2 : wr.cell? ⟨g2, o2 + j, none⟩ = some (.string ⟨y.toArray⟩) := by rw [hbw.cell (p := ⟨g2, o2 + j, none⟩) hb2]; exact hc2
        have tx : l.take (j + 1) = l.take j ++ [x] := by rw [List.take_add_one, hx]; rfl
        have ty : m.take (j + 1) = m.take j ++ [y] := by rw [List.take_add_one, hy]; rfl
        have HX := Lib.hid hx
        have HY := Lib.hid hy
        have TX := Lib.hid (And.intro tx ty)
        have hjn : (j : Int) < (n : Int) := by omega
        clear hc1 hc2 hx hy tx ty hbw
        by_cases he : x = y
        · subst he
          go_wp2
          go_region
          go_wp2
          go_roundw
          case rel => exact ⟨j + 1, by go_num, by omega, by rw [TX.out.1, TX.out.2, HT.out], HBW.out.drew⟩
          case measure => simp [intOf]; omega
        · have hne : (x == y) = false := by simpa using he
          have hvf : v = false := by
            rw [← hv.out]
            have : l ≠ m := by
              rintro rfl
              have := HX.out.symm.trans HY.out
              injection this with this
              exact he this
            simp [this]
          subst hvf
          clear he
          go_wp2
          go_region
          go_wp2
          go_ret
          exact ⟨rfl, HBW.out.drew⟩
      · obtain rfl : j = n := by omega
        have hvt : v = true := by
          rw [← hv.out]
          have := HT.out
          rw [List.take_of_length_le (by rw [HN.out]; exact Nat.le_refl _), List.take_of_length_le (by rw [HK.out]; exact Nat.le_refl _)] at this
          simp [this]
        subst hvt
        have hjn : ¬ (j : Int) < (j : Int) := by omega
        go_wp2
        go_ret
        exact ⟨rfl, HBW.out⟩
  · have hvf : v = false := by
      rw [← hv.out]
      have : l ≠ m := by rintro rfl; exact hnk (hn.symm.trans hk)
      simp [this]
    subst hvf
    have hne : ((n : Int) != (k : Int)) = true := by simp; omega
    clear hnk hn hk hl
    go_enter Tryd.func12, Tryd.ntmps12
    go_wp2
    go_ret
    exact ⟨rfl, Below.refl _ _⟩

theorem lexE_1 : lexE [97, 32, 34, 98, 32, 99, 34, 100, 32, 35, 32, 101] = 0 ∧ wordsL [97, 32, 34, 98, 32, 99, 34, 100, 32, 35, 32, 101] = [[97], [98, 32, 99, 100]] := by
  refine lex_tail (ws := [[97], [98, 32, 99, 100]]) ?_ rfl (by decide)
  rw [wlist_cons (by decide), show (cutQ (fromQ [97, 32, 34, 98, 32, 99, 34, 100, 32, 35, 32, 101]) false) = ([97], [32, 34, 98, 32, 99, 34, 100, 32, 35, 32, 101], true) from by decide]
  rw [wlist_cons (by decide), show (cutQ (fromQ [32, 34, 98, 32, 99, 34, 100, 32, 35, 32, 101]) false) = ([98, 32, 99, 100], [32, 35, 32, 101], true) from by decide]
  rw [wlist_nil (by decide)]
  rfl
theorem lexE_2 : lexE [34, 34] = 0 ∧ wordsL [34, 34] = [[]] := by
  refine lex_tail (ws := [[]]) ?_ rfl (by decide)
  rw [wlist_cons (by decide), show (cutQ (fromQ [34, 34]) false) = ([], [], true) from by decide, wlist_nil rfl]
  rfl
theorem lexE_3 : lexE [34, 97] = 12 ∧ wordsL [34, 97] = [] := by
  have e : lexE [34, 97] = 12 := by
    unfold lexE
    rw [show ([34, 97] : List UInt8).any barB = false from rfl, wlist_cons (by decide), show (cutQ (fromQ [34, 97]) false) = ([97], [], false) from by decide]
    rfl
  exact ⟨e, words_none (by rw [e]; decide)⟩

set_option maxHeartbeats 2000000 in
theorem lxawake (w : World) : Calls Tryd.prog 9 #[] w fun e w' => e = .returned (.bool true) ∧ Below w.heap.size w w' := by
  have V1 := Lib.hid (fun W => words_is [97, 32, 34, 98, 32, 99, 34, 100, 32, 35, 32, 101] [[97], [98, 32, 99, 100]] 0 W (by decide) (Lib.hid lexE_1))
  have V2 := Lib.hid (fun W => words_is [34, 34] [[]] 0 W (by decide) (Lib.hid lexE_2))
  have V3 := Lib.hid (fun W => words_is [34, 97] [] 12 W (by decide) (Lib.hid lexE_3))
  go_enter Tryd.func9, Tryd.ntmps9
  go_wp2_with (first
    | (go_at_call 10
       first
         | (with_reducible refine (V1.out _).mono ?_
            rintro e w1 ⟨A1, c1, rfl, o1, k1⟩
            have O1 := Lib.hid (Ws.of_own o1)
            have K1 := Lib.hid k1
            clear o1 k1
            simp only [])
         | (with_reducible refine (V2.out _).mono ?_
            rintro e w2 ⟨A2, c2, rfl, o2, k2⟩
            have O1' := Lib.hid (O1.out.next k2)
            have O2 := Lib.hid (Ws.of_own o2)
            have K2 := Lib.hid (K1.out.trans (k2.mono K1.out.size))
            clear o2 k2
            simp only [])
         | (with_reducible refine (V3.out _).mono ?_
            rintro e w3 ⟨A3, c3, rfl, o3, k3⟩
            have O1'' := Lib.hid (O1'.out.next k3)
            have O2' := Lib.hid (O2.out.next k3)
            have K3 := Lib.hid (K2.out.trans (k3.mono K2.out.size))
            have B3 := Lib.hid (K3.out.alloc K3.out.size (.cells #[.string ⟨#[97]⟩, .string ⟨#[98, 32, 99, 100]⟩] 9))
            have X1 := Lib.hid (texts_is A1 (some ⟨w3.heap.size, 0, none⟩) 2 c1 2 [[97], [98, 32, 99, 100]] [[97], [98, 32, 99, 100]] true (w3.alloc (.cells #[.string ⟨#[97]⟩, .string ⟨#[98, 32, 99, 100]⟩] 9)) (O1''.out.next ((Below.refl _ _).alloc (Nat.le_refl _) _)) (Ws.new w3 _ _ _ rfl) (by decide) 2 rfl rfl (Lib.hid rfl))
            clear o3 k3
            simp only []))
    | (go_at_call 12
       first
         | (with_reducible refine X1.out.mono ?_
            rintro e w4 ⟨rfl, k4⟩
            have K4 := Lib.hid (B3.out.trans (k4.mono B3.out.size))
            have O2'' := Lib.hid ((O2'.out.next ((Below.refl _ _).alloc (Nat.le_refl _) _)).next k4)
            have B4 := Lib.hid (K4.out.alloc K4.out.size (.cells #[.string ⟨#[]⟩] 9))
            have X2 := Lib.hid (texts_is A2 (some ⟨w4.heap.size, 0, none⟩) 1 c2 1 [[]] [[]] true (w4.alloc (.cells #[.string ⟨#[]⟩] 9)) (O2''.out.next ((Below.refl _ _).alloc (Nat.le_refl _) _)) (Ws.new w4 _ _ _ rfl) (by decide) 1 rfl rfl (Lib.hid rfl))
            clear k4
            simp only [])
         | (with_reducible refine X2.out.mono ?_
            rintro e w5 ⟨rfl, k5⟩
            have K5 := Lib.hid (B4.out.trans (k5.mono B4.out.size))
            clear k5
            simp only [])))
  go_ret
  exact ⟨rfl, K5.out⟩
end Go.Proofs.YtomiopdmgdidnaaDoor
