/- The walk of the law LexerParts. -/
import Derived.Deep.RegionHeld3
import Derived.Test.YtomiopdmgdidnaaDoorLxL
namespace Go.Proofs.YtomiopdmgdidnaaDoor
open Go.RowKit
attribute [local go_sem] Oper.semAt_some

theorem told_no : ∀ (ls : List (List UInt8)) (n : Nat) (t : Told), t ∈ toldL n ls → t.1 < n + ls.length
  | [], n, t, h => by simp [toldL] at h
  | l :: ls, n, t, h => by
    rw [toldL] at h
    have ih := told_no ls (n + 1) t
    split at h
    · rw [List.mem_singleton.1 h]; simp
    · split at h
      · have := ih h; simp; omega
      · rcases List.mem_cons.1 h with rfl | h
        · simp
        · have := ih h; simp; omega
theorem wrap_near (x : Int) (h : -1000000 ≤ x ∧ x ≤ 1000000) : IntKind.i64.wrap x = x := by
  simp [IntKind.wrap, IntKind.bits, IntKind.signed]; omega
theorem few_words {ls : List (List UInt8)} {n i no : Nat} {ws : List (List UInt8)} (h : (toldL n ls)[i]? = some (no, ws)) : ws.length ≤ 100000 := by
  have hm := List.mem_of_getElem? h
  clear h
  induction ls generalizing n with
  | nil => simp [toldL] at hm
  | cons l ls ih =>
    rw [toldL] at hm
    split at hm
    · have := List.mem_singleton.1 hm
      simp at this; simp [this.2]
    · split at hm
      · exact ih hm
      · rcases List.mem_cons.1 hm with h | h
        · have h2 := words_len l
          injection h with _ h; rw [h]; omega
        · exact ih h
theorem told_join (a b : List UInt8) : toldE (splitF (a ++ 10 :: b)) = (if toldE (splitF a) = 0 then toldE (splitF b) else toldE (splitF a)) ∧
    toldL 1 (splitF (a ++ 10 :: b)) = if toldE (splitF a) = 0 then toldL 1 (splitF a) ++ (toldL 1 (splitF b)).map (fun p => (p.1 + (splitF a).length, p.2)) else toldL 1 (splitF a) := by
  rw [splitF_app, toldE_app, told_app, told_shift]
  exact ⟨rfl, rfl⟩
/-- Two lines of two rows, whatever is done besides. -/
theorem two_at {W : World} {A B : Option Addr} {xs ys : List Told} (hA : Ls W A xs) (hB : Ls W B ys) {i j : Nat} {x y : Told} (hx : xs[i]? = some x) (hy : ys[j]? = some y) :
    ∃ g o g' o' C c C' c', A = some ⟨g, o, none⟩ ∧ B = some ⟨g', o', none⟩ ∧ ∀ W', Below W.heap.size W W' → W'.cell? ⟨g, o + i * 2, none⟩ = some (.int .i64 (x.1 : Int)) ∧ W'.cell? ⟨g, o + i * 2 + 1, none⟩ = some (.slice C x.2.length c) ∧ Ws W' C x.2 ∧
      W'.cell? ⟨g', o' + j * 2, none⟩ = some (.int .i64 (y.1 : Int)) ∧ W'.cell? ⟨g', o' + j * 2 + 1, none⟩ = some (.slice C' y.2.length c') ∧ Ws W' C' y.2 := by
  obtain ⟨g, o, rfl, hg, h1, C, c, h2, h3⟩ := hA.at_ hx
  obtain ⟨g', o', rfl, hg', h1', C', c', h2', h3'⟩ := hB.at_ hy
  exact ⟨g, o, g', o', C, c, C', c', rfl, rfl, fun W' k => ⟨by rw [k.cell (p := ⟨g, o + i * 2, none⟩) hg]; exact h1, by rw [k.cell (p := ⟨g, o + i * 2 + 1, none⟩) hg]; exact h2, h3.next k,
    by rw [k.cell (p := ⟨g', o' + j * 2, none⟩) hg']; exact h1', by rw [k.cell (p := ⟨g', o' + j * 2 + 1, none⟩) hg']; exact h2', h3'.next k⟩⟩

set_option maxRecDepth 20000 in
set_option maxHeartbeats 4000000 in
theorem lexerParts_main (a b : List UInt8) (w : World) (hM : MaxIs w) (ha : a.length ≤ 200) (hb : b.length ≤ 200) : Calls Tryd.prog 7 #[.string ⟨a.toArray⟩, .string ⟨b.toArray⟩] w fun e w' => e = .returned (.bool true) ∧ Below w.heap.size w w' := by
  have hza := lxsize a
  have hzb := lxsize b
  have AW := Lib.hid lxawake
  have hla : ¬ (200 : Int) < (a.length : Int) := by omega
  have hlb : ¬ (200 : Int) < (b.length : Int) := by omega
  have hadd1 := lxadd a [10] (by omega) (by simp)
  have hadd2 : ∀ W, (Op.stringOp .add ⟨(a ++ [10]).toArray⟩ ⟨b.toArray⟩).run Tryd.prog W = .ok (.string ⟨(a ++ 10 :: b).toArray⟩) W := fun W => by
    have := lxadd (a ++ [10]) b (by simp; omega) (by omega) W
    rwa [List.append_assoc, List.singleton_append] at this
  obtain ⟨al, hal⟩ : ∃ al, toldL 1 (splitF (a ++ 10 :: b)) = al := ⟨_, rfl⟩
  obtain ⟨te, hte⟩ : ∃ te, toldE (splitF (a ++ 10 :: b)) = te := ⟨_, rfl⟩
  obtain ⟨m, hm⟩ : ∃ m, al.length = m := ⟨_, rfl⟩
  obtain ⟨xs, hxs⟩ : ∃ xs, toldL 1 (splitF a) = xs := ⟨_, rfl⟩
  obtain ⟨ea, hea⟩ : ∃ ea, toldE (splitF a) = ea := ⟨_, rfl⟩
  obtain ⟨lx, hlx⟩ : ∃ lx, xs.length = lx := ⟨_, rfl⟩
  obtain ⟨ys, hys⟩ : ∃ ys, toldL 1 (splitF b) = ys := ⟨_, rfl⟩
  obtain ⟨eb, heb⟩ : ∃ eb, toldE (splitF b) = eb := ⟨_, rfl⟩
  obtain ⟨ly, hly⟩ : ∃ ly, ys.length = ly := ⟨_, rfl⟩
  obtain ⟨k, hk⟩ : ∃ k, (splitF a).length = k := ⟨_, rfl⟩
  have JN := told_join a b
  rw [hal, hte, hxs, hea, hys, heb, hk] at JN
  have FX : Hid (lx ≤ 200 ∧ ly ≤ 200 ∧ k ≤ 201) := Lib.hid (by
    have h1 := told_few (splitF a) 1
    have h2 := split_sizes a
    have h3 := told_few (splitF b) 1
    have h4 := split_sizes b
    rw [hxs] at h1; rw [hys] at h3
    have h5 := splitF_len a
    have h6 := List.length_filter_le (· == 10) a
    omega)
  have SH : Hid (∀ t ∈ ys, t.1 ≤ 201) := Lib.hid (by
    intro t ht
    rw [← hys] at ht
    have h1 := told_no _ _ _ ht
    have h5 := splitF_len b
    have h6 := List.length_filter_le (· == 10) b
    omega)
  have TA := Lib.hid (fun W h => told_any (a ++ 10 :: b) al te m W (by simp; omega) h (Lib.hid ⟨hal, hte, hm⟩))
  have TX := Lib.hid (fun W h => told_any a xs ea lx W (by omega) h (Lib.hid ⟨hxs, hea, hlx⟩))
  have TY := Lib.hid (fun W h => told_any b ys eb ly W (by omega) h (Lib.hid ⟨hys, heb, hly⟩))
  have HN := Lib.hid (And.intro hm (And.intro hlx hly))
  have HXY := Lib.hid (And.intro hxs hys)
  have HK : Hid ((a.filter (· == 10)).length + 1 = k) := Lib.hid (by rw [← splitF_len, hk])
  have HJ := Lib.hid JN
  have HM := Lib.hid hM
  clear hal hte hm hxs hea hlx hys heb hly hk JN hM ha hb
  go_enter Tryd.func7, Tryd.ntmps7
  go_wp2_with (first
    | (go_at_call 15; with_reducible refine (TA.out _ HM.out).mono ?_; rintro e w1 ⟨A1, c1, rfl, l1, k1⟩
       have L1 := Lib.hid l1
       have K1 := Lib.hid k1
       have M1 := Lib.hid (HM.out.next k1)
       clear l1 k1
       simp only [])
    | (go_at_call 15; with_reducible refine (TX.out _ M1.out).mono ?_; rintro e w2 ⟨A2, c2, rfl, l2, k2⟩
       have L12 := Lib.hid (L1.out.next k2)
       have L2 := Lib.hid l2
       have K2 := Lib.hid (K1.out.trans (k2.mono K1.out.size))
       have M2 := Lib.hid (M1.out.next k2)
       clear l2 k2
       simp only [])
    | (go_at_call 15; with_reducible refine (TY.out _ M2.out).mono ?_; rintro e w3 ⟨A3, c3, rfl, l3, k3⟩
       have L13 := Lib.hid (L12.out.next k3)
       have L23 := Lib.hid (L2.out.next k3)
       have L3 := Lib.hid l3
       have K3 := Lib.hid (K2.out.trans (k3.mono K2.out.size))
       clear l3 k3
       simp only []))
  clear TA TX TY M1 M2 HM L1 L12 L2 K1 K2
  go_loopw [14, 15] (fun vl vi wr => ∃ (i q : Nat), vl = .int .i64 q ∧ vi = .int .i64 i ∧ i ≤ a.length ∧ ((a.take i).filter (· == 10)).length + 1 = q ∧ w3 = wr) (fun _ vi _ => a.length - (intOf vi).toNat)
  case atStart => exact ⟨0, 1, rfl, rfl, Nat.zero_le _, rfl, rfl⟩
  case round =>
    obtain ⟨i, q, rfl, rfl, hi, hq, rfl⟩ := hrel
    have HQ := Lib.hid hq
    have hqb : q ≤ i + 1 := by
      have h6 := List.length_filter_le (· == 10) (a.take i)
      rw [List.length_take] at h6; omega
    clear hq
    by_cases hlt : i < a.length
    · obtain ⟨c, hc⟩ : ∃ c, a.getD i 0 = c := ⟨_, rfl⟩
      have hix := lxbyte_at a i hlt c hc
      have hii : (i : Int) < (a.length : Int) := by omega
      have HT := Lib.hid (lxtake_at hlt hc)
      clear hc
      cases h10 : c == 10
      · have t10 := byte_ne 10 10 rfl h10
        have HQ2 : Hid (((a.take (i + 1)).filter (· == 10)).length + 1 = q) := Lib.hid (by rw [HT.out, List.filter_append, List.length_append, List.filter_cons, h10]; simpa using HQ.out)
        clear h10
        go_wp2
        go_roundw
        case rel => exact ⟨i + 1, q, rfl, by go_num, hlt, HQ2.out, trivial⟩
        case measure => simp [intOf]; omega
      · have t10 := byte_eq 10 10 rfl h10
        have HQ2 : Hid (((a.take (i + 1)).filter (· == 10)).length + 1 = q + 1) := Lib.hid (by rw [HT.out, List.filter_append, List.length_append, List.filter_cons, h10]; have := HQ.out; simp; omega)
        clear h10
        go_wp2
        go_roundw
        case rel => exact ⟨i + 1, q + 1, by go_num, by go_num, hlt, HQ2.out, trivial⟩
        case measure => simp [intOf]; omega
    · obtain rfl : i = a.length := by omega
      have hii : ¬ ((a.length : Nat) : Int) < (a.length : Int) := by omega
      obtain rfl : q = k := by rw [← HK.out, ← HQ.out, List.take_length]
      clear hlt hi hqb HQ HK
      by_cases he : ea = 0
      · subst he
        have HA : Hid (al = xs ++ ys.map (fun p => (p.1 + q, p.2))) := Lib.hid (by rw [HJ.out.2, if_pos rfl])
        obtain rfl : eb = te := by rw [HJ.out.1, if_pos rfl]
        have hmm : m = lx + ly := by rw [← HN.out.1, HA.out, List.length_append, List.length_map, HN.out.2.1, HN.out.2.2]
        have hml : m ≤ 400 := by have := FX.out; omega
        have hlx2 : lx ≤ 200 := FX.out.1
        have hly2 : ly ≤ 200 := FX.out.2.1
        have hqk : q ≤ 201 := FX.out.2.2
        have hsum : ((m : Int) != (lx : Int) + (ly : Int)) = false := by simp; omega
        go_wp2
        go_loopw [17] (fun vi wr => ∃ i : Nat, vi = .int .i64 i ∧ i ≤ m ∧ Below w3.heap.size w3 wr) (fun vi _ => m - (intOf vi).toNat)
        case atStart => exact ⟨0, rfl, Nat.zero_le _, Below.refl _ _⟩
        case round =>
          obtain ⟨i, rfl, hi, hkw⟩ := hrel
          have HKW := Lib.hid hkw
          clear hkw
          by_cases hlt : i < m
          · have hii : (i : Int) < (m : Int) := by omega
            by_cases hix : i < lx
            · have hil : (i : Int) < (lx : Int) := by omega
              obtain ⟨⟨no, ws⟩, hxx⟩ : ∃ x, xs[i]? = some x := ⟨_, List.getElem?_eq_getElem (by rw [HN.out.2.1]; exact hix)⟩
              have haa : al[i]? = some (no, ws) := by rw [HA.out, List.getElem?_append_left (by rw [HN.out.2.1]; exact hix)]; exact hxx
              have FW : Hid (ws.length ≤ 100000) := Lib.hid (few_words (n := 1) (ls := splitF a) (by rw [HXY.out.1]; exact hxx))
              obtain ⟨g1, o1, g2, o2, C1, d1, C2, d2, hA1, hA2, hall⟩ := two_at (L13.out.next HKW.out) (L23.out.next HKW.out) haa hxx
              subst hA1 hA2
              have X4 := Lib.hid (fun W' kk => texts_is C1 C2 ws.length d1 d2 ws ws true W' (hall W' kk).2.2.1 (hall W' kk).2.2.2.2.2 (by have := FW.out; omega) ws.length rfl rfl (Lib.hid (decide_eq_true rfl)))
              have F4 : Hid (∀ W', Below wr.heap.size wr W' → W'.cell? ⟨g1, o1 + i * 2, none⟩ = some (.int .i64 ((no : Int))) ∧ W'.cell? ⟨g1, o1 + i * 2 + 1, none⟩ = some (.slice C1 ws.length d1) ∧ W'.cell? ⟨g2, o2 + i * 2, none⟩ = some (.int .i64 ((no : Int))) ∧ W'.cell? ⟨g2, o2 + i * 2 + 1, none⟩ = some (.slice C2 ws.length d2)) := Lib.hid (fun W' kk => by
                obtain ⟨h1, h2, _, h4, h5, _⟩ := hall W' kk
                exact ⟨h1, h2, h4, h5⟩)
              clear hall hxx haa
              go_wp2
              go_region_held3 (fun w' => w'.cell? ⟨g1, o1 + i * 2, none⟩ = some (.int .i64 ((no : Int))) ∧ w'.cell? ⟨g1, o1 + i * 2 + 1, none⟩ = some (.slice C1 ws.length d1) ∧ w'.cell? ⟨g2, o2 + i * 2, none⟩ = some (.int .i64 ((no : Int))) ∧ w'.cell? ⟨g2, o2 + i * 2 + 1, none⟩ = some (.slice C2 ws.length d2))
                (first | exact F4.out _ (Below.refl _ _) | exact F4.out _ (Below.refl _ _).drew | exact F4.out _ K4.out)
                (first
                  | (go_at_call 12; (with_reducible refine (X4.out _ (Below.refl _ _)).mono ?_); rintro e w4 ⟨rfl, k4⟩
                     have K4 : Hid (Below wr.heap.size wr w4) := Lib.hid k4
                     clear k4
                     simp only [])
                  | (go_at_call 12; (with_reducible refine (X4.out _ (Below.refl _ _).drew).mono ?_); rintro e w4 ⟨rfl, k4⟩
                     have K4 : Hid (Below wr.heap.size wr w4) := Lib.hid ((Below.refl _ _).drew.trans k4)
                     clear k4
                     simp only []))
              go_wp2
              go_roundw
              case rel => exact ⟨i + 1, by go_num, by omega, HKW.out.trans (K4.out.mono HKW.out.size)⟩
              case measure => simp [intOf]; omega
            · obtain ⟨j, hj⟩ : ∃ j, i = lx + j := ⟨i - lx, by omega⟩
              have hil : ¬ (i : Int) < (lx : Int) := by omega
              have hsub : IntKind.i64.wrap ((i : Int) - (lx : Int)) = (j : Int) := by rw [show (i : Int) - (lx : Int) = (j : Int) by omega]; exact wrap_near _ (by omega)
              have hjl : j < ly := by omega
              have hjl2 : (j : Int) < (ly : Int) := by omega
              obtain ⟨⟨no, ws⟩, hxx⟩ : ∃ x, ys[j]? = some x := ⟨_, List.getElem?_eq_getElem (by rw [HN.out.2.2]; exact hjl)⟩
              have haa : al[i]? = some (no + q, ws) := by rw [HA.out, List.getElem?_append_right (by rw [HN.out.2.1]; omega), HN.out.2.1, hj, Nat.add_sub_cancel_left, List.getElem?_map, hxx]; rfl
              have FW : Hid (ws.length ≤ 100000) := Lib.hid (few_words (n := 1) (ls := splitF b) (by rw [HXY.out.2]; exact hxx))
              have hno : no ≤ 201 := SH.out _ (List.mem_of_getElem? hxx)
              have hsw : IntKind.i64.wrap ((no : Int) + (q : Int)) = (no : Int) + (q : Int) := wrap_near _ (by omega)
              clear hj hix
              obtain ⟨g1, o1, g2, o2, C1, d1, C2, d2, hA1, hA2, hall⟩ := two_at (L13.out.next HKW.out) (L3.out.next HKW.out) haa hxx
              subst hA1 hA2
              have X4 := Lib.hid (fun W' kk => texts_is C1 C2 ws.length d1 d2 ws ws true W' (hall W' kk).2.2.1 (hall W' kk).2.2.2.2.2 (by have := FW.out; omega) ws.length rfl rfl (Lib.hid (decide_eq_true rfl)))
              have F4 : Hid (∀ W', Below wr.heap.size wr W' → W'.cell? ⟨g1, o1 + i * 2, none⟩ = some (.int .i64 ((no : Int) + (q : Int))) ∧ W'.cell? ⟨g1, o1 + i * 2 + 1, none⟩ = some (.slice C1 ws.length d1) ∧ W'.cell? ⟨g2, o2 + j * 2, none⟩ = some (.int .i64 ((no : Int))) ∧ W'.cell? ⟨g2, o2 + j * 2 + 1, none⟩ = some (.slice C2 ws.length d2)) := Lib.hid (fun W' kk => by
                obtain ⟨h1, h2, _, h4, h5, _⟩ := hall W' kk
                simp only [Int.natCast_add] at h1
                exact ⟨h1, h2, h4, h5⟩)
              clear hall hxx haa
              go_wp2
              go_region_held3 (fun w' => w'.cell? ⟨g1, o1 + i * 2, none⟩ = some (.int .i64 ((no : Int) + (q : Int))) ∧ w'.cell? ⟨g1, o1 + i * 2 + 1, none⟩ = some (.slice C1 ws.length d1) ∧ w'.cell? ⟨g2, o2 + j * 2, none⟩ = some (.int .i64 ((no : Int))) ∧ w'.cell? ⟨g2, o2 + j * 2 + 1, none⟩ = some (.slice C2 ws.length d2))
                (first | exact F4.out _ (Below.refl _ _) | exact F4.out _ (Below.refl _ _).drew | exact F4.out _ K4.out)
                (first
                  | (go_at_call 12; (with_reducible refine (X4.out _ (Below.refl _ _)).mono ?_); rintro e w4 ⟨rfl, k4⟩
                     have K4 : Hid (Below wr.heap.size wr w4) := Lib.hid k4
                     clear k4
                     simp only [])
                  | (go_at_call 12; (with_reducible refine (X4.out _ (Below.refl _ _).drew).mono ?_); rintro e w4 ⟨rfl, k4⟩
                     have K4 : Hid (Below wr.heap.size wr w4) := Lib.hid ((Below.refl _ _).drew.trans k4)
                     clear k4
                     simp only []))
              go_wp2
              go_roundw
              case rel => exact ⟨i + 1, by go_num, by omega, HKW.out.trans (K4.out.mono HKW.out.size)⟩
              case measure => simp [intOf]; omega
          · have hin : i = m := by omega
            have hii : ¬ (i : Int) < (m : Int) := by omega
            clear hlt hin
            go_wp2_with (first
              | (go_at_call 9; refine (AW.out _).mono ?_; rintro e w5 ⟨rfl, k5⟩
                 have K5 := Lib.hid (K3.out.trans ((HKW.out.trans (k5.mono HKW.out.size)).mono K3.out.size))
                 clear k5
                 simp only []))
            go_ret
            exact ⟨rfl, K5.out⟩
      · have he0 : (ea != 0) = true := by simpa using he
        obtain rfl : xs = al := by rw [HJ.out.2, if_neg he]
        obtain rfl : ea = te := by rw [HJ.out.1, if_neg he]
        obtain rfl : lx = m := by rw [← HN.out.1, HN.out.2.1]
        have hml : lx ≤ 400 := by have := FX.out; omega
        clear he
        go_wp2
        go_loopw [17] (fun vi wr => ∃ i : Nat, vi = .int .i64 i ∧ i ≤ lx ∧ Below w3.heap.size w3 wr) (fun vi _ => lx - (intOf vi).toNat)
        case atStart => exact ⟨0, rfl, Nat.zero_le _, Below.refl _ _⟩
        case round =>
          obtain ⟨i, rfl, hi, hkw⟩ := hrel
          have HKW := Lib.hid hkw
          clear hkw
          by_cases hlt : i < lx
          · have hii : (i : Int) < (lx : Int) := by omega
            obtain ⟨⟨no, ws⟩, hxx⟩ : ∃ x, xs[i]? = some x := ⟨_, List.getElem?_eq_getElem (by rw [HN.out.2.1]; exact hlt)⟩
            have FW : Hid (ws.length ≤ 100000) := Lib.hid (few_words (n := 1) (ls := splitF a) (by rw [HXY.out.1]; exact hxx))
            obtain ⟨g1, o1, g2, o2, C1, d1, C2, d2, hA1, hA2, hall⟩ := two_at (L13.out.next HKW.out) (L23.out.next HKW.out) hxx hxx
            subst hA1 hA2
            have X4 := Lib.hid (fun W' kk => texts_is C1 C2 ws.length d1 d2 ws ws true W' (hall W' kk).2.2.1 (hall W' kk).2.2.2.2.2 (by have := FW.out; omega) ws.length rfl rfl (Lib.hid (decide_eq_true rfl)))
            have F4 : Hid (∀ W', Below wr.heap.size wr W' → W'.cell? ⟨g1, o1 + i * 2, none⟩ = some (.int .i64 ((no : Int))) ∧ W'.cell? ⟨g1, o1 + i * 2 + 1, none⟩ = some (.slice C1 ws.length d1) ∧ W'.cell? ⟨g2, o2 + i * 2, none⟩ = some (.int .i64 ((no : Int))) ∧ W'.cell? ⟨g2, o2 + i * 2 + 1, none⟩ = some (.slice C2 ws.length d2)) := Lib.hid (fun W' kk => by
              obtain ⟨h1, h2, _, h4, h5, _⟩ := hall W' kk
              exact ⟨h1, h2, h4, h5⟩)
            clear hall hxx
            go_wp2
            go_region_held3 (fun w' => w'.cell? ⟨g1, o1 + i * 2, none⟩ = some (.int .i64 ((no : Int))) ∧ w'.cell? ⟨g1, o1 + i * 2 + 1, none⟩ = some (.slice C1 ws.length d1) ∧ w'.cell? ⟨g2, o2 + i * 2, none⟩ = some (.int .i64 ((no : Int))) ∧ w'.cell? ⟨g2, o2 + i * 2 + 1, none⟩ = some (.slice C2 ws.length d2))
              (first | exact F4.out _ (Below.refl _ _) | exact F4.out _ (Below.refl _ _).drew | exact F4.out _ K4.out)
              (first
                | (go_at_call 12; (with_reducible refine (X4.out _ (Below.refl _ _)).mono ?_); rintro e w4 ⟨rfl, k4⟩
                   have K4 : Hid (Below wr.heap.size wr w4) := Lib.hid k4
                   clear k4
                   simp only [])
                | (go_at_call 12; (with_reducible refine (X4.out _ (Below.refl _ _).drew).mono ?_); rintro e w4 ⟨rfl, k4⟩
                   have K4 : Hid (Below wr.heap.size wr w4) := Lib.hid ((Below.refl _ _).drew.trans k4)
                   clear k4
                   simp only []))
            go_wp2
            go_roundw
            case rel => exact ⟨i + 1, by go_num, by omega, HKW.out.trans (K4.out.mono HKW.out.size)⟩
            case measure => simp [intOf]; omega
          · have hin : i = lx := by omega
            have hii : ¬ (i : Int) < (lx : Int) := by omega
            clear hlt hin
            go_wp2_with (first
              | (go_at_call 9; refine (AW.out _).mono ?_; rintro e w5 ⟨rfl, k5⟩
                 have K5 := Lib.hid (K3.out.trans ((HKW.out.trans (k5.mono HKW.out.size)).mono K3.out.size))
                 clear k5
                 simp only []))
            go_ret
            exact ⟨rfl, K5.out⟩
theorem lexerParts_walk (a b : List UInt8) (w : World) (hM : MaxIs w) : Calls Tryd.prog 7 #[.string ⟨a.toArray⟩, .string ⟨b.toArray⟩] w fun e w' => e = .returned (.bool true) ∧ Below w.heap.size w w' := by
  by_cases hl : 200 < a.length ∨ 200 < b.length
  · have hza := lxsize a
    have hzb := lxsize b
    have AW := Lib.hid lxawake
    by_cases ha : 200 < a.length
    · have hla : (200 : Int) < (a.length : Int) := by omega
      clear ha hl
      go_enter Tryd.func7, Tryd.ntmps7
      go_wp2_with (first
        | (go_at_call 9; refine (AW.out _).mono ?_; rintro e w1 ⟨rfl, k1⟩
           have K1 := Lib.hid k1
           clear k1
           simp only []))
      go_ret
      exact ⟨rfl, K1.out⟩
    · have hla : ¬ (200 : Int) < (a.length : Int) := by omega
      have hlb : (200 : Int) < (b.length : Int) := by omega
      clear ha hl
      go_enter Tryd.func7, Tryd.ntmps7
      go_wp2_with (first
        | (go_at_call 9; refine (AW.out _).mono ?_; rintro e w1 ⟨rfl, k1⟩
           have K1 := Lib.hid k1
           clear k1
           simp only []))
      go_ret
      exact ⟨rfl, K1.out⟩
  · exact lexerParts_main a b w hM (by omega) (by omega)
end Go.Proofs.YtomiopdmgdidnaaDoor
