/- The contract of lexer.Join: the line that words make, or what is wrong with them; nothing that was in memory changes. -/
import Derived.Test.YtomiopdmgdidnaaDoorLxG
namespace Go.Proofs.YtomiopdmgdidnaaDoor
open Go.RowKit Go.Shelf
attribute [local go_sem] Oper.semAt_some

theorem putQ_len (p : List UInt8) : (putQ p).length ≤ p.length + 2 := by
  unfold putQ
  split
  · simp
  · omega
theorem tail_take {ws : List (List UInt8)} {i : Nat} {p : List UInt8} (h : ws[i]? = some p) : tailG true (ws.take (i + 1)) = tailG true (ws.take i) ++ ((if i = 0 then [] else [32]) ++ putQ p) := by
  have hi := (List.getElem?_eq_some_iff.1 h).1
  rw [show ws.take (i + 1) = ws.take i ++ [p] by rw [List.take_add_one, h]; rfl, tailG_snoc]
  congr 2
  by_cases h0 : i = 0
  · subst h0; simp
  · have : (ws.take i).isEmpty = false := by
      cases hh : ws.take i with
      | nil => have := congrArg List.length hh; rw [List.length_take, List.length_nil] at this; omega
      | cons _ _ => rfl
    rw [this, if_neg h0]; rfl
theorem bad_take {ws : List (List UInt8)} {i : Nat} {p : List UInt8} (h : ws[i]? = some p) : (ws.take (i + 1)).any (·.any badB) = ((ws.take i).any (·.any badB) || p.any badB) := by
  rw [show ws.take (i + 1) = ws.take i ++ [p] by rw [List.take_add_one, h]; rfl, List.any_append]; simp

set_option maxHeartbeats 4000000 in
theorem join_is (A : Option Addr) (n c : Nat) (ws : List (List UInt8)) (er : Int) (t : List UInt8) (w : World) (hW : Ws w A ws) (hn : ws.length = n) (hp : ∀ p ∈ ws, p.length ≤ 1000) (HV : Hid (joinE ws = er ∧ joinL ws = t)) :
    Calls Tryd.prog 13 #[.slice A n c] w fun e w' => e = .returned (.tuple #[.string ⟨t.toArray⟩, .int .i64 er]) ∧ Below w.heap.size w w' := by
  have HW := Lib.hid hW
  have HN := Lib.hid hn
  have HP := Lib.hid hp
  clear hW hp
  by_cases h32 : 32 < n
  · have E : Hid (er = 14 ∧ t = []) := Lib.hid (by
      have e1 : joinE ws = 14 := by unfold joinE; rw [hn, if_pos h32]
      exact ⟨by rw [← HV.out.1, e1], by rw [← HV.out.2]; unfold joinL; rw [e1]; rfl⟩)
    have h32' : (32 : Int) < (n : Int) := by omega
    clear hn h32
    go_enter Tryd.func13, Tryd.ntmps13
    go_wp2
    go_ret2
    rw [E.out.1, E.out.2]
    exact ⟨rfl, Below.refl _ _⟩
  · have h32' : ¬ (32 : Int) < (n : Int) := by omega
    have hn32 : n ≤ 32 := by omega
    clear hn h32
    go_enter Tryd.func13, Tryd.ntmps13
    go_wp2
    go_loopw [13] (fun v w' => ∃ (i : Nat) (l : List UInt8), v = .int .i64 i ∧ i ≤ n ∧ (ws.take i).any (·.any badB) = false ∧ tailG true (ws.take i) = l ∧ l.length ≤ 2000 * i ∧ Bld w.heap.size w.heap.size l w' ∧ Below w.heap.size w w') (fun v _ => n - (intOf v).toNat)
    case atStart => exact ⟨0, [], rfl, Nat.zero_le _, rfl, rfl, Nat.zero_le _, Bld.new w, (Below.refl _ _).alloc (Nat.le_refl _) _⟩
    case round =>
      obtain ⟨i, l, rfl, hi, hb, ht, hl, hB, hK⟩ := hrel
      have HB := Lib.hid hb
      have HT := Lib.hid ht
      have HBl := Lib.hid hB
      have HK := Lib.hid hK
      have hsz := hK.size
      clear hb ht hB hK
      by_cases hlt : i < n
      · obtain ⟨p, hp⟩ : ∃ p, ws[i]? = some p := ⟨_, List.getElem?_eq_getElem (by rw [HN.out]; exact hlt)⟩
        obtain ⟨g, o, rfl, hgl, hgc⟩ := HW.out i p hp
        have hcell : wr.cell? ⟨g, o + i, none⟩ = some (.string ⟨p.toArray⟩) := by rw [HK.out.cell (p := ⟨g, o + i, none⟩) hgl]; exact hgc
        have hpl : p.length ≤ 1000 := HP.out p (List.mem_of_getElem? hp)
        have hii : (i : Int) < (n : Int) := by omega
        have TT := Lib.hid (tail_take hp)
        have BT := Lib.hid (bad_take hp)
        have hpq := putQ_len p
        obtain ⟨bad, hbad⟩ : ∃ bad, p.any badB = bad := ⟨_, rfl⟩
        have CA := Lib.hid (fun W => conAny_is p [10, 0, 13, 34] badB bad W (by omega) bads_are (Lib.hid hbad))
        have HBAD := Lib.hid hbad
        have HPm := Lib.hid (List.mem_of_getElem? hp)
        clear hgc hp hbad
        cases bad
        · have hbn : Hid ((ws.take (i + 1)).any (·.any badB) = false) := Lib.hid (by rw [BT.out, HB.out, HBAD.out]; rfl)
          obtain ⟨q, hq⟩ : ∃ q, needQ p = q := ⟨_, rfl⟩
          have IQ := Lib.hid (fun W => inQuotes_is p q W hpl (Lib.hid hq))
          obtain ⟨u, hu⟩ : ∃ u, putQ p = u := ⟨_, rfl⟩
          have hul : u.length ≤ 1002 := by rw [← hu]; omega
          by_cases h0 : i = 0
          · subst h0
            rw [Nat.add_zero] at hcell
            have h0' : ¬ (0 : Int) < ((0 : Nat) : Int) := by omega
            have hl2 : Hid (tailG true (ws.take (0 + 1)) = l ++ u) := Lib.hid (by rw [TT.out, HT.out, hu, if_pos rfl]; simp)
            cases q
            · have hue : p = u := by rw [← hu]; unfold putQ; rw [if_neg (by rw [hq]; decide)]
              subst hue
              clear hu hq
              go_wp2_with (first
                | (go_at_call 17; refine (CA.out _).mono ?_; rintro e w1 ⟨rfl, k1⟩
                   have K1 := Lib.hid (HK.out.trans (k1.mono hsz))
                   have s1 := K1.out.size
                   have D1 := Lib.hid (HBl.out.next k1)
                   clear k1
                   simp only [])
                | (go_at_call 19; refine (IQ.out _).mono ?_; rintro e w3 ⟨rfl, k3⟩
                   have K3 := Lib.hid (K1.out.trans (k3.mono K1.out.size))
                   have s3 := K3.out.size
                   have G3 := Lib.hid (writeStr_any w.heap.size w.heap.size l p w3 (D1.out.next k3) (by first | omega | (simp; omega)) (by omega) s3)
                   clear k3
                   simp only [])
                | (go_at_call 20; with_reducible refine G3.out.mono ?_
                   rintro e w4 ⟨rfl, d4, k4⟩
                   have K4 := Lib.hid (K3.out.trans k4)
                   have D4 := Lib.hid d4
                   clear d4 k4
                   simp only []))
              go_roundw
              case rel => exact ⟨0 + 1, l ++ p, by go_num, by omega, hbn.out, hl2.out, (by first | omega | (simp; omega)), D4.out, K4.out⟩
              case measure => simp [intOf]; omega
            · have hue : u = 34 :: (p ++ [34]) := by rw [← hu]; unfold putQ; rw [if_pos hq]
              have hadd1 : ∀ W, (Op.stringOp .add ⟨#[34]⟩ ⟨p.toArray⟩).run Tryd.prog W = .ok (.string ⟨(34 :: p).toArray⟩) W := fun W => lxadd [34] p (by simp) (by omega) W
              have hadd2 : ∀ W, (Op.stringOp .add ⟨(34 :: p).toArray⟩ ⟨#[34]⟩).run Tryd.prog W = .ok (.string ⟨u.toArray⟩) W := fun W => by rw [hue]; exact lxadd (34 :: p) [34] (by simp; omega) (by simp) W
              clear hue hu hq
              go_wp2_with (first
                | (go_at_call 17; refine (CA.out _).mono ?_; rintro e w1 ⟨rfl, k1⟩
                   have K1 := Lib.hid (HK.out.trans (k1.mono hsz))
                   have s1 := K1.out.size
                   have D1 := Lib.hid (HBl.out.next k1)
                   clear k1
                   simp only [])
                | (go_at_call 19; refine (IQ.out _).mono ?_; rintro e w3 ⟨rfl, k3⟩
                   have K3 := Lib.hid (K1.out.trans (k3.mono K1.out.size))
                   have s3 := K3.out.size
                   have G3 := Lib.hid (writeStr_any w.heap.size w.heap.size l u w3 (D1.out.next k3) (by first | omega | (simp; omega)) (by omega) s3)
                   clear k3
                   simp only [])
                | (go_at_call 20; with_reducible refine G3.out.mono ?_
                   rintro e w4 ⟨rfl, d4, k4⟩
                   have K4 := Lib.hid (K3.out.trans k4)
                   have D4 := Lib.hid d4
                   clear d4 k4
                   simp only []))
              go_roundw
              case rel => exact ⟨0 + 1, l ++ u, by go_num, by omega, hbn.out, hl2.out, (by first | omega | (simp; omega)), D4.out, K4.out⟩
              case measure => simp [intOf]; omega
          · have h0' : (0 : Int) < (i : Int) := by omega
            have hl2 : Hid (tailG true (ws.take (i + 1)) = (l ++ [32]) ++ u) := Lib.hid (by rw [TT.out, HT.out, hu, if_neg h0]; simp)
            cases q
            · have hue : p = u := by rw [← hu]; unfold putQ; rw [if_neg (by rw [hq]; decide)]
              subst hue
              clear hu hq
              go_wp2_with (first
                | (go_at_call 17; refine (CA.out _).mono ?_; rintro e w1 ⟨rfl, k1⟩
                   have K1 := Lib.hid (HK.out.trans (k1.mono hsz))
                   have s1 := K1.out.size
                   have G1 := Lib.hid (writeStr_any w.heap.size w.heap.size l [32] w1 (HBl.out.next k1) (by omega) (by simp) s1)
                   clear k1
                   simp only [])
                | (go_at_call 20; with_reducible refine G1.out.mono ?_
                   rintro e w2 ⟨rfl, d2, k2⟩
                   have K2 := Lib.hid (K1.out.trans k2)
                   have D2 := Lib.hid d2
                   clear d2 k2
                   simp only [])
                | (go_at_call 19; refine (IQ.out _).mono ?_; rintro e w3 ⟨rfl, k3⟩
                   have K3 := Lib.hid (K2.out.trans (k3.mono K2.out.size))
                   have s3 := K3.out.size
                   have G3 := Lib.hid (writeStr_any w.heap.size w.heap.size (l ++ [32]) p w3 (D2.out.next k3) (by first | omega | (simp; omega)) (by omega) s3)
                   clear k3
                   simp only [])
                | (go_at_call 20; with_reducible refine G3.out.mono ?_
                   rintro e w4 ⟨rfl, d4, k4⟩
                   have K4 := Lib.hid (K3.out.trans k4)
                   have D4 := Lib.hid d4
                   clear d4 k4
                   simp only []))
              go_roundw
              case rel => exact ⟨i + 1, (l ++ [32]) ++ p, by go_num, by omega, hbn.out, hl2.out, (by first | omega | (simp; omega)), D4.out, K4.out⟩
              case measure => simp [intOf]; omega
            · have hue : u = 34 :: (p ++ [34]) := by rw [← hu]; unfold putQ; rw [if_pos hq]
              have hadd1 : ∀ W, (Op.stringOp .add ⟨#[34]⟩ ⟨p.toArray⟩).run Tryd.prog W = .ok (.string ⟨(34 :: p).toArray⟩) W := fun W => lxadd [34] p (by simp) (by omega) W
              have hadd2 : ∀ W, (Op.stringOp .add ⟨(34 :: p).toArray⟩ ⟨#[34]⟩).run Tryd.prog W = .ok (.string ⟨u.toArray⟩) W := fun W => by rw [hue]; exact lxadd (34 :: p) [34] (by simp; omega) (by simp) W
              clear hue hu hq
              go_wp2_with (first
                | (go_at_call 17; refine (CA.out _).mono ?_; rintro e w1 ⟨rfl, k1⟩
                   have K1 := Lib.hid (HK.out.trans (k1.mono hsz))
                   have s1 := K1.out.size
                   have G1 := Lib.hid (writeStr_any w.heap.size w.heap.size l [32] w1 (HBl.out.next k1) (by omega) (by simp) s1)
                   clear k1
                   simp only [])
                | (go_at_call 20; with_reducible refine G1.out.mono ?_
                   rintro e w2 ⟨rfl, d2, k2⟩
                   have K2 := Lib.hid (K1.out.trans k2)
                   have D2 := Lib.hid d2
                   clear d2 k2
                   simp only [])
                | (go_at_call 19; refine (IQ.out _).mono ?_; rintro e w3 ⟨rfl, k3⟩
                   have K3 := Lib.hid (K2.out.trans (k3.mono K2.out.size))
                   have s3 := K3.out.size
                   have G3 := Lib.hid (writeStr_any w.heap.size w.heap.size (l ++ [32]) u w3 (D2.out.next k3) (by first | omega | (simp; omega)) (by omega) s3)
                   clear k3
                   simp only [])
                | (go_at_call 20; with_reducible refine G3.out.mono ?_
                   rintro e w4 ⟨rfl, d4, k4⟩
                   have K4 := Lib.hid (K3.out.trans k4)
                   have D4 := Lib.hid d4
                   clear d4 k4
                   simp only []))
              go_roundw
              case rel => exact ⟨i + 1, (l ++ [32]) ++ u, by go_num, by omega, hbn.out, hl2.out, (by first | omega | (simp; omega)), D4.out, K4.out⟩
              case measure => simp [intOf]; omega
        · have E : Hid (er = 12 ∧ t = []) := Lib.hid (by
            have e0 : ws.any (·.any badB) = true := List.any_eq_true.2 ⟨p, HPm.out, HBAD.out⟩
            have e1 : joinE ws = 12 := by unfold joinE; rw [HN.out, if_neg (by omega), e0, if_pos rfl]
            exact ⟨by rw [← HV.out.1, e1], by rw [← HV.out.2]; unfold joinL; rw [e1]; rfl⟩)
          go_wp2_with (first
            | (go_at_call 17; refine (CA.out _).mono ?_; rintro e w1 ⟨rfl, k1⟩
               have K1 := Lib.hid (HK.out.trans (k1.mono hsz))
               clear k1
               simp only []))
          go_ret2
          rw [E.out.1, E.out.2]
          exact ⟨rfl, K1.out⟩
      · obtain rfl : i = n := by omega
        have E : Hid (er = 0 ∧ t = l) := Lib.hid (by
          have e0 := HB.out
          have e2 := HT.out
          rw [List.take_of_length_le (by rw [HN.out]; exact Nat.le_refl _)] at e0 e2
          have e1 : joinE ws = 0 := by unfold joinE; rw [HN.out, if_neg (by omega), e0, if_neg (by decide)]
          exact ⟨by rw [← HV.out.1, e1], by rw [← HV.out.2]; unfold joinL; rw [if_pos e1, e2]⟩)
        have hii : ¬ (i : Int) < (i : Int) := by omega
        have ST := Lib.hid (bldText_any w.heap.size w.heap.size l wr HBl.out hsz)
        go_wp2_with (first
          | (go_at_call 21; refine ST.out.mono ?_; rintro e w1 ⟨rfl, k1⟩
             have K1 := Lib.hid (HK.out.trans k1)
             clear k1
             simp only []))
        go_ret2
        rw [E.out.1, E.out.2]
        exact ⟨rfl, K1.out⟩
end Go.Proofs.YtomiopdmgdidnaaDoor
