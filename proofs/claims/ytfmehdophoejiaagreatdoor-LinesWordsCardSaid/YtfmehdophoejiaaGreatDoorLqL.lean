/- The walk of LinesWords: for every rule, era and link it returns true, and nothing that was in memory changes. Written by wip/tools/gencl.py. -/
import Derived.Test.YtfmehdophoejiaaGreatDoorLqO
import Derived.Test.YtfmehdophoejiaaGreatDoorLqY
import Derived.Test.YtfmehdophoejiaaGreatDoorLqZ
namespace Go.Proofs.YtfmehdophoejiaaGreatDoor
open Go Go.RowKit

def okW (ok : Bool) (ws : List (List UInt8)) : List (List UInt8) := if ok = true then ws else []
def okE (ok : Bool) : Int := if ok = true then 0 else 1
theorem ok_is (ok : Bool) : (if ok = true then (okE ok == 0) else (okE ok == 1)) = true := by cases ok <;> rfl
theorem argW_none (W : World) : ArgW none [] W := fun i p h => by simp at h
/-- What lines' words answer, in one form. -/
def OneI (ws : List (List UInt8)) (n : Nat) (x : Int) (W : World) (e : Ending) (w' : World) : Prop := ∃ A c, e = .returned (.tuple #[.slice A n c, .int .i64 x]) ∧ ArgW A ws w' ∧ Below W.heap.size W w'
def OneB (ws : List (List UInt8)) (n : Nat) (b : Bool) (W : World) (e : Ending) (w' : World) : Prop := ∃ A c, e = .returned (.tuple #[.slice A n c, .bool b]) ∧ ArgW A ws w' ∧ Below W.heap.size W w'
theorem WordsIs.one {ws : List (List UInt8)} {ok : Bool} {w w' : World} {e : Ending} (h : WordsIs ws ok w e w') : OneI (okW ok ws) (okW ok ws).length (okE ok) w e w' := by
  rcases h with ⟨rfl, A, c, rfl, _, ha, k⟩ | ⟨rfl, rfl, k⟩
  · exact ⟨A, c, rfl, ha, k⟩
  · exact ⟨none, 0, rfl, argW_none _, k⟩
theorem WordsR.one {ws : List (List UInt8)} {ok : Bool} {w w' : World} {e : Ending} (h : WordsR ws ok w e w') : OneB (okW ok ws) (okW ok ws).length ok w e w' := by
  rcases h with ⟨rfl, A, c, rfl, ha, k⟩ | ⟨rfl, rfl, k⟩
  · exact ⟨A, c, rfl, ha, k⟩
  · exact ⟨none, 0, rfl, argW_none _, k⟩
set_option maxHeartbeats 1600000 in
/-- Texts of a list and itself. -/
theorem txt_same (a b : Option Addr) (n ca cb : Nat) (l : List (List UInt8)) (w : World) (ha : ArgW a l w) (hb : ArgW b l w) (hn : l.length = n) (hl : n ≤ 100000) :
    Calls Tryz.prog 29 #[.slice a n ca, .slice b n cb] w fun e w' => e = .returned (.bool true) ∧ Below w.heap.size w w' := by
  have HA := Lib.hid ha
  have HB := Lib.hid hb
  have HN := Lib.hid hn
  clear ha hb hn
  go_enter Tryz.func29, Tryz.ntmps29
  go_wp2
  go_loopw [5] (fun i wr => ∃ j : Nat, i = .int .i64 j ∧ j ≤ n ∧ Below w.heap.size w wr) (fun i _ => n - (intOf i).toNat)
  case atStart => exact ⟨0, rfl, Nat.zero_le _, Below.refl _ _⟩
  case round =>
    obtain ⟨j, rfl, hj, hbw⟩ := hrel
    have HBW := Lib.hid hbw
    by_cases hlt : j < n
    · obtain ⟨x, hx⟩ : ∃ x, l[j]? = some x := ⟨_, List.getElem?_eq_getElem (by rw [HN.out]; exact hlt)⟩
      obtain ⟨g1, o1, rfl, hc1⟩ := HA.out j x hx
      obtain ⟨g2, o2, rfl, hc2⟩ := HB.out j x hx
      have h1 : wr.cell? ⟨g1, o1 + j, none⟩ = some (.string ⟨x.toArray⟩) := by rw [hbw.cell (p := ⟨g1, o1 + j, none⟩) (wcell_lt hc1)]; exact hc1
      have h2 : wr.cell? ⟨g2, o2 + j, none⟩ = some (.string ⟨x.toArray⟩) := by rw [hbw.cell (p := ⟨g2, o2 + j, none⟩) (wcell_lt hc2)]; exact hc2
      have hjn : (j : Int) < (n : Int) := by omega
      clear hc1 hc2 hx hbw
      go_wp2
      go_region
      go_wp2
      go_roundw
      case rel => exact ⟨j + 1, by go_num, by omega, HBW.out.drew⟩
      case measure => simp [intOf]; omega
    · obtain rfl : j = n := by omega
      have hjn : ¬ (j : Int) < (j : Int) := by omega
      clear hbw
      go_wp2
      go_ret
      exact ⟨rfl, HBW.out⟩
section
variable {w W W' : World} {R E L : Array Value}
/-- The blocks of a rule, an era and a link. -/
def Lw (w : World) (R E L : Array Value) (W : World) : Prop := Hid (BlkN w w.heap.size R 34 W ∧ BlkN w (w.heap.size + 1) E 40 W ∧ BlkN w (w.heap.size + 1 + 1) L 46 W)
theorem Lw.r (h : Lw w R E L W) : BlkN w w.heap.size R 34 W := (Hid.out h).1
theorem Lw.e (h : Lw w R E L W) : BlkN w (w.heap.size + 1) E 40 W := (Hid.out h).2.1
theorem Lw.l (h : Lw w R E L W) : BlkN w (w.heap.size + 1 + 1) L 46 W := (Hid.out h).2.2
theorem Lw.bel (h : Lw w R E L W) : Below w.heap.size w W := h.r.bel
theorem Lw.next (h : Lw w R E L W) (k : Below W.heap.size W W') : Lw w R E L W' := Lib.hid ⟨h.r.next k, h.e.next k, h.l.next k⟩
theorem Lw.more (h : Lw w R E L W) (o : Obj) : Lw w R E L (W.alloc o) := Lib.hid ⟨h.r.more o, h.e.more o, h.l.more o⟩
theorem Lw.new (w : World) (R E L : Array Value) : Lw w R E L (((w.alloc (.cells R 34)).alloc (.cells E 40)).alloc (.cells L 46)) := Lib.hid (three_blk w R E L _ _ _)
end
theorem cells2 {W : World} {g : Nat} {t : TypeId} {v0 v1 : Value} (h : W.heap[g]? = some (.cells #[v0, v1] t (0, 0))) : W.cell? ⟨g, 0, none⟩ = some v0 ∧ W.cell? ⟨g, 1, none⟩ = some v1 := ⟨cell_of_row W g 0 _ _ _ h, cell_of_row W g 1 _ _ _ h⟩
set_option maxRecDepth 20000 in
set_option maxHeartbeats 6400000 in
theorem lws_many (nm : List UInt8) (fr tl mo dk dw dn sc ck sv : Int) (lt : List UInt8) (of ss uy um ek ew ed us uk : Int) (en : Bool) (rl fm a b : List UInt8) (w : World) (H : LaidL w) (HF : Hid (fewB [nm, lt, rl, fm, a, b] = false)) :
    Calls Tryz.prog 6 #[rvV ⟨nm, fr, tl, mo, dk, dw, dn, sc, ck, sv, lt⟩, evV ⟨of, rl, ss, fm, en, uy, um, ek, ew, ed, us, uk⟩, lvV a b] w fun e w' => e = .returned (.bool true) ∧ Below w.heap.size w w' := by
  have HA := Lib.hid H
  have T := Lw.new w #[.string ⟨nm.toArray⟩, .int .i64 fr, .int .i64 tl, .int .i64 mo, .int .i64 dk, .int .i64 dw, .int .i64 dn, .int .i64 sc, .int .i64 ck, .int .i64 sv, .string ⟨lt.toArray⟩] #[.int .i64 of, .string ⟨rl.toArray⟩, .int .i64 ss, .string ⟨fm.toArray⟩, .bool en, .int .i64 uy, .int .i64 um, .int .i64 ek, .int .i64 ew, .int .i64 ed, .int .i64 us, .int .i64 uk] #[.string ⟨a.toArray⟩, .string ⟨b.toArray⟩]
  clear H
  simp only [rvV, evV, lvV]
  go_enter Tryz.func6, Tryz.ntmps6
  go_wp2_with (first
    | (go_at_call 18
       refine (few_is _ 6 6 [nm, lt, rl, fm, a, b] false _ rfl (by omega) ?_ HF).mono ?_
       · exact (ListAt.newE _ [nm, lt, rl, fm, a, b] _ _ _ (by simp) rfl).arg
       rintro e w0 ⟨rfl, rfl⟩
       simp only [])
    | (go_at_call 10
       refine (lawake_any _ (HA.out.next (T.more _).bel)).mono ?_
       rintro e w1 ⟨rfl, k1⟩
       replace T := (T.more _).next k1
       clear k1
       simp only []))
  go_ret
  exact ⟨rfl, T.bel⟩
set_option maxRecDepth 20000 in
set_option maxHeartbeats 51200000 in
theorem lws_few (nm : List UInt8) (fr tl mo dk dw dn sc ck sv : Int) (lt : List UInt8) (of ss uy um ek ew ed us uk : Int) (en : Bool) (rl fm a b : List UInt8) (w : World) (H : LaidQ w) (hf : in64' fr) (ht : in64' tl) (hu : in64' uy) (HF : Hid (fewB [nm, lt, rl, fm, a, b] = true)) :
    Calls Tryz.prog 6 #[rvV ⟨nm, fr, tl, mo, dk, dw, dn, sc, ck, sv, lt⟩, evV ⟨of, rl, ss, fm, en, uy, um, ek, ew, ed, us, uk⟩, lvV a b] w fun e w' => e = .returned (.bool true) ∧ Below w.heap.size w w' := by
  have LN : ∀ p ∈ [nm, lt, rl, fm, a, b], p.length ≤ 80 := (few_yes HF.out).1
  have l1 : nm.length ≤ 80 := LN nm (by simp)
  have l2 : lt.length ≤ 80 := LN lt (by simp)
  have l3 : rl.length ≤ 80 := LN rl (by simp)
  have l4 : fm.length ≤ 80 := LN fm (by simp)
  have l5 : a.length ≤ 80 := LN a (by simp)
  have l6 : b.length ≤ 80 := LN b (by simp)
  obtain ⟨k1, hk1⟩ : ∃ k, rwB ⟨nm, fr, tl, mo, dk, dw, dn, sc, ck, sv, lt⟩ = k := ⟨_, rfl⟩
  obtain ⟨k2, hk2⟩ : ∃ k, ewB ⟨of, rl, ss, fm, en, uy, um, ek, ew, ed, us, uk⟩ = k := ⟨_, rfl⟩
  obtain ⟨x1, hx1⟩ : ∃ x, okE k1 = x := ⟨_, rfl⟩
  obtain ⟨x2, hx2⟩ : ∃ x, okE k2 = x := ⟨_, rfl⟩
  obtain ⟨u, hu1⟩ : ∃ l, okW k1 (rwL ⟨nm, fr, tl, mo, dk, dw, dn, sc, ck, sv, lt⟩) = l := ⟨_, rfl⟩
  obtain ⟨v, hv1⟩ : ∃ l, okW k2 (ewL ⟨of, rl, ss, fm, en, uy, um, ek, ew, ed, us, uk⟩) = l := ⟨_, rfl⟩
  have su : okW k1 (rwR ⟨nm, fr, tl, mo, dk, dw, dn, sc, ck, sv, lt⟩) = u := by
    rw [← hu1, ← hk1]; unfold okW
    by_cases c : rwB ⟨nm, fr, tl, mo, dk, dw, dn, sc, ck, sv, lt⟩ = true
    · rw [if_pos c, if_pos c, (rule_same ⟨nm, fr, tl, mo, dk, dw, dn, sc, ck, sv, lt⟩).2 (of_decide_eq_true c)]
    · rw [if_neg c, if_neg c]
  have sv1 : okW k2 (ewR ⟨of, rl, ss, fm, en, uy, um, ek, ew, ed, us, uk⟩) = v := by
    rw [← hv1, ← hk2]; unfold okW
    by_cases c : ewB ⟨of, rl, ss, fm, en, uy, um, ek, ew, ed, us, uk⟩ = true
    · rw [if_pos c, if_pos c, (era_same ⟨of, rl, ss, fm, en, uy, um, ek, ew, ed, us, uk⟩).2 (of_decide_eq_true c)]
    · rw [if_neg c, if_neg c]
  obtain ⟨n1, hn1⟩ : ∃ n, u.length = n := ⟨_, rfl⟩
  obtain ⟨n2, hn2⟩ : ∃ n, v.length = n := ⟨_, rfl⟩
  have m1 : n1 ≤ 100000 := by rw [← hn1, ← hu1]; unfold okW; split <;> simp [rwL]
  have m2 : n2 ≤ 100000 := by
    rw [← hn2, ← hv1]; unfold okW; split
    · rw [ewL_len]; split <;> omega
    · simp
  have C1 : Hid (∀ W, LaidQ W → Calls Tryz.prog 27 #[rvV ⟨nm, fr, tl, mo, dk, dw, dn, sc, ck, sv, lt⟩] W (OneI u n1 x1 W)) := Lib.hid fun W h => (rwords_is ⟨nm, fr, tl, mo, dk, dw, dn, sc, ck, sv, lt⟩ W h hf ht (Nat.le_trans l1 (by decide)) (Nat.le_trans l2 (by decide))).mono fun e w' h => by have := h.one; rwa [hk1, hu1, hn1, hx1] at this
  have C2 : Hid (∀ W, Calls Tryz.prog 28 #[rvV ⟨nm, fr, tl, mo, dk, dw, dn, sc, ck, sv, lt⟩] W (OneB u n1 k1 W)) := Lib.hid fun W => (rrwords_is ⟨nm, fr, tl, mo, dk, dw, dn, sc, ck, sv, lt⟩ W l1 l2).mono fun e w' h => by have := h.one; rwa [hk1, su, hn1] at this
  have C3 : Hid (∀ W, LaidQ W → Calls Tryz.prog 30 #[evV ⟨of, rl, ss, fm, en, uy, um, ek, ew, ed, us, uk⟩] W (OneI v n2 x2 W)) := Lib.hid fun W h => (ewords_is ⟨of, rl, ss, fm, en, uy, um, ek, ew, ed, us, uk⟩ W h hu (Nat.le_trans l3 (by decide)) (Nat.le_trans l4 (by decide))).mono fun e w' h => by have := h.one; rwa [hk2, hv1, hn2, hx2] at this
  have C4 : Hid (∀ W, Calls Tryz.prog 31 #[evV ⟨of, rl, ss, fm, en, uy, um, ek, ew, ed, us, uk⟩] W (OneB v n2 k2 W)) := Lib.hid fun W => (rewords_is ⟨of, rl, ss, fm, en, uy, um, ek, ew, ed, us, uk⟩ W l3 l4).mono fun e w' h => by have := h.one; rwa [hk2, sv1, hn2] at this
  have I1 : Hid ((if k1 = true then (x1 == 0) else (x1 == 1)) = true) := Lib.hid (by rw [← hx1]; exact ok_is k1)
  have I2 : Hid ((if k2 = true then (x2 == 0) else (x2 == 1)) = true) := Lib.hid (by rw [← hx2]; exact ok_is k2)
  have D1 : Hid (∀ A B c d W, ArgW A u W → ArgW B u W → Calls Tryz.prog 29 #[.slice A n1 c, .slice B n1 d] W fun e w' => e = .returned (.bool true) ∧ Below W.heap.size W w') := Lib.hid fun A B c d W ha hb => txt_same A B n1 c d u W ha hb hn1 m1
  have D2 : Hid (∀ A B c d W, ArgW A v W → ArgW B v W → Calls Tryz.prog 29 #[.slice A n2 c, .slice B n2 d] W fun e w' => e = .returned (.bool true) ∧ Below W.heap.size W w') := Lib.hid fun A B c d W ha hb => txt_same A B n2 c d v W ha hb hn2 m2
  have V : (Hid (nmOk a = true) ∧ Hid (nmOk b = true) ∧ Hid (∀ W, LaidL W → Calls Tryz.prog 32 #[lvV a b] W (OneI [linkL, a, b] 3 0 W))) ∨
      (Hid (nmOk a = false) ∧ Hid (∀ W, LaidL W → Calls Tryz.prog 32 #[lvV a b] W fun e w' => e = .returned (.tuple #[.slice none 0 0, .int .i64 1]) ∧ Below W.heap.size W w')) ∨
      (Hid (nmOk a = true) ∧ Hid (nmOk b = false) ∧ Hid (∀ W, LaidL W → Calls Tryz.prog 32 #[lvV a b] W fun e w' => e = .returned (.tuple #[.slice none 0 0, .int .i64 1]) ∧ Below W.heap.size W w')) := by
    have NO : ¬ (nmE a = 0 ∧ nmE b = 0) → Hid (∀ W, LaidL W → Calls Tryz.prog 32 #[lvV a b] W fun e w' => e = .returned (.tuple #[.slice none 0 0, .int .i64 1]) ∧ Below W.heap.size W w') := fun hne => Lib.hid fun W h => (lwords_is a b W h (by omega) (by omega)).mono fun e w' h => by
      rcases h with ⟨h0, -⟩ | ⟨-, h1, k⟩
      · rw [lkX_link, if_neg hne] at h0; exact absurd h0 (by decide)
      · exact ⟨h1, k⟩
    cases ha : nmOk a with
    | false => exact .inr (.inl ⟨Lib.hid rfl, NO fun c => absurd c.1 (by unfold nmE; rw [ha]; decide)⟩)
    | true =>
      cases hb : nmOk b with
      | false => exact .inr (.inr ⟨Lib.hid rfl, Lib.hid rfl, NO fun c => absurd c.2 (by unfold nmE; rw [hb]; decide)⟩)
      | true =>
        refine .inl ⟨Lib.hid rfl, Lib.hid rfl, Lib.hid fun W h => (lwords_is a b W h (by omega) (by omega)).mono fun e w' h => ?_⟩
        have z : nmE a = 0 ∧ nmE b = 0 := ⟨by unfold nmE; rw [ha]; rfl, by unfold nmE; rw [hb]; rfl⟩
        rcases h with ⟨-, A, c, rfl, _, hA, k⟩ | ⟨h0, -⟩
        · exact ⟨A, c, rfl, hA, k⟩
        · rw [lkX_link, if_pos z] at h0; exact absurd h0 (by decide)
  have HQ := Lib.hid H
  have T := Lw.new w #[.string ⟨nm.toArray⟩, .int .i64 fr, .int .i64 tl, .int .i64 mo, .int .i64 dk, .int .i64 dw, .int .i64 dn, .int .i64 sc, .int .i64 ck, .int .i64 sv, .string ⟨lt.toArray⟩] #[.int .i64 of, .string ⟨rl.toArray⟩, .int .i64 ss, .string ⟨fm.toArray⟩, .bool en, .int .i64 uy, .int .i64 um, .int .i64 ek, .int .i64 ew, .int .i64 ed, .int .i64 us, .int .i64 uk] #[.string ⟨a.toArray⟩, .string ⟨b.toArray⟩]
  have la : Hid (a.length ≤ 1000) := Lib.hid (by omega)
  have lb : Hid (b.length ≤ 1000) := Lib.hid (by omega)
  clear H hf ht hu LN l1 l2 l3 l4 l5 l6 hk1 hk2 hx1 hx2 hu1 hv1 su sv1 hn1 hn2 m1 m2
  simp only [rvV, evV, lvV] at C1 C2 C3 C4 V ⊢
  go_enter Tryz.func6, Tryz.ntmps6
  go_upto_region 11 with (first
    | (go_at_call 18
       refine (few_is _ 6 6 [nm, lt, rl, fm, a, b] true _ rfl (by omega) ?_ HF).mono ?_
       · exact (ListAt.newE _ [nm, lt, rl, fm, a, b] _ _ _ (by simp) rfl).arg
       rintro e w0 ⟨rfl, rfl⟩
       simp only [])
    | (go_at_call 27
       refine (C1.out _ (HQ.out.next (T.more _).bel)).mono ?_
       rintro e w1 ⟨A1, c1, rfl, ha1, k1⟩
       replace T := (T.more _).next k1
       have HA1 := Lib.hid ha1
       clear k1 ha1
       obtain ⟨xa0, xa1, xa2, xa3, xa4, xa5, xa6, xa7, xa8, xa9, xa10⟩ := cells11 T.r.blk
       have xaq := T.r.lt
       simp only [])
    | (go_at_call 28
       refine (C2.out _).mono ?_
       rintro e w2 ⟨A2, c2, rfl, ha2, k2⟩
       replace T := T.next k2
       have HA2 := Lib.hid ha2
       replace HA1 := Lib.hid (HA1.out.next k2)
       clear xa0 xa1 xa2 xa3 xa4 xa5 xa6 xa7 xa8 xa9 xa10 xaq
       clear k2 ha2
       obtain ⟨xb0, xb1, xb2, xb3, xb4, xb5, xb6, xb7, xb8, xb9, xb10, xb11⟩ := cells12 T.e.blk
       have xbq := T.e.lt
       simp only [])
    | (go_at_call 11; with_reducible refine (is_is x1 k1 1 true _ I1).mono ?_; rintro e wi ⟨rfl, rfl⟩; simp only [])
    | (go_at_call 11; with_reducible refine (is_is x2 k2 1 true _ I2).mono ?_; rintro e wj ⟨rfl, rfl⟩; simp only [])
    | (go_at_call 29
       with_reducible refine (D1.out A1 A2 c1 c2 _ HA1.out HA2.out).mono ?_
       rintro e w3 ⟨rfl, k3⟩
       replace T := T.next k3
       clear k3 xb0 xb1 xb2 xb3 xb4 xb5 xb6 xb7 xb8 xb9 xb10 xb11 xbq HA1 HA2
       obtain ⟨xc0, xc1, xc2, xc3, xc4, xc5, xc6, xc7, xc8, xc9, xc10, xc11⟩ := cells12 T.e.blk
       have xcq := T.e.lt
       simp only [])
    | (go_at_call 30
       refine (C3.out _ (HQ.out.next T.bel)).mono ?_
       rintro e w4 ⟨A3, c3, rfl, ha3, k4⟩
       replace T := T.next k4
       have HA3 := Lib.hid ha3
       clear xc0 xc1 xc2 xc3 xc4 xc5 xc6 xc7 xc8 xc9 xc10 xc11 xcq
       clear k4 ha3
       obtain ⟨xd0, xd1, xd2, xd3, xd4, xd5, xd6, xd7, xd8, xd9, xd10, xd11⟩ := cells12 T.e.blk
       have xdq := T.e.lt
       simp only [])
    | (go_at_call 31
       refine (C4.out _).mono ?_
       rintro e w5 ⟨A4, c4, rfl, ha4, k5⟩
       replace T := T.next k5
       have HA4 := Lib.hid ha4
       replace HA3 := Lib.hid (HA3.out.next k5)
       clear xd0 xd1 xd2 xd3 xd4 xd5 xd6 xd7 xd8 xd9 xd10 xd11 xdq
       clear k5 ha4
       simp only [])
    | (go_at_call 29
       with_reducible refine (D2.out A3 A4 c3 c4 _ HA3.out HA4.out).mono ?_
       rintro e w6 ⟨rfl, k6⟩
       replace T := T.next k6
       clear k6 HA3 HA4
       obtain ⟨xe0, xe1⟩ := cells2 T.l.blk
       have xeq := T.l.lt
       simp only []))
  clear C1 C2 C3 C4 D1 D2 I1 I2
  rcases V with ⟨h1, h2, CT⟩ | ⟨h1, CF⟩ | ⟨h1, h2, CF⟩
  all_goals
    go_wp2_with (first
      | (go_at_call 32
         refine (CT.out _ (HQ.out.next T.bel).l).mono ?_
         rintro e w7 ⟨A5, c5, rfl, ha5, k7⟩
         replace T := T.next k7
         have HA5 := Lib.hid ha5
         clear k7 ha5 xe0 xe1 xeq
         obtain ⟨xf0, xf1⟩ := cells2 T.l.blk
         have xfq := T.l.lt
         simp only [])
      | (go_at_call 32
         refine (CF.out _ (HQ.out.next T.bel).l).mono ?_
         rintro e w7 ⟨rfl, k7⟩
         replace T := T.next k7
         clear k7 xe0 xe1 xeq
         obtain ⟨xf0, xf1⟩ := cells2 T.l.blk
         have xfq := T.l.lt
         simp only [])
      | (go_at_call 13; with_reducible refine (rname_is a _ _ la.out h1).mono ?_; rintro e wk ⟨rfl, rfl⟩; simp only [])
      | (go_at_call 13; with_reducible refine (rname_is b _ _ lb.out h2).mono ?_; rintro e wl ⟨rfl, rfl⟩; simp only [])
      | (go_at_call 29
         refine (txt_same _ _ 3 _ _ [linkL, a, b] _ (HA5.out.next ((Below.refl _ _).alloc (Nat.le_refl _) _)) ?_ rfl (by omega)).mono ?_
         · exact (ListAt.newE _ [linkL, a, b] _ _ _ (by simp) rfl).arg
         rintro e w8 ⟨rfl, k8⟩
         replace T := (T.more _).next k8
         clear k8 HA5 xf0 xf1 xfq
         simp only [])
      | (go_at_call 10
         refine (lawake_any _ (HQ.out.next T.bel).l).mono ?_
         rintro e w9 ⟨rfl, k9⟩
         replace T := T.next k9
         clear k9
         simp only []))
    go_ret
    exact ⟨rfl, T.bel⟩
/-- The law LinesWords returns true, whatever is handed over. -/
theorem linesWords_walk (r : RV) (x : EV) (a b : List UInt8) (w : World) (H : LaidP w) (h1 : in64' r.fr ∧ in64' r.tl) (h2 : in64' x.uy) (_ : True) :
    Calls Tryz.prog 6 #[rvV r, evV x, lvV a b] w fun e w' => e = .returned (.bool true) ∧ Below w.heap.size w w' := by
  obtain ⟨nm, fr, tl, mo, dk, dw, dn, sc, ck, sv, lt⟩ := r
  obtain ⟨of, rl, ss, fm, en, uy, um, ek, ew, ed, us, uk⟩ := x
  cases h : fewB [nm, lt, rl, fm, a, b] with
  | false => exact lws_many nm fr tl mo dk dw dn sc ck sv lt of ss uy um ek ew ed us uk en rl fm a b w H.l (Lib.hid h)
  | true => exact lws_few nm fr tl mo dk dw dn sc ck sv lt of ss uy um ek ew ed us uk en rl fm a b w ⟨H.l, H.mrk⟩ h1.1 h1.2 h2 (Lib.hid h)
end Go.Proofs.YtfmehdophoejiaaGreatDoor
