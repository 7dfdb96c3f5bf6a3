/- For every input the law AbbrGoes returns true, and nothing that was in memory changes. -/
import Derived.Test.YtcfmmllegaddhaaDoorRgQ
import Derived.Test.YtcfmmllegaddhaaDoorAbI
namespace Go.Proofs.YtcfmmllegaddhaaDoor
open Go.RowKit Go.Shelf
attribute [local go_sem] Oper.semAt_some

theorem iter_nil (f : Nat) (b : Array Value) (W : World) : (binOp .eql 45 (.func (.func f) #[] b) .nilFunc).run Tryd.prog W = .ok (.bool false) W := by kernel_rfl
theorem bstep {W W1 : World} {o : Obj} (e : W.alloc o = W1) {B : Nat} {t : TypeId} {v : Value} (h : Go.Boxed W B t v) : Go.Boxed W1 B t v := e ▸ h.alloc o
theorem bnew {W W1 : World} {v : Value} {t : TypeId} {k : Nat} (e : W.alloc (.cells #[v] t) = W1) (s : W.heap.size = k) : Go.Boxed W1 k t v ∧ W1.heap.size = k + 1 := by
  subst e s
  exact ⟨Go.Boxed.new W t v, by simp⟩
theorem box_below {W W' : World} {B n0 : Nat} {t : TypeId} {v : Value} (h : Go.Boxed W B t v) (k : Below n0 W W') (hB : B < n0) : Go.Boxed W' B t v := (k.block B hB).trans h

/-- The law's own variables, and what its calls read. -/
structure GoA (g : Nat) (A : Option Addr) (m c : Nat) (f : List UInt8) (off : Int) (ls : List (List UInt8)) (W : World) : Prop where
  laid : LaidB W
  gm : 0 < g
  gx : 1 < g
  b0 : Go.Boxed W g 9 (.string ⟨f.toArray⟩)
  b1 : Go.Boxed W (g + 1) 3 (.int .i64 off)
  b2 : Go.Boxed W (g + 2) 43 (.slice A m c)
  b3 : Go.Boxed W (g + 3) 4 (.bool false)
  rows : RowsB g A ls W
theorem GoA.below {g n0 : Nat} {A : Option Addr} {m c : Nat} {f : List UInt8} {off : Int} {ls : List (List UInt8)} {W W' : World} (h : GoA g A m c f off ls W) (k : Below n0 W W') (hn : g + 4 ≤ n0) : GoA g A m c f off ls W' :=
  ⟨⟨h.laid.mks.below k (by have := h.gm; omega), by obtain ⟨x, hx⟩ := h.laid.mx; exact ⟨x, by rw [k.cell (p := ⟨_, _, none⟩) (by have := h.gx; exact Nat.lt_of_lt_of_le this (by omega))]; exact hx⟩⟩, h.gm, h.gx,
    box_below h.b0 k (by omega), box_below h.b1 k (by omega), box_below h.b2 k (by omega), box_below h.b3 k (by omega), h.rows.below (k.mono (by omega))⟩
theorem GoA.sz {g : Nat} {A : Option Addr} {m c : Nat} {f : List UInt8} {off : Int} {ls : List (List UInt8)} {W : World} (h : GoA g A m c f off ls W) : g + 4 ≤ W.heap.size := by have := h.b3.lt; omega
theorem GoA.next {g : Nat} {A : Option Addr} {m c : Nat} {f : List UInt8} {off : Int} {ls : List (List UInt8)} {W W' : World} (h : GoA g A m c f off ls W) (k : Below W.heap.size W W') : GoA g A m c f off ls W' := h.below k h.sz

set_option maxRecDepth 20000 in
set_option maxHeartbeats 1000000 in
theorem goes_in (A : Option Addr) (m c : Nat) (f : List UInt8) (off : Int) (ls : List (List UInt8)) (w : World) (hm : ls.length = m) (hn : A = none → m = 0) (hR : RowsB w.heap.size A ls w) (hA : LaidB w) (n : Nat) (hnn : n = 6) :
    CallsIn Fence.wide n Tryd.prog 8 #[.string ⟨f.toArray⟩, .int .i64 off, .slice A m c] w fun e w' => e = .returned (.bool true) ∧ Below w.heap.size w w' := by
  have h1 : 1 ≤ n := by omega
  refine callsIn_of_wp_marks Tryd.func8 rfl trivial ?_ rfl
  simp only [Tryd.ntmps8, List.size_toArray, List.length_cons, List.length_nil, Nat.reduceAdd, Nat.reduceSub, Array.replicate_succ, Array.replicate_zero, List.push_toArray, List.append_toArray, List.nil_append, List.cons_append]
  have hnf := iter_nil
  obtain ⟨g, hg⟩ : ∃ g, w.heap.size = g := ⟨_, rfl⟩
  obtain ⟨w1, e1⟩ : ∃ x, w.alloc (.cells #[.string ⟨f.toArray⟩] 9) = x := ⟨_, rfl⟩
  obtain ⟨w2, e2⟩ : ∃ x, w1.alloc (.cells #[.int .i64 off] 3) = x := ⟨_, rfl⟩
  obtain ⟨w3, e3⟩ : ∃ x, w2.alloc (.cells #[.slice A m c] 43) = x := ⟨_, rfl⟩
  obtain ⟨W0, e4⟩ : ∃ x, w3.alloc (.cells #[.bool false] 4) = x := ⟨_, rfl⟩
  obtain ⟨b1, s1⟩ := bnew e1 hg
  obtain ⟨b2, s2⟩ := bnew e2 s1
  have s2 : w2.heap.size = g + 2 := s2
  obtain ⟨b3, s3⟩ := bnew e3 s2
  have s3 : w3.heap.size = g + 3 := s3
  obtain ⟨b4, s4⟩ := bnew e4 s3
  have s4 : W0.heap.size = g + 4 := s4
  have k0 : Below g w W0 := by
    rw [← e4, ← e3, ← e2, ← e1]
    exact ((((Below.refl g w).alloc (by omega) _).alloc (by simp; omega) _).alloc (by simp; omega) _).alloc (by simp; omega) _
  rw [hg] at hR
  have G0 : Hid (GoA g A m c f off ls W0) := Lib.hid ⟨hA.next (hg ▸ k0), hg ▸ hA.mks.lt, by obtain ⟨x, hx⟩ := hA.mx; exact hg ▸ wcell_lt hx, bstep e4 (bstep e3 (bstep e2 b1)), bstep e4 (bstep e3 b2), bstep e4 b3, b4, hR.below k0⟩
  have K0 := Lib.hid k0
  have HM := Lib.hid hm
  have HN := Lib.hid hn
  clear k0 hm hn hR hA b1 b2 b3 b4
  have c0 := G0.out.b0.cell
  have c2 := G0.out.b2.cell
  have W : (100 : Int) < (f.length : Int) ∨ (¬ (100 : Int) < (f.length : Int) ∧ (10 : Int) < (m : Int)) ∨ (¬ (100 : Int) < (f.length : Int) ∧ ¬ (10 : Int) < (m : Int)) := by omega
  rcases W with W | ⟨W, V⟩ | ⟨W, V⟩
  · gi_wp2_with (refine ⟨trivial, ?_⟩; gi_at_call 10; refine (callsIn_wide.2 (awake_is _ (Lib.hid G0.out.laid))).mono ?_; rintro e w5 ⟨rfl, k5⟩
                 have G5 := Lib.hid (G0.out.next k5)
                 have K5 := Lib.hid (k5.mono (show g ≤ W0.heap.size by omega))
                 have x5 := G5.out.b3.lt
                 have f5 := G5.out.b3.frozen
                 have c5 := G5.out.b3.cell
                 clear k5)
    have q : (w5.setCell ⟨g + 3, 0, none⟩ (.bool true)).cell? ⟨g + 3, 0, none⟩ = some (.bool true) := (G5.out.b3.set _).cell
    exact ⟨.bool true, by simp [results, Tryd.results8, go_sem, q], rfl, by rw [hg]; exact (K0.out.trans K5.out).trans ((Below.refl g _).setCell (p := ⟨g + 3, 0, none⟩) (by show g ≤ g + 3; omega) _)⟩
  · gi_wp2_with (refine ⟨trivial, ?_⟩; gi_at_call 10; refine (callsIn_wide.2 (awake_is _ (Lib.hid G0.out.laid))).mono ?_; rintro e w5 ⟨rfl, k5⟩
                 have G5 := Lib.hid (G0.out.next k5)
                 have K5 := Lib.hid (k5.mono (show g ≤ W0.heap.size by omega))
                 have x5 := G5.out.b3.lt
                 have f5 := G5.out.b3.frozen
                 have c5 := G5.out.b3.cell
                 clear k5)
    have q : (w5.setCell ⟨g + 3, 0, none⟩ (.bool true)).cell? ⟨g + 3, 0, none⟩ = some (.bool true) := (G5.out.b3.set _).cell
    exact ⟨.bool true, by simp [results, Tryd.results8, go_sem, q], rfl, by rw [hg]; exact (K0.out.trans K5.out).trans ((Below.refl g _).setCell (p := ⟨g + 3, 0, none⟩) (by show g ≤ g + 3; omega) _)⟩
  · have H10 : Hid (m ≤ 10) := Lib.hid (by omega)
    have HF : Hid (f.length ≤ 1000) := Lib.hid (by omega)
    have HF1 : Hid (f.length ≤ 100) := Lib.hid (by omega)
    have m10 : m ≤ 10 := by omega
    gi_wp2
    gi_loopw [7] (fun v wr => ∃ i : Nat, v = .int .i64 (i : Int) ∧ i ≤ m ∧ (∀ j, j < i → (ls.getD j []).length ≤ 100) ∧ wr = W0) (fun v _ => m - (intOf v).toNat)
    case atStart => exact ⟨0, rfl, Nat.zero_le _, fun j h => absurd h (Nat.not_lt_zero _), rfl⟩
    case round =>
      obtain ⟨i, rfl, hi, hL, rfl⟩ := hrel
      have HL := Lib.hid hL
      clear hL
      by_cases hlt : i < m
      · have hlt' : (i : Int) < (m : Int) := by omega
        obtain ⟨q, hq⟩ : ∃ q, ls[i]? = some q := ⟨_, List.getElem?_eq_getElem (by rw [HM.out]; exact hlt)⟩
        have QD : Hid (ls.getD i [] = q) := Lib.hid (by simp [List.getD, hq])
        obtain ⟨b, o, rfl, hb, hc⟩ := G0.out.rows i q hq
        clear hq
        by_cases ql : 100 < q.length
        · have ql' : (100 : Int) < (q.length : Int) := by omega
          gi_wp2_with (refine ⟨trivial, ?_⟩; gi_at_call 10; refine (callsIn_wide.2 (awake_is _ (Lib.hid G0.out.laid))).mono ?_; rintro e w5 ⟨rfl, k5⟩
                       have G5 := Lib.hid (G0.out.next k5)
                       have K5 := Lib.hid (k5.mono (show g ≤ wr.heap.size by omega))
                       have x5 := G5.out.b3.lt
                       have f5 := G5.out.b3.frozen
                       have c5 := G5.out.b3.cell
                       clear k5)
          have q : (w5.setCell ⟨g + 3, 0, none⟩ (.bool true)).cell? ⟨g + 3, 0, none⟩ = some (.bool true) := (G5.out.b3.set _).cell
          exact ⟨.bool true, by simp [results, Tryd.results8, go_sem, q], rfl, by rw [hg]; exact (K0.out.trans K5.out).trans ((Below.refl g _).setCell (p := ⟨g + 3, 0, none⟩) (by show g ≤ g + 3; omega) _)⟩
        · have ql' : ¬ (100 : Int) < (q.length : Int) := by omega
          gi_wp2
          go_roundw
          case rel => exact ⟨i + 1, by go_num, by omega, fun j hj => by
            rcases Nat.lt_or_ge j i with h | h
            · exact HL.out j h
            · rw [show j = i by omega, QD.out]; omega, trivial⟩
          case measure => simp [intOf]; omega
      · obtain rfl : i = m := by omega
        have hlt' : ¬ (i : Int) < (i : Int) := by omega
        have HLS : Hid (∀ l ∈ ls, l.length ≤ 100) := Lib.hid fun l hl => by
          obtain ⟨j, hj, rfl⟩ := List.mem_iff_getElem.1 hl
          have := HL.out j (by rw [← HM.out]; exact hj)
          simpa [List.getD, hj] using this
        have c1 := G0.out.b1.cell
        clear HL hi
        gi_wp2_with (refine ⟨trivial, ?_⟩; gi_at_call 19; refine (callsIn_wide.2 (all_is A i c f off ls _ HM.out H10.out HN.out (G0.out.rows.mono (by omega)) G0.out.laid)).mono ?_; rintro e w5 ⟨Bl, A', c', rfl, a5, k5⟩
                     have A5 := Lib.hid a5
                     have K5 := Lib.hid k5
                     have G5 := Lib.hid (G0.out.next k5)
                     clear a5 k5)
        obtain ⟨Bn, hBn⟩ : ∃ Bn, w5.heap.size = Bn := ⟨_, rfl⟩
        obtain ⟨Wn, en⟩ : ∃ X, w5.alloc (.cells #[.int .i64 0] 3) = X := ⟨_, rfl⟩
        rw [hBn, s4] at A5
        rw [en, hBn]
        obtain ⟨bn, sn⟩ := bnew en hBn
        have kn : Below Bn w5 Wn := by rw [← en, ← hBn]; exact (Below.refl _ _).alloc (Nat.le_refl _) _
        have g4 : g + 4 ≤ Bn := by have := K5.out.size; omega
        have AN := Lib.hid (A5.out.below kn)
        have GN := Lib.hid (G5.out.below kn g4)
        have KN : Hid (Below g w Wn) := Lib.hid ((K0.out.trans (K5.out.mono (by omega))).trans (kn.mono (by omega)))
        have HBN := Lib.hid bn
        clear kn bn en A5 G5 K5 hlt hlt' c0 c1 c2 hBn
        refine range_kp h1 (gf := 28) (lb := #[.pointer (some ⟨Bl, 0, none⟩), .pointer (some ⟨g + 4, 0, none⟩), .pointer (some ⟨g + 4 + 1, 0, none⟩)]) rfl (enters_of Tryd.func28 (by kernel_rfl) rfl)
          (all_seq (n - 1) (by omega) Bn Bl _ _ A' i c' f off ls Wn HM.out H10.out HF1.out HLS.out AN.out) (by omega) (fun _ => rfl) (fun _ _ => trivial) (fun _ _ _ _ _ => trivial)
          (fun pre X => Go.Boxed X Bn 3 (.int .i64 (pre.length : Int)) ∧ Below Bn Wn X) (fun _ _ _ => False) ?hI ?hIx ⟨HBN.out, Below.refl _ _⟩ ?round2 ?done ?stop
        case hI => exact OwnFrom.and (Own.from (boxed_own Bn 3 (fun pre : List El => .int .i64 (pre.length : Int))) _) (ownFrom_below (by omega) (by omega))
        case hIx => exact fun c s X Y row h => h.elim
        case stop =>
          rintro D c pre X hD hSp h
          exact h.elim
        case round2 =>
          rintro l pre x X ⟨hbx, hB⟩ ⟨hz, hlen, rfl⟩ hsX
          have HZ := Lib.hid hz
          rw [HM.out] at hlen
          simp only [encE, elE]
          obtain ⟨d, hd⟩ : ∃ d, decide (pre.length % 2 = 1) = d := ⟨_, rfl⟩
          rw [hd]
          obtain ⟨T, hT⟩ : ∃ T, shS f off d (ls.getD (pre.length / 2) []) = T := ⟨_, rfl⟩
          rw [hT]
          have HD := Lib.hid (And.intro hd hT)
          clear hd hT
          gi_wp2
          refine ⟨⟨KeepsOthers.refl _, Below.refl _ _, trivial⟩, fun _ Y => Go.Boxed Y Bn 3 (.int .i64 (pre.length : Int)) ∧ Below Bn Wn Y, OwnFrom.and (Own.from (boxed_own Bn 3 (fun _ : Unit => .int .i64 (pre.length : Int))) _) (ownFrom_below (by omega) (by omega)), ⟨hbx, hB⟩, ?_⟩
          clear hbx hB hz
          rintro W2 ⟨hbx, hB⟩ hs2
          have HB := Lib.hid hB
          have HX := Lib.hid hbx
          obtain ⟨hd, hT⟩ := HD.out
          obtain ⟨k, hk⟩ : ∃ k, pre.length = k := ⟨_, rfl⟩
          obtain ⟨h, hh⟩ : ∃ h, k / 2 = h := ⟨_, rfl⟩
          obtain ⟨q, hq⟩ : ∃ q, ls[h]? = some q := ⟨_, List.getElem?_eq_getElem (by rw [HM.out]; omega)⟩
          have QD : ls.getD h [] = q := by simp [List.getD, hq]
          have QL : Hid (q.length ≤ 100) := Lib.hid (HLS.out q (List.mem_of_getElem? hq))
          have GX := Lib.hid (GN.out.below HB.out g4)
          obtain ⟨b, o, rfl, hb, hc⟩ := GX.out.rows h q hq
          rw [hk] at hlen hbx hd
          rw [hk, hh, QD] at hT
          have e1 : (k : Int) / 2 = (h : Int) := by omega
          have h3 : ¬ (i : Int) ≤ (h : Int) := by omega
          have h4 : (h : Int) < (i : Int) := by omega
          have hk20 : k ≤ 20 := by omega
          have hh9 : h ≤ 9 := by omega
          have hhi : h < i := by omega
          have c0 := GX.out.b0.cell
          have c1 := GX.out.b1.cell
          have c2 := GX.out.b2.cell
          have cn := hbx.cell
          have HK := Lib.hid hk
          clear hB hq QD hlen hh HD hk
          rcases (show k % 2 = 0 ∨ k % 2 = 1 by omega) with p | p
          · have e2 : ((k : Int) % 2 == 1) = false := by simp; omega
            obtain rfl : d = false := by rw [← hd]; simp; omega
            have SH : Hid (∀ Y, LaidB Y → Calls Tryd.prog 17 #[.string ⟨f.toArray⟩, .int .i64 off, .bool false, .string ⟨q.toArray⟩] Y fun e Y' => e = .returned (.tuple #[.string ⟨T.toArray⟩, .int .i64 0]) ∧ Below Y.heap.size Y Y') := Lib.hid fun Y h => show_is f q T off 0 false Y (Lib.hid h) (Lib.hid ⟨HF.out, QL.out⟩) (Lib.hid ⟨hT, HZ.out⟩)
            clear hT hd p
            gi_wp2
            have d0 : ∀ y : Bel W2, y.w.cell? ⟨g, 0, none⟩ = some (.string ⟨f.toArray⟩) := fun y => (GX.out.below y.k GX.out.sz).b0.cell
            have d1 : ∀ y : Bel W2, y.w.cell? ⟨g + 1, 0, none⟩ = some (.int .i64 off) := fun y => (GX.out.below y.k GX.out.sz).b1.cell
            have d2 : ∀ y : Bel W2, y.w.cell? ⟨g + 2, 0, none⟩ = some (.slice (some ⟨b, o, none⟩) i c) := fun y => (GX.out.below y.k GX.out.sz).b2.cell
            have dn : ∀ y : Bel W2, y.w.cell? ⟨Bn, 0, none⟩ = some (.int .i64 (k : Int)) := fun y => by rw [y.k.cell (p := ⟨_, _, none⟩) hbx.lt]; exact cn
            have dc : ∀ y : Bel W2, y.w.cell? ⟨b, o + h, none⟩ = some (.string ⟨q.toArray⟩) := fun y => by rw [y.k.cell (p := ⟨_, _, none⟩) (wcell_lt hc)]; exact hc
            have q3 : IntKind.i64.wrap (h : Int) = (h : Int) := wrap_small _ (by omega) (by omega)
            refine region_round (by kernel_rfl) (by kernel_rfl) (by kernel_rfl) ?_
            clear c0 c1 c2 cn hc
            repeat (quiet_step ((go_at_call 17; rename_i y; refine (SH.out _ (GX.out.laid.next y.k)).mono ?_; rintro e w6 ⟨rfl, k6⟩; exact ⟨rfl, ⟨w6, y.k.trans (k6.mono y.k.size)⟩, rfl⟩)))
            refine wpQuiet_nil ?_
            rintro w6 ⟨x6, hx6⟩
            have k6 : Below W2.heap.size W2 w6 := hx6 ▸ x6.k
            clear hx6 x6
            have b6 : Go.Boxed w6 Bn 3 (.int .i64 (k : Int)) := box_below hbx k6 hbx.lt
            have c6 := b6.cell
            have f6 := b6.frozen
            have x6 := b6.lt
            gi_wp2
            refine ⟨⟨(KeepsOthers.of_grownBy (grownN k6) (fun j o e => by cases e)).trans (KeepsOthers.setCell _ _ _), (k6.mono (by omega)).trans ((Below.refl Bn w6).setCell (p := ⟨Bn, 0, none⟩) (Nat.le_refl _) _), trivial⟩, ?_, ?_⟩
            · rw [List.length_append, HK.out]
              exact b6.set _
            · exact HB.out.trans ((k6.mono (by omega)).trans ((Below.refl Bn w6).setCell (p := ⟨Bn, 0, none⟩) (Nat.le_refl _) _))
          · have e2 : ((k : Int) % 2 == 1) = true := by simp; omega
            obtain rfl : d = true := by rw [← hd]; simp; omega
            have SH : Hid (∀ Y, LaidB Y → Calls Tryd.prog 17 #[.string ⟨f.toArray⟩, .int .i64 off, .bool true, .string ⟨q.toArray⟩] Y fun e Y' => e = .returned (.tuple #[.string ⟨T.toArray⟩, .int .i64 0]) ∧ Below Y.heap.size Y Y') := Lib.hid fun Y h => show_is f q T off 0 true Y (Lib.hid h) (Lib.hid ⟨HF.out, QL.out⟩) (Lib.hid ⟨hT, HZ.out⟩)
            clear hT hd p
            gi_wp2
            have d0 : ∀ y : Bel W2, y.w.cell? ⟨g, 0, none⟩ = some (.string ⟨f.toArray⟩) := fun y => (GX.out.below y.k GX.out.sz).b0.cell
            have d1 : ∀ y : Bel W2, y.w.cell? ⟨g + 1, 0, none⟩ = some (.int .i64 off) := fun y => (GX.out.below y.k GX.out.sz).b1.cell
            have d2 : ∀ y : Bel W2, y.w.cell? ⟨g + 2, 0, none⟩ = some (.slice (some ⟨b, o, none⟩) i c) := fun y => (GX.out.below y.k GX.out.sz).b2.cell
            have dn : ∀ y : Bel W2, y.w.cell? ⟨Bn, 0, none⟩ = some (.int .i64 (k : Int)) := fun y => by rw [y.k.cell (p := ⟨_, _, none⟩) hbx.lt]; exact cn
            have dc : ∀ y : Bel W2, y.w.cell? ⟨b, o + h, none⟩ = some (.string ⟨q.toArray⟩) := fun y => by rw [y.k.cell (p := ⟨_, _, none⟩) (wcell_lt hc)]; exact hc
            have q3 : IntKind.i64.wrap (h : Int) = (h : Int) := wrap_small _ (by omega) (by omega)
            refine region_round (by kernel_rfl) (by kernel_rfl) (by kernel_rfl) ?_
            clear c0 c1 c2 cn hc
            repeat (quiet_step ((go_at_call 17; rename_i y; refine (SH.out _ (GX.out.laid.next y.k)).mono ?_; rintro e w6 ⟨rfl, k6⟩; exact ⟨rfl, ⟨w6, y.k.trans (k6.mono y.k.size)⟩, rfl⟩)))
            refine wpQuiet_nil ?_
            rintro w6 ⟨x6, hx6⟩
            have k6 : Below W2.heap.size W2 w6 := hx6 ▸ x6.k
            clear hx6 x6
            have b6 : Go.Boxed w6 Bn 3 (.int .i64 (k : Int)) := box_below hbx k6 hbx.lt
            have c6 := b6.cell
            have f6 := b6.frozen
            have x6 := b6.lt
            gi_wp2
            refine ⟨⟨(KeepsOthers.of_grownBy (grownN k6) (fun j o e => by cases e)).trans (KeepsOthers.setCell _ _ _), (k6.mono (by omega)).trans ((Below.refl Bn w6).setCell (p := ⟨Bn, 0, none⟩) (Nat.le_refl _) _), trivial⟩, ?_, ?_⟩
            · rw [List.length_append, HK.out]
              exact b6.set _
            · exact HB.out.trans ((k6.mono (by omega)).trans ((Below.refl Bn w6).setCell (p := ⟨Bn, 0, none⟩) (Nat.le_refl _) _))
        case done =>
          rintro D xs X hD hS ⟨hbx, hB⟩ hdf
          have HB := Lib.hid hB
          have GX := Lib.hid (GN.out.below HB.out g4)
          obtain ⟨e0, he⟩ : ∃ e0, shE f off = e0 := ⟨_, rfl⟩
          obtain ⟨N, hN⟩ : ∃ N, xs.length = N := ⟨_, rfl⟩
          obtain ⟨T, hT⟩ : ∃ T, shS f off false [] = T := ⟨_, rfl⟩
          rw [hN] at hS hbx
          have WN : ((N : Int) == 2 * (i : Int)) = true ∨ (((N : Int) == 2 * (i : Int)) = false ∧ ((e0 : Int) != 0) = true ∧ ((N : Int) == 0) = true) := by
            unfold cntE at hS
            rw [he, HM.out] at hS
            by_cases z : e0 = 0
            · rw [if_pos z] at hS
              left; simp; omega
            · rw [if_neg z] at hS
              by_cases z2 : i = 0
              · left; simp; omega
              · right; exact ⟨by simp; omega, by simpa using z, by simpa using hS⟩
          have SH : Hid (∀ Y, LaidB Y → Calls Tryd.prog 17 #[.string ⟨f.toArray⟩, .int .i64 off, .bool false, .string ⟨#[]⟩] Y fun e Y' => e = .returned (.tuple #[.string ⟨T.toArray⟩, .int .i64 e0]) ∧ Below Y.heap.size Y Y') := Lib.hid fun Y h => show_is f [] T off e0 false Y (Lib.hid h) (Lib.hid ⟨HF.out, by simp⟩) (Lib.hid ⟨hT, he⟩)
          have c0 := GX.out.b0.cell
          have c1 := GX.out.b1.cell
          have HX := Lib.hid hbx
          have HD := Lib.hid hdf
          have hN20 : i ≤ 10 := H10.out
          clear hB hS he hN hT hbx hdf
          rcases WN with t1 | ⟨t1, t2, t3⟩
          all_goals
            (gi_wp2_with (first
               | (refine ⟨trivial, ?_⟩; gi_at_call 17; refine (callsIn_wide.2 (SH.out _ GX.out.laid)).mono ?_; rintro e w7 ⟨rfl, k7⟩
                  have G7 := Lib.hid (GX.out.next k7)
                  have K7 := Lib.hid k7
                  have c2 := G7.out.b2.cell
                  have cn := (box_below HX.out k7 HX.out.lt).cell
                  clear k7)
               | (refine ⟨trivial, ?_⟩; gi_at_call 10; refine (callsIn_wide.2 (awake_is _ (Lib.hid G7.out.laid))).mono ?_; rintro e w8 ⟨rfl, k8⟩
                  have G8 := Lib.hid (G7.out.next k8)
                  have K8 := Lib.hid (K7.out.trans (k8.mono K7.out.size))
                  have x8 := G8.out.b3.lt
                  have f8 := G8.out.b3.frozen
                  have c8 := G8.out.b3.cell
                  clear k8))
             have hd : (w8.setCell ⟨g + 3, 0, none⟩ (.bool true)).heap[D]? = some (.deferred (some [])) := by
               rw [Below.heap_setCell _ _ _ _ (by show D ≠ g + 3; omega), K8.out.block D (Array.getElem?_eq_some_iff.1 HD.out).1]
               exact HD.out
             have B8 : Below g w (w8.setCell ⟨g + 3, 0, none⟩ (.bool true)) := ((KN.out.trans (HB.out.mono (by omega))).trans (K8.out.mono (by have := HB.out.size; omega))).trans ((Below.refl g _).setCell (p := ⟨g + 3, 0, none⟩) (by show g ≤ g + 3; omega) _)
             have q : ((w8.setCell ⟨g + 3, 0, none⟩ (.bool true)).putObj D (.deferred none)).cell? ⟨g + 3, 0, none⟩ = some (.bool true) := ((G8.out.b3.set _).kept (grownBy_putObj' _ D _) (fun e => by injection e with e; omega)).cell
             refine ⟨by simp, .inl ⟨_, _, rfl, run_takeDeferred hd, ?_⟩⟩
             exact ⟨.bool true, by simp [results, Tryd.results8, go_sem, q], rfl, by rw [hg]; exact B8.grown (grownBy_putObj' _ D _) (by have := B8.size; omega) (fun k e => by cases e; omega)⟩)
end Go.Proofs.YtcfmmllegaddhaaDoor
