/- What the iterator of a stretch without rules hands on. -/
import Derived.Test.YtdmfgechoanmlaaGreatDoorZqC
import Derived.Deep.RegionHeld3
namespace Go.Proofs.YtdmfgechoanmlaaGreatDoor
open Go Go.RowKit Go.Sort Go.Shelf
attribute [local go_sem] Oper.semAt_some

def shL (p q : Int) (e : EV) : List CV := if p ≤ q then [⟨p, (loS e).1, (loS e).2.1, (loS e).2.2⟩] else []
set_option maxRecDepth 20000 in
set_option maxHeartbeats 2000000 in
theorem strt_seq (N : Nat) (hN : 6 ≤ N) (n0 m Bb Bl Bs : Nat) (p q : Int) (x : SX) (w : World) (hx : PlE x.1) (p1 : -2199023255553 ≤ p) (p2 : p ≤ 2199023255552) (q1 : -2199023255553 ≤ q) (q2 : q ≤ 2199023255552) (h : ShB Bb Bl Bs p q x w) (m1 : m ≤ Bb) (m2 : m ≤ Bl) (m3 : m ≤ Bs) (hn0 : n0 ≤ w.heap.size) (hg : 2 < n0) (hA : LaidZ w) :
    SeqKs tC N Tryz.prog 105 #[.pointer (some ⟨Bb, 0, none⟩), .pointer (some ⟨Bl, 0, none⟩), .pointer (some ⟨Bs, 0, none⟩)] encC (fun pre y => pre ++ [y] <+: shL p q x.1) n0 (KpC m) (fun xs => xs = shL p q x.1) (fun pre => pre <+: shL p q x.1) w := by
  generalize hL : shL p q x.1 = L
  intro l J Jx W hW hJ hJx hYd hj0
  have h1 : 1 ≤ N := by omega
  have kY : Below W.heap.size W (W.alloc (.cells #[.func (.yield l) #[] #[]] 108)) := (Below.refl _ W).alloc (Nat.le_refl _) _
  have HB := Lib.hid ((h.next hW).next kY)
  have HA := Lib.hid ((hA.next hW).next kY)
  have hsW := hW.size
  have WI := Lib.hid (fun X (hX : LaidB X) => within_no x.1 (.slice none 0 0) p 0 _ X hx.rl (Lib.hid hX) (Lib.hid hx.fm) hx.o1 hx.o2 hx.v1 hx.v2 hx.pl rfl)
  rw [show plV x.1 = .agg #[.int .i64 (loS x.1).1, .bool (loS x.1).2.1, .string ⟨(loS x.1).2.2.toArray⟩] by unfold plV; rw [if_pos hx.pl]; rfl] at WI
  have BG := Lib.hid (fun X => begun_none x X)
  have FI := Lib.hid (fun X (hX : AhAt X) => fired_none x.1.of p q 0 0 X hX)
  have HJ := Lib.hid hJ
  have HX := Lib.hid hJx
  have HYd := Lib.hid hYd
  have J0 := Lib.hid (hJ.bel hj0 kY)
  have Q0 := Lib.hid (heap_alloc_new W (.cells #[.func (.yield l) #[] #[]] 108))
  have K0 := Lib.hid kY
  obtain ⟨⟨of, rl, sv, fm, en, uy, um, dk, dw, dn, sc, ck⟩, pb, pe⟩ := x
  obtain ⟨a1, b1, s1, hloS⟩ : ∃ a b s, loS ⟨of, rl, sv, fm, en, uy, um, dk, dw, dn, sc, ck⟩ = (a, b, s) := ⟨_, _, _, rfl⟩
  simp only [svX, cSx] at BG
  simp only [evV, cE] at WI
  simp only [hloS] at WI
  unfold shL at hL
  simp only [hloS] at hL
  obtain ⟨s0, t0, u0⟩ := HB.out
  unfold cSx at u0
  simp only at u0
  have UU := Lib.hid u0
  have c1 := cel1 s0
  have c2 := cel1 t0
  obtain ⟨⟨x0, x1, x2, x3, x4, x5, x6, x7, x8, x9⟩, x10, x11, x12, x13, x14⟩ := cells15 u0
  have zq := cel1 Q0.out
  have mixed : Tryz.prog.follows .mixedOrders = true := by kernel_rfl
  clear h hW hA hJ hJx hYd hj0 kY hx hloS s0 t0 u0
  refine callsIn_of_wp_marks Tryz.func105 rfl trivial ?_ rfl
  simp only [Tryz.ntmps105, List.size_toArray, List.length_cons, List.length_nil, Nat.reduceAdd, Nat.reduceSub, Array.replicate_succ, Array.replicate_zero, List.push_toArray, List.append_toArray, List.nil_append, List.cons_append]
  by_cases hpq : p ≤ q
  · have hgt : ¬ p > q := by omega
    rw [if_pos hpq] at hL
    gi_wp2_with (first
      | (refine ⟨trivial, ?_⟩; gi_at_call 33; refine (callsIn_wide.2 (WI.out _ HA.out.b)).mono ?_; rintro e w2 ⟨rfl, k2⟩
         have k3 := k2.trans (((Below.refl w2.heap.size w2).alloc (Nat.le_refl _) (.cells #[.int .i64 a1, .bool b1, .string ⟨s1.toArray⟩] 41)).mono k2.size)
         have HB3 := Lib.hid (HB.out.next k3)
         have K3 := Lib.hid (bthen K0.out k3)
         have A3 := Lib.hid (HA.out.next k3)
         have Q3 := Lib.hid ((k3.block _ (Array.getElem?_eq_some_iff.1 Q0.out).1).trans Q0.out)
         have J3 := Lib.hid (HJ.out.bel J0.out k3)
         clear k2 k3 c1 c2 x0 x1 x2 x3 x4 x5 x6 x7 x8 x9 x10 x11 x12 x13 x14 zq
         have c1 := cel1 HB3.out.bb
         have c2 := cel1 HB3.out.bl
         have zq := cel1 Q3.out
         have hs3 := K3.out.size
         obtain ⟨fn, tmps, assign, body, hy, hR⟩ := HYd.out [] ⟨p, a1, b1, s1⟩ _ J3.out (by rw [← hL]; exact List.prefix_refl _) hs3
         simp only [encC, cvV] at hy
         simp only []))
    refine hR.mono ?_
    rintro e W4 (⟨rfl, hJ4, hk4, hkp4, hko4⟩ | ⟨rfl, hJx4, hkf4⟩)
    · have n3 : n0 ≤ (w2.alloc (.cells #[.int .i64 a1, .bool b1, .string ⟨s1.toArray⟩] 41)).heap.size := by omega
      have HB4 := Lib.hid (show ShB Bb Bl Bs p q (⟨of, rl, sv, fm, en, uy, um, dk, dw, dn, sc, ck⟩, pb, pe) W4 from ⟨(hkp4 _ _ _ _ m1 HB3.out.bb (by rfl)).trans HB3.out.bb, (hkp4 _ _ _ _ m2 HB3.out.bl (by rfl)).trans HB3.out.bl, (hkp4 _ _ _ _ m3 HB3.out.bs (by rfl)).trans HB3.out.bs⟩)
      have A4 := Lib.hid (A3.out.f.ah.below hk4 hg)
      have J4 := Lib.hid hJ4
      have S4 := Lib.hid (Nat.le_trans hs3 hk4.size)
      clear hJ4 hk4 hkp4 hko4 hy hR c1 c2 zq
      gi_wp2
      refine wpIn_calm ?_
      refine wpIn_wide.2 ?_
      obtain ⟨mx, hmx⟩ : ∃ v, max p (-3217830838488) = v := ⟨_, rfl⟩
      have mm0 := fmax2 Tryz.prog 3 p (-3217830838488) mx hmx
      obtain ⟨s0, t0, u0⟩ := HB4.out
      unfold cSx at u0
      simp only at u0
      have g1 := (Array.getElem?_eq_some_iff.1 s0).1
      have g3 := (Array.getElem?_eq_some_iff.1 u0).1
      have c1 := cel1 s0
      obtain ⟨⟨x0, x1, x2, x3, x4, x5, x6, x7, x8, x9⟩, x10, x11, x12, x13, x14⟩ := cells15 u0
      have SK := Lib.hid (fun (w' : World) (k : Below W4.heap.size W4 w') => (⟨(k.cell (p := ⟨Bb, 0, none⟩) g1).trans c1, (k.cell (p := ⟨Bs, 0, none⟩) g3).trans x0, (k.cell (p := ⟨Bs, 1, none⟩) g3).trans x1, (k.cell (p := ⟨Bs, 2, none⟩) g3).trans x2, (k.cell (p := ⟨Bs, 3, none⟩) g3).trans x3, (k.cell (p := ⟨Bs, 4, none⟩) g3).trans x4, (k.cell (p := ⟨Bs, 5, none⟩) g3).trans x5, (k.cell (p := ⟨Bs, 6, none⟩) g3).trans x6, (k.cell (p := ⟨Bs, 7, none⟩) g3).trans x7, (k.cell (p := ⟨Bs, 8, none⟩) g3).trans x8, (k.cell (p := ⟨Bs, 9, none⟩) g3).trans x9, (k.cell (p := ⟨Bs, 10, none⟩) g3).trans x10, (k.cell (p := ⟨Bs, 11, none⟩) g3).trans x11, (k.cell (p := ⟨Bs, 12, none⟩) g3).trans x12, (k.cell (p := ⟨Bs, 13, none⟩) g3).trans x13, (k.cell (p := ⟨Bs, 14, none⟩) g3).trans x14⟩ :
        w'.cell? ⟨Bb, 0, none⟩ = some (.int .i64 p) ∧ w'.cell? ⟨Bs, 0, none⟩ = some (.int .i64 of) ∧ w'.cell? ⟨Bs, 1, none⟩ = some (.string ⟨rl.toArray⟩) ∧ w'.cell? ⟨Bs, 2, none⟩ = some (.int .i64 sv) ∧ w'.cell? ⟨Bs, 3, none⟩ = some (.string ⟨fm.toArray⟩) ∧ w'.cell? ⟨Bs, 4, none⟩ = some (.bool en) ∧ w'.cell? ⟨Bs, 5, none⟩ = some (.int .i64 uy) ∧ w'.cell? ⟨Bs, 6, none⟩ = some (.int .i64 um) ∧ w'.cell? ⟨Bs, 7, none⟩ = some (.int .i64 dk) ∧ w'.cell? ⟨Bs, 8, none⟩ = some (.int .i64 dw) ∧ w'.cell? ⟨Bs, 9, none⟩ = some (.int .i64 dn) ∧ w'.cell? ⟨Bs, 10, none⟩ = some (.int .i64 sc) ∧ w'.cell? ⟨Bs, 11, none⟩ = some (.int .i64 ck) ∧ w'.cell? ⟨Bs, 12, none⟩ = some (.slice none 0 0) ∧ w'.cell? ⟨Bs, 13, none⟩ = some (.int .i64 pb) ∧ w'.cell? ⟨Bs, 14, none⟩ = some (.int .i64 pe)))
      have KA := Lib.hid (Below.refl W4.heap.size W4)
      have KB := Lib.hid ((KA.out.alloc (Nat.le_refl _) (.cells #[.int .i64 0] 3)).drew)
      have LB := Lib.hid ((BlkN.make (Below.refl W4.heap.size W4) #[.int .i64 0] 3).next (Below.refl _ (W4.alloc (.cells #[.int .i64 0] 3))).drew)
      clear hmx s0 t0 u0 c1 x0 x1 x2 x3 x4 x5 x6 x7 x8 x9 x10 x11 x12 x13 x14
      go_region_held3 (fun w' => w'.cell? ⟨Bb, 0, none⟩ = some (.int .i64 p) ∧ w'.cell? ⟨Bs, 0, none⟩ = some (.int .i64 of) ∧ w'.cell? ⟨Bs, 1, none⟩ = some (.string ⟨rl.toArray⟩) ∧ w'.cell? ⟨Bs, 2, none⟩ = some (.int .i64 sv) ∧ w'.cell? ⟨Bs, 3, none⟩ = some (.string ⟨fm.toArray⟩) ∧ w'.cell? ⟨Bs, 4, none⟩ = some (.bool en) ∧ w'.cell? ⟨Bs, 5, none⟩ = some (.int .i64 uy) ∧ w'.cell? ⟨Bs, 6, none⟩ = some (.int .i64 um) ∧ w'.cell? ⟨Bs, 7, none⟩ = some (.int .i64 dk) ∧ w'.cell? ⟨Bs, 8, none⟩ = some (.int .i64 dw) ∧ w'.cell? ⟨Bs, 9, none⟩ = some (.int .i64 dn) ∧ w'.cell? ⟨Bs, 10, none⟩ = some (.int .i64 sc) ∧ w'.cell? ⟨Bs, 11, none⟩ = some (.int .i64 ck) ∧ w'.cell? ⟨Bs, 12, none⟩ = some (.slice none 0 0) ∧ w'.cell? ⟨Bs, 13, none⟩ = some (.int .i64 pb) ∧ w'.cell? ⟨Bs, 14, none⟩ = some (.int .i64 pe))
        (first | exact SK.out _ KA.out | exact SK.out _ KA.out.drew | exact SK.out _ (KA.out.alloc (Nat.le_refl _) _) | exact SK.out _ (KA.out.alloc (Nat.le_refl _) _).drew | exact SK.out _ K6.out | exact SK.out _ (K6.out.alloc K6.out.size _) | exact SK.out _ (K6.out.setCell (Nat.le_refl _) _))
        (first
          | (go_at_call 106; refine (BG.out _).mono ?_; rintro r w6 ⟨rfl, k6⟩
             have L6 := Lib.hid (LB.out.next k6)
             have K6 := Lib.hid L6.out.bel
             have q0 := cel1 L6.out.blk
             have f0 := frz (j := 0) L6.out.blk)
          | (go_at_call 106; refine (BG.out _).mono ?_; rintro r w6 ⟨rfl, k6⟩
             have K6 := Lib.hid (KA.out.drew.trans k6)))
      all_goals
        simp only [calmQ]
        first
          | (obtain ⟨W5, hW5, k5⟩ : ∃ W5, (w6.alloc (.cells #[.int .i64 mx] 3)) = W5 ∧ Below W4.heap.size W4 W5 := ⟨_, rfl, K6.out.alloc K6.out.size _⟩
             simp only [hW5])
          | (obtain ⟨W5, hW5, k5⟩ : ∃ W5, (w6.setCell ⟨W4.heap.size, 0, none⟩ (.int .i64 mx)) = W5 ∧ Below W4.heap.size W4 W5 := ⟨_, rfl, K6.out.setCell (Nat.le_refl _) _⟩
             simp only [hW5])
        have HB5 := Lib.hid (HB4.out.next k5)
        have A5 := Lib.hid (A4.out.next k5)
        have J5 := Lib.hid (HJ.out.bel J4.out k5)
        have S5 := Lib.hid (Nat.le_trans S4.out k5.size)
        have c1 := cel1 HB5.out.bb
        have c2 := cel1 HB5.out.bl
        have x0 := (cells15 HB5.out.bs).1.1
        have x12 := (cells15 HB5.out.bs).2.2.2.1
        clear hW5 k5
        gi_wp2_with (refine ⟨trivial, ?_⟩; gi_at_call 107; refine (callsIn_wide.2 (FI.out _ A5.out)).mono ?_; rintro e w7 ⟨B, rfl, hF, k7⟩; simp only [])
        have SEQ := (firedit_none (N - 1) (by omega) B 0 of p q p1 p2 q1 q2).seq (fun X Y h k => h.next k) tC encT 0 (fun _ _ => True) w7 hF
        have J7 := Lib.hid (HJ.out.bel J5.out k7)
        have S7 := Nat.le_trans S5.out k7.size
        clear c1 c2 x0 x12 hF k7
        refine range_ks h1 (gf := 128) (lb := #[.pointer (some ⟨B + 3, 0, none⟩), .pointer (some ⟨B, 0, none⟩), .pointer (some ⟨B + 1, 0, none⟩), .pointer (some ⟨B + 2, 0, none⟩)]) rfl (enters_of Tryz.func128 (by kernel_rfl) rfl)
          SEQ (Nat.zero_le _) (fun _ => rfl) (fun _ _ => trivial) (fun _ _ _ _ _ => trivial) (fun _ X => J ([] ++ [⟨p, a1, b1, s1⟩]) X) (fun _ _ _ => False) (fun s X Y row h hg hr => HJ.out _ X Y row h hg (fun r e => ⟨by have := (hr r e).1; omega, (hr r e).2⟩)) (fun _ _ _ _ _ h => h.elim) J7.out (fun _ _ _ _ _ h => h.elim) ?done (fun _ _ _ _ _ h => h.elim)
        case done =>
          rintro D xs X hD - hI hdf
          have JF := Lib.hid (HJ.out _ _ _ _ hI (grownBy_putObj' X D (.deferred none)) (fun r e => by injection e with e; subst e; exact ⟨by omega, _, hdf, .inl rfl⟩))
          clear hI
          gi_wp2
          refine ⟨by simp, .inl ⟨D, _, rfl, run_takeDeferred hdf, ?_⟩⟩
          exact ⟨_, results_none rfl _ _ _, ⟨_, rfl⟩, .inl ⟨_, rfl, by rw [← hL]; exact JF.out⟩⟩
    · have JX4 := Lib.hid hJx4
      clear hy hR hJx4 hkf4
      gi_wp2
      exact ⟨_, results_none rfl _ _ _, ⟨_, rfl⟩, .inr ⟨_, by rw [← hL]; exact List.prefix_refl _, JX4.out⟩⟩
  · have hgt : p > q := by omega
    rw [if_neg hpq] at hL
    subst hL
    gi_wp2
    exact ⟨_, results_none rfl _ _ _, ⟨_, rfl⟩, .inl J0.out⟩
end Go.Proofs.YtdmfgechoanmlaaGreatDoor
