/- The contract of lines.EraWords: which words an era has, or that it has none; nothing that was in memory changes. Written by wip/tools/genlny.py. -/
import Derived.Test.YtfmehdophoejiaaGreatDoorLnZ
import Derived.Laws.OwnMore
namespace Go.Proofs.YtfmehdophoejiaaGreatDoor
open Go Go.RowKit

theorem ewL_lens (x : EV) (h1 : x.rl.length ≤ 100) (h2 : x.fm.length ≤ 100) (h3 : in64' x.uy) : ∀ p ∈ ewL x, p.length ≤ 500 := by
  have a1 := itoa_len h3
  have a2 := svT_len x.of
  have a3 := mname_len x.um
  have a4 := dyT_len x.dk x.dw x.dn
  have a5 := ckT_len x.sc x.ck
  have a6 : (ruT x.rl x.sv).length ≤ 101 := by
    unfold ruT
    split
    · have := orN_len x.rl; omega
    · have := svT_len x.sv; omega
  intro p hp
  unfold ewL at hp
  rw [List.mem_append] at hp
  rcases hp with hp | hp
  · simp only [List.mem_cons, List.not_mem_nil, or_false] at hp
    rcases hp with rfl | rfl | rfl <;> omega
  · split at hp
    · simp only [List.mem_cons, List.not_mem_nil, or_false] at hp
      rcases hp with rfl | rfl | rfl | rfl <;> omega
    · cases hp
theorem own_lit3 (w : World) (a b c : List UInt8) (base : Nat) (hb : base ≤ w.heap.size) : (w.alloc (.cells #[.string ⟨a.toArray⟩, .string ⟨b.toArray⟩, .string ⟨c.toArray⟩] 9)).ownsRow base 9 1 (.slice (some ⟨w.heap.size, 0, none⟩) 3 3) 3 (scl [a, b, c]) :=
  World.ownsRow_lit w #[.string ⟨a.toArray⟩, .string ⟨b.toArray⟩, .string ⟨c.toArray⟩] 3 hb (by unfold maxLen; omega) rfl
theorem own_next {W W' : World} {base g n c : Nat} {xs : List Value} (h : W.ownsRow base 9 1 (.slice (some ⟨g, 0, none⟩) n c) n xs) (k : Below W.heap.size W W') : W'.ownsRow base 9 1 (.slice (some ⟨g, 0, none⟩) n c) n xs :=
  h.kept (grown_any k none) (.inr (by simp [Value.ownBlock]))
set_option maxRecDepth 20000 in
set_option maxHeartbeats 3200000 in
theorem ew_ty (of sv uy um dk dw dn sc ck : Int) (rl fm : List UInt8) (w : World) (H : LaidQ w) (hu : in64' uy) (HLN : Hid (∀ p ∈ ewL ⟨of, rl, sv, fm, true, uy, um, dk, dw, dn, sc, ck⟩, p.length ≤ 500)) (HR : Hid (erS (ewL ⟨of, rl, sv, fm, true, uy, um, dk, dw, dn, sc, ck⟩) = ⟨of, rl, sv, fm, true, uy, um, dk, dw, dn, sc, ck⟩ ∧ erX (ewL ⟨of, rl, sv, fm, true, uy, um, dk, dw, dn, sc, ck⟩) = 0)) :
    Calls Tryz.prog 30 #[evV ⟨of, rl, sv, fm, true, uy, um, dk, dw, dn, sc, ck⟩] w (WordsIs (ewL ⟨of, rl, sv, fm, true, uy, um, dk, dw, dn, sc, ck⟩) true w) := by
  obtain ⟨T0, h0⟩ : ∃ T, svT of = T := ⟨_, rfl⟩
  obtain ⟨T1, h1⟩ : ∃ T, ruT rl sv = T := ⟨_, rfl⟩
  obtain ⟨D, hD⟩ : ∃ D, Lib.itoa uy = D := ⟨_, rfl⟩
  obtain ⟨T5, h5⟩ : ∃ T, mnameL um = T := ⟨_, rfl⟩
  obtain ⟨e5, h5'⟩ : ∃ T, mnameE um = T := ⟨_, rfl⟩
  obtain ⟨T6, h6⟩ : ∃ T, dyT dk dw dn = T := ⟨_, rfl⟩
  obtain ⟨T7, h7⟩ : ∃ T, ckT sc ck = T := ⟨_, rfl⟩
  have EW : ewL ⟨of, rl, sv, fm, true, uy, um, dk, dw, dn, sc, ck⟩ = [T0, T1, fm] ++ [D, T5, T6, T7] := by show [svT of, ruT rl sv, fm] ++ [Lib.itoa uy, mnameL um, dyT dk dw dn, ckT sc ck] = _; rw [h0, h1, hD, h5, h6, h7]
  rw [EW] at HR HLN ⊢
  have H0 := Lib.hid h0
  have C1 : Hid (∀ W, LaidQ W → Calls Tryz.prog 80 #[evV ⟨of, rl, sv, fm, true, uy, um, dk, dw, dn, sc, ck⟩] W fun e w' => e = .returned (.string ⟨T1.toArray⟩) ∧ Below W.heap.size W w') := Lib.hid fun W h => rut_is ⟨of, rl, sv, fm, true, uy, um, dk, dw, dn, sc, ck⟩ T1 W h.l.pow (Lib.hid h1)
  have HD := Lib.hid hD
  have H5 : Hid (mnameL um = T5 ∧ mnameE um = e5) := Lib.hid ⟨h5, h5'⟩
  have H6 := Lib.hid h6
  have H7 := Lib.hid h7
  have HU := Lib.hid hu
  have HA := Lib.hid H
  clear h0 h1 H EW hD h5 h5' h6 h7 hu
  simp only [evV] at C1 ⊢
  go_enter Tryz.func30, Tryz.ntmps30
  go_wp2_with (go_at_call 71
               refine (ctx_is of T0 _ (HA.out.next ((Below.refl _ _).alloc (Nat.le_refl _) _)).l.pow H0).mono ?_
               rintro e w1 ⟨⟨x1, rfl⟩, k1⟩
               have X := Lib.hid ((BlkN.make (Below.refl _ _) _ _).next k1)
               obtain ⟨xa0, xa1, xa2, xa3, xa4, xa5, xa6, xa7, xa8, xa9, xa10, xa11⟩ := cells12 X.out.blk
               have xaq := X.out.lt
               clear k1
               simp only [])
  have SD : w1.drew.cell? ⟨w.heap.size, 0, none⟩ = some (.int .i64 of) ∧ w1.drew.cell? ⟨w.heap.size, 1, none⟩ = some (.string ⟨rl.toArray⟩) ∧ w1.drew.cell? ⟨w.heap.size, 2, none⟩ = some (.int .i64 sv) ∧ w1.drew.cell? ⟨w.heap.size, 3, none⟩ = some (.string ⟨fm.toArray⟩) ∧ w1.drew.cell? ⟨w.heap.size, 4, none⟩ = some (.bool true) ∧ w1.drew.cell? ⟨w.heap.size, 5, none⟩ = some (.int .i64 uy) ∧ w1.drew.cell? ⟨w.heap.size, 6, none⟩ = some (.int .i64 um) ∧ w1.drew.cell? ⟨w.heap.size, 7, none⟩ = some (.int .i64 dk) ∧ w1.drew.cell? ⟨w.heap.size, 8, none⟩ = some (.int .i64 dw) ∧ w1.drew.cell? ⟨w.heap.size, 9, none⟩ = some (.int .i64 dn) ∧ w1.drew.cell? ⟨w.heap.size, 10, none⟩ = some (.int .i64 sc) ∧ w1.drew.cell? ⟨w.heap.size, 11, none⟩ = some (.int .i64 ck) := cells12 X.out.drew.blk
  go_region_held3 (fun w' => w'.cell? ⟨w.heap.size, 0, none⟩ = some (.int .i64 of) ∧ w'.cell? ⟨w.heap.size, 1, none⟩ = some (.string ⟨rl.toArray⟩) ∧ w'.cell? ⟨w.heap.size, 2, none⟩ = some (.int .i64 sv) ∧ w'.cell? ⟨w.heap.size, 3, none⟩ = some (.string ⟨fm.toArray⟩) ∧ w'.cell? ⟨w.heap.size, 4, none⟩ = some (.bool true) ∧ w'.cell? ⟨w.heap.size, 5, none⟩ = some (.int .i64 uy) ∧ w'.cell? ⟨w.heap.size, 6, none⟩ = some (.int .i64 um) ∧ w'.cell? ⟨w.heap.size, 7, none⟩ = some (.int .i64 dk) ∧ w'.cell? ⟨w.heap.size, 8, none⟩ = some (.int .i64 dw) ∧ w'.cell? ⟨w.heap.size, 9, none⟩ = some (.int .i64 dn) ∧ w'.cell? ⟨w.heap.size, 10, none⟩ = some (.int .i64 sc) ∧ w'.cell? ⟨w.heap.size, 11, none⟩ = some (.int .i64 ck)) (first | exact SD | exact cells12 X.out.blk | go_keep | exact cells12 (X.out.drew.next k2).blk) (first
    | (go_at_call 80; refine (C1.out _ (HA.out.next (bdrew X.out.bel))).mono ?_; rintro e w2 ⟨rfl, k2⟩; simp only []))
  have X2 := Lib.hid ((X.out.drew.next k2).more (.cells #[.string ⟨T0.toArray⟩, .string ⟨T1.toArray⟩, .string ⟨fm.toArray⟩] 9))
  have OW := Lib.hid (own_lit3 w2 T0 T1 fm w2.heap.size (Nat.le_refl _))
  have XQ : Hid (w.heap.size < w2.heap.size) := Lib.hid (X.out.drew.next k2).lt
  obtain ⟨xb0, xb1, xb2, xb3, xb4, xb5, xb6, xb7, xb8, xb9, xb10, xb11⟩ := cells12 (X.out.drew.next k2).blk
  have xbq := XQ.out
  clear SD xa0 xa1 xa2 xa3 xa4 xa5 xa6 xa7 xa8 xa9 xa10 xa11 xaq
  go_wp2_with (first
    | (go_at_call 68
       refine (mname_is um T5 e5 _ (HA.out.next X2.out.bel).l.ww H5).mono ?_
       rintro e w3 ⟨rfl, k3⟩
       have X3 := Lib.hid (X2.out.next k3)
       have OW3 := Lib.hid (own_next OW.out k3)
       have B3 : Hid (w2.heap.size ≤ w3.heap.size) := Lib.hid (Nat.le_trans (by simp) k3.size)
       clear k3 xb0 xb1 xb2 xb3 xb4 xb5 xb6 xb7 xb8 xb9 xb10 xb11 xbq X2 OW
       obtain ⟨xc0, xc1, xc2, xc3, xc4, xc5, xc6, xc7, xc8, xc9, xc10, xc11⟩ := cells12 X3.out.blk
       have xcq := X3.out.lt
       simp only [])
    | (go_at_call 69
       refine (dpr_is dk dw dn T6 _ (HA.out.next X3.out.bel).l.ff H6).mono ?_
       rintro e w4 ⟨⟨x4, rfl⟩, k4⟩
       have X4 := Lib.hid (X3.out.next k4)
       have OW4 := Lib.hid (own_next OW3.out k4)
       have B4 : Hid (w2.heap.size ≤ w4.heap.size) := Lib.hid (Nat.le_trans B3.out k4.size)
       clear k4 xc0 xc1 xc2 xc3 xc4 xc5 xc6 xc7 xc8 xc9 xc10 xc11 xcq X3 OW3 B3
       obtain ⟨xd0, xd1, xd2, xd3, xd4, xd5, xd6, xd7, xd8, xd9, xd10, xd11⟩ := cells12 X4.out.blk
       have xdq := X4.out.lt
       simp only [])
    | (go_at_call 70
       refine (cpr_is sc ck T7 _ (HA.out.next X4.out.bel).l.pow (HA.out.next X4.out.bel).mrk H7).mono ?_
       rintro e w5 ⟨⟨x5, rfl⟩, k5⟩
       have X5 := Lib.hid (X4.out.next k5)
       have OW5 := Lib.hid (own_next OW4.out k5)
       have B5 : Hid (w2.heap.size ≤ w5.heap.size) := Lib.hid (Nat.le_trans B4.out k5.size)
       clear k5 xd0 xd1 xd2 xd3 xd4 xd5 xd6 xd7 xd8 xd9 xd10 xd11 xdq X4 OW4 B4
       obtain ⟨xe0, xe1, xe2, xe3, xe4, xe5, xe6, xe7, xe8, xe9, xe10, xe11⟩ := cells12 X5.out.blk
       have xeq := X5.out.lt
       simp only [])
    | (go_at_call 72
       refine (witoa_is uy D _ HU.out.1 HU.out.2 (HA.out.next X5.out.bel).l.ww.pow HD).mono ?_
       rintro e w6 ⟨rfl, k6⟩
       have X6 := Lib.hid (X5.out.next k6)
       have OW6 := Lib.hid (own_next OW5.out k6)
       have B6 : Hid (w2.heap.size ≤ w6.heap.size) := Lib.hid (Nat.le_trans B5.out k6.size)
       clear k6 xe0 xe1 xe2 xe3 xe4 xe5 xe6 xe7 xe8 xe9 xe10 xe11 xeq X5 OW5 B5
       simp only [])
    | (at_builtin; refine wpList_sapp rfl (.tmp 50) (.tmp 58) rfl (base := w2.heap.size) (n := 3) (k := 4) (m := 7) (l := [T0, T1, fm]) (ys := [D, T5, T6, T7]) rfl rfl (OW6.out.alloc _) rfl ⟨w6.heap.size, 0, none⟩ rfl ?_ (by omega) (by have := B6.out; simp; omega) ?_
       · intro j p hp
         rw [show (⟨w6.heap.size, 0, none⟩ : Addr).add j = ⟨w6.heap.size, 0 + j, none⟩ from Go.WideShapes.add_plain _ _ _, Nat.zero_add]
         exact (ListAt.newE w6 [D, T5, T6, T7] _ _ _ rfl rfl).cell j p hp
       intro A7 c7 w7 own7 b7
       have X7 := Lib.hid ((X6.out.more _).nextB b7 XQ.out (by have := XQ.out; omega) (by have := B6.out; simp; omega))
       have OA := Lib.hid own7
       clear own7 b7 X6 OW6 B6
       simp only [])
    | (go_at_call 21
       refine (lera_is A7 7 c7 ([T0, T1, fm] ++ [D, T5, T6, T7]) _ (own_arg OA.out).1 HLN.out (own_arg OA.out).2.2 (HA.out.next X7.out.bel).l ⟨of, rl, sv, fm, true, uy, um, dk, dw, dn, sc, ck⟩ 0 HR).mono ?_
       rintro e w8 ⟨rfl, k8⟩
       have AR : Hid (7 ≤ c7 ∧ ArgW A7 ([T0, T1, fm] ++ [D, T5, T6, T7]) w8) := Lib.hid ⟨(own_arg OA.out).2.1, (own_arg OA.out).2.2.next k8⟩
       have X8 := Lib.hid (X7.out.next k8)
       clear k8 X7 OA
       obtain ⟨xf0, xf1, xf2, xf3, xf4, xf5, xf6, xf7, xf8, xf9, xf10, xf11⟩ := cells12 X8.out.blk
       have xfq := X8.out.lt
       simp only [evV]))
  go_ret2
  refine .inl ⟨rfl, _, _, rfl, AR.out.1, AR.out.2.next ((Below.refl _ _).alloc (Nat.le_refl _) _), (X8.out.more _).bel⟩
set_option maxRecDepth 20000 in
set_option maxHeartbeats 3200000 in
theorem ew_tb (of sv uy um dk dw dn sc ck : Int) (rl fm : List UInt8) (w : World) (H : LaidQ w) (hu : in64' uy) (HLN : Hid (∀ p ∈ ewL ⟨of, rl, sv, fm, true, uy, um, dk, dw, dn, sc, ck⟩, p.length ≤ 500)) (r' : EV) (v : Int) (hv : (v != 0) = true) (HR : Hid (erS (ewL ⟨of, rl, sv, fm, true, uy, um, dk, dw, dn, sc, ck⟩) = r' ∧ erX (ewL ⟨of, rl, sv, fm, true, uy, um, dk, dw, dn, sc, ck⟩) = v)) :
    Calls Tryz.prog 30 #[evV ⟨of, rl, sv, fm, true, uy, um, dk, dw, dn, sc, ck⟩] w (WordsIs (ewL ⟨of, rl, sv, fm, true, uy, um, dk, dw, dn, sc, ck⟩) false w) := by
  obtain ⟨T0, h0⟩ : ∃ T, svT of = T := ⟨_, rfl⟩
  obtain ⟨T1, h1⟩ : ∃ T, ruT rl sv = T := ⟨_, rfl⟩
  obtain ⟨D, hD⟩ : ∃ D, Lib.itoa uy = D := ⟨_, rfl⟩
  obtain ⟨T5, h5⟩ : ∃ T, mnameL um = T := ⟨_, rfl⟩
  obtain ⟨e5, h5'⟩ : ∃ T, mnameE um = T := ⟨_, rfl⟩
  obtain ⟨T6, h6⟩ : ∃ T, dyT dk dw dn = T := ⟨_, rfl⟩
  obtain ⟨T7, h7⟩ : ∃ T, ckT sc ck = T := ⟨_, rfl⟩
  have EW : ewL ⟨of, rl, sv, fm, true, uy, um, dk, dw, dn, sc, ck⟩ = [T0, T1, fm] ++ [D, T5, T6, T7] := by show [svT of, ruT rl sv, fm] ++ [Lib.itoa uy, mnameL um, dyT dk dw dn, ckT sc ck] = _; rw [h0, h1, hD, h5, h6, h7]
  rw [EW] at HR HLN ⊢
  have H0 := Lib.hid h0
  have C1 : Hid (∀ W, LaidQ W → Calls Tryz.prog 80 #[evV ⟨of, rl, sv, fm, true, uy, um, dk, dw, dn, sc, ck⟩] W fun e w' => e = .returned (.string ⟨T1.toArray⟩) ∧ Below W.heap.size W w') := Lib.hid fun W h => rut_is ⟨of, rl, sv, fm, true, uy, um, dk, dw, dn, sc, ck⟩ T1 W h.l.pow (Lib.hid h1)
  have HD := Lib.hid hD
  have H5 : Hid (mnameL um = T5 ∧ mnameE um = e5) := Lib.hid ⟨h5, h5'⟩
  have H6 := Lib.hid h6
  have H7 := Lib.hid h7
  have HU := Lib.hid hu
  have HA := Lib.hid H
  clear h0 h1 H EW hD h5 h5' h6 h7 hu
  simp only [evV] at C1 ⊢
  go_enter Tryz.func30, Tryz.ntmps30
  go_wp2_with (go_at_call 71
               refine (ctx_is of T0 _ (HA.out.next ((Below.refl _ _).alloc (Nat.le_refl _) _)).l.pow H0).mono ?_
               rintro e w1 ⟨⟨x1, rfl⟩, k1⟩
               have X := Lib.hid ((BlkN.make (Below.refl _ _) _ _).next k1)
               obtain ⟨xa0, xa1, xa2, xa3, xa4, xa5, xa6, xa7, xa8, xa9, xa10, xa11⟩ := cells12 X.out.blk
               have xaq := X.out.lt
               clear k1
               simp only [])
  have SD : w1.drew.cell? ⟨w.heap.size, 0, none⟩ = some (.int .i64 of) ∧ w1.drew.cell? ⟨w.heap.size, 1, none⟩ = some (.string ⟨rl.toArray⟩) ∧ w1.drew.cell? ⟨w.heap.size, 2, none⟩ = some (.int .i64 sv) ∧ w1.drew.cell? ⟨w.heap.size, 3, none⟩ = some (.string ⟨fm.toArray⟩) ∧ w1.drew.cell? ⟨w.heap.size, 4, none⟩ = some (.bool true) ∧ w1.drew.cell? ⟨w.heap.size, 5, none⟩ = some (.int .i64 uy) ∧ w1.drew.cell? ⟨w.heap.size, 6, none⟩ = some (.int .i64 um) ∧ w1.drew.cell? ⟨w.heap.size, 7, none⟩ = some (.int .i64 dk) ∧ w1.drew.cell? ⟨w.heap.size, 8, none⟩ = some (.int .i64 dw) ∧ w1.drew.cell? ⟨w.heap.size, 9, none⟩ = some (.int .i64 dn) ∧ w1.drew.cell? ⟨w.heap.size, 10, none⟩ = some (.int .i64 sc) ∧ w1.drew.cell? ⟨w.heap.size, 11, none⟩ = some (.int .i64 ck) := cells12 X.out.drew.blk
  go_region_held3 (fun w' => w'.cell? ⟨w.heap.size, 0, none⟩ = some (.int .i64 of) ∧ w'.cell? ⟨w.heap.size, 1, none⟩ = some (.string ⟨rl.toArray⟩) ∧ w'.cell? ⟨w.heap.size, 2, none⟩ = some (.int .i64 sv) ∧ w'.cell? ⟨w.heap.size, 3, none⟩ = some (.string ⟨fm.toArray⟩) ∧ w'.cell? ⟨w.heap.size, 4, none⟩ = some (.bool true) ∧ w'.cell? ⟨w.heap.size, 5, none⟩ = some (.int .i64 uy) ∧ w'.cell? ⟨w.heap.size, 6, none⟩ = some (.int .i64 um) ∧ w'.cell? ⟨w.heap.size, 7, none⟩ = some (.int .i64 dk) ∧ w'.cell? ⟨w.heap.size, 8, none⟩ = some (.int .i64 dw) ∧ w'.cell? ⟨w.heap.size, 9, none⟩ = some (.int .i64 dn) ∧ w'.cell? ⟨w.heap.size, 10, none⟩ = some (.int .i64 sc) ∧ w'.cell? ⟨w.heap.size, 11, none⟩ = some (.int .i64 ck)) (first | exact SD | exact cells12 X.out.blk | go_keep | exact cells12 (X.out.drew.next k2).blk) (first
    | (go_at_call 80; refine (C1.out _ (HA.out.next (bdrew X.out.bel))).mono ?_; rintro e w2 ⟨rfl, k2⟩; simp only []))
  have X2 := Lib.hid ((X.out.drew.next k2).more (.cells #[.string ⟨T0.toArray⟩, .string ⟨T1.toArray⟩, .string ⟨fm.toArray⟩] 9))
  have OW := Lib.hid (own_lit3 w2 T0 T1 fm w2.heap.size (Nat.le_refl _))
  have XQ : Hid (w.heap.size < w2.heap.size) := Lib.hid (X.out.drew.next k2).lt
  obtain ⟨xb0, xb1, xb2, xb3, xb4, xb5, xb6, xb7, xb8, xb9, xb10, xb11⟩ := cells12 (X.out.drew.next k2).blk
  have xbq := XQ.out
  clear SD xa0 xa1 xa2 xa3 xa4 xa5 xa6 xa7 xa8 xa9 xa10 xa11 xaq
  go_wp2_with (first
    | (go_at_call 68
       refine (mname_is um T5 e5 _ (HA.out.next X2.out.bel).l.ww H5).mono ?_
       rintro e w3 ⟨rfl, k3⟩
       have X3 := Lib.hid (X2.out.next k3)
       have OW3 := Lib.hid (own_next OW.out k3)
       have B3 : Hid (w2.heap.size ≤ w3.heap.size) := Lib.hid (Nat.le_trans (by simp) k3.size)
       clear k3 xb0 xb1 xb2 xb3 xb4 xb5 xb6 xb7 xb8 xb9 xb10 xb11 xbq X2 OW
       obtain ⟨xc0, xc1, xc2, xc3, xc4, xc5, xc6, xc7, xc8, xc9, xc10, xc11⟩ := cells12 X3.out.blk
       have xcq := X3.out.lt
       simp only [])
    | (go_at_call 69
       refine (dpr_is dk dw dn T6 _ (HA.out.next X3.out.bel).l.ff H6).mono ?_
       rintro e w4 ⟨⟨x4, rfl⟩, k4⟩
       have X4 := Lib.hid (X3.out.next k4)
       have OW4 := Lib.hid (own_next OW3.out k4)
       have B4 : Hid (w2.heap.size ≤ w4.heap.size) := Lib.hid (Nat.le_trans B3.out k4.size)
       clear k4 xc0 xc1 xc2 xc3 xc4 xc5 xc6 xc7 xc8 xc9 xc10 xc11 xcq X3 OW3 B3
       obtain ⟨xd0, xd1, xd2, xd3, xd4, xd5, xd6, xd7, xd8, xd9, xd10, xd11⟩ := cells12 X4.out.blk
       have xdq := X4.out.lt
       simp only [])
    | (go_at_call 70
       refine (cpr_is sc ck T7 _ (HA.out.next X4.out.bel).l.pow (HA.out.next X4.out.bel).mrk H7).mono ?_
       rintro e w5 ⟨⟨x5, rfl⟩, k5⟩
       have X5 := Lib.hid (X4.out.next k5)
       have OW5 := Lib.hid (own_next OW4.out k5)
       have B5 : Hid (w2.heap.size ≤ w5.heap.size) := Lib.hid (Nat.le_trans B4.out k5.size)
       clear k5 xd0 xd1 xd2 xd3 xd4 xd5 xd6 xd7 xd8 xd9 xd10 xd11 xdq X4 OW4 B4
       obtain ⟨xe0, xe1, xe2, xe3, xe4, xe5, xe6, xe7, xe8, xe9, xe10, xe11⟩ := cells12 X5.out.blk
       have xeq := X5.out.lt
       simp only [])
    | (go_at_call 72
       refine (witoa_is uy D _ HU.out.1 HU.out.2 (HA.out.next X5.out.bel).l.ww.pow HD).mono ?_
       rintro e w6 ⟨rfl, k6⟩
       have X6 := Lib.hid (X5.out.next k6)
       have OW6 := Lib.hid (own_next OW5.out k6)
       have B6 : Hid (w2.heap.size ≤ w6.heap.size) := Lib.hid (Nat.le_trans B5.out k6.size)
       clear k6 xe0 xe1 xe2 xe3 xe4 xe5 xe6 xe7 xe8 xe9 xe10 xe11 xeq X5 OW5 B5
       simp only [])
    | (at_builtin; refine wpList_sapp rfl (.tmp 50) (.tmp 58) rfl (base := w2.heap.size) (n := 3) (k := 4) (m := 7) (l := [T0, T1, fm]) (ys := [D, T5, T6, T7]) rfl rfl (OW6.out.alloc _) rfl ⟨w6.heap.size, 0, none⟩ rfl ?_ (by omega) (by have := B6.out; simp; omega) ?_
       · intro j p hp
         rw [show (⟨w6.heap.size, 0, none⟩ : Addr).add j = ⟨w6.heap.size, 0 + j, none⟩ from Go.WideShapes.add_plain _ _ _, Nat.zero_add]
         exact (ListAt.newE w6 [D, T5, T6, T7] _ _ _ rfl rfl).cell j p hp
       intro A7 c7 w7 own7 b7
       have X7 := Lib.hid ((X6.out.more _).nextB b7 XQ.out (by have := XQ.out; omega) (by have := B6.out; simp; omega))
       have OA := Lib.hid own7
       clear own7 b7 X6 OW6 B6
       simp only [])
    | (go_at_call 21
       refine (lera_is A7 7 c7 ([T0, T1, fm] ++ [D, T5, T6, T7]) _ (own_arg OA.out).1 HLN.out (own_arg OA.out).2.2 (HA.out.next X7.out.bel).l r' v HR).mono ?_
       rintro e w8 ⟨rfl, k8⟩
       have AR : Hid (7 ≤ c7 ∧ ArgW A7 ([T0, T1, fm] ++ [D, T5, T6, T7]) w8) := Lib.hid ⟨(own_arg OA.out).2.1, (own_arg OA.out).2.2.next k8⟩
       have X8 := Lib.hid (X7.out.next k8)
       clear k8 X7 OA
       obtain ⟨xf0, xf1, xf2, xf3, xf4, xf5, xf6, xf7, xf8, xf9, xf10, xf11⟩ := cells12 X8.out.blk
       have xfq := X8.out.lt
       simp only [evV]))
  go_ret2
  exact .inr ⟨rfl, rfl, (X8.out.more _).bel⟩
set_option maxRecDepth 20000 in
set_option maxHeartbeats 3200000 in
theorem ew_tr (of sv uy um dk dw dn sc ck : Int) (rl fm : List UInt8) (w : World) (H : LaidQ w) (hu : in64' uy) (HLN : Hid (∀ p ∈ ewL ⟨of, rl, sv, fm, true, uy, um, dk, dw, dn, sc, ck⟩, p.length ≤ 500)) (sv' : Int) (hr : (([] : List UInt8) == rl) = false) (HR : Hid (erS (ewL ⟨of, rl, sv, fm, true, uy, um, dk, dw, dn, sc, ck⟩) = ⟨of, [], sv', fm, true, uy, um, dk, dw, dn, sc, ck⟩ ∧ erX (ewL ⟨of, rl, sv, fm, true, uy, um, dk, dw, dn, sc, ck⟩) = 0)) :
    Calls Tryz.prog 30 #[evV ⟨of, rl, sv, fm, true, uy, um, dk, dw, dn, sc, ck⟩] w (WordsIs (ewL ⟨of, rl, sv, fm, true, uy, um, dk, dw, dn, sc, ck⟩) false w) := by
  obtain ⟨T0, h0⟩ : ∃ T, svT of = T := ⟨_, rfl⟩
  obtain ⟨T1, h1⟩ : ∃ T, ruT rl sv = T := ⟨_, rfl⟩
  obtain ⟨D, hD⟩ : ∃ D, Lib.itoa uy = D := ⟨_, rfl⟩
  obtain ⟨T5, h5⟩ : ∃ T, mnameL um = T := ⟨_, rfl⟩
  obtain ⟨e5, h5'⟩ : ∃ T, mnameE um = T := ⟨_, rfl⟩
  obtain ⟨T6, h6⟩ : ∃ T, dyT dk dw dn = T := ⟨_, rfl⟩
  obtain ⟨T7, h7⟩ : ∃ T, ckT sc ck = T := ⟨_, rfl⟩
  have EW : ewL ⟨of, rl, sv, fm, true, uy, um, dk, dw, dn, sc, ck⟩ = [T0, T1, fm] ++ [D, T5, T6, T7] := by show [svT of, ruT rl sv, fm] ++ [Lib.itoa uy, mnameL um, dyT dk dw dn, ckT sc ck] = _; rw [h0, h1, hD, h5, h6, h7]
  rw [EW] at HR HLN ⊢
  have H0 := Lib.hid h0
  have C1 : Hid (∀ W, LaidQ W → Calls Tryz.prog 80 #[evV ⟨of, rl, sv, fm, true, uy, um, dk, dw, dn, sc, ck⟩] W fun e w' => e = .returned (.string ⟨T1.toArray⟩) ∧ Below W.heap.size W w') := Lib.hid fun W h => rut_is ⟨of, rl, sv, fm, true, uy, um, dk, dw, dn, sc, ck⟩ T1 W h.l.pow (Lib.hid h1)
  have HD := Lib.hid hD
  have H5 : Hid (mnameL um = T5 ∧ mnameE um = e5) := Lib.hid ⟨h5, h5'⟩
  have H6 := Lib.hid h6
  have H7 := Lib.hid h7
  have HU := Lib.hid hu
  have HA := Lib.hid H
  clear h0 h1 H EW hD h5 h5' h6 h7 hu
  simp only [evV] at C1 ⊢
  go_enter Tryz.func30, Tryz.ntmps30
  go_wp2_with (go_at_call 71
               refine (ctx_is of T0 _ (HA.out.next ((Below.refl _ _).alloc (Nat.le_refl _) _)).l.pow H0).mono ?_
               rintro e w1 ⟨⟨x1, rfl⟩, k1⟩
               have X := Lib.hid ((BlkN.make (Below.refl _ _) _ _).next k1)
               obtain ⟨xa0, xa1, xa2, xa3, xa4, xa5, xa6, xa7, xa8, xa9, xa10, xa11⟩ := cells12 X.out.blk
               have xaq := X.out.lt
               clear k1
               simp only [])
  have SD : w1.drew.cell? ⟨w.heap.size, 0, none⟩ = some (.int .i64 of) ∧ w1.drew.cell? ⟨w.heap.size, 1, none⟩ = some (.string ⟨rl.toArray⟩) ∧ w1.drew.cell? ⟨w.heap.size, 2, none⟩ = some (.int .i64 sv) ∧ w1.drew.cell? ⟨w.heap.size, 3, none⟩ = some (.string ⟨fm.toArray⟩) ∧ w1.drew.cell? ⟨w.heap.size, 4, none⟩ = some (.bool true) ∧ w1.drew.cell? ⟨w.heap.size, 5, none⟩ = some (.int .i64 uy) ∧ w1.drew.cell? ⟨w.heap.size, 6, none⟩ = some (.int .i64 um) ∧ w1.drew.cell? ⟨w.heap.size, 7, none⟩ = some (.int .i64 dk) ∧ w1.drew.cell? ⟨w.heap.size, 8, none⟩ = some (.int .i64 dw) ∧ w1.drew.cell? ⟨w.heap.size, 9, none⟩ = some (.int .i64 dn) ∧ w1.drew.cell? ⟨w.heap.size, 10, none⟩ = some (.int .i64 sc) ∧ w1.drew.cell? ⟨w.heap.size, 11, none⟩ = some (.int .i64 ck) := cells12 X.out.drew.blk
  go_region_held3 (fun w' => w'.cell? ⟨w.heap.size, 0, none⟩ = some (.int .i64 of) ∧ w'.cell? ⟨w.heap.size, 1, none⟩ = some (.string ⟨rl.toArray⟩) ∧ w'.cell? ⟨w.heap.size, 2, none⟩ = some (.int .i64 sv) ∧ w'.cell? ⟨w.heap.size, 3, none⟩ = some (.string ⟨fm.toArray⟩) ∧ w'.cell? ⟨w.heap.size, 4, none⟩ = some (.bool true) ∧ w'.cell? ⟨w.heap.size, 5, none⟩ = some (.int .i64 uy) ∧ w'.cell? ⟨w.heap.size, 6, none⟩ = some (.int .i64 um) ∧ w'.cell? ⟨w.heap.size, 7, none⟩ = some (.int .i64 dk) ∧ w'.cell? ⟨w.heap.size, 8, none⟩ = some (.int .i64 dw) ∧ w'.cell? ⟨w.heap.size, 9, none⟩ = some (.int .i64 dn) ∧ w'.cell? ⟨w.heap.size, 10, none⟩ = some (.int .i64 sc) ∧ w'.cell? ⟨w.heap.size, 11, none⟩ = some (.int .i64 ck)) (first | exact SD | exact cells12 X.out.blk | go_keep | exact cells12 (X.out.drew.next k2).blk) (first
    | (go_at_call 80; refine (C1.out _ (HA.out.next (bdrew X.out.bel))).mono ?_; rintro e w2 ⟨rfl, k2⟩; simp only []))
  have X2 := Lib.hid ((X.out.drew.next k2).more (.cells #[.string ⟨T0.toArray⟩, .string ⟨T1.toArray⟩, .string ⟨fm.toArray⟩] 9))
  have OW := Lib.hid (own_lit3 w2 T0 T1 fm w2.heap.size (Nat.le_refl _))
  have XQ : Hid (w.heap.size < w2.heap.size) := Lib.hid (X.out.drew.next k2).lt
  obtain ⟨xb0, xb1, xb2, xb3, xb4, xb5, xb6, xb7, xb8, xb9, xb10, xb11⟩ := cells12 (X.out.drew.next k2).blk
  have xbq := XQ.out
  clear SD xa0 xa1 xa2 xa3 xa4 xa5 xa6 xa7 xa8 xa9 xa10 xa11 xaq
  go_wp2_with (first
    | (go_at_call 68
       refine (mname_is um T5 e5 _ (HA.out.next X2.out.bel).l.ww H5).mono ?_
       rintro e w3 ⟨rfl, k3⟩
       have X3 := Lib.hid (X2.out.next k3)
       have OW3 := Lib.hid (own_next OW.out k3)
       have B3 : Hid (w2.heap.size ≤ w3.heap.size) := Lib.hid (Nat.le_trans (by simp) k3.size)
       clear k3 xb0 xb1 xb2 xb3 xb4 xb5 xb6 xb7 xb8 xb9 xb10 xb11 xbq X2 OW
       obtain ⟨xc0, xc1, xc2, xc3, xc4, xc5, xc6, xc7, xc8, xc9, xc10, xc11⟩ := cells12 X3.out.blk
       have xcq := X3.out.lt
       simp only [])
    | (go_at_call 69
       refine (dpr_is dk dw dn T6 _ (HA.out.next X3.out.bel).l.ff H6).mono ?_
       rintro e w4 ⟨⟨x4, rfl⟩, k4⟩
       have X4 := Lib.hid (X3.out.next k4)
       have OW4 := Lib.hid (own_next OW3.out k4)
       have B4 : Hid (w2.heap.size ≤ w4.heap.size) := Lib.hid (Nat.le_trans B3.out k4.size)
       clear k4 xc0 xc1 xc2 xc3 xc4 xc5 xc6 xc7 xc8 xc9 xc10 xc11 xcq X3 OW3 B3
       obtain ⟨xd0, xd1, xd2, xd3, xd4, xd5, xd6, xd7, xd8, xd9, xd10, xd11⟩ := cells12 X4.out.blk
       have xdq := X4.out.lt
       simp only [])
    | (go_at_call 70
       refine (cpr_is sc ck T7 _ (HA.out.next X4.out.bel).l.pow (HA.out.next X4.out.bel).mrk H7).mono ?_
       rintro e w5 ⟨⟨x5, rfl⟩, k5⟩
       have X5 := Lib.hid (X4.out.next k5)
       have OW5 := Lib.hid (own_next OW4.out k5)
       have B5 : Hid (w2.heap.size ≤ w5.heap.size) := Lib.hid (Nat.le_trans B4.out k5.size)
       clear k5 xd0 xd1 xd2 xd3 xd4 xd5 xd6 xd7 xd8 xd9 xd10 xd11 xdq X4 OW4 B4
       obtain ⟨xe0, xe1, xe2, xe3, xe4, xe5, xe6, xe7, xe8, xe9, xe10, xe11⟩ := cells12 X5.out.blk
       have xeq := X5.out.lt
       simp only [])
    | (go_at_call 72
       refine (witoa_is uy D _ HU.out.1 HU.out.2 (HA.out.next X5.out.bel).l.ww.pow HD).mono ?_
       rintro e w6 ⟨rfl, k6⟩
       have X6 := Lib.hid (X5.out.next k6)
       have OW6 := Lib.hid (own_next OW5.out k6)
       have B6 : Hid (w2.heap.size ≤ w6.heap.size) := Lib.hid (Nat.le_trans B5.out k6.size)
       clear k6 xe0 xe1 xe2 xe3 xe4 xe5 xe6 xe7 xe8 xe9 xe10 xe11 xeq X5 OW5 B5
       simp only [])
    | (at_builtin; refine wpList_sapp rfl (.tmp 50) (.tmp 58) rfl (base := w2.heap.size) (n := 3) (k := 4) (m := 7) (l := [T0, T1, fm]) (ys := [D, T5, T6, T7]) rfl rfl (OW6.out.alloc _) rfl ⟨w6.heap.size, 0, none⟩ rfl ?_ (by omega) (by have := B6.out; simp; omega) ?_
       · intro j p hp
         rw [show (⟨w6.heap.size, 0, none⟩ : Addr).add j = ⟨w6.heap.size, 0 + j, none⟩ from Go.WideShapes.add_plain _ _ _, Nat.zero_add]
         exact (ListAt.newE w6 [D, T5, T6, T7] _ _ _ rfl rfl).cell j p hp
       intro A7 c7 w7 own7 b7
       have X7 := Lib.hid ((X6.out.more _).nextB b7 XQ.out (by have := XQ.out; omega) (by have := B6.out; simp; omega))
       have OA := Lib.hid own7
       clear own7 b7 X6 OW6 B6
       simp only [])
    | (go_at_call 21
       refine (lera_is A7 7 c7 ([T0, T1, fm] ++ [D, T5, T6, T7]) _ (own_arg OA.out).1 HLN.out (own_arg OA.out).2.2 (HA.out.next X7.out.bel).l ⟨of, [], sv', fm, true, uy, um, dk, dw, dn, sc, ck⟩ 0 HR).mono ?_
       rintro e w8 ⟨rfl, k8⟩
       have AR : Hid (7 ≤ c7 ∧ ArgW A7 ([T0, T1, fm] ++ [D, T5, T6, T7]) w8) := Lib.hid ⟨(own_arg OA.out).2.1, (own_arg OA.out).2.2.next k8⟩
       have X8 := Lib.hid (X7.out.next k8)
       clear k8 X7 OA
       obtain ⟨xf0, xf1, xf2, xf3, xf4, xf5, xf6, xf7, xf8, xf9, xf10, xf11⟩ := cells12 X8.out.blk
       have xfq := X8.out.lt
       simp only [evV]))
  go_ret2
  exact .inr ⟨rfl, rfl, (X8.out.more _).bel⟩
set_option maxRecDepth 20000 in
set_option maxHeartbeats 3200000 in
theorem ew_fy (of sv : Int) (rl fm : List UInt8) (w : World) (H : LaidQ w) (HLN : Hid (∀ p ∈ ewL ⟨of, rl, sv, fm, false, 0, 0, 0, 0, 0, 0, 0⟩, p.length ≤ 500)) (HR : Hid (erS (ewL ⟨of, rl, sv, fm, false, 0, 0, 0, 0, 0, 0, 0⟩) = ⟨of, rl, sv, fm, false, 0, 0, 0, 0, 0, 0, 0⟩ ∧ erX (ewL ⟨of, rl, sv, fm, false, 0, 0, 0, 0, 0, 0, 0⟩) = 0)) :
    Calls Tryz.prog 30 #[evV ⟨of, rl, sv, fm, false, 0, 0, 0, 0, 0, 0, 0⟩] w (WordsIs (ewL ⟨of, rl, sv, fm, false, 0, 0, 0, 0, 0, 0, 0⟩) true w) := by
  obtain ⟨T0, h0⟩ : ∃ T, svT of = T := ⟨_, rfl⟩
  obtain ⟨T1, h1⟩ : ∃ T, ruT rl sv = T := ⟨_, rfl⟩
  have EW : ewL ⟨of, rl, sv, fm, false, 0, 0, 0, 0, 0, 0, 0⟩ = [T0, T1, fm] := by show [svT of, ruT rl sv, fm] = _; rw [h0, h1]
  rw [EW] at HR HLN ⊢
  have H0 := Lib.hid h0
  have C1 : Hid (∀ W, LaidQ W → Calls Tryz.prog 80 #[evV ⟨of, rl, sv, fm, false, 0, 0, 0, 0, 0, 0, 0⟩] W fun e w' => e = .returned (.string ⟨T1.toArray⟩) ∧ Below W.heap.size W w') := Lib.hid fun W h => rut_is ⟨of, rl, sv, fm, false, 0, 0, 0, 0, 0, 0, 0⟩ T1 W h.l.pow (Lib.hid h1)
  have HA := Lib.hid H
  clear h0 h1 H EW
  simp only [evV] at C1 ⊢
  go_enter Tryz.func30, Tryz.ntmps30
  go_wp2_with (go_at_call 71
               refine (ctx_is of T0 _ (HA.out.next ((Below.refl _ _).alloc (Nat.le_refl _) _)).l.pow H0).mono ?_
               rintro e w1 ⟨⟨x1, rfl⟩, k1⟩
               have X := Lib.hid ((BlkN.make (Below.refl _ _) _ _).next k1)
               obtain ⟨xa0, xa1, xa2, xa3, xa4, xa5, xa6, xa7, xa8, xa9, xa10, xa11⟩ := cells12 X.out.blk
               have xaq := X.out.lt
               clear k1
               simp only [])
  have SD : w1.drew.cell? ⟨w.heap.size, 0, none⟩ = some (.int .i64 of) ∧ w1.drew.cell? ⟨w.heap.size, 1, none⟩ = some (.string ⟨rl.toArray⟩) ∧ w1.drew.cell? ⟨w.heap.size, 2, none⟩ = some (.int .i64 sv) ∧ w1.drew.cell? ⟨w.heap.size, 3, none⟩ = some (.string ⟨fm.toArray⟩) ∧ w1.drew.cell? ⟨w.heap.size, 4, none⟩ = some (.bool false) ∧ w1.drew.cell? ⟨w.heap.size, 5, none⟩ = some (.int .i64 0) ∧ w1.drew.cell? ⟨w.heap.size, 6, none⟩ = some (.int .i64 0) ∧ w1.drew.cell? ⟨w.heap.size, 7, none⟩ = some (.int .i64 0) ∧ w1.drew.cell? ⟨w.heap.size, 8, none⟩ = some (.int .i64 0) ∧ w1.drew.cell? ⟨w.heap.size, 9, none⟩ = some (.int .i64 0) ∧ w1.drew.cell? ⟨w.heap.size, 10, none⟩ = some (.int .i64 0) ∧ w1.drew.cell? ⟨w.heap.size, 11, none⟩ = some (.int .i64 0) := cells12 X.out.drew.blk
  go_region_held3 (fun w' => w'.cell? ⟨w.heap.size, 0, none⟩ = some (.int .i64 of) ∧ w'.cell? ⟨w.heap.size, 1, none⟩ = some (.string ⟨rl.toArray⟩) ∧ w'.cell? ⟨w.heap.size, 2, none⟩ = some (.int .i64 sv) ∧ w'.cell? ⟨w.heap.size, 3, none⟩ = some (.string ⟨fm.toArray⟩) ∧ w'.cell? ⟨w.heap.size, 4, none⟩ = some (.bool false) ∧ w'.cell? ⟨w.heap.size, 5, none⟩ = some (.int .i64 0) ∧ w'.cell? ⟨w.heap.size, 6, none⟩ = some (.int .i64 0) ∧ w'.cell? ⟨w.heap.size, 7, none⟩ = some (.int .i64 0) ∧ w'.cell? ⟨w.heap.size, 8, none⟩ = some (.int .i64 0) ∧ w'.cell? ⟨w.heap.size, 9, none⟩ = some (.int .i64 0) ∧ w'.cell? ⟨w.heap.size, 10, none⟩ = some (.int .i64 0) ∧ w'.cell? ⟨w.heap.size, 11, none⟩ = some (.int .i64 0)) (first | exact SD | exact cells12 X.out.blk | go_keep | exact cells12 (X.out.drew.next k2).blk) (first
    | (go_at_call 80; refine (C1.out _ (HA.out.next (bdrew X.out.bel))).mono ?_; rintro e w2 ⟨rfl, k2⟩; simp only []))
  have X2 := Lib.hid ((X.out.drew.next k2).more (.cells #[.string ⟨T0.toArray⟩, .string ⟨T1.toArray⟩, .string ⟨fm.toArray⟩] 9))
  have OW := Lib.hid (own_lit3 w2 T0 T1 fm w2.heap.size (Nat.le_refl _))
  have XQ : Hid (w.heap.size < w2.heap.size) := Lib.hid (X.out.drew.next k2).lt
  obtain ⟨xb0, xb1, xb2, xb3, xb4, xb5, xb6, xb7, xb8, xb9, xb10, xb11⟩ := cells12 (X.out.drew.next k2).blk
  have xbq := XQ.out
  clear SD xa0 xa1 xa2 xa3 xa4 xa5 xa6 xa7 xa8 xa9 xa10 xa11 xaq
  go_wp2_with (go_at_call 21
               refine (lera_is _ 3 3 [T0, T1, fm] _ (own_arg OW.out).1 HLN.out (own_arg OW.out).2.2 (HA.out.next X2.out.bel).l ⟨of, rl, sv, fm, false, 0, 0, 0, 0, 0, 0, 0⟩ 0 HR).mono ?_
               rintro e w8 ⟨rfl, k8⟩
               have AR : Hid (3 ≤ 3 ∧ ArgW (some ⟨w2.heap.size, 0, none⟩) [T0, T1, fm] w8) := Lib.hid ⟨Nat.le_refl _, (own_arg OW.out).2.2.next k8⟩
               have X8 := Lib.hid (X2.out.next k8)
               clear k8 X2 OW xb0 xb1 xb2 xb3 xb4 xb5 xb6 xb7 xb8 xb9 xb10 xb11 xbq
               obtain ⟨xf0, xf1, xf2, xf3, xf4, xf5, xf6, xf7, xf8, xf9, xf10, xf11⟩ := cells12 X8.out.blk
               have xfq := X8.out.lt
               simp only [evV])
  go_ret2
  refine .inl ⟨rfl, _, _, rfl, AR.out.1, AR.out.2.next ((Below.refl _ _).alloc (Nat.le_refl _) _), (X8.out.more _).bel⟩
set_option maxRecDepth 20000 in
set_option maxHeartbeats 3200000 in
theorem ew_fb (of sv uy um dk dw dn sc ck : Int) (rl fm : List UInt8) (w : World) (H : LaidQ w) (HLN : Hid (∀ p ∈ ewL ⟨of, rl, sv, fm, false, uy, um, dk, dw, dn, sc, ck⟩, p.length ≤ 500)) (r' : EV) (v : Int) (hv : (v != 0) = true) (HR : Hid (erS (ewL ⟨of, rl, sv, fm, false, uy, um, dk, dw, dn, sc, ck⟩) = r' ∧ erX (ewL ⟨of, rl, sv, fm, false, uy, um, dk, dw, dn, sc, ck⟩) = v)) :
    Calls Tryz.prog 30 #[evV ⟨of, rl, sv, fm, false, uy, um, dk, dw, dn, sc, ck⟩] w (WordsIs (ewL ⟨of, rl, sv, fm, false, uy, um, dk, dw, dn, sc, ck⟩) false w) := by
  obtain ⟨T0, h0⟩ : ∃ T, svT of = T := ⟨_, rfl⟩
  obtain ⟨T1, h1⟩ : ∃ T, ruT rl sv = T := ⟨_, rfl⟩
  have EW : ewL ⟨of, rl, sv, fm, false, uy, um, dk, dw, dn, sc, ck⟩ = [T0, T1, fm] := by show [svT of, ruT rl sv, fm] = _; rw [h0, h1]
  rw [EW] at HR HLN ⊢
  have H0 := Lib.hid h0
  have C1 : Hid (∀ W, LaidQ W → Calls Tryz.prog 80 #[evV ⟨of, rl, sv, fm, false, uy, um, dk, dw, dn, sc, ck⟩] W fun e w' => e = .returned (.string ⟨T1.toArray⟩) ∧ Below W.heap.size W w') := Lib.hid fun W h => rut_is ⟨of, rl, sv, fm, false, uy, um, dk, dw, dn, sc, ck⟩ T1 W h.l.pow (Lib.hid h1)
  have HA := Lib.hid H
  clear h0 h1 H EW
  simp only [evV] at C1 ⊢
  go_enter Tryz.func30, Tryz.ntmps30
  go_wp2_with (go_at_call 71
               refine (ctx_is of T0 _ (HA.out.next ((Below.refl _ _).alloc (Nat.le_refl _) _)).l.pow H0).mono ?_
               rintro e w1 ⟨⟨x1, rfl⟩, k1⟩
               have X := Lib.hid ((BlkN.make (Below.refl _ _) _ _).next k1)
               obtain ⟨xa0, xa1, xa2, xa3, xa4, xa5, xa6, xa7, xa8, xa9, xa10, xa11⟩ := cells12 X.out.blk
               have xaq := X.out.lt
               clear k1
               simp only [])
  have SD : w1.drew.cell? ⟨w.heap.size, 0, none⟩ = some (.int .i64 of) ∧ w1.drew.cell? ⟨w.heap.size, 1, none⟩ = some (.string ⟨rl.toArray⟩) ∧ w1.drew.cell? ⟨w.heap.size, 2, none⟩ = some (.int .i64 sv) ∧ w1.drew.cell? ⟨w.heap.size, 3, none⟩ = some (.string ⟨fm.toArray⟩) ∧ w1.drew.cell? ⟨w.heap.size, 4, none⟩ = some (.bool false) ∧ w1.drew.cell? ⟨w.heap.size, 5, none⟩ = some (.int .i64 uy) ∧ w1.drew.cell? ⟨w.heap.size, 6, none⟩ = some (.int .i64 um) ∧ w1.drew.cell? ⟨w.heap.size, 7, none⟩ = some (.int .i64 dk) ∧ w1.drew.cell? ⟨w.heap.size, 8, none⟩ = some (.int .i64 dw) ∧ w1.drew.cell? ⟨w.heap.size, 9, none⟩ = some (.int .i64 dn) ∧ w1.drew.cell? ⟨w.heap.size, 10, none⟩ = some (.int .i64 sc) ∧ w1.drew.cell? ⟨w.heap.size, 11, none⟩ = some (.int .i64 ck) := cells12 X.out.drew.blk
  go_region_held3 (fun w' => w'.cell? ⟨w.heap.size, 0, none⟩ = some (.int .i64 of) ∧ w'.cell? ⟨w.heap.size, 1, none⟩ = some (.string ⟨rl.toArray⟩) ∧ w'.cell? ⟨w.heap.size, 2, none⟩ = some (.int .i64 sv) ∧ w'.cell? ⟨w.heap.size, 3, none⟩ = some (.string ⟨fm.toArray⟩) ∧ w'.cell? ⟨w.heap.size, 4, none⟩ = some (.bool false) ∧ w'.cell? ⟨w.heap.size, 5, none⟩ = some (.int .i64 uy) ∧ w'.cell? ⟨w.heap.size, 6, none⟩ = some (.int .i64 um) ∧ w'.cell? ⟨w.heap.size, 7, none⟩ = some (.int .i64 dk) ∧ w'.cell? ⟨w.heap.size, 8, none⟩ = some (.int .i64 dw) ∧ w'.cell? ⟨w.heap.size, 9, none⟩ = some (.int .i64 dn) ∧ w'.cell? ⟨w.heap.size, 10, none⟩ = some (.int .i64 sc) ∧ w'.cell? ⟨w.heap.size, 11, none⟩ = some (.int .i64 ck)) (first | exact SD | exact cells12 X.out.blk | go_keep | exact cells12 (X.out.drew.next k2).blk) (first
    | (go_at_call 80; refine (C1.out _ (HA.out.next (bdrew X.out.bel))).mono ?_; rintro e w2 ⟨rfl, k2⟩; simp only []))
  have X2 := Lib.hid ((X.out.drew.next k2).more (.cells #[.string ⟨T0.toArray⟩, .string ⟨T1.toArray⟩, .string ⟨fm.toArray⟩] 9))
  have OW := Lib.hid (own_lit3 w2 T0 T1 fm w2.heap.size (Nat.le_refl _))
  have XQ : Hid (w.heap.size < w2.heap.size) := Lib.hid (X.out.drew.next k2).lt
  obtain ⟨xb0, xb1, xb2, xb3, xb4, xb5, xb6, xb7, xb8, xb9, xb10, xb11⟩ := cells12 (X.out.drew.next k2).blk
  have xbq := XQ.out
  clear SD xa0 xa1 xa2 xa3 xa4 xa5 xa6 xa7 xa8 xa9 xa10 xa11 xaq
  go_wp2_with (go_at_call 21
               refine (lera_is _ 3 3 [T0, T1, fm] _ (own_arg OW.out).1 HLN.out (own_arg OW.out).2.2 (HA.out.next X2.out.bel).l r' v HR).mono ?_
               rintro e w8 ⟨rfl, k8⟩
               have AR : Hid (3 ≤ 3 ∧ ArgW (some ⟨w2.heap.size, 0, none⟩) [T0, T1, fm] w8) := Lib.hid ⟨Nat.le_refl _, (own_arg OW.out).2.2.next k8⟩
               have X8 := Lib.hid (X2.out.next k8)
               clear k8 X2 OW xb0 xb1 xb2 xb3 xb4 xb5 xb6 xb7 xb8 xb9 xb10 xb11 xbq
               obtain ⟨xf0, xf1, xf2, xf3, xf4, xf5, xf6, xf7, xf8, xf9, xf10, xf11⟩ := cells12 X8.out.blk
               have xfq := X8.out.lt
               simp only [evV])
  go_ret2
  exact .inr ⟨rfl, rfl, (X8.out.more _).bel⟩
set_option maxRecDepth 20000 in
set_option maxHeartbeats 3200000 in
theorem ew_fr (of sv uy um dk dw dn sc ck : Int) (rl fm : List UInt8) (w : World) (H : LaidQ w) (HLN : Hid (∀ p ∈ ewL ⟨of, rl, sv, fm, false, uy, um, dk, dw, dn, sc, ck⟩, p.length ≤ 500)) (sv' : Int) (hr : (([] : List UInt8) == rl) = false) (HR : Hid (erS (ewL ⟨of, rl, sv, fm, false, uy, um, dk, dw, dn, sc, ck⟩) = ⟨of, [], sv', fm, false, 0, 0, 0, 0, 0, 0, 0⟩ ∧ erX (ewL ⟨of, rl, sv, fm, false, uy, um, dk, dw, dn, sc, ck⟩) = 0)) :
    Calls Tryz.prog 30 #[evV ⟨of, rl, sv, fm, false, uy, um, dk, dw, dn, sc, ck⟩] w (WordsIs (ewL ⟨of, rl, sv, fm, false, uy, um, dk, dw, dn, sc, ck⟩) false w) := by
  obtain ⟨T0, h0⟩ : ∃ T, svT of = T := ⟨_, rfl⟩
  obtain ⟨T1, h1⟩ : ∃ T, ruT rl sv = T := ⟨_, rfl⟩
  have EW : ewL ⟨of, rl, sv, fm, false, uy, um, dk, dw, dn, sc, ck⟩ = [T0, T1, fm] := by show [svT of, ruT rl sv, fm] = _; rw [h0, h1]
  rw [EW] at HR HLN ⊢
  have H0 := Lib.hid h0
  have C1 : Hid (∀ W, LaidQ W → Calls Tryz.prog 80 #[evV ⟨of, rl, sv, fm, false, uy, um, dk, dw, dn, sc, ck⟩] W fun e w' => e = .returned (.string ⟨T1.toArray⟩) ∧ Below W.heap.size W w') := Lib.hid fun W h => rut_is ⟨of, rl, sv, fm, false, uy, um, dk, dw, dn, sc, ck⟩ T1 W h.l.pow (Lib.hid h1)
  have HA := Lib.hid H
  clear h0 h1 H EW
  simp only [evV] at C1 ⊢
  go_enter Tryz.func30, Tryz.ntmps30
  go_wp2_with (go_at_call 71
               refine (ctx_is of T0 _ (HA.out.next ((Below.refl _ _).alloc (Nat.le_refl _) _)).l.pow H0).mono ?_
               rintro e w1 ⟨⟨x1, rfl⟩, k1⟩
               have X := Lib.hid ((BlkN.make (Below.refl _ _) _ _).next k1)
               obtain ⟨xa0, xa1, xa2, xa3, xa4, xa5, xa6, xa7, xa8, xa9, xa10, xa11⟩ := cells12 X.out.blk
               have xaq := X.out.lt
               clear k1
               simp only [])
  have SD : w1.drew.cell? ⟨w.heap.size, 0, none⟩ = some (.int .i64 of) ∧ w1.drew.cell? ⟨w.heap.size, 1, none⟩ = some (.string ⟨rl.toArray⟩) ∧ w1.drew.cell? ⟨w.heap.size, 2, none⟩ = some (.int .i64 sv) ∧ w1.drew.cell? ⟨w.heap.size, 3, none⟩ = some (.string ⟨fm.toArray⟩) ∧ w1.drew.cell? ⟨w.heap.size, 4, none⟩ = some (.bool false) ∧ w1.drew.cell? ⟨w.heap.size, 5, none⟩ = some (.int .i64 uy) ∧ w1.drew.cell? ⟨w.heap.size, 6, none⟩ = some (.int .i64 um) ∧ w1.drew.cell? ⟨w.heap.size, 7, none⟩ = some (.int .i64 dk) ∧ w1.drew.cell? ⟨w.heap.size, 8, none⟩ = some (.int .i64 dw) ∧ w1.drew.cell? ⟨w.heap.size, 9, none⟩ = some (.int .i64 dn) ∧ w1.drew.cell? ⟨w.heap.size, 10, none⟩ = some (.int .i64 sc) ∧ w1.drew.cell? ⟨w.heap.size, 11, none⟩ = some (.int .i64 ck) := cells12 X.out.drew.blk
  go_region_held3 (fun w' => w'.cell? ⟨w.heap.size, 0, none⟩ = some (.int .i64 of) ∧ w'.cell? ⟨w.heap.size, 1, none⟩ = some (.string ⟨rl.toArray⟩) ∧ w'.cell? ⟨w.heap.size, 2, none⟩ = some (.int .i64 sv) ∧ w'.cell? ⟨w.heap.size, 3, none⟩ = some (.string ⟨fm.toArray⟩) ∧ w'.cell? ⟨w.heap.size, 4, none⟩ = some (.bool false) ∧ w'.cell? ⟨w.heap.size, 5, none⟩ = some (.int .i64 uy) ∧ w'.cell? ⟨w.heap.size, 6, none⟩ = some (.int .i64 um) ∧ w'.cell? ⟨w.heap.size, 7, none⟩ = some (.int .i64 dk) ∧ w'.cell? ⟨w.heap.size, 8, none⟩ = some (.int .i64 dw) ∧ w'.cell? ⟨w.heap.size, 9, none⟩ = some (.int .i64 dn) ∧ w'.cell? ⟨w.heap.size, 10, none⟩ = some (.int .i64 sc) ∧ w'.cell? ⟨w.heap.size, 11, none⟩ = some (.int .i64 ck)) (first | exact SD | exact cells12 X.out.blk | go_keep | exact cells12 (X.out.drew.next k2).blk) (first
    | (go_at_call 80; refine (C1.out _ (HA.out.next (bdrew X.out.bel))).mono ?_; rintro e w2 ⟨rfl, k2⟩; simp only []))
  have X2 := Lib.hid ((X.out.drew.next k2).more (.cells #[.string ⟨T0.toArray⟩, .string ⟨T1.toArray⟩, .string ⟨fm.toArray⟩] 9))
  have OW := Lib.hid (own_lit3 w2 T0 T1 fm w2.heap.size (Nat.le_refl _))
  have XQ : Hid (w.heap.size < w2.heap.size) := Lib.hid (X.out.drew.next k2).lt
  obtain ⟨xb0, xb1, xb2, xb3, xb4, xb5, xb6, xb7, xb8, xb9, xb10, xb11⟩ := cells12 (X.out.drew.next k2).blk
  have xbq := XQ.out
  clear SD xa0 xa1 xa2 xa3 xa4 xa5 xa6 xa7 xa8 xa9 xa10 xa11 xaq
  go_wp2_with (go_at_call 21
               refine (lera_is _ 3 3 [T0, T1, fm] _ (own_arg OW.out).1 HLN.out (own_arg OW.out).2.2 (HA.out.next X2.out.bel).l ⟨of, [], sv', fm, false, 0, 0, 0, 0, 0, 0, 0⟩ 0 HR).mono ?_
               rintro e w8 ⟨rfl, k8⟩
               have AR : Hid (3 ≤ 3 ∧ ArgW (some ⟨w2.heap.size, 0, none⟩) [T0, T1, fm] w8) := Lib.hid ⟨Nat.le_refl _, (own_arg OW.out).2.2.next k8⟩
               have X8 := Lib.hid (X2.out.next k8)
               clear k8 X2 OW xb0 xb1 xb2 xb3 xb4 xb5 xb6 xb7 xb8 xb9 xb10 xb11 xbq
               obtain ⟨xf0, xf1, xf2, xf3, xf4, xf5, xf6, xf7, xf8, xf9, xf10, xf11⟩ := cells12 X8.out.blk
               have xfq := X8.out.lt
               simp only [evV])
  go_ret2
  exact .inr ⟨rfl, rfl, (X8.out.more _).bel⟩
set_option maxRecDepth 20000 in
set_option maxHeartbeats 3200000 in
theorem ew_f5 (of sv uy um dk dw dn sc ck : Int) (rl fm : List UInt8) (w : World) (H : LaidQ w) (HLN : Hid (∀ p ∈ ewL ⟨of, rl, sv, fm, false, uy, um, dk, dw, dn, sc, ck⟩, p.length ≤ 500)) (hd : ((0 : Int) == uy) = false) (HR : Hid (erS (ewL ⟨of, rl, sv, fm, false, uy, um, dk, dw, dn, sc, ck⟩) = ⟨of, rl, sv, fm, false, 0, 0, 0, 0, 0, 0, 0⟩ ∧ erX (ewL ⟨of, rl, sv, fm, false, uy, um, dk, dw, dn, sc, ck⟩) = 0)) :
    Calls Tryz.prog 30 #[evV ⟨of, rl, sv, fm, false, uy, um, dk, dw, dn, sc, ck⟩] w (WordsIs (ewL ⟨of, rl, sv, fm, false, uy, um, dk, dw, dn, sc, ck⟩) false w) := by
  obtain ⟨T0, h0⟩ : ∃ T, svT of = T := ⟨_, rfl⟩
  obtain ⟨T1, h1⟩ : ∃ T, ruT rl sv = T := ⟨_, rfl⟩
  have EW : ewL ⟨of, rl, sv, fm, false, uy, um, dk, dw, dn, sc, ck⟩ = [T0, T1, fm] := by show [svT of, ruT rl sv, fm] = _; rw [h0, h1]
  rw [EW] at HR HLN ⊢
  have H0 := Lib.hid h0
  have C1 : Hid (∀ W, LaidQ W → Calls Tryz.prog 80 #[evV ⟨of, rl, sv, fm, false, uy, um, dk, dw, dn, sc, ck⟩] W fun e w' => e = .returned (.string ⟨T1.toArray⟩) ∧ Below W.heap.size W w') := Lib.hid fun W h => rut_is ⟨of, rl, sv, fm, false, uy, um, dk, dw, dn, sc, ck⟩ T1 W h.l.pow (Lib.hid h1)
  have HA := Lib.hid H
  clear h0 h1 H EW
  simp only [evV] at C1 ⊢
  go_enter Tryz.func30, Tryz.ntmps30
  go_wp2_with (go_at_call 71
               refine (ctx_is of T0 _ (HA.out.next ((Below.refl _ _).alloc (Nat.le_refl _) _)).l.pow H0).mono ?_
               rintro e w1 ⟨⟨x1, rfl⟩, k1⟩
               have X := Lib.hid ((BlkN.make (Below.refl _ _) _ _).next k1)
               obtain ⟨xa0, xa1, xa2, xa3, xa4, xa5, xa6, xa7, xa8, xa9, xa10, xa11⟩ := cells12 X.out.blk
               have xaq := X.out.lt
               clear k1
               simp only [])
  have SD : w1.drew.cell? ⟨w.heap.size, 0, none⟩ = some (.int .i64 of) ∧ w1.drew.cell? ⟨w.heap.size, 1, none⟩ = some (.string ⟨rl.toArray⟩) ∧ w1.drew.cell? ⟨w.heap.size, 2, none⟩ = some (.int .i64 sv) ∧ w1.drew.cell? ⟨w.heap.size, 3, none⟩ = some (.string ⟨fm.toArray⟩) ∧ w1.drew.cell? ⟨w.heap.size, 4, none⟩ = some (.bool false) ∧ w1.drew.cell? ⟨w.heap.size, 5, none⟩ = some (.int .i64 uy) ∧ w1.drew.cell? ⟨w.heap.size, 6, none⟩ = some (.int .i64 um) ∧ w1.drew.cell? ⟨w.heap.size, 7, none⟩ = some (.int .i64 dk) ∧ w1.drew.cell? ⟨w.heap.size, 8, none⟩ = some (.int .i64 dw) ∧ w1.drew.cell? ⟨w.heap.size, 9, none⟩ = some (.int .i64 dn) ∧ w1.drew.cell? ⟨w.heap.size, 10, none⟩ = some (.int .i64 sc) ∧ w1.drew.cell? ⟨w.heap.size, 11, none⟩ = some (.int .i64 ck) := cells12 X.out.drew.blk
  go_region_held3 (fun w' => w'.cell? ⟨w.heap.size, 0, none⟩ = some (.int .i64 of) ∧ w'.cell? ⟨w.heap.size, 1, none⟩ = some (.string ⟨rl.toArray⟩) ∧ w'.cell? ⟨w.heap.size, 2, none⟩ = some (.int .i64 sv) ∧ w'.cell? ⟨w.heap.size, 3, none⟩ = some (.string ⟨fm.toArray⟩) ∧ w'.cell? ⟨w.heap.size, 4, none⟩ = some (.bool false) ∧ w'.cell? ⟨w.heap.size, 5, none⟩ = some (.int .i64 uy) ∧ w'.cell? ⟨w.heap.size, 6, none⟩ = some (.int .i64 um) ∧ w'.cell? ⟨w.heap.size, 7, none⟩ = some (.int .i64 dk) ∧ w'.cell? ⟨w.heap.size, 8, none⟩ = some (.int .i64 dw) ∧ w'.cell? ⟨w.heap.size, 9, none⟩ = some (.int .i64 dn) ∧ w'.cell? ⟨w.heap.size, 10, none⟩ = some (.int .i64 sc) ∧ w'.cell? ⟨w.heap.size, 11, none⟩ = some (.int .i64 ck)) (first | exact SD | exact cells12 X.out.blk | go_keep | exact cells12 (X.out.drew.next k2).blk) (first
    | (go_at_call 80; refine (C1.out _ (HA.out.next (bdrew X.out.bel))).mono ?_; rintro e w2 ⟨rfl, k2⟩; simp only []))
  have X2 := Lib.hid ((X.out.drew.next k2).more (.cells #[.string ⟨T0.toArray⟩, .string ⟨T1.toArray⟩, .string ⟨fm.toArray⟩] 9))
  have OW := Lib.hid (own_lit3 w2 T0 T1 fm w2.heap.size (Nat.le_refl _))
  have XQ : Hid (w.heap.size < w2.heap.size) := Lib.hid (X.out.drew.next k2).lt
  obtain ⟨xb0, xb1, xb2, xb3, xb4, xb5, xb6, xb7, xb8, xb9, xb10, xb11⟩ := cells12 (X.out.drew.next k2).blk
  have xbq := XQ.out
  clear SD xa0 xa1 xa2 xa3 xa4 xa5 xa6 xa7 xa8 xa9 xa10 xa11 xaq
  go_wp2_with (go_at_call 21
               refine (lera_is _ 3 3 [T0, T1, fm] _ (own_arg OW.out).1 HLN.out (own_arg OW.out).2.2 (HA.out.next X2.out.bel).l ⟨of, rl, sv, fm, false, 0, 0, 0, 0, 0, 0, 0⟩ 0 HR).mono ?_
               rintro e w8 ⟨rfl, k8⟩
               have AR : Hid (3 ≤ 3 ∧ ArgW (some ⟨w2.heap.size, 0, none⟩) [T0, T1, fm] w8) := Lib.hid ⟨Nat.le_refl _, (own_arg OW.out).2.2.next k8⟩
               have X8 := Lib.hid (X2.out.next k8)
               clear k8 X2 OW xb0 xb1 xb2 xb3 xb4 xb5 xb6 xb7 xb8 xb9 xb10 xb11 xbq
               obtain ⟨xf0, xf1, xf2, xf3, xf4, xf5, xf6, xf7, xf8, xf9, xf10, xf11⟩ := cells12 X8.out.blk
               have xfq := X8.out.lt
               simp only [evV])
  go_ret2
  exact .inr ⟨rfl, rfl, (X8.out.more _).bel⟩
set_option maxRecDepth 20000 in
set_option maxHeartbeats 3200000 in
theorem ew_f6 (of sv um dk dw dn sc ck : Int) (rl fm : List UInt8) (w : World) (H : LaidQ w) (HLN : Hid (∀ p ∈ ewL ⟨of, rl, sv, fm, false, 0, um, dk, dw, dn, sc, ck⟩, p.length ≤ 500)) (hd : ((0 : Int) == um) = false) (HR : Hid (erS (ewL ⟨of, rl, sv, fm, false, 0, um, dk, dw, dn, sc, ck⟩) = ⟨of, rl, sv, fm, false, 0, 0, 0, 0, 0, 0, 0⟩ ∧ erX (ewL ⟨of, rl, sv, fm, false, 0, um, dk, dw, dn, sc, ck⟩) = 0)) :
    Calls Tryz.prog 30 #[evV ⟨of, rl, sv, fm, false, 0, um, dk, dw, dn, sc, ck⟩] w (WordsIs (ewL ⟨of, rl, sv, fm, false, 0, um, dk, dw, dn, sc, ck⟩) false w) := by
  obtain ⟨T0, h0⟩ : ∃ T, svT of = T := ⟨_, rfl⟩
  obtain ⟨T1, h1⟩ : ∃ T, ruT rl sv = T := ⟨_, rfl⟩
  have EW : ewL ⟨of, rl, sv, fm, false, 0, um, dk, dw, dn, sc, ck⟩ = [T0, T1, fm] := by show [svT of, ruT rl sv, fm] = _; rw [h0, h1]
  rw [EW] at HR HLN ⊢
  have H0 := Lib.hid h0
  have C1 : Hid (∀ W, LaidQ W → Calls Tryz.prog 80 #[evV ⟨of, rl, sv, fm, false, 0, um, dk, dw, dn, sc, ck⟩] W fun e w' => e = .returned (.string ⟨T1.toArray⟩) ∧ Below W.heap.size W w') := Lib.hid fun W h => rut_is ⟨of, rl, sv, fm, false, 0, um, dk, dw, dn, sc, ck⟩ T1 W h.l.pow (Lib.hid h1)
  have HA := Lib.hid H
  clear h0 h1 H EW
  simp only [evV] at C1 ⊢
  go_enter Tryz.func30, Tryz.ntmps30
  go_wp2_with (go_at_call 71
               refine (ctx_is of T0 _ (HA.out.next ((Below.refl _ _).alloc (Nat.le_refl _) _)).l.pow H0).mono ?_
               rintro e w1 ⟨⟨x1, rfl⟩, k1⟩
               have X := Lib.hid ((BlkN.make (Below.refl _ _) _ _).next k1)
               obtain ⟨xa0, xa1, xa2, xa3, xa4, xa5, xa6, xa7, xa8, xa9, xa10, xa11⟩ := cells12 X.out.blk
               have xaq := X.out.lt
               clear k1
               simp only [])
  have SD : w1.drew.cell? ⟨w.heap.size, 0, none⟩ = some (.int .i64 of) ∧ w1.drew.cell? ⟨w.heap.size, 1, none⟩ = some (.string ⟨rl.toArray⟩) ∧ w1.drew.cell? ⟨w.heap.size, 2, none⟩ = some (.int .i64 sv) ∧ w1.drew.cell? ⟨w.heap.size, 3, none⟩ = some (.string ⟨fm.toArray⟩) ∧ w1.drew.cell? ⟨w.heap.size, 4, none⟩ = some (.bool false) ∧ w1.drew.cell? ⟨w.heap.size, 5, none⟩ = some (.int .i64 0) ∧ w1.drew.cell? ⟨w.heap.size, 6, none⟩ = some (.int .i64 um) ∧ w1.drew.cell? ⟨w.heap.size, 7, none⟩ = some (.int .i64 dk) ∧ w1.drew.cell? ⟨w.heap.size, 8, none⟩ = some (.int .i64 dw) ∧ w1.drew.cell? ⟨w.heap.size, 9, none⟩ = some (.int .i64 dn) ∧ w1.drew.cell? ⟨w.heap.size, 10, none⟩ = some (.int .i64 sc) ∧ w1.drew.cell? ⟨w.heap.size, 11, none⟩ = some (.int .i64 ck) := cells12 X.out.drew.blk
  go_region_held3 (fun w' => w'.cell? ⟨w.heap.size, 0, none⟩ = some (.int .i64 of) ∧ w'.cell? ⟨w.heap.size, 1, none⟩ = some (.string ⟨rl.toArray⟩) ∧ w'.cell? ⟨w.heap.size, 2, none⟩ = some (.int .i64 sv) ∧ w'.cell? ⟨w.heap.size, 3, none⟩ = some (.string ⟨fm.toArray⟩) ∧ w'.cell? ⟨w.heap.size, 4, none⟩ = some (.bool false) ∧ w'.cell? ⟨w.heap.size, 5, none⟩ = some (.int .i64 0) ∧ w'.cell? ⟨w.heap.size, 6, none⟩ = some (.int .i64 um) ∧ w'.cell? ⟨w.heap.size, 7, none⟩ = some (.int .i64 dk) ∧ w'.cell? ⟨w.heap.size, 8, none⟩ = some (.int .i64 dw) ∧ w'.cell? ⟨w.heap.size, 9, none⟩ = some (.int .i64 dn) ∧ w'.cell? ⟨w.heap.size, 10, none⟩ = some (.int .i64 sc) ∧ w'.cell? ⟨w.heap.size, 11, none⟩ = some (.int .i64 ck)) (first | exact SD | exact cells12 X.out.blk | go_keep | exact cells12 (X.out.drew.next k2).blk) (first
    | (go_at_call 80; refine (C1.out _ (HA.out.next (bdrew X.out.bel))).mono ?_; rintro e w2 ⟨rfl, k2⟩; simp only []))
  have X2 := Lib.hid ((X.out.drew.next k2).more (.cells #[.string ⟨T0.toArray⟩, .string ⟨T1.toArray⟩, .string ⟨fm.toArray⟩] 9))
  have OW := Lib.hid (own_lit3 w2 T0 T1 fm w2.heap.size (Nat.le_refl _))
  have XQ : Hid (w.heap.size < w2.heap.size) := Lib.hid (X.out.drew.next k2).lt
  obtain ⟨xb0, xb1, xb2, xb3, xb4, xb5, xb6, xb7, xb8, xb9, xb10, xb11⟩ := cells12 (X.out.drew.next k2).blk
  have xbq := XQ.out
  clear SD xa0 xa1 xa2 xa3 xa4 xa5 xa6 xa7 xa8 xa9 xa10 xa11 xaq
  go_wp2_with (go_at_call 21
               refine (lera_is _ 3 3 [T0, T1, fm] _ (own_arg OW.out).1 HLN.out (own_arg OW.out).2.2 (HA.out.next X2.out.bel).l ⟨of, rl, sv, fm, false, 0, 0, 0, 0, 0, 0, 0⟩ 0 HR).mono ?_
               rintro e w8 ⟨rfl, k8⟩
               have AR : Hid (3 ≤ 3 ∧ ArgW (some ⟨w2.heap.size, 0, none⟩) [T0, T1, fm] w8) := Lib.hid ⟨Nat.le_refl _, (own_arg OW.out).2.2.next k8⟩
               have X8 := Lib.hid (X2.out.next k8)
               clear k8 X2 OW xb0 xb1 xb2 xb3 xb4 xb5 xb6 xb7 xb8 xb9 xb10 xb11 xbq
               obtain ⟨xf0, xf1, xf2, xf3, xf4, xf5, xf6, xf7, xf8, xf9, xf10, xf11⟩ := cells12 X8.out.blk
               have xfq := X8.out.lt
               simp only [evV])
  go_ret2
  exact .inr ⟨rfl, rfl, (X8.out.more _).bel⟩
set_option maxRecDepth 20000 in
set_option maxHeartbeats 3200000 in
theorem ew_f7 (of sv dk dw dn sc ck : Int) (rl fm : List UInt8) (w : World) (H : LaidQ w) (HLN : Hid (∀ p ∈ ewL ⟨of, rl, sv, fm, false, 0, 0, dk, dw, dn, sc, ck⟩, p.length ≤ 500)) (hd : ((0 : Int) == dk) = false) (HR : Hid (erS (ewL ⟨of, rl, sv, fm, false, 0, 0, dk, dw, dn, sc, ck⟩) = ⟨of, rl, sv, fm, false, 0, 0, 0, 0, 0, 0, 0⟩ ∧ erX (ewL ⟨of, rl, sv, fm, false, 0, 0, dk, dw, dn, sc, ck⟩) = 0)) :
    Calls Tryz.prog 30 #[evV ⟨of, rl, sv, fm, false, 0, 0, dk, dw, dn, sc, ck⟩] w (WordsIs (ewL ⟨of, rl, sv, fm, false, 0, 0, dk, dw, dn, sc, ck⟩) false w) := by
  obtain ⟨T0, h0⟩ : ∃ T, svT of = T := ⟨_, rfl⟩
  obtain ⟨T1, h1⟩ : ∃ T, ruT rl sv = T := ⟨_, rfl⟩
  have EW : ewL ⟨of, rl, sv, fm, false, 0, 0, dk, dw, dn, sc, ck⟩ = [T0, T1, fm] := by show [svT of, ruT rl sv, fm] = _; rw [h0, h1]
  rw [EW] at HR HLN ⊢
  have H0 := Lib.hid h0
  have C1 : Hid (∀ W, LaidQ W → Calls Tryz.prog 80 #[evV ⟨of, rl, sv, fm, false, 0, 0, dk, dw, dn, sc, ck⟩] W fun e w' => e = .returned (.string ⟨T1.toArray⟩) ∧ Below W.heap.size W w') := Lib.hid fun W h => rut_is ⟨of, rl, sv, fm, false, 0, 0, dk, dw, dn, sc, ck⟩ T1 W h.l.pow (Lib.hid h1)
  have HA := Lib.hid H
  clear h0 h1 H EW
  simp only [evV] at C1 ⊢
  go_enter Tryz.func30, Tryz.ntmps30
  go_wp2_with (go_at_call 71
               refine (ctx_is of T0 _ (HA.out.next ((Below.refl _ _).alloc (Nat.le_refl _) _)).l.pow H0).mono ?_
               rintro e w1 ⟨⟨x1, rfl⟩, k1⟩
               have X := Lib.hid ((BlkN.make (Below.refl _ _) _ _).next k1)
               obtain ⟨xa0, xa1, xa2, xa3, xa4, xa5, xa6, xa7, xa8, xa9, xa10, xa11⟩ := cells12 X.out.blk
               have xaq := X.out.lt
               clear k1
               simp only [])
  have SD : w1.drew.cell? ⟨w.heap.size, 0, none⟩ = some (.int .i64 of) ∧ w1.drew.cell? ⟨w.heap.size, 1, none⟩ = some (.string ⟨rl.toArray⟩) ∧ w1.drew.cell? ⟨w.heap.size, 2, none⟩ = some (.int .i64 sv) ∧ w1.drew.cell? ⟨w.heap.size, 3, none⟩ = some (.string ⟨fm.toArray⟩) ∧ w1.drew.cell? ⟨w.heap.size, 4, none⟩ = some (.bool false) ∧ w1.drew.cell? ⟨w.heap.size, 5, none⟩ = some (.int .i64 0) ∧ w1.drew.cell? ⟨w.heap.size, 6, none⟩ = some (.int .i64 0) ∧ w1.drew.cell? ⟨w.heap.size, 7, none⟩ = some (.int .i64 dk) ∧ w1.drew.cell? ⟨w.heap.size, 8, none⟩ = some (.int .i64 dw) ∧ w1.drew.cell? ⟨w.heap.size, 9, none⟩ = some (.int .i64 dn) ∧ w1.drew.cell? ⟨w.heap.size, 10, none⟩ = some (.int .i64 sc) ∧ w1.drew.cell? ⟨w.heap.size, 11, none⟩ = some (.int .i64 ck) := cells12 X.out.drew.blk
  go_region_held3 (fun w' => w'.cell? ⟨w.heap.size, 0, none⟩ = some (.int .i64 of) ∧ w'.cell? ⟨w.heap.size, 1, none⟩ = some (.string ⟨rl.toArray⟩) ∧ w'.cell? ⟨w.heap.size, 2, none⟩ = some (.int .i64 sv) ∧ w'.cell? ⟨w.heap.size, 3, none⟩ = some (.string ⟨fm.toArray⟩) ∧ w'.cell? ⟨w.heap.size, 4, none⟩ = some (.bool false) ∧ w'.cell? ⟨w.heap.size, 5, none⟩ = some (.int .i64 0) ∧ w'.cell? ⟨w.heap.size, 6, none⟩ = some (.int .i64 0) ∧ w'.cell? ⟨w.heap.size, 7, none⟩ = some (.int .i64 dk) ∧ w'.cell? ⟨w.heap.size, 8, none⟩ = some (.int .i64 dw) ∧ w'.cell? ⟨w.heap.size, 9, none⟩ = some (.int .i64 dn) ∧ w'.cell? ⟨w.heap.size, 10, none⟩ = some (.int .i64 sc) ∧ w'.cell? ⟨w.heap.size, 11, none⟩ = some (.int .i64 ck)) (first | exact SD | exact cells12 X.out.blk | go_keep | exact cells12 (X.out.drew.next k2).blk) (first
    | (go_at_call 80; refine (C1.out _ (HA.out.next (bdrew X.out.bel))).mono ?_; rintro e w2 ⟨rfl, k2⟩; simp only []))
  have X2 := Lib.hid ((X.out.drew.next k2).more (.cells #[.string ⟨T0.toArray⟩, .string ⟨T1.toArray⟩, .string ⟨fm.toArray⟩] 9))
  have OW := Lib.hid (own_lit3 w2 T0 T1 fm w2.heap.size (Nat.le_refl _))
  have XQ : Hid (w.heap.size < w2.heap.size) := Lib.hid (X.out.drew.next k2).lt
  obtain ⟨xb0, xb1, xb2, xb3, xb4, xb5, xb6, xb7, xb8, xb9, xb10, xb11⟩ := cells12 (X.out.drew.next k2).blk
  have xbq := XQ.out
  clear SD xa0 xa1 xa2 xa3 xa4 xa5 xa6 xa7 xa8 xa9 xa10 xa11 xaq
  go_wp2_with (go_at_call 21
               refine (lera_is _ 3 3 [T0, T1, fm] _ (own_arg OW.out).1 HLN.out (own_arg OW.out).2.2 (HA.out.next X2.out.bel).l ⟨of, rl, sv, fm, false, 0, 0, 0, 0, 0, 0, 0⟩ 0 HR).mono ?_
               rintro e w8 ⟨rfl, k8⟩
               have AR : Hid (3 ≤ 3 ∧ ArgW (some ⟨w2.heap.size, 0, none⟩) [T0, T1, fm] w8) := Lib.hid ⟨Nat.le_refl _, (own_arg OW.out).2.2.next k8⟩
               have X8 := Lib.hid (X2.out.next k8)
               clear k8 X2 OW xb0 xb1 xb2 xb3 xb4 xb5 xb6 xb7 xb8 xb9 xb10 xb11 xbq
               obtain ⟨xf0, xf1, xf2, xf3, xf4, xf5, xf6, xf7, xf8, xf9, xf10, xf11⟩ := cells12 X8.out.blk
               have xfq := X8.out.lt
               simp only [evV])
  go_ret2
  exact .inr ⟨rfl, rfl, (X8.out.more _).bel⟩
set_option maxRecDepth 20000 in
set_option maxHeartbeats 3200000 in
theorem ew_f8 (of sv dw dn sc ck : Int) (rl fm : List UInt8) (w : World) (H : LaidQ w) (HLN : Hid (∀ p ∈ ewL ⟨of, rl, sv, fm, false, 0, 0, 0, dw, dn, sc, ck⟩, p.length ≤ 500)) (hd : ((0 : Int) == dw) = false) (HR : Hid (erS (ewL ⟨of, rl, sv, fm, false, 0, 0, 0, dw, dn, sc, ck⟩) = ⟨of, rl, sv, fm, false, 0, 0, 0, 0, 0, 0, 0⟩ ∧ erX (ewL ⟨of, rl, sv, fm, false, 0, 0, 0, dw, dn, sc, ck⟩) = 0)) :
    Calls Tryz.prog 30 #[evV ⟨of, rl, sv, fm, false, 0, 0, 0, dw, dn, sc, ck⟩] w (WordsIs (ewL ⟨of, rl, sv, fm, false, 0, 0, 0, dw, dn, sc, ck⟩) false w) := by
  obtain ⟨T0, h0⟩ : ∃ T, svT of = T := ⟨_, rfl⟩
  obtain ⟨T1, h1⟩ : ∃ T, ruT rl sv = T := ⟨_, rfl⟩
  have EW : ewL ⟨of, rl, sv, fm, false, 0, 0, 0, dw, dn, sc, ck⟩ = [T0, T1, fm] := by show [svT of, ruT rl sv, fm] = _; rw [h0, h1]
  rw [EW] at HR HLN ⊢
  have H0 := Lib.hid h0
  have C1 : Hid (∀ W, LaidQ W → Calls Tryz.prog 80 #[evV ⟨of, rl, sv, fm, false, 0, 0, 0, dw, dn, sc, ck⟩] W fun e w' => e = .returned (.string ⟨T1.toArray⟩) ∧ Below W.heap.size W w') := Lib.hid fun W h => rut_is ⟨of, rl, sv, fm, false, 0, 0, 0, dw, dn, sc, ck⟩ T1 W h.l.pow (Lib.hid h1)
  have HA := Lib.hid H
  clear h0 h1 H EW
  simp only [evV] at C1 ⊢
  go_enter Tryz.func30, Tryz.ntmps30
  go_wp2_with (go_at_call 71
               refine (ctx_is of T0 _ (HA.out.next ((Below.refl _ _).alloc (Nat.le_refl _) _)).l.pow H0).mono ?_
               rintro e w1 ⟨⟨x1, rfl⟩, k1⟩
               have X := Lib.hid ((BlkN.make (Below.refl _ _) _ _).next k1)
               obtain ⟨xa0, xa1, xa2, xa3, xa4, xa5, xa6, xa7, xa8, xa9, xa10, xa11⟩ := cells12 X.out.blk
               have xaq := X.out.lt
               clear k1
               simp only [])
  have SD : w1.drew.cell? ⟨w.heap.size, 0, none⟩ = some (.int .i64 of) ∧ w1.drew.cell? ⟨w.heap.size, 1, none⟩ = some (.string ⟨rl.toArray⟩) ∧ w1.drew.cell? ⟨w.heap.size, 2, none⟩ = some (.int .i64 sv) ∧ w1.drew.cell? ⟨w.heap.size, 3, none⟩ = some (.string ⟨fm.toArray⟩) ∧ w1.drew.cell? ⟨w.heap.size, 4, none⟩ = some (.bool false) ∧ w1.drew.cell? ⟨w.heap.size, 5, none⟩ = some (.int .i64 0) ∧ w1.drew.cell? ⟨w.heap.size, 6, none⟩ = some (.int .i64 0) ∧ w1.drew.cell? ⟨w.heap.size, 7, none⟩ = some (.int .i64 0) ∧ w1.drew.cell? ⟨w.heap.size, 8, none⟩ = some (.int .i64 dw) ∧ w1.drew.cell? ⟨w.heap.size, 9, none⟩ = some (.int .i64 dn) ∧ w1.drew.cell? ⟨w.heap.size, 10, none⟩ = some (.int .i64 sc) ∧ w1.drew.cell? ⟨w.heap.size, 11, none⟩ = some (.int .i64 ck) := cells12 X.out.drew.blk
  go_region_held3 (fun w' => w'.cell? ⟨w.heap.size, 0, none⟩ = some (.int .i64 of) ∧ w'.cell? ⟨w.heap.size, 1, none⟩ = some (.string ⟨rl.toArray⟩) ∧ w'.cell? ⟨w.heap.size, 2, none⟩ = some (.int .i64 sv) ∧ w'.cell? ⟨w.heap.size, 3, none⟩ = some (.string ⟨fm.toArray⟩) ∧ w'.cell? ⟨w.heap.size, 4, none⟩ = some (.bool false) ∧ w'.cell? ⟨w.heap.size, 5, none⟩ = some (.int .i64 0) ∧ w'.cell? ⟨w.heap.size, 6, none⟩ = some (.int .i64 0) ∧ w'.cell? ⟨w.heap.size, 7, none⟩ = some (.int .i64 0) ∧ w'.cell? ⟨w.heap.size, 8, none⟩ = some (.int .i64 dw) ∧ w'.cell? ⟨w.heap.size, 9, none⟩ = some (.int .i64 dn) ∧ w'.cell? ⟨w.heap.size, 10, none⟩ = some (.int .i64 sc) ∧ w'.cell? ⟨w.heap.size, 11, none⟩ = some (.int .i64 ck)) (first | exact SD | exact cells12 X.out.blk | go_keep | exact cells12 (X.out.drew.next k2).blk) (first
    | (go_at_call 80; refine (C1.out _ (HA.out.next (bdrew X.out.bel))).mono ?_; rintro e w2 ⟨rfl, k2⟩; simp only []))
  have X2 := Lib.hid ((X.out.drew.next k2).more (.cells #[.string ⟨T0.toArray⟩, .string ⟨T1.toArray⟩, .string ⟨fm.toArray⟩] 9))
  have OW := Lib.hid (own_lit3 w2 T0 T1 fm w2.heap.size (Nat.le_refl _))
  have XQ : Hid (w.heap.size < w2.heap.size) := Lib.hid (X.out.drew.next k2).lt
  obtain ⟨xb0, xb1, xb2, xb3, xb4, xb5, xb6, xb7, xb8, xb9, xb10, xb11⟩ := cells12 (X.out.drew.next k2).blk
  have xbq := XQ.out
  clear SD xa0 xa1 xa2 xa3 xa4 xa5 xa6 xa7 xa8 xa9 xa10 xa11 xaq
  go_wp2_with (go_at_call 21
               refine (lera_is _ 3 3 [T0, T1, fm] _ (own_arg OW.out).1 HLN.out (own_arg OW.out).2.2 (HA.out.next X2.out.bel).l ⟨of, rl, sv, fm, false, 0, 0, 0, 0, 0, 0, 0⟩ 0 HR).mono ?_
               rintro e w8 ⟨rfl, k8⟩
               have AR : Hid (3 ≤ 3 ∧ ArgW (some ⟨w2.heap.size, 0, none⟩) [T0, T1, fm] w8) := Lib.hid ⟨Nat.le_refl _, (own_arg OW.out).2.2.next k8⟩
               have X8 := Lib.hid (X2.out.next k8)
               clear k8 X2 OW xb0 xb1 xb2 xb3 xb4 xb5 xb6 xb7 xb8 xb9 xb10 xb11 xbq
               obtain ⟨xf0, xf1, xf2, xf3, xf4, xf5, xf6, xf7, xf8, xf9, xf10, xf11⟩ := cells12 X8.out.blk
               have xfq := X8.out.lt
               simp only [evV])
  go_ret2
  exact .inr ⟨rfl, rfl, (X8.out.more _).bel⟩
set_option maxRecDepth 20000 in
set_option maxHeartbeats 3200000 in
theorem ew_f9 (of sv dn sc ck : Int) (rl fm : List UInt8) (w : World) (H : LaidQ w) (HLN : Hid (∀ p ∈ ewL ⟨of, rl, sv, fm, false, 0, 0, 0, 0, dn, sc, ck⟩, p.length ≤ 500)) (hd : ((0 : Int) == dn) = false) (HR : Hid (erS (ewL ⟨of, rl, sv, fm, false, 0, 0, 0, 0, dn, sc, ck⟩) = ⟨of, rl, sv, fm, false, 0, 0, 0, 0, 0, 0, 0⟩ ∧ erX (ewL ⟨of, rl, sv, fm, false, 0, 0, 0, 0, dn, sc, ck⟩) = 0)) :
    Calls Tryz.prog 30 #[evV ⟨of, rl, sv, fm, false, 0, 0, 0, 0, dn, sc, ck⟩] w (WordsIs (ewL ⟨of, rl, sv, fm, false, 0, 0, 0, 0, dn, sc, ck⟩) false w) := by
  obtain ⟨T0, h0⟩ : ∃ T, svT of = T := ⟨_, rfl⟩
  obtain ⟨T1, h1⟩ : ∃ T, ruT rl sv = T := ⟨_, rfl⟩
  have EW : ewL ⟨of, rl, sv, fm, false, 0, 0, 0, 0, dn, sc, ck⟩ = [T0, T1, fm] := by show [svT of, ruT rl sv, fm] = _; rw [h0, h1]
  rw [EW] at HR HLN ⊢
  have H0 := Lib.hid h0
  have C1 : Hid (∀ W, LaidQ W → Calls Tryz.prog 80 #[evV ⟨of, rl, sv, fm, false, 0, 0, 0, 0, dn, sc, ck⟩] W fun e w' => e = .returned (.string ⟨T1.toArray⟩) ∧ Below W.heap.size W w') := Lib.hid fun W h => rut_is ⟨of, rl, sv, fm, false, 0, 0, 0, 0, dn, sc, ck⟩ T1 W h.l.pow (Lib.hid h1)
  have HA := Lib.hid H
  clear h0 h1 H EW
  simp only [evV] at C1 ⊢
  go_enter Tryz.func30, Tryz.ntmps30
  go_wp2_with (go_at_call 71
               refine (ctx_is of T0 _ (HA.out.next ((Below.refl _ _).alloc (Nat.le_refl _) _)).l.pow H0).mono ?_
               rintro e w1 ⟨⟨x1, rfl⟩, k1⟩
               have X := Lib.hid ((BlkN.make (Below.refl _ _) _ _).next k1)
               obtain ⟨xa0, xa1, xa2, xa3, xa4, xa5, xa6, xa7, xa8, xa9, xa10, xa11⟩ := cells12 X.out.blk
               have xaq := X.out.lt
               clear k1
               simp only [])
  have SD : w1.drew.cell? ⟨w.heap.size, 0, none⟩ = some (.int .i64 of) ∧ w1.drew.cell? ⟨w.heap.size, 1, none⟩ = some (.string ⟨rl.toArray⟩) ∧ w1.drew.cell? ⟨w.heap.size, 2, none⟩ = some (.int .i64 sv) ∧ w1.drew.cell? ⟨w.heap.size, 3, none⟩ = some (.string ⟨fm.toArray⟩) ∧ w1.drew.cell? ⟨w.heap.size, 4, none⟩ = some (.bool false) ∧ w1.drew.cell? ⟨w.heap.size, 5, none⟩ = some (.int .i64 0) ∧ w1.drew.cell? ⟨w.heap.size, 6, none⟩ = some (.int .i64 0) ∧ w1.drew.cell? ⟨w.heap.size, 7, none⟩ = some (.int .i64 0) ∧ w1.drew.cell? ⟨w.heap.size, 8, none⟩ = some (.int .i64 0) ∧ w1.drew.cell? ⟨w.heap.size, 9, none⟩ = some (.int .i64 dn) ∧ w1.drew.cell? ⟨w.heap.size, 10, none⟩ = some (.int .i64 sc) ∧ w1.drew.cell? ⟨w.heap.size, 11, none⟩ = some (.int .i64 ck) := cells12 X.out.drew.blk
  go_region_held3 (fun w' => w'.cell? ⟨w.heap.size, 0, none⟩ = some (.int .i64 of) ∧ w'.cell? ⟨w.heap.size, 1, none⟩ = some (.string ⟨rl.toArray⟩) ∧ w'.cell? ⟨w.heap.size, 2, none⟩ = some (.int .i64 sv) ∧ w'.cell? ⟨w.heap.size, 3, none⟩ = some (.string ⟨fm.toArray⟩) ∧ w'.cell? ⟨w.heap.size, 4, none⟩ = some (.bool false) ∧ w'.cell? ⟨w.heap.size, 5, none⟩ = some (.int .i64 0) ∧ w'.cell? ⟨w.heap.size, 6, none⟩ = some (.int .i64 0) ∧ w'.cell? ⟨w.heap.size, 7, none⟩ = some (.int .i64 0) ∧ w'.cell? ⟨w.heap.size, 8, none⟩ = some (.int .i64 0) ∧ w'.cell? ⟨w.heap.size, 9, none⟩ = some (.int .i64 dn) ∧ w'.cell? ⟨w.heap.size, 10, none⟩ = some (.int .i64 sc) ∧ w'.cell? ⟨w.heap.size, 11, none⟩ = some (.int .i64 ck)) (first | exact SD | exact cells12 X.out.blk | go_keep | exact cells12 (X.out.drew.next k2).blk) (first
    | (go_at_call 80; refine (C1.out _ (HA.out.next (bdrew X.out.bel))).mono ?_; rintro e w2 ⟨rfl, k2⟩; simp only []))
  have X2 := Lib.hid ((X.out.drew.next k2).more (.cells #[.string ⟨T0.toArray⟩, .string ⟨T1.toArray⟩, .string ⟨fm.toArray⟩] 9))
  have OW := Lib.hid (own_lit3 w2 T0 T1 fm w2.heap.size (Nat.le_refl _))
  have XQ : Hid (w.heap.size < w2.heap.size) := Lib.hid (X.out.drew.next k2).lt
  obtain ⟨xb0, xb1, xb2, xb3, xb4, xb5, xb6, xb7, xb8, xb9, xb10, xb11⟩ := cells12 (X.out.drew.next k2).blk
  have xbq := XQ.out
  clear SD xa0 xa1 xa2 xa3 xa4 xa5 xa6 xa7 xa8 xa9 xa10 xa11 xaq
  go_wp2_with (go_at_call 21
               refine (lera_is _ 3 3 [T0, T1, fm] _ (own_arg OW.out).1 HLN.out (own_arg OW.out).2.2 (HA.out.next X2.out.bel).l ⟨of, rl, sv, fm, false, 0, 0, 0, 0, 0, 0, 0⟩ 0 HR).mono ?_
               rintro e w8 ⟨rfl, k8⟩
               have AR : Hid (3 ≤ 3 ∧ ArgW (some ⟨w2.heap.size, 0, none⟩) [T0, T1, fm] w8) := Lib.hid ⟨Nat.le_refl _, (own_arg OW.out).2.2.next k8⟩
               have X8 := Lib.hid (X2.out.next k8)
               clear k8 X2 OW xb0 xb1 xb2 xb3 xb4 xb5 xb6 xb7 xb8 xb9 xb10 xb11 xbq
               obtain ⟨xf0, xf1, xf2, xf3, xf4, xf5, xf6, xf7, xf8, xf9, xf10, xf11⟩ := cells12 X8.out.blk
               have xfq := X8.out.lt
               simp only [evV])
  go_ret2
  exact .inr ⟨rfl, rfl, (X8.out.more _).bel⟩
set_option maxRecDepth 20000 in
set_option maxHeartbeats 3200000 in
theorem ew_f10 (of sv sc ck : Int) (rl fm : List UInt8) (w : World) (H : LaidQ w) (HLN : Hid (∀ p ∈ ewL ⟨of, rl, sv, fm, false, 0, 0, 0, 0, 0, sc, ck⟩, p.length ≤ 500)) (hd : ((0 : Int) == sc) = false) (HR : Hid (erS (ewL ⟨of, rl, sv, fm, false, 0, 0, 0, 0, 0, sc, ck⟩) = ⟨of, rl, sv, fm, false, 0, 0, 0, 0, 0, 0, 0⟩ ∧ erX (ewL ⟨of, rl, sv, fm, false, 0, 0, 0, 0, 0, sc, ck⟩) = 0)) :
    Calls Tryz.prog 30 #[evV ⟨of, rl, sv, fm, false, 0, 0, 0, 0, 0, sc, ck⟩] w (WordsIs (ewL ⟨of, rl, sv, fm, false, 0, 0, 0, 0, 0, sc, ck⟩) false w) := by
  obtain ⟨T0, h0⟩ : ∃ T, svT of = T := ⟨_, rfl⟩
  obtain ⟨T1, h1⟩ : ∃ T, ruT rl sv = T := ⟨_, rfl⟩
  have EW : ewL ⟨of, rl, sv, fm, false, 0, 0, 0, 0, 0, sc, ck⟩ = [T0, T1, fm] := by show [svT of, ruT rl sv, fm] = _; rw [h0, h1]
  rw [EW] at HR HLN ⊢
  have H0 := Lib.hid h0
  have C1 : Hid (∀ W, LaidQ W → Calls Tryz.prog 80 #[evV ⟨of, rl, sv, fm, false, 0, 0, 0, 0, 0, sc, ck⟩] W fun e w' => e = .returned (.string ⟨T1.toArray⟩) ∧ Below W.heap.size W w') := Lib.hid fun W h => rut_is ⟨of, rl, sv, fm, false, 0, 0, 0, 0, 0, sc, ck⟩ T1 W h.l.pow (Lib.hid h1)
  have HA := Lib.hid H
  clear h0 h1 H EW
  simp only [evV] at C1 ⊢
  go_enter Tryz.func30, Tryz.ntmps30
  go_wp2_with (go_at_call 71
               refine (ctx_is of T0 _ (HA.out.next ((Below.refl _ _).alloc (Nat.le_refl _) _)).l.pow H0).mono ?_
               rintro e w1 ⟨⟨x1, rfl⟩, k1⟩
               have X := Lib.hid ((BlkN.make (Below.refl _ _) _ _).next k1)
               obtain ⟨xa0, xa1, xa2, xa3, xa4, xa5, xa6, xa7, xa8, xa9, xa10, xa11⟩ := cells12 X.out.blk
               have xaq := X.out.lt
               clear k1
               simp only [])
  have SD : w1.drew.cell? ⟨w.heap.size, 0, none⟩ = some (.int .i64 of) ∧ w1.drew.cell? ⟨w.heap.size, 1, none⟩ = some (.string ⟨rl.toArray⟩) ∧ w1.drew.cell? ⟨w.heap.size, 2, none⟩ = some (.int .i64 sv) ∧ w1.drew.cell? ⟨w.heap.size, 3, none⟩ = some (.string ⟨fm.toArray⟩) ∧ w1.drew.cell? ⟨w.heap.size, 4, none⟩ = some (.bool false) ∧ w1.drew.cell? ⟨w.heap.size, 5, none⟩ = some (.int .i64 0) ∧ w1.drew.cell? ⟨w.heap.size, 6, none⟩ = some (.int .i64 0) ∧ w1.drew.cell? ⟨w.heap.size, 7, none⟩ = some (.int .i64 0) ∧ w1.drew.cell? ⟨w.heap.size, 8, none⟩ = some (.int .i64 0) ∧ w1.drew.cell? ⟨w.heap.size, 9, none⟩ = some (.int .i64 0) ∧ w1.drew.cell? ⟨w.heap.size, 10, none⟩ = some (.int .i64 sc) ∧ w1.drew.cell? ⟨w.heap.size, 11, none⟩ = some (.int .i64 ck) := cells12 X.out.drew.blk
  go_region_held3 (fun w' => w'.cell? ⟨w.heap.size, 0, none⟩ = some (.int .i64 of) ∧ w'.cell? ⟨w.heap.size, 1, none⟩ = some (.string ⟨rl.toArray⟩) ∧ w'.cell? ⟨w.heap.size, 2, none⟩ = some (.int .i64 sv) ∧ w'.cell? ⟨w.heap.size, 3, none⟩ = some (.string ⟨fm.toArray⟩) ∧ w'.cell? ⟨w.heap.size, 4, none⟩ = some (.bool false) ∧ w'.cell? ⟨w.heap.size, 5, none⟩ = some (.int .i64 0) ∧ w'.cell? ⟨w.heap.size, 6, none⟩ = some (.int .i64 0) ∧ w'.cell? ⟨w.heap.size, 7, none⟩ = some (.int .i64 0) ∧ w'.cell? ⟨w.heap.size, 8, none⟩ = some (.int .i64 0) ∧ w'.cell? ⟨w.heap.size, 9, none⟩ = some (.int .i64 0) ∧ w'.cell? ⟨w.heap.size, 10, none⟩ = some (.int .i64 sc) ∧ w'.cell? ⟨w.heap.size, 11, none⟩ = some (.int .i64 ck)) (first | exact SD | exact cells12 X.out.blk | go_keep | exact cells12 (X.out.drew.next k2).blk) (first
    | (go_at_call 80; refine (C1.out _ (HA.out.next (bdrew X.out.bel))).mono ?_; rintro e w2 ⟨rfl, k2⟩; simp only []))
  have X2 := Lib.hid ((X.out.drew.next k2).more (.cells #[.string ⟨T0.toArray⟩, .string ⟨T1.toArray⟩, .string ⟨fm.toArray⟩] 9))
  have OW := Lib.hid (own_lit3 w2 T0 T1 fm w2.heap.size (Nat.le_refl _))
  have XQ : Hid (w.heap.size < w2.heap.size) := Lib.hid (X.out.drew.next k2).lt
  obtain ⟨xb0, xb1, xb2, xb3, xb4, xb5, xb6, xb7, xb8, xb9, xb10, xb11⟩ := cells12 (X.out.drew.next k2).blk
  have xbq := XQ.out
  clear SD xa0 xa1 xa2 xa3 xa4 xa5 xa6 xa7 xa8 xa9 xa10 xa11 xaq
  go_wp2_with (go_at_call 21
               refine (lera_is _ 3 3 [T0, T1, fm] _ (own_arg OW.out).1 HLN.out (own_arg OW.out).2.2 (HA.out.next X2.out.bel).l ⟨of, rl, sv, fm, false, 0, 0, 0, 0, 0, 0, 0⟩ 0 HR).mono ?_
               rintro e w8 ⟨rfl, k8⟩
               have AR : Hid (3 ≤ 3 ∧ ArgW (some ⟨w2.heap.size, 0, none⟩) [T0, T1, fm] w8) := Lib.hid ⟨Nat.le_refl _, (own_arg OW.out).2.2.next k8⟩
               have X8 := Lib.hid (X2.out.next k8)
               clear k8 X2 OW xb0 xb1 xb2 xb3 xb4 xb5 xb6 xb7 xb8 xb9 xb10 xb11 xbq
               obtain ⟨xf0, xf1, xf2, xf3, xf4, xf5, xf6, xf7, xf8, xf9, xf10, xf11⟩ := cells12 X8.out.blk
               have xfq := X8.out.lt
               simp only [evV])
  go_ret2
  exact .inr ⟨rfl, rfl, (X8.out.more _).bel⟩
set_option maxRecDepth 20000 in
set_option maxHeartbeats 3200000 in
theorem ew_f11 (of sv ck : Int) (rl fm : List UInt8) (w : World) (H : LaidQ w) (HLN : Hid (∀ p ∈ ewL ⟨of, rl, sv, fm, false, 0, 0, 0, 0, 0, 0, ck⟩, p.length ≤ 500)) (hd : ((0 : Int) == ck) = false) (HR : Hid (erS (ewL ⟨of, rl, sv, fm, false, 0, 0, 0, 0, 0, 0, ck⟩) = ⟨of, rl, sv, fm, false, 0, 0, 0, 0, 0, 0, 0⟩ ∧ erX (ewL ⟨of, rl, sv, fm, false, 0, 0, 0, 0, 0, 0, ck⟩) = 0)) :
    Calls Tryz.prog 30 #[evV ⟨of, rl, sv, fm, false, 0, 0, 0, 0, 0, 0, ck⟩] w (WordsIs (ewL ⟨of, rl, sv, fm, false, 0, 0, 0, 0, 0, 0, ck⟩) false w) := by
  obtain ⟨T0, h0⟩ : ∃ T, svT of = T := ⟨_, rfl⟩
  obtain ⟨T1, h1⟩ : ∃ T, ruT rl sv = T := ⟨_, rfl⟩
  have EW : ewL ⟨of, rl, sv, fm, false, 0, 0, 0, 0, 0, 0, ck⟩ = [T0, T1, fm] := by show [svT of, ruT rl sv, fm] = _; rw [h0, h1]
  rw [EW] at HR HLN ⊢
  have H0 := Lib.hid h0
  have C1 : Hid (∀ W, LaidQ W → Calls Tryz.prog 80 #[evV ⟨of, rl, sv, fm, false, 0, 0, 0, 0, 0, 0, ck⟩] W fun e w' => e = .returned (.string ⟨T1.toArray⟩) ∧ Below W.heap.size W w') := Lib.hid fun W h => rut_is ⟨of, rl, sv, fm, false, 0, 0, 0, 0, 0, 0, ck⟩ T1 W h.l.pow (Lib.hid h1)
  have HA := Lib.hid H
  clear h0 h1 H EW
  simp only [evV] at C1 ⊢
  go_enter Tryz.func30, Tryz.ntmps30
  go_wp2_with (go_at_call 71
               refine (ctx_is of T0 _ (HA.out.next ((Below.refl _ _).alloc (Nat.le_refl _) _)).l.pow H0).mono ?_
               rintro e w1 ⟨⟨x1, rfl⟩, k1⟩
               have X := Lib.hid ((BlkN.make (Below.refl _ _) _ _).next k1)
               obtain ⟨xa0, xa1, xa2, xa3, xa4, xa5, xa6, xa7, xa8, xa9, xa10, xa11⟩ := cells12 X.out.blk
               have xaq := X.out.lt
               clear k1
               simp only [])
  have SD : w1.drew.cell? ⟨w.heap.size, 0, none⟩ = some (.int .i64 of) ∧ w1.drew.cell? ⟨w.heap.size, 1, none⟩ = some (.string ⟨rl.toArray⟩) ∧ w1.drew.cell? ⟨w.heap.size, 2, none⟩ = some (.int .i64 sv) ∧ w1.drew.cell? ⟨w.heap.size, 3, none⟩ = some (.string ⟨fm.toArray⟩) ∧ w1.drew.cell? ⟨w.heap.size, 4, none⟩ = some (.bool false) ∧ w1.drew.cell? ⟨w.heap.size, 5, none⟩ = some (.int .i64 0) ∧ w1.drew.cell? ⟨w.heap.size, 6, none⟩ = some (.int .i64 0) ∧ w1.drew.cell? ⟨w.heap.size, 7, none⟩ = some (.int .i64 0) ∧ w1.drew.cell? ⟨w.heap.size, 8, none⟩ = some (.int .i64 0) ∧ w1.drew.cell? ⟨w.heap.size, 9, none⟩ = some (.int .i64 0) ∧ w1.drew.cell? ⟨w.heap.size, 10, none⟩ = some (.int .i64 0) ∧ w1.drew.cell? ⟨w.heap.size, 11, none⟩ = some (.int .i64 ck) := cells12 X.out.drew.blk
  go_region_held3 (fun w' => w'.cell? ⟨w.heap.size, 0, none⟩ = some (.int .i64 of) ∧ w'.cell? ⟨w.heap.size, 1, none⟩ = some (.string ⟨rl.toArray⟩) ∧ w'.cell? ⟨w.heap.size, 2, none⟩ = some (.int .i64 sv) ∧ w'.cell? ⟨w.heap.size, 3, none⟩ = some (.string ⟨fm.toArray⟩) ∧ w'.cell? ⟨w.heap.size, 4, none⟩ = some (.bool false) ∧ w'.cell? ⟨w.heap.size, 5, none⟩ = some (.int .i64 0) ∧ w'.cell? ⟨w.heap.size, 6, none⟩ = some (.int .i64 0) ∧ w'.cell? ⟨w.heap.size, 7, none⟩ = some (.int .i64 0) ∧ w'.cell? ⟨w.heap.size, 8, none⟩ = some (.int .i64 0) ∧ w'.cell? ⟨w.heap.size, 9, none⟩ = some (.int .i64 0) ∧ w'.cell? ⟨w.heap.size, 10, none⟩ = some (.int .i64 0) ∧ w'.cell? ⟨w.heap.size, 11, none⟩ = some (.int .i64 ck)) (first | exact SD | exact cells12 X.out.blk | go_keep | exact cells12 (X.out.drew.next k2).blk) (first
    | (go_at_call 80; refine (C1.out _ (HA.out.next (bdrew X.out.bel))).mono ?_; rintro e w2 ⟨rfl, k2⟩; simp only []))
  have X2 := Lib.hid ((X.out.drew.next k2).more (.cells #[.string ⟨T0.toArray⟩, .string ⟨T1.toArray⟩, .string ⟨fm.toArray⟩] 9))
  have OW := Lib.hid (own_lit3 w2 T0 T1 fm w2.heap.size (Nat.le_refl _))
  have XQ : Hid (w.heap.size < w2.heap.size) := Lib.hid (X.out.drew.next k2).lt
  obtain ⟨xb0, xb1, xb2, xb3, xb4, xb5, xb6, xb7, xb8, xb9, xb10, xb11⟩ := cells12 (X.out.drew.next k2).blk
  have xbq := XQ.out
  clear SD xa0 xa1 xa2 xa3 xa4 xa5 xa6 xa7 xa8 xa9 xa10 xa11 xaq
  go_wp2_with (go_at_call 21
               refine (lera_is _ 3 3 [T0, T1, fm] _ (own_arg OW.out).1 HLN.out (own_arg OW.out).2.2 (HA.out.next X2.out.bel).l ⟨of, rl, sv, fm, false, 0, 0, 0, 0, 0, 0, 0⟩ 0 HR).mono ?_
               rintro e w8 ⟨rfl, k8⟩
               have AR : Hid (3 ≤ 3 ∧ ArgW (some ⟨w2.heap.size, 0, none⟩) [T0, T1, fm] w8) := Lib.hid ⟨Nat.le_refl _, (own_arg OW.out).2.2.next k8⟩
               have X8 := Lib.hid (X2.out.next k8)
               clear k8 X2 OW xb0 xb1 xb2 xb3 xb4 xb5 xb6 xb7 xb8 xb9 xb10 xb11 xbq
               obtain ⟨xf0, xf1, xf2, xf3, xf4, xf5, xf6, xf7, xf8, xf9, xf10, xf11⟩ := cells12 X8.out.blk
               have xfq := X8.out.lt
               simp only [evV])
  go_ret2
  exact .inr ⟨rfl, rfl, (X8.out.more _).bel⟩
/-- EraWords of an era. -/
theorem ewords_is (x : EV) (w : World) (H : LaidQ w) (hu : in64' x.uy) (h1 : x.rl.length ≤ 100) (h2 : x.fm.length ≤ 100) :
    Calls Tryz.prog 30 #[evV x] w (WordsIs (ewL x) (ewB x) w) := by
  have HLN := Lib.hid (ewL_lens x h1 h2 hu)
  by_cases hx : erX (ewL x) = 0
  rotate_left
  · have e : ewB x = false := decide_eq_false fun c => hx c.1
    rw [e]
    have hv : (erX (ewL x) != 0) = true := by simpa using hx
    obtain ⟨of, rl, sv, fm, en, uy, um, dk, dw, dn, sc, ck⟩ := x
    cases en with
    | true => exact ew_tb of sv uy um dk dw dn sc ck rl fm w H hu HLN _ _ hv (Lib.hid ⟨rfl, rfl⟩)
    | false => exact ew_fb of sv uy um dk dw dn sc ck rl fm w H HLN _ _ hv (Lib.hid ⟨rfl, rfl⟩)
  obtain ⟨rl', sv', hrl, hs⟩ := era_read x hx
  obtain ⟨of, rl, sv, fm, en, uy, um, dk, dw, dn, sc, ck⟩ := x
  simp only at hrl hs hu
  have rne : rl ≠ [] → (([] : List UInt8) == rl) = false := fun h => by cases rl <;> simp_all
  rcases hs with ⟨rfl, hs⟩ | ⟨rfl, hs⟩
  · rcases hrl with ⟨rfl, rfl⟩ | ⟨hne, rfl⟩
    · have e : ewB ⟨of, rl', sv', fm, true, uy, um, dk, dw, dn, sc, ck⟩ = true := decide_eq_true ⟨hx, hs⟩
      rw [e]
      exact ew_ty of sv' uy um dk dw dn sc ck rl' fm w H hu HLN (Lib.hid ⟨hs, hx⟩)
    · have e : ewB ⟨of, rl, sv, fm, true, uy, um, dk, dw, dn, sc, ck⟩ = false := decide_eq_false fun c => hne (congrArg EV.rl (hs.symm.trans c.2)).symm
      rw [e]
      exact ew_tr of sv uy um dk dw dn sc ck rl fm w H hu HLN sv' (rne hne) (Lib.hid ⟨hs, hx⟩)
  · rcases hrl with ⟨rfl, rfl⟩ | ⟨hne, rfl⟩
    · have no : ∀ (f : EV → Int) (_ : f ⟨of, rl', sv', fm, false, 0, 0, 0, 0, 0, 0, 0⟩ = 0), f ⟨of, rl', sv', fm, false, uy, um, dk, dw, dn, sc, ck⟩ ≠ 0 → ewB ⟨of, rl', sv', fm, false, uy, um, dk, dw, dn, sc, ck⟩ = false := fun f h0 hn =>
        decide_eq_false fun c => hn (by rw [← hs.symm.trans c.2]; exact h0)
      have zf : ∀ {n : Int}, n ≠ 0 → ((0 : Int) == n) = false := fun h => by simpa using fun e => h e.symm
      by_cases c5 : uy = 0
      rotate_left
      · rw [no EV.uy rfl c5]; exact ew_f5 of sv' uy um dk dw dn sc ck rl' fm w H HLN (zf c5) (Lib.hid ⟨hs, hx⟩)
      subst c5
      by_cases c6 : um = 0
      rotate_left
      · rw [no EV.um rfl c6]; exact ew_f6 of sv' um dk dw dn sc ck rl' fm w H HLN (zf c6) (Lib.hid ⟨hs, hx⟩)
      subst c6
      by_cases c7 : dk = 0
      rotate_left
      · rw [no EV.dk rfl c7]; exact ew_f7 of sv' dk dw dn sc ck rl' fm w H HLN (zf c7) (Lib.hid ⟨hs, hx⟩)
      subst c7
      by_cases c8 : dw = 0
      rotate_left
      · rw [no EV.dw rfl c8]; exact ew_f8 of sv' dw dn sc ck rl' fm w H HLN (zf c8) (Lib.hid ⟨hs, hx⟩)
      subst c8
      by_cases c9 : dn = 0
      rotate_left
      · rw [no EV.dn rfl c9]; exact ew_f9 of sv' dn sc ck rl' fm w H HLN (zf c9) (Lib.hid ⟨hs, hx⟩)
      subst c9
      by_cases c10 : sc = 0
      rotate_left
      · rw [no EV.sc rfl c10]; exact ew_f10 of sv' sc ck rl' fm w H HLN (zf c10) (Lib.hid ⟨hs, hx⟩)
      subst c10
      by_cases c11 : ck = 0
      rotate_left
      · rw [no EV.ck rfl c11]; exact ew_f11 of sv' ck rl' fm w H HLN (zf c11) (Lib.hid ⟨hs, hx⟩)
      subst c11
      have e : ewB ⟨of, rl', sv', fm, false, 0, 0, 0, 0, 0, 0, 0⟩ = true := decide_eq_true ⟨hx, hs⟩
      rw [e]
      exact ew_fy of sv' rl' fm w H HLN (Lib.hid ⟨hs, hx⟩)
    · have e : ewB ⟨of, rl, sv, fm, false, uy, um, dk, dw, dn, sc, ck⟩ = false := decide_eq_false fun c => hne (congrArg EV.rl (hs.symm.trans c.2)).symm
      rw [e]
      exact ew_fr of sv uy um dk dw dn sc ck rl fm w H HLN sv' (rne hne) (Lib.hid ⟨hs, hx⟩)
end Go.Proofs.YtfmehdophoejiaaGreatDoor
