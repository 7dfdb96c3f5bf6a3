/- The contract of lines.EraWords: which words an era has, or that it has none; nothing that was in memory changes. Written by wip/tools/gencw.py. -/
import Derived.Test.YtfmehdophoejiaaGreatDoorLqW
import Derived.Laws.OwnMore
namespace Go.Proofs.YtfmehdophoejiaaGreatDoor
open Go Go.RowKit

theorem ewL_lens (x : EV) (h1 : x.rl.length ≤ 100) (h2 : x.fm.length ≤ 100) (h3 : in64' x.uy) : ∀ p ∈ ewL x, p.length ≤ 500 := by
  have a1 := itoa_len h3
  have a2 := svT_len x.of
  have a3 := mname_len x.um
  have a4 := dyT_len x.dk x.dw x.dn
  have a5 := ckT_len x.sc x.ck
  have a6 : (ruT x.rl x.sv).length ≤ 101 := by
    unfold ruT
    split
    · have := orN_len x.rl; omega
    · have := svT_len x.sv; omega
  intro p hp
  unfold ewL at hp
  rw [List.mem_append] at hp
  rcases hp with hp | hp
  · simp only [List.mem_cons, List.not_mem_nil, or_false] at hp
    rcases hp with rfl | rfl | rfl <;> omega
  · split at hp
    · simp only [List.mem_cons, List.not_mem_nil, or_false] at hp
      rcases hp with rfl | rfl | rfl | rfl <;> omega
    · cases hp
theorem own_lit3 (w : World) (a b c : List UInt8) (base : Nat) (hb : base ≤ w.heap.size) : (w.alloc (.cells #[.string ⟨a.toArray⟩, .string ⟨b.toArray⟩, .string ⟨c.toArray⟩] 9)).ownsRow base 9 1 (.slice (some ⟨w.heap.size, 0, none⟩) 3 3) 3 (scl [a, b, c]) :=
  World.ownsRow_lit w #[.string ⟨a.toArray⟩, .string ⟨b.toArray⟩, .string ⟨c.toArray⟩] 3 hb (by unfold maxLen; omega) rfl
theorem own_next {W W' : World} {base g n c : Nat} {xs : List Value} (h : W.ownsRow base 9 1 (.slice (some ⟨g, 0, none⟩) n c) n xs) (k : Below W.heap.size W W') : W'.ownsRow base 9 1 (.slice (some ⟨g, 0, none⟩) n c) n xs :=
  h.kept (grown_any k none) (.inr (by simp [Value.ownBlock]))
def EwT (of sv uy um dk dw dn sc ck : Int) (rl fm : List UInt8) (r' : EV) (v : Int) (ok : Bool) : Prop :=
  ((v != 0) = true ∧ false = ok) ∨ (∃ sv', (([] : List UInt8) == rl) = false ∧ r' = ⟨of, [], sv', fm, true, uy, um, dk, dw, dn, sc, ck⟩ ∧ 0 = v ∧ false = ok) ∨ (r' = ⟨of, rl, sv, fm, true, uy, um, dk, dw, dn, sc, ck⟩ ∧ 0 = v ∧ true = ok)
def EwF (of sv uy um dk dw dn sc ck : Int) (rl fm : List UInt8) (r' : EV) (v : Int) (ok : Bool) : Prop :=
  ((v != 0) = true ∧ false = ok) ∨ (∃ sv', (([] : List UInt8) == rl) = false ∧ r' = ⟨of, [], sv', fm, false, 0, 0, 0, 0, 0, 0, 0⟩ ∧ 0 = v ∧ false = ok) ∨ (r' = ⟨of, rl, sv, fm, false, 0, 0, 0, 0, 0, 0, 0⟩ ∧ 0 = v ∧ ((((0 : Int) == uy) = false ∧ false = ok) ∨ (0 = uy ∧ ((((0 : Int) == um) = false ∧ false = ok) ∨ (0 = um ∧ ((((0 : Int) == dk) = false ∧ false = ok) ∨ (0 = dk ∧ ((((0 : Int) == dw) = false ∧ false = ok) ∨ (0 = dw ∧ ((((0 : Int) == dn) = false ∧ false = ok) ∨ (0 = dn ∧ ((((0 : Int) == sc) = false ∧ false = ok) ∨ (0 = sc ∧ ((((0 : Int) == ck) = false ∧ false = ok) ∨ (0 = ck ∧ true = ok)))))))))))))))
set_option maxRecDepth 20000 in
set_option maxHeartbeats 51200000 in
theorem ew_t (of sv uy um dk dw dn sc ck : Int) (rl fm : List UInt8) (w : World) (H : LaidQ w) (hu : in64' uy) (HLN : Hid (∀ p ∈ ewL ⟨of, rl, sv, fm, true, uy, um, dk, dw, dn, sc, ck⟩, p.length ≤ 500)) (r' : EV) (v : Int) (ok : Bool) (V : EwT of sv uy um dk dw dn sc ck rl fm r' v ok) (HR : Hid (erS (ewL ⟨of, rl, sv, fm, true, uy, um, dk, dw, dn, sc, ck⟩) = r' ∧ erX (ewL ⟨of, rl, sv, fm, true, uy, um, dk, dw, dn, sc, ck⟩) = v)) :
    Calls Tryz.prog 30 #[evV ⟨of, rl, sv, fm, true, uy, um, dk, dw, dn, sc, ck⟩] w (WordsIs (ewL ⟨of, rl, sv, fm, true, uy, um, dk, dw, dn, sc, ck⟩) ok w) := by
  obtain ⟨T0, h0⟩ : ∃ T, svT of = T := ⟨_, rfl⟩
  obtain ⟨T1, h1⟩ : ∃ T, ruT rl sv = T := ⟨_, rfl⟩
  obtain ⟨D, hD⟩ : ∃ D, Lib.itoa uy = D := ⟨_, rfl⟩
  obtain ⟨T5, h5⟩ : ∃ T, mnameL um = T := ⟨_, rfl⟩
  obtain ⟨e5, h5'⟩ : ∃ T, mnameE um = T := ⟨_, rfl⟩
  obtain ⟨T6, h6⟩ : ∃ T, dyT dk dw dn = T := ⟨_, rfl⟩
  obtain ⟨T7, h7⟩ : ∃ T, ckT sc ck = T := ⟨_, rfl⟩
  have EW : ewL ⟨of, rl, sv, fm, true, uy, um, dk, dw, dn, sc, ck⟩ = [T0, T1, fm] ++ [D, T5, T6, T7] := by show [svT of, ruT rl sv, fm] ++ [Lib.itoa uy, mnameL um, dyT dk dw dn, ckT sc ck] = _; rw [h0, h1, hD, h5, h6, h7]
  rw [EW] at HR HLN ⊢
  have H0 := Lib.hid h0
  have C1 : Hid (∀ W, LaidQ W → Calls Tryz.prog 80 #[evV ⟨of, rl, sv, fm, true, uy, um, dk, dw, dn, sc, ck⟩] W fun e w' => e = .returned (.string ⟨T1.toArray⟩) ∧ Below W.heap.size W w') := Lib.hid fun W h => rut_is ⟨of, rl, sv, fm, true, uy, um, dk, dw, dn, sc, ck⟩ T1 W h.l.pow (Lib.hid h1)
  have HD := Lib.hid hD
  have H5 : Hid (mnameL um = T5 ∧ mnameE um = e5) := Lib.hid ⟨h5, h5'⟩
  have H6 := Lib.hid h6
  have H7 := Lib.hid h7
  have HU := Lib.hid hu
  have HA := Lib.hid H
  clear h0 h1 H EW hD h5 h5' h6 h7 hu
  simp only [evV] at C1 ⊢
  go_enter Tryz.func30, Tryz.ntmps30
  go_wp2_with (go_at_call 71
               refine (ctx_is of T0 _ (HA.out.next ((Below.refl _ _).alloc (Nat.le_refl _) _)).l.pow H0).mono ?_
               rintro e w1 ⟨⟨x1, rfl⟩, k1⟩
               have X := Lib.hid ((BlkN.make (Below.refl _ _) _ _).next k1)
               obtain ⟨xa0, xa1, xa2, xa3, xa4, xa5, xa6, xa7, xa8, xa9, xa10, xa11⟩ := cells12 X.out.blk
               have xaq := X.out.lt
               clear k1
               simp only [])
  have SD : w1.drew.cell? ⟨w.heap.size, 0, none⟩ = some (.int .i64 of) ∧ w1.drew.cell? ⟨w.heap.size, 1, none⟩ = some (.string ⟨rl.toArray⟩) ∧ w1.drew.cell? ⟨w.heap.size, 2, none⟩ = some (.int .i64 sv) ∧ w1.drew.cell? ⟨w.heap.size, 3, none⟩ = some (.string ⟨fm.toArray⟩) ∧ w1.drew.cell? ⟨w.heap.size, 4, none⟩ = some (.bool true) ∧ w1.drew.cell? ⟨w.heap.size, 5, none⟩ = some (.int .i64 uy) ∧ w1.drew.cell? ⟨w.heap.size, 6, none⟩ = some (.int .i64 um) ∧ w1.drew.cell? ⟨w.heap.size, 7, none⟩ = some (.int .i64 dk) ∧ w1.drew.cell? ⟨w.heap.size, 8, none⟩ = some (.int .i64 dw) ∧ w1.drew.cell? ⟨w.heap.size, 9, none⟩ = some (.int .i64 dn) ∧ w1.drew.cell? ⟨w.heap.size, 10, none⟩ = some (.int .i64 sc) ∧ w1.drew.cell? ⟨w.heap.size, 11, none⟩ = some (.int .i64 ck) := cells12 X.out.drew.blk
  go_region_held3 (fun w' => w'.cell? ⟨w.heap.size, 0, none⟩ = some (.int .i64 of) ∧ w'.cell? ⟨w.heap.size, 1, none⟩ = some (.string ⟨rl.toArray⟩) ∧ w'.cell? ⟨w.heap.size, 2, none⟩ = some (.int .i64 sv) ∧ w'.cell? ⟨w.heap.size, 3, none⟩ = some (.string ⟨fm.toArray⟩) ∧ w'.cell? ⟨w.heap.size, 4, none⟩ = some (.bool true) ∧ w'.cell? ⟨w.heap.size, 5, none⟩ = some (.int .i64 uy) ∧ w'.cell? ⟨w.heap.size, 6, none⟩ = some (.int .i64 um) ∧ w'.cell? ⟨w.heap.size, 7, none⟩ = some (.int .i64 dk) ∧ w'.cell? ⟨w.heap.size, 8, none⟩ = some (.int .i64 dw) ∧ w'.cell? ⟨w.heap.size, 9, none⟩ = some (.int .i64 dn) ∧ w'.cell? ⟨w.heap.size, 10, none⟩ = some (.int .i64 sc) ∧ w'.cell? ⟨w.heap.size, 11, none⟩ = some (.int .i64 ck)) (first | exact SD | exact cells12 X.out.blk | go_keep | exact cells12 (X.out.drew.next k2).blk) (first
    | (go_at_call 80; refine (C1.out _ (HA.out.next (bdrew X.out.bel))).mono ?_; rintro e w2 ⟨rfl, k2⟩; simp only []))
  have X2 := Lib.hid ((X.out.drew.next k2).more (.cells #[.string ⟨T0.toArray⟩, .string ⟨T1.toArray⟩, .string ⟨fm.toArray⟩] 9))
  have OW := Lib.hid (own_lit3 w2 T0 T1 fm w2.heap.size (Nat.le_refl _))
  have XQ : Hid (w.heap.size < w2.heap.size) := Lib.hid (X.out.drew.next k2).lt
  obtain ⟨xb0, xb1, xb2, xb3, xb4, xb5, xb6, xb7, xb8, xb9, xb10, xb11⟩ := cells12 (X.out.drew.next k2).blk
  have xbq := XQ.out
  clear SD xa0 xa1 xa2 xa3 xa4 xa5 xa6 xa7 xa8 xa9 xa10 xa11 xaq
  rcases V with ⟨hv, rfl⟩ | ⟨sv', hr, rfl, rfl, rfl⟩ | ⟨rfl, rfl, rfl⟩
  all_goals
    go_wp2_with (first
      | (go_at_call 68
         refine (mname_is um T5 e5 _ (HA.out.next X2.out.bel).l.ww H5).mono ?_
         rintro e w3 ⟨rfl, k3⟩
         have X3 := Lib.hid (X2.out.next k3)
         have OW3 := Lib.hid (own_next OW.out k3)
         have B3 : Hid (w2.heap.size ≤ w3.heap.size) := Lib.hid (Nat.le_trans (by simp) k3.size)
         clear k3 xb0 xb1 xb2 xb3 xb4 xb5 xb6 xb7 xb8 xb9 xb10 xb11 xbq X2 OW
         obtain ⟨xc0, xc1, xc2, xc3, xc4, xc5, xc6, xc7, xc8, xc9, xc10, xc11⟩ := cells12 X3.out.blk
         have xcq := X3.out.lt
         simp only [])
      | (go_at_call 69
         refine (dpr_is dk dw dn T6 _ (HA.out.next X3.out.bel).l.ff H6).mono ?_
         rintro e w4 ⟨⟨x4, rfl⟩, k4⟩
         have X4 := Lib.hid (X3.out.next k4)
         have OW4 := Lib.hid (own_next OW3.out k4)
         have B4 : Hid (w2.heap.size ≤ w4.heap.size) := Lib.hid (Nat.le_trans B3.out k4.size)
         clear k4 xc0 xc1 xc2 xc3 xc4 xc5 xc6 xc7 xc8 xc9 xc10 xc11 xcq X3 OW3 B3
         obtain ⟨xd0, xd1, xd2, xd3, xd4, xd5, xd6, xd7, xd8, xd9, xd10, xd11⟩ := cells12 X4.out.blk
         have xdq := X4.out.lt
         simp only [])
      | (go_at_call 70
         refine (cpr_is sc ck T7 _ (HA.out.next X4.out.bel).l.pow (HA.out.next X4.out.bel).mrk H7).mono ?_
         rintro e w5 ⟨⟨x5, rfl⟩, k5⟩
         have X5 := Lib.hid (X4.out.next k5)
         have OW5 := Lib.hid (own_next OW4.out k5)
         have B5 : Hid (w2.heap.size ≤ w5.heap.size) := Lib.hid (Nat.le_trans B4.out k5.size)
         clear k5 xd0 xd1 xd2 xd3 xd4 xd5 xd6 xd7 xd8 xd9 xd10 xd11 xdq X4 OW4 B4
         obtain ⟨xe0, xe1, xe2, xe3, xe4, xe5, xe6, xe7, xe8, xe9, xe10, xe11⟩ := cells12 X5.out.blk
         have xeq := X5.out.lt
         simp only [])
      | (go_at_call 72
         refine (witoa_is uy D _ HU.out.1 HU.out.2 (HA.out.next X5.out.bel).l.ww.pow HD).mono ?_
         rintro e w6 ⟨rfl, k6⟩
         have X6 := Lib.hid (X5.out.next k6)
         have OW6 := Lib.hid (own_next OW5.out k6)
         have B6 : Hid (w2.heap.size ≤ w6.heap.size) := Lib.hid (Nat.le_trans B5.out k6.size)
         clear k6 xe0 xe1 xe2 xe3 xe4 xe5 xe6 xe7 xe8 xe9 xe10 xe11 xeq X5 OW5 B5
         simp only [])
      | (at_builtin; refine wpList_sapp rfl (.tmp 50) (.tmp 58) rfl (base := w2.heap.size) (n := 3) (k := 4) (m := 7) (l := [T0, T1, fm]) (ys := [D, T5, T6, T7]) rfl rfl (OW6.out.alloc _) rfl ⟨w6.heap.size, 0, none⟩ rfl ?_ (by omega) (by have := B6.out; simp; omega) ?_
         · intro j p hp
           rw [show (⟨w6.heap.size, 0, none⟩ : Addr).add j = ⟨w6.heap.size, 0 + j, none⟩ from Go.WideShapes.add_plain _ _ _, Nat.zero_add]
           exact (ListAt.newE w6 [D, T5, T6, T7] _ _ _ rfl rfl).cell j p hp
         intro A7 c7 w7 own7 b7
         have X7 := Lib.hid ((X6.out.more _).nextB b7 XQ.out (by have := XQ.out; omega) (by have := B6.out; simp; omega))
         have OA := Lib.hid own7
         clear own7 b7 X6 OW6 B6
         simp only [])
      | (go_at_call 21
         refine (lera_is A7 7 c7 ([T0, T1, fm] ++ [D, T5, T6, T7]) _ (own_arg OA.out).1 HLN.out (own_arg OA.out).2.2 (HA.out.next X7.out.bel).l _ _ HR).mono ?_
         rintro e w8 ⟨rfl, k8⟩
         have AR : Hid (7 ≤ c7 ∧ ArgW A7 ([T0, T1, fm] ++ [D, T5, T6, T7]) w8) := Lib.hid ⟨(own_arg OA.out).2.1, (own_arg OA.out).2.2.next k8⟩
         have X8 := Lib.hid (X7.out.next k8)
         clear k8 X7 OA
         obtain ⟨xf0, xf1, xf2, xf3, xf4, xf5, xf6, xf7, xf8, xf9, xf10, xf11⟩ := cells12 X8.out.blk
         have xfq := X8.out.lt
         simp only [evV]))
    go_ret2
    first | exact .inr ⟨rfl, rfl, (X8.out.more _).bel⟩ | exact .inl ⟨rfl, _, _, rfl, AR.out.1, AR.out.2.next ((Below.refl _ _).alloc (Nat.le_refl _) _), (X8.out.more _).bel⟩
set_option maxRecDepth 20000 in
set_option maxHeartbeats 51200000 in
theorem ew_f (of sv uy um dk dw dn sc ck : Int) (rl fm : List UInt8) (w : World) (H : LaidQ w) (HLN : Hid (∀ p ∈ ewL ⟨of, rl, sv, fm, false, uy, um, dk, dw, dn, sc, ck⟩, p.length ≤ 500)) (r' : EV) (v : Int) (ok : Bool) (V : EwF of sv uy um dk dw dn sc ck rl fm r' v ok) (HR : Hid (erS (ewL ⟨of, rl, sv, fm, false, uy, um, dk, dw, dn, sc, ck⟩) = r' ∧ erX (ewL ⟨of, rl, sv, fm, false, uy, um, dk, dw, dn, sc, ck⟩) = v)) :
    Calls Tryz.prog 30 #[evV ⟨of, rl, sv, fm, false, uy, um, dk, dw, dn, sc, ck⟩] w (WordsIs (ewL ⟨of, rl, sv, fm, false, uy, um, dk, dw, dn, sc, ck⟩) ok w) := by
  obtain ⟨T0, h0⟩ : ∃ T, svT of = T := ⟨_, rfl⟩
  obtain ⟨T1, h1⟩ : ∃ T, ruT rl sv = T := ⟨_, rfl⟩
  have EW : ewL ⟨of, rl, sv, fm, false, uy, um, dk, dw, dn, sc, ck⟩ = [T0, T1, fm] := by show [svT of, ruT rl sv, fm] = _; rw [h0, h1]
  rw [EW] at HR HLN ⊢
  have H0 := Lib.hid h0
  have C1 : Hid (∀ W, LaidQ W → Calls Tryz.prog 80 #[evV ⟨of, rl, sv, fm, false, uy, um, dk, dw, dn, sc, ck⟩] W fun e w' => e = .returned (.string ⟨T1.toArray⟩) ∧ Below W.heap.size W w') := Lib.hid fun W h => rut_is ⟨of, rl, sv, fm, false, uy, um, dk, dw, dn, sc, ck⟩ T1 W h.l.pow (Lib.hid h1)
  have HA := Lib.hid H
  clear h0 h1 H EW
  simp only [evV] at C1 ⊢
  go_enter Tryz.func30, Tryz.ntmps30
  go_wp2_with (go_at_call 71
               refine (ctx_is of T0 _ (HA.out.next ((Below.refl _ _).alloc (Nat.le_refl _) _)).l.pow H0).mono ?_
               rintro e w1 ⟨⟨x1, rfl⟩, k1⟩
               have X := Lib.hid ((BlkN.make (Below.refl _ _) _ _).next k1)
               obtain ⟨xa0, xa1, xa2, xa3, xa4, xa5, xa6, xa7, xa8, xa9, xa10, xa11⟩ := cells12 X.out.blk
               have xaq := X.out.lt
               clear k1
               simp only [])
  have SD : w1.drew.cell? ⟨w.heap.size, 0, none⟩ = some (.int .i64 of) ∧ w1.drew.cell? ⟨w.heap.size, 1, none⟩ = some (.string ⟨rl.toArray⟩) ∧ w1.drew.cell? ⟨w.heap.size, 2, none⟩ = some (.int .i64 sv) ∧ w1.drew.cell? ⟨w.heap.size, 3, none⟩ = some (.string ⟨fm.toArray⟩) ∧ w1.drew.cell? ⟨w.heap.size, 4, none⟩ = some (.bool false) ∧ w1.drew.cell? ⟨w.heap.size, 5, none⟩ = some (.int .i64 uy) ∧ w1.drew.cell? ⟨w.heap.size, 6, none⟩ = some (.int .i64 um) ∧ w1.drew.cell? ⟨w.heap.size, 7, none⟩ = some (.int .i64 dk) ∧ w1.drew.cell? ⟨w.heap.size, 8, none⟩ = some (.int .i64 dw) ∧ w1.drew.cell? ⟨w.heap.size, 9, none⟩ = some (.int .i64 dn) ∧ w1.drew.cell? ⟨w.heap.size, 10, none⟩ = some (.int .i64 sc) ∧ w1.drew.cell? ⟨w.heap.size, 11, none⟩ = some (.int .i64 ck) := cells12 X.out.drew.blk
  go_region_held3 (fun w' => w'.cell? ⟨w.heap.size, 0, none⟩ = some (.int .i64 of) ∧ w'.cell? ⟨w.heap.size, 1, none⟩ = some (.string ⟨rl.toArray⟩) ∧ w'.cell? ⟨w.heap.size, 2, none⟩ = some (.int .i64 sv) ∧ w'.cell? ⟨w.heap.size, 3, none⟩ = some (.string ⟨fm.toArray⟩) ∧ w'.cell? ⟨w.heap.size, 4, none⟩ = some (.bool false) ∧ w'.cell? ⟨w.heap.size, 5, none⟩ = some (.int .i64 uy) ∧ w'.cell? ⟨w.heap.size, 6, none⟩ = some (.int .i64 um) ∧ w'.cell? ⟨w.heap.size, 7, none⟩ = some (.int .i64 dk) ∧ w'.cell? ⟨w.heap.size, 8, none⟩ = some (.int .i64 dw) ∧ w'.cell? ⟨w.heap.size, 9, none⟩ = some (.int .i64 dn) ∧ w'.cell? ⟨w.heap.size, 10, none⟩ = some (.int .i64 sc) ∧ w'.cell? ⟨w.heap.size, 11, none⟩ = some (.int .i64 ck)) (first | exact SD | exact cells12 X.out.blk | go_keep | exact cells12 (X.out.drew.next k2).blk) (first
    | (go_at_call 80; refine (C1.out _ (HA.out.next (bdrew X.out.bel))).mono ?_; rintro e w2 ⟨rfl, k2⟩; simp only []))
  have X2 := Lib.hid ((X.out.drew.next k2).more (.cells #[.string ⟨T0.toArray⟩, .string ⟨T1.toArray⟩, .string ⟨fm.toArray⟩] 9))
  have OW := Lib.hid (own_lit3 w2 T0 T1 fm w2.heap.size (Nat.le_refl _))
  have XQ : Hid (w.heap.size < w2.heap.size) := Lib.hid (X.out.drew.next k2).lt
  obtain ⟨xb0, xb1, xb2, xb3, xb4, xb5, xb6, xb7, xb8, xb9, xb10, xb11⟩ := cells12 (X.out.drew.next k2).blk
  have xbq := XQ.out
  clear SD xa0 xa1 xa2 xa3 xa4 xa5 xa6 xa7 xa8 xa9 xa10 xa11 xaq
  rcases V with ⟨hv, rfl⟩ | ⟨sv', hr, rfl, rfl, rfl⟩ | ⟨rfl, rfl, ⟨hd, rfl⟩ | ⟨rfl, ⟨hd, rfl⟩ | ⟨rfl, ⟨hd, rfl⟩ | ⟨rfl, ⟨hd, rfl⟩ | ⟨rfl, ⟨hd, rfl⟩ | ⟨rfl, ⟨hd, rfl⟩ | ⟨rfl, ⟨hd, rfl⟩ | ⟨rfl, rfl⟩⟩⟩⟩⟩⟩⟩⟩
  all_goals
    go_wp2_with (go_at_call 21
                 refine (lera_is _ 3 3 [T0, T1, fm] _ (own_arg OW.out).1 HLN.out (own_arg OW.out).2.2 (HA.out.next X2.out.bel).l _ _ HR).mono ?_
                 rintro e w8 ⟨rfl, k8⟩
                 have AR : Hid (3 ≤ 3 ∧ ArgW (some ⟨w2.heap.size, 0, none⟩) [T0, T1, fm] w8) := Lib.hid ⟨Nat.le_refl _, (own_arg OW.out).2.2.next k8⟩
                 have X8 := Lib.hid (X2.out.next k8)
                 clear k8 X2 OW xb0 xb1 xb2 xb3 xb4 xb5 xb6 xb7 xb8 xb9 xb10 xb11 xbq
                 obtain ⟨xf0, xf1, xf2, xf3, xf4, xf5, xf6, xf7, xf8, xf9, xf10, xf11⟩ := cells12 X8.out.blk
                 have xfq := X8.out.lt
                 simp only [evV])
    go_ret2
    first | exact .inr ⟨rfl, rfl, (X8.out.more _).bel⟩ | exact .inl ⟨rfl, _, _, rfl, AR.out.1, AR.out.2.next ((Below.refl _ _).alloc (Nat.le_refl _) _), (X8.out.more _).bel⟩
/-- EraWords of an era. -/
theorem ewords_is (x : EV) (w : World) (H : LaidQ w) (hu : in64' x.uy) (h1 : x.rl.length ≤ 100) (h2 : x.fm.length ≤ 100) :
    Calls Tryz.prog 30 #[evV x] w (WordsIs (ewL x) (ewB x) w) := by
  have HLN := Lib.hid (ewL_lens x h1 h2 hu)
  have KT : ∀ ok, ewB x = ok → x.en = true → EwT x.of x.sv x.uy x.um x.dk x.dw x.dn x.sc x.ck x.rl x.fm (erS (ewL x)) (erX (ewL x)) ok := by
    rintro ok rfl hen
    by_cases hx : erX (ewL x) = 0
    rotate_left
    · exact .inl ⟨by simpa using hx, (decide_eq_false fun c => hx c.1).symm⟩
    obtain ⟨rl', sv', hrl, ⟨-, hs⟩ | ⟨h, -⟩⟩ := era_read x hx
    rotate_left
    · rw [hen] at h; cases h
    have e0 : ∀ a b, ({ x with rl := a, sv := b } : EV) = ⟨x.of, a, b, x.fm, true, x.uy, x.um, x.dk, x.dw, x.dn, x.sc, x.ck⟩ := fun a b => by rw [← hen]
    rcases hrl with ⟨e1, e2⟩ | ⟨hne, e1⟩
    · have e3 : erS (ewL x) = x := by rw [hs, e1, e2]
      exact .inr (.inr ⟨by rw [hs, e0, e1, e2], hx.symm, (decide_eq_true ⟨hx, e3⟩).symm⟩)
    · exact .inr (.inl ⟨sv', by cases h : x.rl <;> simp_all, by rw [hs, e0, e1], hx.symm, (decide_eq_false fun c => hne (by rw [← e1]; exact (congrArg EV.rl (hs.symm.trans c.2)).symm)).symm⟩)
  have KF : ∀ ok, ewB x = ok → x.en = false → EwF x.of x.sv x.uy x.um x.dk x.dw x.dn x.sc x.ck x.rl x.fm (erS (ewL x)) (erX (ewL x)) ok := by
    rintro ok rfl hen
    by_cases hx : erX (ewL x) = 0
    rotate_left
    · exact .inl ⟨by simpa using hx, (decide_eq_false fun c => hx c.1).symm⟩
    obtain ⟨rl', sv', hrl, ⟨h, -⟩ | ⟨-, hs⟩⟩ := era_read x hx
    · rw [hen] at h; cases h
    rcases hrl with ⟨e1, e2⟩ | ⟨hne, e1⟩
    · rw [e1, e2] at hs
      refine .inr (.inr ⟨hs, hx.symm, ?_⟩)
      have no : ∀ (f : EV → Int), f ⟨x.of, x.rl, x.sv, x.fm, false, 0, 0, 0, 0, 0, 0, 0⟩ = 0 → (f x ≠ 0 → ((0 : Int) == f x) = false ∧ false = ewB x) := fun f h0 hn =>
        ⟨by simpa using fun e => hn e.symm, (decide_eq_false fun c => hn (by rw [← hs.symm.trans c.2]; exact h0)).symm⟩
      have st : ∀ (f : EV → Int), f ⟨x.of, x.rl, x.sv, x.fm, false, 0, 0, 0, 0, 0, 0, 0⟩ = 0 → ∀ {Q : Prop}, (f x = 0 → Q) → (((0 : Int) == f x) = false ∧ false = ewB x) ∨ (0 = f x ∧ Q) := fun f h0 Q k => by
        by_cases h : f x = 0
        · exact .inr ⟨h.symm, k h⟩
        · exact .inl (no f h0 h)
      refine st EV.uy rfl fun c5 => st EV.um rfl fun c6 => st EV.dk rfl fun c7 => st EV.dw rfl fun c8 => st EV.dn rfl fun c9 => st EV.sc rfl fun c10 => st EV.ck rfl fun c11 => ?_
      refine (decide_eq_true ⟨hx, ?_⟩).symm
      rw [hs]
      obtain ⟨of, rl, sv, fm, en, uy, um, dk, dw, dn, sc, ck⟩ := x
      simp only at hen c5 c6 c7 c8 c9 c10 c11
      subst hen c5 c6 c7 c8 c9 c10 c11
      rfl
    · exact .inr (.inl ⟨sv', by cases h : x.rl <;> simp_all, by rw [hs, e1], hx.symm, (decide_eq_false fun c => hne (by rw [← e1]; exact (congrArg EV.rl (hs.symm.trans c.2)).symm)).symm⟩)
  cases hen : x.en with
  | true =>
    have V := KT _ rfl hen
    obtain ⟨of, rl, sv, fm, en, uy, um, dk, dw, dn, sc, ck⟩ := x
    simp only at hen hu
    subst hen
    exact ew_t of sv uy um dk dw dn sc ck rl fm w H hu HLN _ _ _ V (Lib.hid ⟨rfl, rfl⟩)
  | false =>
    have V := KF _ rfl hen
    obtain ⟨of, rl, sv, fm, en, uy, um, dk, dw, dn, sc, ck⟩ := x
    simp only at hen
    subst hen
    exact ew_f of sv uy um dk dw dn sc ck rl fm w H HLN _ _ _ V (Lib.hid ⟨rfl, rfl⟩)
end Go.Proofs.YtfmehdophoejiaaGreatDoor
