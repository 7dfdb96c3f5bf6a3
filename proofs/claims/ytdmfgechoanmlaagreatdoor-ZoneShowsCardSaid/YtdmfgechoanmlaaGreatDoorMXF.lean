/- fire.between at whatever instants of the calendar: it hands on firings of the rules, and ends.
fire.turns at whatever instants of the calendar: it hands on firings of the rules, and ends.
fire.Latest at whatever instant of the calendar: a firing of one of the rules, or none.
What an era shows at whatever instant of the calendar: something, or what is wrong; no call of it panics.
zone.At at whatever instant of a world's zone that may be: it shows something, or tells what is wrong. -/
import Derived.Test.YtdmfgechoanmlaaGreatDoorZmA
import Derived.Test.YtdmfgechoanmlaaGreatDoorZmC
import Derived.Test.YtdmfgechoanmlaaGreatDoorZmE
import Derived.Test.YtdmfgechoanmlaaGreatDoorMYE
import Derived.Test.YtdmfgechoanmlaaGreatDoorZmG
import Derived.Test.YtdmfgechoanmlaaGreatDoorMXA
import Derived.Deep.RegionHeld3
namespace Go.Proofs.YtdmfgechoanmlaaGreatDoor
open Go Go.RowKit Go.Sort
attribute [local go_sem] Oper.semAt_some
attribute [local go_sem] fvV

/-- A firing of one of the rules, in a year of the calendar. -/
def GdF (rs : List RV) (f : FV) : Prop := FirOf rs f ∧ -4000000000000 ≤ f.nm ∧ f.nm ≤ 4000000000000
theorem GdF.of {rs : List RV} (hok : ∀ r ∈ rs, okR r) {a b : Int} (h0 : -99000 ≤ a) (h1 : b ≤ 99000) {f : FV} (h : f ∈ iso (ltOf cfF) (allF rs a b)) : GdF rs f := by
  obtain ⟨r, hr, y, y1, y2, hy, rfl⟩ := (allF_mem (by omega) (by omega)).1 (iso_mem.1 h)
  have hb := frF_bd (hok r hr) hy
  have hn := ny_near (y := y) ⟨by omega, by omega⟩
  exact ⟨⟨r, hr, y, hy, rfl⟩, by omega, by omega⟩
/-- What is known at the head of the loop over years. -/
def BtLf (n0 m1 B : Nat) (A0 : Option Addr) (n c0 : Nat) (rs : List RV) (lo hi y0 y _beg k : Int) (J : List FV → World → Prop) (N : Nat) (W : World) : Prop :=
  y0 ≤ y ∧ 1 ≤ k ∧ k ≤ 256 ∧ BtB n0 m1 B A0 n c0 rs lo hi W ∧ N ≤ W.heap.size ∧ ∃ pre, J pre W
/-- The chunk's row of firings, of which some are told. -/
structure BtCf (n0 m1 B : Nat) (A0 : Option Addr) (n c0 : Nat) (rs : List RV) (lo hi : Int) (A : Option Addr) (C : List FV) (J : List FV → World → Prop) (N : Nat) (W : World) : Prop where
  bb : BtB n0 m1 B A0 n c0 rs lo hi W
  rw' : RowsAt 4 (fun f => (cF f).toArray) A C W
  fr : ∀ x, A = some x → m1 ≤ x.block
  sz : N ≤ W.heap.size
  j : ∃ pre, J pre W
theorem BtCf.step {n0 m1 B : Nat} {A0 : Option Addr} {n c0 : Nat} {rs : List RV} {lo hi : Int} {A : Option Addr} {C : List FV} {J : List FV → World → Prop} {N : Nat} {W W' : World} (h : BtCf n0 m1 B A0 n c0 rs lo hi A C J N W) (k : Below n0 W W') (kp : KpHi m1 W W')
    (hj : ∃ pre, J pre W') : BtCf n0 m1 B A0 n c0 rs lo hi A C J N W' := ⟨h.bb.keep k kp, fun j x hx => by
  obtain ⟨L, off, q, hl, hc⟩ := h.rw' j x hx
  have hm := h.fr _ q
  exact ⟨L, off, q, Nat.lt_of_lt_of_le hl k.size, fun k v hk hv => kp.cell hm (hc k v hk hv)⟩, h.fr, Nat.le_trans h.sz k.size, hj⟩

set_option maxRecDepth 20000 in
set_option maxHeartbeats 4000000 in
theorem betw_far (N : Nat) (hN : 5 ≤ N) (n0 m1 B : Nat) (A0 : Option Addr) (n c0 : Nat) (rs : List RV) (lo hi : Int) (w : World) (hB : BtB n0 m1 B A0 n c0 rs lo hi w) (hn : rs.length = n) (hn1 : n ≤ 1000) (hn0 : n0 ≤ w.heap.size) (hok : ∀ r ∈ rs, okR r)
    (hlo : inS lo) (hhi : inS hi) (hyb : -90000 ≤ ySec lo ∧ ySec lo ≤ 90000) (hyh : ySec hi + 1 ≤ 90000 ∧ -90000 ≤ ySec hi) :
    SeqKp N Tryz.prog 142 #[.pointer (some ⟨B, 0, none⟩), .pointer (some ⟨B + 1, 0, none⟩), .pointer (some ⟨B + 2, 0, none⟩)] encG (fun _ x => GdF rs x) n0 (KpHi m1) (fun _ => True) (fun _ => True) w := by
  intro l J Jx W hW hJ hJx hYd hj0
  have HB := Lib.hid (hB.next hn0 hW)
  have SPN := Lib.hid (fun X (h : RowsAt 11 cR A0 rs X) => span_is A0 n c0 rs _ _ X h hn hn1 rfl rfl)
  obtain ⟨a, ha⟩ : ∃ a, max (spA rs) (-100000) = a := ⟨_, rfl⟩
  obtain ⟨b, hb⟩ : ∃ b, min (spB rs) 100000 = b := ⟨_, rfl⟩
  have hlo1 : -4611686018427387904 ≤ lo ∧ lo ≤ 4611686018427387904 := by unfold inS at hlo; omega
  have hhi1 : -4611686018427387904 ≤ hi ∧ hi ≤ 4611686018427387904 := by unfold inS at hhi; omega
  obtain ⟨yl, hyl⟩ : ∃ yl, (if lo < smS (ySec lo) then ySec lo - 1 else ySec lo) = yl := ⟨_, rfl⟩
  obtain ⟨y0, h0⟩ : ∃ y0, max yl (max (spA rs) (-100000)) = y0 := ⟨_, rfl⟩
  obtain ⟨yL, hL⟩ : ∃ yL, min (min (spB rs) 100000) (ySec hi + 1) = yL := ⟨_, rfl⟩
  obtain ⟨p, hp⟩ : ∃ p, ySec lo = p := ⟨_, rfl⟩
  obtain ⟨q, hq⟩ : ∃ q, ySec hi = q := ⟨_, rfl⟩
  obtain ⟨sp, hsp⟩ : ∃ s, smS p = s := ⟨_, rfl⟩
  rw [ha, hb] at SPN
  rw [ha] at h0
  rw [hb, hq] at hL
  rw [hp] at hyl hyb
  rw [hsp] at hyl
  rw [hq] at hyh
  have YL := Lib.hid (fun X (h : AhAt X) => yearOf_is lo p X h hlo hp)
  have YH := Lib.hid (fun X (h : AhAt X) => yearOf_is hi q X h hhi hq)
  have SM := Lib.hid (fun X (h : AhAt X) => summer_is p sp X h (by omega) (by omega) hsp)
  have HJ := Lib.hid hJ
  have HYd := Lib.hid hYd
  have J0 := Lib.hid hj0
  have HN := Lib.hid hn
  have HOK := Lib.hid hok
  have HW0 : Hid (n0 ≤ W.heap.size) := Lib.hid (Nat.le_trans hn0 hW.size)
  have c0' := cel1 HB.out.b0
  have c1' := cel1 HB.out.b1
  have c2' := cel1 HB.out.b2
  clear hB hn hn0 hok hlo hhi hW hJ hJx hYd hj0 ha hb hp hq
  refine callsIn_of_wp Tryz.func142 rfl trivial ?_ rfl
  simp only [Tryz.ntmps142, List.size_toArray, List.length_cons, List.length_nil, Nat.reduceAdd, Nat.reduceSub, Array.replicate_succ, Array.replicate_zero, List.push_toArray, List.append_toArray, List.nil_append, List.cons_append]
  have h1 : 1 ≤ N := by omega
  gi_wp2_with (first
    | (refine ⟨trivial, ?_⟩; gi_at_call 143; refine (callsIn_wide.2 (SPN.out _ HB.out.rl.1)).mono ?_; rintro e w1 ⟨rfl, k1⟩
       have HB1 := Lib.hid (HB.out.next HW0.out k1)
       have K1 := Lib.hid k1
       clear k1 c0' c1' c2'
       have c1' := cel1 HB1.out.b1
       simp only [])
    | (refine ⟨trivial, ?_⟩; gi_at_call 120; refine (callsIn_wide.2 (YL.out _ HB1.out.ah)).mono ?_; rintro e w2 ⟨rfl, k2⟩
       have HB2 := Lib.hid (HB1.out.next (Nat.le_trans HW0.out K1.out.size) k2)
       have K2 := Lib.hid (K1.out.trans (k2.mono K1.out.size))
       clear k2 c1'
       have c1' := cel1 HB2.out.b1
       simp only []))
  have mixed : Tryz.prog.follows .mixedOrders = true := by kernel_rfl
  have HN2 : n0 ≤ w2.heap.size := Nat.le_trans HW0.out K2.out.size
  have V : (lo < sp ∧ p - 1 = yl) ∨ (¬ lo < sp ∧ p = yl) := by
    by_cases h : lo < sp
    · rw [if_pos h] at hyl; exact .inl ⟨h, hyl⟩
    · rw [if_neg h] at hyl; exact .inr ⟨h, hyl⟩
  have hl0 : -99000 ≤ y0 := by rcases V with ⟨-, h⟩ | ⟨-, h⟩ <;> omega
  have hl1 : yL ≤ 90000 := by omega
  have d1 := bel_cell c1'
  have w0 : IntKind.i64.wrap (p - 1) = p - 1 := IntWalk.i64_in _ (by omega)
  have mm0 := fmax2 Tryz.prog 3 yl a y0 h0
  have mm1 := fmin2 Tryz.prog 3 b (q + 1) yL hL
  have w1' : IntKind.i64.wrap (q + 1) = q + 1 := IntWalk.i64_in _ (by omega)
  clear c1' hyl
  refine wpIn_calm ?_
  refine wpIn_wide.2 ?_
  refine region_bel mixed (by kernel_rfl) ?_
  repeat (quiet_step ((go_at_call 144; rename_i y; refine (SM.out _ (HB2.out.next HN2 y.k).ah).mono ?_; rintro e w6 ⟨rfl, k6⟩; exact ⟨rfl, ⟨w6, y.k.trans (k6.mono y.k.size)⟩, rfl⟩)))
  refine wpQuiet_nil ?_
  rintro w6 ⟨x6, hx6⟩
  have k6 : Below w2.heap.size w2 w6 := hx6 ▸ x6.k
  have HB6 := Lib.hid (HB2.out.next HN2 k6)
  have K6 := Lib.hid (K2.out.trans (k6.mono K2.out.size))
  have HN6 : n0 ≤ w6.heap.size := Nat.le_trans HN2 k6.size
  clear hx6 x6 k6 d1
  simp only [calmQ]
  have c2' := cel1 HB6.out.b2
  have c1' := cel1 HB6.out.b1
  rcases V with ⟨hls, hpy⟩ | ⟨hls, hpy⟩
  all_goals
    gi_wp2_with (first
      | (refine ⟨trivial, ?_⟩; gi_at_call 120; refine (callsIn_wide.2 (YH.out _ HB6.out.ah)).mono ?_; rintro e w7 ⟨rfl, k7⟩
         have HB7 := Lib.hid (HB6.out.next HN6 k7)
         have K7 := Lib.hid (K6.out.trans (k7.mono K6.out.size))
         have HN7 : n0 ≤ w7.heap.size := Nat.le_trans HN6 k7.size
         clear k7 c1' c2'
         have c1' := cel1 HB7.out.b1
         simp only []))
    clear hls hpy c1'
    gi_loopw [7, 8, 9] (fun v7 v8 v9 wr => ∃ y beg k : Int, v7 = .int .i64 y ∧ v8 = .int .i64 beg ∧ v9 = .int .i64 k ∧ BtLf n0 m1 B A0 n c0 rs lo hi y0 y beg k J W.heap.size wr) (fun v7 _ _ _ => (yL + 1 - intOf v7).toNat)
    case atStart => exact ⟨y0, lo, 1, rfl, rfl, rfl, Int.le_refl _, by omega, by omega, HB7.out, K7.out.size, [], HJ.out [] _ _ none J0.out (grown_bel K7.out none) (fun r e => by cases e)⟩
    case round =>
      obtain ⟨y, beg, k, rfl, rfl, rfl, hy0, hk1, hk2, hBB, hsz, pre, hJp⟩ := hrel
      have HNr : n0 ≤ wr.heap.size := Nat.le_trans HW0.out hsz
      have BB := Lib.hid hBB
      have JP := Lib.hid hJp
      have e1' := cel1 hBB.b2
      have e0' := cel1 hBB.b0
      clear hBB hJp HB7 K7 HB6 K6 HB2 K2 HB1 K1
      by_cases hle : y ≤ yL
      · obtain ⟨s2, hs2⟩ : ∃ s, smS (y + k) = s := ⟨_, rfl⟩
        obtain ⟨e, he⟩ : ∃ e, chE hi y k = e := ⟨_, rfl⟩
        obtain ⟨b2, hb2⟩ : ∃ b, min (y + k) yL = b := ⟨_, rfl⟩
        have he2 : min s2 (hi + 1) = e := by rw [← he, ← hs2]; rfl
        have SM2 := Lib.hid (fun X (h : AhAt X) => summer_is (y + k) s2 X h (by omega) (by omega) hs2)
        have OR := Lib.hid (fun X (h : LaidF X) (h2 : RowsAt 11 cR A0 rs X) => callsIn_wide.1 (forder_in A0 n c0 rs y b2 X h h2 HN.out hn1 HOK.out (by omega) (by omega) (by omega) 5 (Nat.le_refl _)))
        have wy : IntKind.i64.wrap (y + k) = y + k := IntWalk.i64_in _ (by omega)
        have wh : IntKind.i64.wrap (hi + 1) = hi + 1 := IntWalk.i64_in _ (by omega)
        have wk2 : IntKind.i64.wrap (2 * k) = 2 * k := IntWalk.i64_in _ (by omega)
        have n1' := fmin2 Tryz.prog 3 s2 (hi + 1) e he2
        have n2' := fmin2 Tryz.prog 3 (y + k) yL b2 hb2
        have n3' := fmin2 Tryz.prog 3 (2 * k) 256 _ rfl
        have d1 := bel_cell e1'
        clear hs2 he he2 e1'
        gi_wp2
        refine wpIn_calm ?_
        refine wpIn_wide.2 ?_
        refine region_bel mixed (by kernel_rfl) ?_
        repeat (quiet_step ((go_at_call 144; rename_i y; refine (SM2.out _ (BB.out.next HNr y.k).ah).mono ?_; rintro e w6 ⟨rfl, k6⟩; exact ⟨rfl, ⟨w6, y.k.trans (k6.mono y.k.size)⟩, rfl⟩)))
        refine wpQuiet_nil ?_
        rintro w8 ⟨x8, hx8⟩
        have k8 : Below wr.heap.size wr w8 := hx8 ▸ x8.k
        have BB8 := Lib.hid (BB.out.next HNr k8)
        have HN8 : n0 ≤ w8.heap.size := Nat.le_trans HNr k8.size
        have J8 := Lib.hid (HJ.out _ _ _ none JP.out (grown_bel k8 none) (fun r e => by cases e))
        have S8 : W.heap.size ≤ w8.heap.size := Nat.le_trans hsz k8.size
        clear hx8 x8 k8 d1 e0'
        simp only [calmQ]
        have e0' := cel1 BB8.out.b0
        gi_wp2_with (first
          | (refine ⟨trivial, ?_⟩; gi_at_call 141; refine (callsIn_wide.2 (OR.out _ ⟨BB8.out.ah⟩ BB8.out.rl.1)).mono ?_; rintro e w9 ⟨A, c, rfl, hrw, k9, hfr⟩
             have BB9 := Lib.hid (BB8.out.next HN8 k9)
             have HN9 : n0 ≤ w9.heap.size := Nat.le_trans HN8 k9.size
             have J9 := Lib.hid (HJ.out _ _ _ none J8.out (grown_bel k9 none) (fun r e => by cases e))
             have S9 : W.heap.size ≤ w9.heap.size := Nat.le_trans S8 k9.size
             have RW := Lib.hid hrw
             have FR := Lib.hid hfr
             have K9 := k9.size
             clear k9 hrw hfr e0'
             simp only []))
        obtain ⟨m, hm⟩ : ∃ m, (allF rs y b2).length = m := ⟨_, rfl⟩
        obtain ⟨C, hC⟩ : ∃ C, iso (ltOf cfF) (allF rs y b2) = C := ⟨_, rfl⟩
        have hCm : C.length = m := by rw [← hC, iso_len, hm]
        have hm9 : m ≤ 5100000 := by
          have h := allF_len (rs := rs) (a := y) (b := b2) (by omega)
          rw [HN.out] at h
          omega
        have GD := Lib.hid (fun f (hf : f ∈ C) => GdF.of HOK.out (a := y) (b := b2) (by omega) (by omega) (show f ∈ iso (ltOf cfF) (allF rs y b2) by rw [hC]; exact hf))
        rw [hC] at RW
        simp only [hm]
        have HCM := Lib.hid hCm
        have BC9 : Hid (BtCf n0 m1 B A0 n c0 rs lo hi A C J W.heap.size w9) := Lib.hid ⟨BB9.out, RW.out, fun x hx => by have h9 := FR.out x hx; have h8 := (Array.getElem?_eq_some_iff.1 BB8.out.b2).1; have h7 := BB8.out.hm; omega, S9, pre, J9.out⟩
        clear hm hC hCm BB9 J9 S9 RW FR K9 J8 S8 BB JP
        gi_loopw [57] (fun v wr2 => ∃ i : Nat, v = .int .i64 i ∧ i ≤ m ∧ BtCf n0 m1 B A0 n c0 rs lo hi A C J W.heap.size wr2) (fun v _ => m - (intOf v).toNat)
        case atStart => exact ⟨0, rfl, Nat.zero_le _, BC9.out⟩
        case round =>
          obtain ⟨i, rfl, hi', hBC⟩ := hrel
          have BC := Lib.hid hBC
          have hs2 := hBC.sz
          obtain ⟨pre2, hJ2⟩ := hBC.j
          have JQ := Lib.hid hJ2
          clear hBC BC9 hJ2
          by_cases hlt : i < m
          · have hltz : (i : Int) < (m : Int) := by omega
            obtain ⟨f, hf⟩ : ∃ f, C[i]? = some f := ⟨_, List.getElem?_eq_getElem (by rw [HCM.out]; exact hlt)⟩
            obtain ⟨L, off, rfl, hL, hc⟩ := BC.out.rw' i f hf
            have x0 : wr.cell? ⟨L, off + i * 4, none⟩ = some (.int .i64 f.nm) := hc 0 _ (by omega) rfl
            have x1 : wr.cell? ⟨L, off + i * 4 + 1, none⟩ = some (.int .i64 f.kd) := hc 1 _ (by omega) rfl
            have x2 : wr.cell? ⟨L, off + i * 4 + 2, none⟩ = some (.int .i64 f.sv) := hc 2 _ (by omega) rfl
            have x3 : wr.cell? ⟨L, off + i * 4 + 3, none⟩ = some (.string ⟨f.lt.toArray⟩) := hc 3 _ (by omega) rfl
            have bX : Below wr.heap.size wr (wr.alloc (.cells #[.int .i64 f.nm, .int .i64 f.kd, .int .i64 f.sv, .string ⟨f.lt.toArray⟩] 145)) := (Below.refl _ wr).alloc (Nat.le_refl _) _
            have HNX : n0 ≤ wr.heap.size := Nat.le_trans HW0.out hs2
            have BX := Lib.hid bX
            clear hc
            by_cases hin : beg ≤ f.nm ∧ f.nm < e
            · obtain ⟨i1, i2⟩ := hin
              have OK := Lib.hid (GD.out f (List.mem_of_getElem? hf))
              obtain ⟨fn, tmps, assign, body, hy, hR⟩ := HYd.out _ f _ (HJ.out.alloc (.cells #[.int .i64 f.nm, .int .i64 f.kd, .int .i64 f.sv, .string ⟨f.lt.toArray⟩] 145) JQ.out) OK.out (by rw [World.size_alloc]; omega)
              simp only [encG, fvV] at hy
              clear bX hf
              gi_wp2
              refine hR.mono ?_
              rintro e1 W3 (⟨rfl, hJ3, hk3, hkp⟩ | ⟨rfl, hJx3⟩)
              · have BC3 := Lib.hid (BC.out.step ((BX.out.mono HNX).trans hk3) ((KpHi.below BX.out).trans hkp) ⟨_, hJ3⟩)
                clear hJ3 hk3 hkp hy hR
                gi_wp2
                go_roundw
                case rel => exact ⟨i + 1, by go_num, by omega, BC3.out⟩
                case measure => simp [intOf]; omega
              · clear hy hR
                gi_wp2
                exact bodyPost_ret (results_none rfl _ _ _) rfl ⟨⟨_, rfl⟩, .inr ⟨_, trivial, hJx3⟩⟩
            · have BC3 := Lib.hid (BC.out.step (bX.mono HNX) (KpHi.below bX) ⟨pre2, HJ.out.alloc _ JQ.out⟩)
              have V2 : ¬ beg ≤ f.nm ∨ (beg ≤ f.nm ∧ ¬ f.nm < e) := by omega
              clear hin bX hf
              rcases V2 with i1 | ⟨i1, i2⟩
              all_goals
                gi_wp2
                refine ⟨fun _ h => (by cases h), ?_⟩
                gi_wp2
                go_roundw
                case rel => exact ⟨i + 1, by go_num, by omega, BC3.out⟩
                case measure => simp [intOf]; omega
          · obtain rfl : i = m := by omega
            have hltz : ¬ (i : Int) < (i : Int) := by omega
            have BB7 := Lib.hid BC.out.bb
            gi_wp2
            go_roundw
            case rel =>
              have BTL : BtLf n0 m1 B A0 n c0 rs lo hi y0 (y + k) e (min (2 * k) 256) J W.heap.size _ := ⟨by omega, by omega, by omega, BB7.out, hs2, pre2, JQ.out⟩
              first
                | exact ⟨y + k, e, min (2 * k) 256, rfl, rfl, rfl, BTL⟩
                | exact ⟨_, _, _, ⟨y + k, rfl, e, rfl, min (2 * k) 256, rfl, BTL⟩, rfl, rfl, rfl⟩
            case measure => simp [intOf]; omega
      · gi_wp2
        have JD := JP.out
        go_end0
        first | exact ⟨⟨_, rfl⟩, .inl ⟨pre, trivial, JD⟩⟩ | exact ⟨⟨_, rfl⟩, .inl ⟨pre, JD⟩⟩
end Go.Proofs.YtdmfgechoanmlaaGreatDoor

namespace Go.Proofs.YtdmfgechoanmlaaGreatDoor
open Go Go.RowKit Go.Sort Go.Shelf
attribute [local go_sem] Oper.semAt_some
attribute [local go_sem] fvV

theorem ah_sv {rs : List RV} (h : ∀ f, FirOf rs f → -90000 < f.sv ∧ f.sv < 90000) {s : Int} {f : FV} {b : Bool} (ha : AheadIs rs s f b) : -90000 < f.sv ∧ f.sv < 90000 := by
  rcases ha with ⟨-, h1, -⟩ | ⟨-, rfl, -⟩
  · exact h f h1
  · exact ⟨by decide, by decide⟩
/-- What a round keeps: the variable 'ahead', the loop's own yield. -/
structure TuIf (n0 m1 B Bq Ba l : Nat) (A0 : Option Addr) (n c0 : Nat) (rs : List RV) (off lo hi : Int) (J : List (Int × FV) → World → Prop) (N : Nat) (_ : List FV) (X : World) : Prop where
  tb : TuB n0 m1 B A0 n c0 rs off lo hi X
  q : X.heap[Bq]? = some (.cells #[.func (.yield l) #[] #[]] 197 (0, 0))
  a : ∃ g : FV, X.heap[Ba]? = some (.cells #[.int .i64 g.nm, .int .i64 g.kd, .int .i64 g.sv, .string ⟨g.lt.toArray⟩] 145 (0, 0)) ∧ (-90000 < g.sv ∧ g.sv < 90000)
  sz : N ≤ X.heap.size
  j : ∃ p, J p X
theorem TuIf.own {n0 m1 B Bq Ba l : Nat} {A0 : Option Addr} {n c0 : Nat} {rs : List RV} {off lo hi : Int} {J : List (Int × FV) → World → Prop} {N D : Nat} (hJ : OwnFrom N J) (hN : N ≤ D) (hn : n0 ≤ D) (hq : Bq < D) (ha : Ba < D) (hnn : ∀ X : World, N ≤ X.heap.size → n0 ≤ X.heap.size) : OwnFrom D (TuIf n0 m1 B Bq Ba l A0 n c0 rs off lo hi J N) := fun pre W W' row h hg hr => by
  have hk : Below n0 W W' := (Below.refl n0 W).grown hg (hnn W h.sz) (fun j hj => by have := (hr j hj).1; omega)
  have kp : KpHi m1 W W' := fun k cs t fz _ hkk => hg.block k (Array.getElem?_eq_some_iff.1 hkk).1 (fun e => by
    obtain ⟨-, o, ho, hc⟩ := hr k e.symm
    rw [hkk] at ho; cases ho; cases hc)
  have bl : ∀ k, k < D → k < W.heap.size → W'.heap[k]? = W.heap[k]? := fun k h1 h2 => hg.block k h2 (fun e => by have := (hr k e.symm).1; omega)
  obtain ⟨g, hg1, hg2⟩ := h.a
  exact ⟨h.tb.keep hk kp, (bl Bq hq (Array.getElem?_eq_some_iff.1 h.q).1).trans h.q, ⟨g, (bl Ba ha (Array.getElem?_eq_some_iff.1 hg1).1).trans hg1, hg2⟩, Nat.le_trans h.sz hg.size,
    by obtain ⟨p, hp⟩ := h.j; exact ⟨p, hJ _ W W' row hp hg (fun r e => ⟨by have := (hr r e).1; omega, (hr r e).2⟩)⟩⟩
theorem TuIf.next {n0 m1 B Bq Ba l : Nat} {A0 : Option Addr} {n c0 : Nat} {rs : List RV} {off lo hi : Int} {J : List (Int × FV) → World → Prop} {N : Nat} {pre : List FV} {X X' : World} (hJ : OwnFrom N J) (h : TuIf n0 m1 B Bq Ba l A0 n c0 rs off lo hi J N pre X) (hn : n0 ≤ X.heap.size) (k : Below X.heap.size X X') : TuIf n0 m1 B Bq Ba l A0 n c0 rs off lo hi J N pre X' := by
  obtain ⟨g, hg1, hg2⟩ := h.a
  exact ⟨h.tb.next hn k, (k.block Bq (Array.getElem?_eq_some_iff.1 h.q).1).trans h.q, ⟨g, (k.block Ba (Array.getElem?_eq_some_iff.1 hg1).1).trans hg1, hg2⟩, Nat.le_trans h.sz k.size, by obtain ⟨p, hp⟩ := h.j; exact ⟨p, hJ _ _ _ none hp (grown_bel k none) (fun r e => by cases e)⟩⟩

set_option maxRecDepth 20000 in
set_option maxHeartbeats 4000000 in
theorem turns_far (N : Nat) (hN : 8 ≤ N) (n0 m1 B : Nat) (A0 : Option Addr) (n c0 : Nat) (rs : List RV) (off lo hi : Int) (w : World) (hB : TuB n0 m1 B A0 n c0 rs off lo hi w) (hn : rs.length = n) (hn1 : n ≤ 1000) (hn0 : n0 ≤ w.heap.size)
    (hok : ∀ r ∈ rs, okR r ∧ 1900 ≤ r.fr) (hsvb : ∀ f, FirOf rs f → -90000 < f.sv ∧ f.sv < 90000) (hoff : -90000 < off ∧ off < 90000)
    (hlo : inS lo) (hhi : inS hi) (hyb : -90000 ≤ ySec lo ∧ ySec lo ≤ 90000) (hyh : ySec hi + 1 ≤ 90000 ∧ -90000 ≤ ySec hi) :
    SeqKo 145 N Tryz.prog 123 #[.pointer (some ⟨B, 0, none⟩), .pointer (some ⟨B + 2, 0, none⟩), .pointer (some ⟨B + 3, 0, none⟩), .pointer (some ⟨B + 1, 0, none⟩)] encT (fun _ x => GdF rs x.2) n0 (KpHi m1) (fun _ => True) (fun _ => True) w := by
  intro l J Jx W hW hJ hJx hYd hj0
  have h1 : 1 ≤ N := by omega
  have HB := Lib.hid (hB.next hn0 hW)
  have AHD := Lib.hid (fun X (h1 : LaidF X) (h2 : RowsAt 11 cR A0 rs X) => fahead_is A0 n c0 rs lo X h1 h2 hn hn1 hok hlo (by omega) (by omega))
  have BTW := Lib.hid (fun X => between_is A0 n c0 lo hi X)
  have HJ := Lib.hid hJ
  have HX := Lib.hid hJx
  have HYd := Lib.hid hYd
  have J0 := Lib.hid hj0
  have HN := Lib.hid hn
  have HSB := Lib.hid hsvb
  have HOK := Lib.hid hok
  have HW0 : Hid (n0 ≤ W.heap.size) := Lib.hid (Nat.le_trans hn0 hW.size)
  obtain ⟨Bq, hBq⟩ : ∃ k, W.heap.size = k := ⟨_, rfl⟩
  have hBs := HB.out.size
  obtain ⟨W1, hW1⟩ : ∃ W1, W.alloc (.cells #[.func (.yield l) #[] #[]] 197) = W1 := ⟨_, rfl⟩
  have k1 : Below W.heap.size W W1 := by rw [← hW1]; exact (Below.refl _ W).alloc (Nat.le_refl _) _
  have q1 : W1.heap[Bq]? = some (.cells #[.func (.yield l) #[] #[]] 197 (0, 0)) := by rw [← hW1, ← hBq]; exact World.alloc_heap_new W _
  have s1 : W1.heap.size = Bq + 1 := by rw [← hW1, ← hBq]; simp
  have HB1 := Lib.hid (HB.out.next HW0.out k1)
  have J1 := Lib.hid (HJ.out [] _ _ none J0.out (grown_bel k1 none) (fun r e => by cases e))
  have c0' := cel1 HB1.out.b0
  have c2' := cel1 HB1.out.b2
  have c3' := cel1 HB1.out.b3
  have Q1 := Lib.hid q1
  have S1 := Lib.hid s1
  have K1 := Lib.hid k1
  have HBQ := Lib.hid hBq
  clear hB hn hn0 hok hsvb hJ hJx hYd hj0 hW k1 q1 s1 hBq HB J0
  refine callsIn_of_wp_marks Tryz.func123 rfl trivial ?_ rfl
  simp only [Tryz.ntmps123, List.size_toArray, List.length_cons, List.length_nil, Nat.reduceAdd, Nat.reduceSub, Array.replicate_succ, Array.replicate_zero, List.push_toArray, List.append_toArray, List.nil_append, List.cons_append]
  subst hW1
  gi_wp2_with (first
    | (refine ⟨trivial, ?_⟩; gi_at_call 94; refine (callsIn_wide.2 (AHD.out _ ⟨HB1.out.ah⟩ HB1.out.rl.1)).mono ?_; rintro e w2 ⟨f, b, rfl, hah, k2⟩
       have k3 := k2.trans (((Below.refl w2.heap.size w2).alloc (Nat.le_refl _) (.cells #[.int .i64 f.nm, .int .i64 f.kd, .int .i64 f.sv, .string ⟨f.lt.toArray⟩] 145)).mono k2.size)
       have HN1 := Lib.hid (Nat.le_trans HW0.out K1.out.size)
       have HB3 := Lib.hid (HB1.out.next HN1.out k3)
       have Q3 := Lib.hid ((k3.block _ (Array.getElem?_eq_some_iff.1 Q1.out).1).trans Q1.out)
       have A3 := Lib.hid (heap_alloc_new w2 (.cells #[.int .i64 f.nm, .int .i64 f.kd, .int .i64 f.sv, .string ⟨f.lt.toArray⟩] 145))
       have J3 := Lib.hid (HJ.out [] _ _ none J1.out (grown_bel k3 none) (fun r e => by cases e))
       have F3 := Lib.hid (ah_sv HSB.out hah)
       have S3 := Lib.hid k2.size
       clear k2 k3 hah c0' c2' c3'
       have c0' := cel1 HB3.out.b0
       have c2' := cel1 HB3.out.b2
       have c3' := cel1 HB3.out.b3
       simp only [fvV])
    | (refine ⟨trivial, ?_⟩; gi_at_call 124; refine (callsIn_wide.2 (BTW.out _)).mono ?_; rintro e w4 ⟨rfl, rfl⟩
       simp only []))
  obtain ⟨W3, hW3⟩ : ∃ W3, (w2.alloc (.cells #[.int .i64 f.nm, .int .i64 f.kd, .int .i64 f.sv, .string ⟨f.lt.toArray⟩] 145)) = W3 := ⟨_, rfl⟩
  have sz3 : W3.heap.size = w2.heap.size + 1 := by rw [← hW3]; simp
  obtain ⟨w4, hw4⟩ : ∃ w4, (((W3.alloc (.cells #[.slice A0 n c0] 80)).alloc (.cells #[.int .i64 lo] 3)).alloc (.cells #[.int .i64 hi] 3)) = w4 := ⟨_, rfl⟩
  simp only [hW3, hw4]
  obtain ⟨m2, hm2⟩ : ∃ m, W3.heap.size = m := ⟨_, rfl⟩
  have k4 : Below W3.heap.size W3 w4 := by rw [← hw4]; exact ((((Below.refl _ W3).alloc (Nat.le_refl _) _).alloc (by simp) _).alloc (by simp; omega) _)
  have s4 : w4.heap.size = m2 + 3 := by rw [← hw4, ← hm2]; simp
  have b40 : w4.heap[m2]? = some (.cells #[.slice A0 n c0] 80 (0, 0)) := by
    rw [← hw4, Below.heap_alloc _ _ _ (by simp; omega), Below.heap_alloc _ _ _ (by simp; omega), ← hm2]; exact World.alloc_heap_new W3 _
  have b41 : w4.heap[m2 + 1]? = some (.cells #[.int .i64 lo] 3 (0, 0)) := by
    rw [← hw4, Below.heap_alloc _ _ _ (by simp; omega), ← hm2]
    have := World.alloc_heap_new (W3.alloc (.cells #[.slice A0 n c0] 80)) (.cells #[.int .i64 lo] 3)
    rwa [World.size_alloc] at this
  have b42 : w4.heap[m2 + 2]? = some (.cells #[.int .i64 hi] 3 (0, 0)) := by
    rw [← hw4, ← hm2]
    have := World.alloc_heap_new ((W3.alloc (.cells #[.slice A0 n c0] 80)).alloc (.cells #[.int .i64 lo] 3)) (.cells #[.int .i64 hi] 3)
    rwa [World.size_alloc, World.size_alloc] at this
  obtain ⟨Ba, hBa⟩ : ∃ a, w2.heap.size = a := ⟨_, rfl⟩
  have hBqv := HBQ.out
  have hS1 := S1.out
  have hS3 := S3.out
  simp only [World.size_alloc] at hS1 hS3
  have hN3 : n0 ≤ W3.heap.size := by have := HW0.out; omega
  have mixed : Tryz.prog.follows .mixedOrders = true := by kernel_rfl
  have BB : BtB n0 m2 m2 A0 n c0 rs lo hi w4 := ⟨by rw [← hW3] at k4; exact HB3.out.rl.below (k4.mono (by rw [hW3]; omega)), b40, b41, b42, by rw [← hW3] at k4; exact HB3.out.ah.next k4, HB3.out.hg, Nat.le_refl _⟩
  have I4 : TuIf n0 m1 B Bq Ba l A0 n c0 rs off lo hi J W.heap.size ([] : List FV) w4 := by
    rw [← hW3] at k4
    refine ⟨HB3.out.next (by rw [hW3]; omega) k4, (k4.block _ (Array.getElem?_eq_some_iff.1 Q3.out).1).trans Q3.out, ⟨f, (k4.block _ (by rw [hW3]; omega)).trans (by rw [← hBa]; exact A3.out), F3.out⟩, ?_, [], HJ.out [] _ _ none J3.out (grown_bel k4 none) (fun r e => by cases e)⟩
    have := k4.size; rw [hW3] at this; omega
  have SEQ := betw_far (N - 1) (by omega) n0 m2 m2 A0 n c0 rs lo hi w4 BB HN.out hn1 (by omega) (fun r hr => (HOK.out r hr).1) hlo hhi hyb hyh
  have HI4 := Lib.hid I4
  have OWN : ∀ pre : Unit, True := fun _ => trivial
  clear hw4 b40 b41 b42 BB I4 c0' c2' c3' OWN HB1 Q1 J1 HB3 Q3 A3 J3 F3 k4
  subst hBa
  subst hBqv
  refine range_kn h1 (gf := 142) (lb := #[.pointer (some ⟨m2, 0, none⟩), .pointer (some ⟨m2 + 1, 0, none⟩), .pointer (some ⟨m2 + 2, 0, none⟩)]) (by simp only [← hm2, sz3]; rfl) (enters_of Tryz.func142 (by kernel_rfl) rfl)
    SEQ (by omega) (fun _ => rfl) KpHi.trans KpHi.put
    (TuIf n0 m1 B W.heap.size w2.heap.size l A0 n c0 rs off lo hi J W.heap.size) (fun c _ X => c = .ret ∧ ∃ p, Jx p X) ?hI ?hIx HI4.out ?round ?done ?stop
  case hI => exact TuIf.own HJ.out.from (by omega) (by omega) (by omega) (by omega) (fun X h => by have := HW0.out; omega)
  case hIx => exact fun c s X Y row ⟨h2, p, h4⟩ hg hr => ⟨h2, p, HX.out.from _ X Y row h4 hg (fun r e => ⟨by have := (hr r e).1; omega, (hr r e).2⟩)⟩
  case round =>
    rintro l2 pre f2 X hI hOk hsX
    simp only [encG]
    have hnm : -4611686018427387904 ≤ f2.nm ∧ f2.nm ≤ 4611686018427387904 := by have := hOk.2; omega
    have hsv2 := Lib.hid (HSB.out f2 hOk.1)
    have OK := Lib.hid hOk
    obtain ⟨g, hg1, hgs⟩ := hI.a
    obtain ⟨v, hv⟩ : ∃ v, inF f2 off g.sv = v := ⟨_, rfl⟩
    have FI : Hid (∀ Y, Calls Tryz.prog 75 #[.agg #[.int .i64 f2.nm, .int .i64 f2.kd, .int .i64 f2.sv, .string ⟨f2.lt.toArray⟩], .int .i64 off, .int .i64 g.sv] Y fun e w' => e = .returned (.int .i64 v) ∧ RowKit.Below Y.heap.size Y w') := Lib.hid (fun Y => finst_is f2 off g.sv v Y hnm (by omega) (by omega) hv)
    have HG := Lib.hid hg1
    have HII := Lib.hid hI
    have hsz := hI.sz
    have hnX : n0 ≤ X.heap.size := by have := HW0.out; omega
    clear hnm hgs hv hg1 hI hOk
    have bX : RowKit.Below X.heap.size X (X.alloc (.cells #[.int .i64 f2.nm, .int .i64 f2.kd, .int .i64 f2.sv, .string ⟨f2.lt.toArray⟩] 145)) := (Below.refl _ X).alloc (Nat.le_refl _) _
    gi_wp2
    refine ⟨⟨KeepsOthers.alloc X _, bX.mono hnX, KpHi.below bX⟩, fun _ Yw => (TuIf n0 m1 B W.heap.size w2.heap.size l A0 n c0 rs off lo hi J W.heap.size pre Yw ∧ Yw.heap[w2.heap.size]? = some (.cells #[.int .i64 g.nm, .int .i64 g.kd, .int .i64 g.sv, .string ⟨g.lt.toArray⟩] 145 (0, 0))) ∧ Yw.heap[X.heap.size]? = some (.cells #[.int .i64 f2.nm, .int .i64 f2.kd, .int .i64 f2.sv, .string ⟨f2.lt.toArray⟩] 145 (0, 0)),
      OwnFrom.and (OwnFrom.and (fun s A' B' row h hg hr => TuIf.own HJ.out.from (by omega) (by omega) (by omega) (by omega) (fun X h => by have := HW0.out; omega) pre A' B' row h hg hr) (fun s A' B' row h hg hr => (hg.block _ (Array.getElem?_eq_some_iff.1 h).1 (fun e => by obtain ⟨-, o, ho, hc⟩ := hr _ e.symm; rw [h] at ho; cases ho; cases hc)).trans h)) (fun s A' B' row h hg hr => (hg.block _ (Array.getElem?_eq_some_iff.1 h).1 (fun e => by obtain ⟨-, o, ho, hc⟩ := hr _ e.symm; rw [h] at ho; cases ho; cases hc)).trans h),
      ⟨⟨HII.out.next HJ.out.from hnX bX, (bX.block _ (Array.getElem?_eq_some_iff.1 HG.out).1).trans HG.out⟩, heap_alloc_new X _⟩, ?_⟩
    rintro W5 ⟨⟨hI5, hG5⟩, hF5⟩ hs5
    have H5 := Lib.hid hI5
    have G5 := Lib.hid hG5
    have F5 := Lib.hid hF5
    have hn5 : n0 ≤ W5.heap.size := by have := hI5.sz; have := HW0.out; omega
    obtain ⟨z0, z1, z2, z3⟩ := cel4 hF5
    have zq := cel1 hI5.q
    have zo := cel1 hI5.tb.b1
    obtain ⟨-, -, za, -⟩ := cel4 hG5
    have d0 := bel_cell z0
    have d1 := bel_cell z1
    have d2 := bel_cell z2
    have d3 := bel_cell z3
    have d4 := bel_cell zq
    have d5 := bel_cell zo
    have d6 := bel_cell za
    clear bX hI5 hG5 hF5 HII HG z0 z1 z2 z3 zq zo za
    gi_wp2
    refine region_tail_round 7 mixed (by kernel_rfl) (by kernel_rfl) ?_
    simp only [List.take_succ_cons, List.take_zero, List.drop_succ_cons, List.drop_zero]
    repeat (quiet_step ((go_at_call 75; rename_i y; refine (FI.out _).mono ?_; rintro e w6 ⟨rfl, k6⟩; exact ⟨rfl, ⟨w6, y.k.trans (k6.mono y.k.size)⟩, rfl⟩)))
    refine wpQuiet_nil ?_
    rintro w8 ⟨x8, hx8⟩
    have k8 : RowKit.Below W5.heap.size W5 w8 := hx8 ▸ x8.k
    have H8 := Lib.hid (H5.out.next HJ.out.from hn5 k8)
    have G8 := Lib.hid ((k8.block _ (Array.getElem?_eq_some_iff.1 G5.out).1).trans G5.out)
    have F8 := Lib.hid ((k8.block _ (Array.getElem?_eq_some_iff.1 F5.out).1).trans F5.out)
    have K8 := Lib.hid k8
    have hn8 : n0 ≤ w8.heap.size := Nat.le_trans hn5 k8.size
    have hw8 : W.heap.size ≤ w8.heap.size := H8.out.sz
    clear hx8 x8 k8 d0 d1 d2 d3 d4 d5 d6
    obtain ⟨pp, hpp⟩ := H8.out.j
    obtain ⟨fn, tmps, assign, body, hy, hR⟩ := yield_inner (l' := l2) (m' := N - 1 - 1 - 1) (HYd.out pp (v, f2) w8 hpp OK.out hw8)
    simp only [encT, fvV] at hy
    gi_wp2
    refine ⟨fun _ => by omega, hR.mono ?_⟩
    rintro e W9 (⟨rfl, hJ9, hk9, hkp9, hko9⟩ | ⟨rfl, hJx9, hkf9⟩)
    · have hm1 := H8.out.tb.hm
      have hW0v := HW0.out
      have hG9 := (hkp9 w2.heap.size _ _ _ (by omega) G8.out).trans G8.out
      have hF9 := (hkp9 X.heap.size _ _ _ (by omega) F8.out).trans F8.out
      have hQ9 := (hkp9 W.heap.size _ _ _ (by omega) H8.out.q).trans H8.out.q
      have T9 := Lib.hid (H8.out.tb.keep hk9 hkp9)
      have KO9 := Lib.hid ((KeepsOthers.of_grownBy (grown_bel K8.out none) (fun j o e => by cases e)).trans hko9)
      have KB9 := Lib.hid ((K8.out.mono hn5).trans hk9)
      have KH9 := Lib.hid ((KpHi.below K8.out).trans (hkp9.mono (show m1 ≤ m2 by omega)))
      have J9 := Lib.hid hJ9
      have Q9 := Lib.hid hQ9
      have hs9 : W.heap.size ≤ W9.heap.size := Nat.le_trans hw8 hk9.size
      obtain ⟨z0, z1, z2, z3⟩ := cel4 hF9
      obtain ⟨a0, a1, a2, a3⟩ := cel4 hG9
      have f0 := frz (j := 0) hG9
      have f1 := frz (j := 1) hG9
      have f2' := frz (j := 2) hG9
      have f3 := frz (j := 3) hG9
      have G9 := Lib.hid hG9
      clear hJ9 hk9 hkp9 hko9 hF9 hG9 hQ9 hy hR
      gi_wp2
      have SB := set4_below (n0 := w2.heap.size) (.int .i64 f2.nm) (.int .i64 f2.kd) (.int .i64 f2.sv) (.string ⟨f2.lt.toArray⟩) (Below.refl _ W9) (Nat.le_refl _)
      refine ⟨⟨KO9.out.trans (set4_keeps _ _ _ _ _ _), KB9.out.trans (SB.mono (by omega)), KH9.out.trans (fun k cs t fz hk _ => set4_other _ _ _ _ (by omega))⟩, T9.out.under SB (by omega) (by omega), (SB.block _ (by omega)).trans Q9.out, ⟨f2, set4_blk _ _ _ _ G9.out, hsv2.out⟩, Nat.le_trans hs9 SB.size, ?_⟩
      exact ⟨_, HJ.out _ _ _ _ J9.out (set4_grown _ _ _ _ _ _) (fun r e => by injection e with e; subst e; exact ⟨by omega, _, G9.out, .inr ⟨_, _, rfl⟩⟩)⟩
    · have KF9 := Lib.hid (kfrom_trans (((KeepsOthers.of_grownBy (grown_bel K8.out none) (fun j o e => by cases e)).from W.heap.size)) hkf9)
      have JX9 := Lib.hid hJx9
      clear hy hR hkf9 hJx9
      gi_wp2
      exact ⟨kfrom_mono KF9.out (by omega), rfl, _, JX9.out⟩
  case done =>
    rintro D xs X hD hS hI hdf
    obtain ⟨pp, hpp⟩ := hI.j
    have JF := Lib.hid (HJ.out _ _ _ _ hpp (grownBy_putObj' X D (.deferred none)) (fun r e => by injection e with e; subst e; exact ⟨by omega, _, hdf, .inl rfl⟩))
    clear hI hS hpp
    gi_wp2
    refine ⟨by simp, .inl ⟨D, _, rfl, run_takeDeferred hdf, ?_⟩⟩
    exact ⟨_, results_none rfl _ _ _, ⟨_, rfl⟩, .inl ⟨_, JF.out⟩⟩
  case stop =>
    rintro D c pre X hD hSp ⟨rfl, p, hx⟩ hdf
    have JF := Lib.hid (HX.out _ _ _ _ hx (grownBy_putObj' X D (.deferred none)) (fun r e => by injection e with e; subst e; exact ⟨by omega, _, hdf, .inl rfl⟩))
    clear hx hSp
    gi_wp2
    refine ⟨by simp, .inl ⟨D, _, rfl, run_takeDeferred hdf, ?_⟩⟩
    exact ⟨_, results_none rfl _ _ _, ⟨_, rfl⟩, .inr ⟨_, JF.out⟩⟩
end Go.Proofs.YtdmfgechoanmlaaGreatDoor

namespace Go.Proofs.YtdmfgechoanmlaaGreatDoor
open Go Go.RowKit Go.Sort Go.Shelf
attribute [local go_sem] Oper.semAt_some
attribute [local go_sem] fvV

/-- An instant of which a zone may be asked. -/
def FrT (t : Int) : Prop := -2199023255552 ≤ t ∧ t ≤ 2199023255552
theorem frT_y {t d : Int} (h : FrT t) (h1 : -180000 ≤ d) (h2 : d ≤ 180000) : inS (t + d) ∧ -80000 ≤ ySec (t + d) ∧ ySec (t + d) + 1 ≤ 80000 := by
  obtain ⟨h3, h4⟩ := h
  have e1 : ny (-80000) = -29938928 := by decide
  have e2 : ny 79000 = 28134630 := by decide
  have h5 := ySec_ge (s := t + d) (k := -80000) (by omega)
  have h6 := ySec_lt (s := t + d) (k := 79000) (by omega)
  refine ⟨?_, h5, by omega⟩
  unfold inS; omega
theorem fbounded_far (t : Int) (w : World) (ht : FrT t) : Calls Tryz.prog 97 #[.int .i64 t] w fun e w' => e = .returned (.int .i64 t) ∧ Below w.heap.size w w' := by
  have h1 : max t (-4398046511104) = t := by have := ht.1; omega
  have h2 : min t 4398046511104 = t := by have := ht.2; omega
  go_enter Tryz.func97, Tryz.ntmps97
  repeat (first | go_values | go_skip | go_guarded | go_step | go_upon | go_back)
  go_ret
  exact ⟨rfl, Below.refl _ w⟩
theorem ah_fir {rs : List RV} {s : Int} {f : FV} {b : Bool} (ha : AheadIs rs s f b) : b = true → FirOf rs f := by
  rcases ha with ⟨-, h1, -⟩ | ⟨rfl, -⟩
  · exact fun _ => h1
  · exact fun h => by cases h
/-- What is known at the head of the loop. -/
structure LtIf (n0 b5 b9 : Nat) (t : Int) (rs : List RV) (w : World) (_ : List (Int × FV)) (X : World) : Prop where
  bel : Below n0 w X
  h5 : X.heap[b5]? = some (.cells #[.int .i64 t] 3 (0, 0))
  h6 : X.heap[b5 + 1]? = some (.cells #[.int .i64 0, .int .i64 0, .int .i64 0, .string ⟨#[]⟩] 145 (0, 0))
  st : ∃ f b, (b = true → FirOf rs f) ∧ X.heap[b9]? = some (.cells #[.int .i64 f.nm, .int .i64 f.kd, .int .i64 f.sv, .string ⟨f.lt.toArray⟩] 145 (0, 0)) ∧ X.heap[b9 + 1]? = some (.cells #[.bool b] 4 (0, 0))
theorem LtIf.own {n0 b5 b9 D : Nat} {t : Int} {rs : List RV} {w : World} (hn : n0 ≤ w.heap.size) (hn1 : n0 ≤ D) (h5 : b5 + 1 < D) (h9 : b9 + 1 < D) : OwnA 145 D (LtIf n0 b5 b9 t rs w) := fun pre W W' row h hg hr => by
  have bl : ∀ k, k < D → k < W.heap.size → W'.heap[k]? = W.heap[k]? := fun k h1 h2 => hg.block k h2 (fun e => by have := (hr k e.symm).1; omega)
  obtain ⟨f, b, s1, s2, s3⟩ := h.st
  exact ⟨h.bel.trans ((Below.refl n0 W).grown hg (by have := h.bel.size; omega) (fun j hj => by have := (hr j hj).1; omega)), (bl _ (by omega) (Array.getElem?_eq_some_iff.1 h.h5).1).trans h.h5, (bl _ (by omega) (Array.getElem?_eq_some_iff.1 h.h6).1).trans h.h6, f, b, s1, (bl _ (by omega) (Array.getElem?_eq_some_iff.1 s2).1).trans s2, (bl _ (by omega) (Array.getElem?_eq_some_iff.1 s3).1).trans s3⟩
theorem LtIf.next {n0 b5 b9 : Nat} {t : Int} {rs : List RV} {w X X' : World} {pre : List (Int × FV)} (hn : n0 ≤ w.heap.size) (h : LtIf n0 b5 b9 t rs w pre X) (k : Below X.heap.size X X') : LtIf n0 b5 b9 t rs w pre X' := by
  obtain ⟨f, b, s1, s2, s3⟩ := h.st
  exact ⟨h.bel.trans (k.mono (by have := h.bel.size; omega)), (k.block _ (Array.getElem?_eq_some_iff.1 h.h5).1).trans h.h5, (k.block _ (Array.getElem?_eq_some_iff.1 h.h6).1).trans h.h6, f, b, s1, (k.block _ (Array.getElem?_eq_some_iff.1 s2).1).trans s2, (k.block _ (Array.getElem?_eq_some_iff.1 s3).1).trans s3⟩

set_option maxRecDepth 20000 in
set_option maxHeartbeats 600000 in
theorem flatest_far (N : Nat) (hN : 9 ≤ N) (A0 : Option Addr) (n c0 : Nat) (rs : List RV) (off t : Int) (w : World) (hA : LaidF w) (hg : 2 < w.heap.size) (hR : RowsAt 11 cR A0 rs w) (hn : rs.length = n) (hn1 : n ≤ 1000) (hok : ∀ r ∈ rs, okR r ∧ 1900 ≤ r.fr) (hsvb : ∀ f, FirOf rs f → -90000 < f.sv ∧ f.sv < 90000) (h1 : -90000 < off) (h2 : off < 90000) (ht : FrT t) :
    CallsIn Fence.wide N Tryz.prog 77 #[.slice A0 n c0, .int .i64 off, .int .i64 t] w fun e w' => ∃ f b, e = .returned (.tuple #[fvV f, .bool b]) ∧ (b = true → FirOf rs f) ∧ Below w.heap.size w w' := by
  have hN1 : 1 ≤ N := by omega
  have HA := Lib.hid hA
  have HR := Lib.hid hR
  have BD := Lib.hid (fun W => fbounded_far t W ht)
  have y1 := frT_y ht (d := 180000) (by omega) (by omega)
  have y2 := frT_y ht (d := -179999) (by omega) (by omega)
  rw [show t + -179999 = t - 180000 + 1 by omega] at y2
  have y3 := frT_y ht (d := 179999) (by omega) (by omega)
  rw [show t + 179999 = t + 180000 - 1 by omega] at y3
  have A1 := Lib.hid (fun X (h1 : LaidF X) (h2 : RowsAt 11 cR A0 rs X) => fahead_is A0 n c0 rs (t + 180000) X h1 h2 hn hn1 hok y1.1 (by omega) (by omega))
  have A2 := Lib.hid (fun X (h1 : LaidF X) (h2 : RowsAt 11 cR A0 rs X) => fahead_is A0 n c0 rs (t - 180000 + 1) X h1 h2 hn hn1 hok y2.1 (by omega) (by omega))
  have TI := Lib.hid (fun X => turns_is A0 n c0 off (t - 180000 + 1) (t + 180000 - 1) X)
  have wr1 : IntKind.i64.wrap (t + 180000) = t + 180000 := IntWalk.i64_in _ (by have := ht.1; have := ht.2; omega)
  have wr2 : IntKind.i64.wrap (t - 180000) = t - 180000 := IntWalk.i64_in _ (by have := ht.1; have := ht.2; omega)
  have wr3 : IntKind.i64.wrap (t - 180000 + 1) = t - 180000 + 1 := IntWalk.i64_in _ (by have := ht.1; have := ht.2; omega)
  have wr4 : IntKind.i64.wrap (t + 180000 - 1) = t + 180000 - 1 := IntWalk.i64_in _ (by have := ht.1; have := ht.2; omega)
  have mixed : Tryz.prog.follows .mixedOrders = true := by kernel_rfl
  have HT := Lib.hid ht
  have HSB := Lib.hid hsvb
  have HOK := Lib.hid hok
  have HN := Lib.hid hn
  have Y1 := Lib.hid y1
  have Y2 := Lib.hid y2
  have Y3 := Lib.hid y3
  have X0 : Hid (TwoB w w.heap.size #[.int .i64 t] 3 (w.heap.size + 1) #[.int .i64 0, .int .i64 0, .int .i64 0, .string ⟨#[]⟩] 145 ((w.alloc (.cells #[.int .i64 t] 3)).alloc (.cells #[.int .i64 0, .int .i64 0, .int .i64 0, .string ⟨#[]⟩] 145))) :=
    ⟨BlkN.fst (w := w) _ 3 _, BlkN.two w _ _ _⟩
  have x0 := cel1 X0.out.a.blk
  clear hA hR ht hsvb hok hn y1 y2 y3
  refine callsIn_of_wp_marks Tryz.func77 rfl trivial ?_ rfl
  simp only [Tryz.ntmps77, List.size_toArray, List.length_cons, List.length_nil, Nat.reduceAdd, Nat.reduceSub, Array.replicate_succ, Array.replicate_zero, List.push_toArray, List.append_toArray, List.nil_append, List.cons_append]
  gi_wp2_with (first
    | (refine ⟨trivial, ?_⟩; gi_at_call 97; refine (callsIn_wide.2 (BD.out _)).mono ?_; rintro e w1 ⟨rfl, k1⟩
       have X1 := Lib.hid (X0.out.next k1)
       clear k1 x0
       simp only []))
  refine ⟨trivial, ?_⟩
  gi_at_call 94
  refine (callsIn_wide.2 (A1.out _ (HA.out.next X1.out.a.bel) (HR.out.next X1.out.a.bel))).mono ?_
  rintro e w2 ⟨f, b, rfl, hah, k2⟩
  have X2 := Lib.hid (X1.out.next k2)
  have AH1 := Lib.hid hah
  clear k2 hah
  have hc : b = false ∨ (b = true ∧ f.nm ≤ t - 180000) ∨ (b = true ∧ ¬ f.nm ≤ t - 180000) := by
    cases b
    · exact .inl rfl
    · rcases Int.lt_or_le (t - 180000) f.nm with h | h
      · exact .inr (.inr ⟨rfl, by omega⟩)
      · exact .inr (.inl ⟨rfl, h⟩)
  simp only [fvV]
  have Z : ∀ v : Value, Hid (TwoB w (w.heap.size + 1) #[.int .i64 0, .int .i64 0, .int .i64 0, .string ⟨#[]⟩] 145 w2.heap.size #[.int .i64 f.nm, .int .i64 f.kd, .int .i64 f.sv, .string ⟨f.lt.toArray⟩] 145 ((w2.alloc (.cells #[.int .i64 f.nm, .int .i64 f.kd, .int .i64 f.sv, .string ⟨f.lt.toArray⟩] 145)).alloc (.cells #[v] 4))) := fun v => ⟨(X2.out.b.more _).more _, (BlkN.make X2.out.a.bel _ _).more _⟩
  rcases hc with rfl | ⟨rfl, hc⟩ | ⟨rfl, hc⟩
  · have hT := trivial
    clear hT
    gi_wp2
    obtain ⟨r0, r1, r2, r3⟩ := cel4 (Z (.bool false)).out.b.blk
    obtain ⟨q0, q1, q2, q3⟩ := cel4 (Z (.bool false)).out.a.blk
    have f0 := frz (j := 0) (Z (.bool false)).out.a.blk
    have f1 := frz (j := 1) (Z (.bool false)).out.a.blk
    have f2 := frz (j := 2) (Z (.bool false)).out.a.blk
    have f3 := frz (j := 3) (Z (.bool false)).out.a.blk
    have z0 := cel1 (BlkN.two w2 (.cells #[.int .i64 f.nm, .int .i64 f.kd, .int .i64 f.sv, .string ⟨f.lt.toArray⟩] 145) #[.bool false] 4).blk
    have BB := Lib.hid (Z (.bool false)).out.a
    generalize ((w2.alloc (.cells #[.int .i64 f.nm, .int .i64 f.kd, .int .i64 f.sv, .string ⟨f.lt.toArray⟩] 145)).alloc (.cells #[.bool false] 4)) = V at *
    clear Z
    have ne1 : ¬ w2.heap.size = w.heap.size := by have := X2.out.b.lt; omega
    have ne2 : ¬ w.heap.size = w2.heap.size := by omega
    refine wpIn_wide.2 ?_
    go_region
    have B := Lib.hid (BB.out.set4 (x := .int .i64 f.nm) (y := .int .i64 f.kd) (z := .int .i64 f.sv) (u := .string ⟨f.lt.toArray⟩)).drew
    generalize ((((V.setCell ⟨w.heap.size + 1, 0, none⟩ (.int .i64 f.nm)).setCell ⟨w.heap.size + 1, 1, none⟩ (.int .i64 f.kd)).setCell ⟨w.heap.size + 1, 2, none⟩ (.int .i64 f.sv)).setCell ⟨w.heap.size + 1, 3, none⟩ (.string ⟨f.lt.toArray⟩)).drew = V1 at *
    clear q0 q1 q2 q3 r0 r1 r2 r3 z0 f0 f1 f2 f3
    gi_wp2
    obtain ⟨c0, c1, c2, c3⟩ := cel4 B.out.blk
    exact ⟨.tuple #[fvV f, .bool false], by simp [results, Tryz.results77, go_sem, c0, c1, c2, c3], f, false, rfl, fun h => (by cases h), B.out.bel⟩
  · have F1 : Hid (FirOf rs f) := Lib.hid (ah_fir AH1.out rfl)
    have hcd : decide (f.nm ≤ t - 180000) = true := by simpa using hc
    clear hc
    gi_wp2
    obtain ⟨r0, r1, r2, r3⟩ := cel4 (Z (.bool true)).out.b.blk
    obtain ⟨q0, q1, q2, q3⟩ := cel4 (Z (.bool true)).out.a.blk
    have f0 := frz (j := 0) (Z (.bool true)).out.a.blk
    have f1 := frz (j := 1) (Z (.bool true)).out.a.blk
    have f2 := frz (j := 2) (Z (.bool true)).out.a.blk
    have f3 := frz (j := 3) (Z (.bool true)).out.a.blk
    have z0 := cel1 (BlkN.two w2 (.cells #[.int .i64 f.nm, .int .i64 f.kd, .int .i64 f.sv, .string ⟨f.lt.toArray⟩] 145) #[.bool true] 4).blk
    have BB := Lib.hid (Z (.bool true)).out.a
    generalize ((w2.alloc (.cells #[.int .i64 f.nm, .int .i64 f.kd, .int .i64 f.sv, .string ⟨f.lt.toArray⟩] 145)).alloc (.cells #[.bool true] 4)) = V at *
    clear Z
    have ne1 : ¬ w2.heap.size = w.heap.size := by have := X2.out.b.lt; omega
    have ne2 : ¬ w.heap.size = w2.heap.size := by omega
    refine wpIn_wide.2 ?_
    go_region
    have B := Lib.hid (BB.out.set4 (x := .int .i64 f.nm) (y := .int .i64 f.kd) (z := .int .i64 f.sv) (u := .string ⟨f.lt.toArray⟩)).drew
    generalize ((((V.setCell ⟨w.heap.size + 1, 0, none⟩ (.int .i64 f.nm)).setCell ⟨w.heap.size + 1, 1, none⟩ (.int .i64 f.kd)).setCell ⟨w.heap.size + 1, 2, none⟩ (.int .i64 f.sv)).setCell ⟨w.heap.size + 1, 3, none⟩ (.string ⟨f.lt.toArray⟩)).drew = V1 at *
    clear q0 q1 q2 q3 r0 r1 r2 r3 z0 f0 f1 f2 f3
    gi_wp2
    obtain ⟨c0, c1, c2, c3⟩ := cel4 B.out.blk
    exact ⟨.tuple #[fvV f, .bool true], by simp [results, Tryz.results77, go_sem, c0, c1, c2, c3], f, true, rfl, fun _ => F1.out, B.out.bel⟩
  · have hcd : decide (f.nm ≤ t - 180000) = false := by simpa using hc
    clear hc
    have ZZ := Lib.hid (Z (.bool true)).out
    have kV : RowKit.Below w2.heap.size w2 ((w2.alloc (.cells #[.int .i64 f.nm, .int .i64 f.kd, .int .i64 f.sv, .string ⟨f.lt.toArray⟩] 145)).alloc (.cells #[.bool true] 4)) := ((Below.refl _ w2).alloc (Nat.le_refl _) _).alloc (by simp) _
    have kW := X2.out.a.bel.trans (kV.mono X2.out.a.bel.size)
    have LA := Lib.hid (HA.out.next kW)
    have RA := Lib.hid (HR.out.next kW)
    have ZT := Lib.hid (BlkN.two w2 (.cells #[.int .i64 f.nm, .int .i64 f.kd, .int .i64 f.sv, .string ⟨f.lt.toArray⟩] 145) #[.bool true] 4)
    have XA := Lib.hid (((X2.out.a.next kV)))
    clear kV kW Z
    gi_wp2_with (first
      | (refine ⟨trivial, ?_⟩; gi_at_call 94; refine (callsIn_wide.2 (A2.out _ LA.out RA.out)).mono ?_; rintro e w3 ⟨f2, b2, rfl, hah2, k3⟩
         have Z3 := Lib.hid (ZZ.out.next k3)
         have T3 := Lib.hid (ZT.out.next k3)
         have A3 := Lib.hid (XA.out.next k3)
         have AH2 := Lib.hid hah2
         clear k3 hah2
         obtain ⟨q0, q1, q2, q3⟩ := cel4 Z3.out.b.blk
         have f0 := frz (j := 0) Z3.out.b.blk
         have f1 := frz (j := 1) Z3.out.b.blk
         have f2' := frz (j := 2) Z3.out.b.blk
         have f3 := frz (j := 3) Z3.out.b.blk
         have z0 := cel1 T3.out.blk
         have z1 := frz (j := 0) T3.out.blk
         simp only [fvV])
      | (refine ⟨trivial, ?_⟩; gi_at_call 98; refine (callsIn_wide.2 (TI.out _)).mono ?_; rintro e w4 ⟨rfl, rfl⟩
         simp only []))
    obtain ⟨q, hq⟩ : ∃ q, w2.heap.size = q := ⟨_, rfl⟩
    have hqs : w.heap.size + 1 < q := by have := X2.out.b.lt; omega
    have hq3 : q + 1 < w3.heap.size := by have := T3.out.lt; omega
    have Z3b := Z3.out.b.blk
    have T3b := T3.out.blk
    rw [hq] at Z3b T3b
    simp only [hq]
    obtain ⟨U9, hU9⟩ : ∃ U, (((w3.setCell ⟨q, 0, none⟩ (.int .i64 f2.nm)).setCell ⟨q, 1, none⟩ (.int .i64 f2.kd)).setCell ⟨q, 2, none⟩ (.int .i64 f2.sv)).setCell ⟨q, 3, none⟩ (.string ⟨f2.lt.toArray⟩) = U := ⟨_, rfl⟩
    have g1 := set4_grown w3 q (.int .i64 f2.nm) (.int .i64 f2.kd) (.int .i64 f2.sv) (.string ⟨f2.lt.toArray⟩)
    have u9 := set4_blk (.int .i64 f2.nm) (.int .i64 f2.kd) (.int .i64 f2.sv) (.string ⟨f2.lt.toArray⟩) Z3b
    rw [hU9] at g1 u9
    obtain ⟨U, hU⟩ : ∃ U, U9.setCell ⟨q + 1, 0, none⟩ (.bool b2) = U := ⟨_, rfl⟩
    have g2 := grownBy_setCell' U9 (q + 1) (.bool b2)
    have e1 : U9.heap[q + 1]? = w3.heap[q + 1]? := g1.block (q + 1) (by omega) (fun e => by injection e with e; omega)
    have u10 := blk_set (i := 0) (e1.trans T3b) (.bool b2)
    simp only [Array.setIfInBounds] at u10
    rw [hU] at g2 u10
    have sU9 : w3.heap.size ≤ U9.heap.size := g1.size
    have sU : U9.heap.size ≤ U.heap.size := g2.size
    have v9 : U.heap[q]? = some (.cells #[.int .i64 f2.nm, .int .i64 f2.kd, .int .i64 f2.sv, .string ⟨f2.lt.toArray⟩] 145 (0, 0)) := (g2.block q (by omega) (fun e => by injection e with e; omega)).trans u9
    have low : ∀ k, k < q → U.heap[k]? = w3.heap[k]? := fun k hk => (g2.block k (by omega) (fun e => by injection e with e; omega)).trans (g1.block k (by omega) (fun e => by injection e with e; omega))
    have bU : RowKit.Below w.heap.size w U := A3.out.bel.trans (((Below.refl _ w3).grown g1 (by omega) (fun j hj => by injection hj with hj; omega)).trans ((Below.refl _ U9).grown g2 (by omega) (fun j hj => by injection hj with hj; omega)))
    have hb5 : U.heap[w.heap.size]? = some (.cells #[.int .i64 t] 3 (0, 0)) := (low _ (by omega)).trans A3.out.blk
    have hb6 : U.heap[w.heap.size + 1]? = some (.cells #[.int .i64 0, .int .i64 0, .int .i64 0, .string ⟨#[]⟩] 145 (0, 0)) := (low _ (by omega)).trans Z3.out.a.blk
    simp only [hU9, hU]
    clear Z3 T3 A3 Z3b T3b q0 q1 q2 q3 f0 f1 f2' f3 z0 z1 ZZ ZT XA LA RA
    have I0 : LtIf w.heap.size w.heap.size q t rs w [] U := ⟨bU, hb5, hb6, f2, b2, ah_fir AH2.out, v9, by simpa using u10⟩
    obtain ⟨B, hB⟩ : ∃ m, U.heap.size = m := ⟨_, rfl⟩
    have hUs : q + 1 < B := by omega
    obtain ⟨w5, hw5⟩ : ∃ w5, ((((U.alloc (.cells #[.slice A0 n c0] 80)).alloc (.cells #[.int .i64 off] 3)).alloc (.cells #[.int .i64 (t - 180000 + 1)] 3)).alloc (.cells #[.int .i64 (t + 180000 - 1)] 3)) = w5 := ⟨_, rfl⟩
    have k5 : RowKit.Below U.heap.size U w5 := by rw [← hw5]; exact (((((Below.refl _ U).alloc (Nat.le_refl _) _).alloc (by simp) _).alloc (by simp; omega) _).alloc (by simp; omega) _)
    have s5 : w5.heap.size = B + 4 := by rw [← hw5, ← hB]; simp
    have b50 : w5.heap[B]? = some (.cells #[.slice A0 n c0] 80 (0, 0)) := by
      rw [← hw5, Below.heap_alloc _ _ _ (by simp; omega), Below.heap_alloc _ _ _ (by simp; omega), Below.heap_alloc _ _ _ (by simp; omega), ← hB]; exact World.alloc_heap_new U _
    have b51 : w5.heap[B + 1]? = some (.cells #[.int .i64 off] 3 (0, 0)) := by
      rw [← hw5, Below.heap_alloc _ _ _ (by simp; omega), Below.heap_alloc _ _ _ (by simp; omega), ← hB]
      have := World.alloc_heap_new (U.alloc (.cells #[.slice A0 n c0] 80)) (.cells #[.int .i64 off] 3)
      rwa [World.size_alloc] at this
    have b52 : w5.heap[B + 2]? = some (.cells #[.int .i64 (t - 180000 + 1)] 3 (0, 0)) := by
      rw [← hw5, Below.heap_alloc _ _ _ (by simp; omega), ← hB]
      have := World.alloc_heap_new ((U.alloc (.cells #[.slice A0 n c0] 80)).alloc (.cells #[.int .i64 off] 3)) (.cells #[.int .i64 (t - 180000 + 1)] 3)
      rwa [World.size_alloc, World.size_alloc] at this
    have b53 : w5.heap[B + 3]? = some (.cells #[.int .i64 (t + 180000 - 1)] 3 (0, 0)) := by
      rw [← hw5, ← hB]
      have := World.alloc_heap_new (((U.alloc (.cells #[.slice A0 n c0] 80)).alloc (.cells #[.int .i64 off] 3)).alloc (.cells #[.int .i64 (t - 180000 + 1)] 3)) (.cells #[.int .i64 (t + 180000 - 1)] 3)
      rwa [World.size_alloc, World.size_alloc, World.size_alloc] at this
    simp only [hw5]
    have I5 := Lib.hid (I0.next (Nat.le_refl _) k5)
    have b5 := I5.out.bel
    have TB : TuB w.heap.size B B A0 n c0 rs off (t - 180000 + 1) (t + 180000 - 1) w5 := ⟨(RlAt.of HR.out).below b5, b50, b51, b52, b53, (HA.out.next b5).ah, hg, Nat.le_refl _⟩
    have hTl := HT.out.1
    have hTh := HT.out.2
    have SEQ := turns_far (N - 1) (by omega) w.heap.size B B A0 n c0 rs off (t - 180000 + 1) (t + 180000 - 1) w5 TB HN.out hn1 (by omega) HOK.out HSB.out ⟨h1, h2⟩ Y2.out.1 Y3.out.1 ⟨by have := Y2.out.2.1; omega, by have := Y2.out.2.2; omega⟩ ⟨by have := Y3.out.2.2; omega, by have := Y3.out.2.1; omega⟩
    clear hw5 b50 b51 b52 b53 TB I0 k5 hU9 hU g1 g2 u9 u10 e1 v9 low bU hb5 hb6
    have hBU : ∀ k, k = B → w5.heap.size = k + 4 := fun k e => by omega
    refine range_ko hN1 (gf := 123) (lb := #[.pointer (some ⟨B, 0, none⟩), .pointer (some ⟨B + 2, 0, none⟩), .pointer (some ⟨B + 3, 0, none⟩), .pointer (some ⟨B + 1, 0, none⟩)]) (by simp only [← hB]; rfl) (enters_of Tryz.func123 (by kernel_rfl) rfl)
      SEQ (by omega) (fun _ => rfl) KpHi.trans KpHi.put
      (LtIf w.heap.size w.heap.size q t rs w) (fun _ _ _ => False) ?hI (fun _ _ _ _ _ h _ _ => h.elim) I5.out ?round ?done ?stop
    case hI => exact LtIf.own (Nat.le_refl _) (by omega) (by omega) (by omega)
    case round =>
      rintro l pre ⟨at', g⟩ X hI hOk hsX
      simp only [encT, fvV]
      have hnX : w.heap.size ≤ X.heap.size := hI.bel.size
      have HII := Lib.hid hI
      have HOK2 := Lib.hid hOk
      have bX : RowKit.Below X.heap.size X (X.alloc (.cells #[.int .i64 g.nm, .int .i64 g.kd, .int .i64 g.sv, .string ⟨g.lt.toArray⟩] 145)) := (Below.refl _ X).alloc (Nat.le_refl _) _
      clear hI hOk
      gi_wp2
      refine ⟨⟨KeepsOthers.alloc X _, bX.mono hnX, KpHi.below bX⟩, fun _ Yw => LtIf w.heap.size w.heap.size q t rs w pre Yw ∧ Yw.heap[X.heap.size]? = some (.cells #[.int .i64 g.nm, .int .i64 g.kd, .int .i64 g.sv, .string ⟨g.lt.toArray⟩] 145 (0, 0)),
        OwnFrom.and (fun s A' B' row h hg hr => (LtIf.own (Nat.le_refl _) (by omega) (by omega) (by omega)).from pre A' B' row h hg hr) (fun s A' B' row h hg hr => (hg.block _ (Array.getElem?_eq_some_iff.1 h).1 (fun e => by obtain ⟨-, o, ho, hc⟩ := hr _ e.symm; rw [h] at ho; cases ho; cases hc)).trans h),
        ⟨HII.out.next (Nat.le_refl _) bX, heap_alloc_new X _⟩, ?_⟩
      rintro W5 ⟨hI5, hF5⟩ hs5
      obtain ⟨fc, bc, hfb, h9, h10⟩ := hI5.st
      have H5 := Lib.hid hI5
      have FB := Lib.hid hfb
      have hn5 : w.heap.size ≤ W5.heap.size := hI5.bel.size
      have zt := cel1 hI5.h5
      obtain ⟨z0, z1, z2, z3⟩ := cel4 hF5
      obtain ⟨a0, a1, a2, a3⟩ := cel4 h9
      have f0 := frz (j := 0) h9
      have f1 := frz (j := 1) h9
      have f2' := frz (j := 2) h9
      have f3 := frz (j := 3) h9
      have a4 := cel1 h10
      have f4 := frz (j := 0) h10
      have K9 := Lib.hid h9
      have K10 := Lib.hid h10
      clear hI5 hfb h9 h10 hF5 HII bX
      by_cases hle : at' ≤ t
      · have hlb : decide (at' ≤ t) = true := by simpa using hle
        have FC : Hid (FirOf rs g) := Lib.hid HOK2.out.1
        clear hle
        gi_wp2
        have g1 := set4_grown W5 q (.int .i64 g.nm) (.int .i64 g.kd) (.int .i64 g.sv) (.string ⟨g.lt.toArray⟩)
        have u9 := set4_blk (.int .i64 g.nm) (.int .i64 g.kd) (.int .i64 g.sv) (.string ⟨g.lt.toArray⟩) K9.out
        have ko := set4_keeps W5 q (.int .i64 g.nm) (.int .i64 g.kd) (.int .i64 g.sv) (.string ⟨g.lt.toArray⟩)
        generalize (((W5.setCell ⟨q, 0, none⟩ (.int .i64 g.nm)).setCell ⟨q, 1, none⟩ (.int .i64 g.kd)).setCell ⟨q, 2, none⟩ (.int .i64 g.sv)).setCell ⟨q, 3, none⟩ (.string ⟨g.lt.toArray⟩) = U5 at *
        have g2 := grownBy_setCell' U5 (q + 1) (.bool true)
        have l10 := (Array.getElem?_eq_some_iff.1 K10.out).1
        have e1 : U5.heap[q + 1]? = W5.heap[q + 1]? := g1.block (q + 1) l10 (fun e => by injection e with e; omega)
        have u10 := blk_set (i := 0) (e1.trans K10.out) (.bool true)
        simp only [Array.setIfInBounds] at u10
        have sz5 : W5.heap.size ≤ U5.heap.size := g1.size
        have oth : ∀ k, k < W5.heap.size → k ≠ q → k ≠ q + 1 → (U5.setCell ⟨q + 1, 0, none⟩ (.bool true)).heap[k]? = W5.heap[k]? := fun k hk h3 h4 => (g2.block k (by omega) (fun e => by injection e with e; omega)).trans (g1.block k hk (fun e => by injection e with e; omega))
        have bel : RowKit.Below w.heap.size W5 (U5.setCell ⟨q + 1, 0, none⟩ (.bool true)) := ((Below.refl _ W5).grown g1 (by omega) (fun j hj => by injection hj with hj; omega)).trans ((Below.refl _ U5).grown g2 (by omega) (fun j hj => by injection hj with hj; omega))
        exact ⟨⟨ko.trans (KeepsOthers.setCell _ _ _), bel, fun k cs t fz hk h => oth k (Array.getElem?_eq_some_iff.1 h).1 (by omega) (by omega)⟩, ⟨H5.out.bel.trans bel, (oth _ (Array.getElem?_eq_some_iff.1 H5.out.h5).1 (by omega) (by omega)).trans H5.out.h5, (oth _ (Array.getElem?_eq_some_iff.1 H5.out.h6).1 (by omega) (by omega)).trans H5.out.h6, g, true, fun _ => FC.out, (g2.block q (by have := (Array.getElem?_eq_some_iff.1 u9).1; exact this) (fun e => by injection e with e; omega)).trans u9, by simpa using u10⟩⟩
      · have hlb : decide (at' ≤ t) = false := by simpa using hle
        have FC := FB
        clear hle
        gi_wp2
        exact ⟨⟨KeepsOthers.refl _, Below.refl _ _, fun k cs t fz hk h => rfl⟩, ⟨H5.out.bel, H5.out.h5, H5.out.h6, fc, bc, FC.out, K9.out, K10.out⟩⟩
    case done =>
      rintro D xs X hD hS hI hdf
      have hl := (Array.getElem?_eq_some_iff.1 hdf).1
      obtain ⟨fc, bc, hfb, h9, h10⟩ := hI.st
      have FB := Lib.hid hfb
      have hbs := hI.bel.size
      obtain ⟨r0, r1, r2, r3⟩ := cel4 h9
      obtain ⟨q0, q1, q2, q3⟩ := cel4 hI.h6
      have f0 := frz (j := 0) hI.h6
      have f1 := frz (j := 1) hI.h6
      have f2' := frz (j := 2) hI.h6
      have f3 := frz (j := 3) hI.h6
      have z0 := cel1 h10
      have BB : Hid (BlkN w (w.heap.size + 1) #[.int .i64 0, .int .i64 0, .int .i64 0, .string ⟨#[]⟩] 145 X) := ⟨hI.bel, by omega, hI.h6⟩
      have HD := Lib.hid hdf
      clear hI hfb h9 h10 hS hdf
      have ne1 : ¬ q + 1 = w.heap.size + 1 := by omega
      have ne2 : ¬ q = w.heap.size + 1 := by omega
      have ne3 : ¬ q = w.heap.size := by omega
      have ne4 : ¬ w.heap.size = q := by omega
      gi_wp2
      refine wpIn_wide.2 ?_
      go_region
      have B := Lib.hid (BB.out.set4 (x := .int .i64 fc.nm) (y := .int .i64 fc.kd) (z := .int .i64 fc.sv) (u := .string ⟨fc.lt.toArray⟩)).drew
      have HD1 : Hid (((((X.setCell ⟨w.heap.size + 1, 0, none⟩ (.int .i64 fc.nm)).setCell ⟨w.heap.size + 1, 1, none⟩ (.int .i64 fc.kd)).setCell ⟨w.heap.size + 1, 2, none⟩ (.int .i64 fc.sv)).setCell ⟨w.heap.size + 1, 3, none⟩ (.string ⟨fc.lt.toArray⟩)).drew.heap[D]? = some (.deferred (some []))) := Lib.hid ((set4_other _ _ _ _ (by omega)).trans HD.out)
      generalize ((((X.setCell ⟨w.heap.size + 1, 0, none⟩ (.int .i64 fc.nm)).setCell ⟨w.heap.size + 1, 1, none⟩ (.int .i64 fc.kd)).setCell ⟨w.heap.size + 1, 2, none⟩ (.int .i64 fc.sv)).setCell ⟨w.heap.size + 1, 3, none⟩ (.string ⟨fc.lt.toArray⟩)).drew = V1 at *
      clear q0 q1 q2 q3 r0 r1 r2 r3 z0 f0 f1 f2' f3
      gi_wp2
      have B2 : RowKit.Below w.heap.size w (V1.putObj D (.deferred none)) := B.out.bel.trans ((Below.refl _ V1).grown (grownBy_putObj' V1 D (.deferred none)) (by have := B.out.bel.size; omega) (fun j hj => by injection hj with hj; omega))
      have B3 : (V1.putObj D (.deferred none)).heap[w.heap.size + 1]? = some (.cells #[.int .i64 fc.nm, .int .i64 fc.kd, .int .i64 fc.sv, .string ⟨fc.lt.toArray⟩] 145 (0, 0)) := (World.putObj_heap_other (by omega)).trans B.out.blk
      obtain ⟨c0, c1, c2, c3⟩ := cel4 B3
      refine ⟨by simp, .inl ⟨D, _, rfl, run_takeDeferred HD1.out, ?_⟩⟩
      exact ⟨.tuple #[fvV fc, .bool bc], by simp [results, Tryz.results77, go_sem, c0, c1, c2, c3], fc, bc, rfl, FB.out, B2⟩
    case stop =>
      rintro D c pre X hD hSp hx hdf
      exact hx.elim
end Go.Proofs.YtdmfgechoanmlaaGreatDoor

namespace Go.Proofs.YtdmfgechoanmlaaGreatDoor
open Go Go.RowKit Go.Sort Go.Shelf
attribute [local go_sem] Oper.semAt_some

theorem fir_sv {rs : List RV} (hF : FewS rs) {f : FV} (h : FirOf rs f) : -90000 < f.sv ∧ f.sv < 90000 := by
  obtain ⟨r, hr, y, hy, rfl⟩ := h
  have hfr := hF.2.1 r hr
  have h19 := (hF.1.2 r hr).1
  by_cases h : y ≤ 2110
  · exact hF.2.2.1 _ (row_mem.2 ⟨r, hr, y, by have := hy.1; omega, h, hy, rfl⟩)
  · have hd : r.dn ≤ dim 2072 r.mo := by
      have h3 := hy.2.2
      by_cases hm : r.mo = 2
      · rw [hm, dim_two] at h3 ⊢
        have h4 : lp y ≤ 1 := by unfold lp; split <;> omega
        have h5 : lp 2072 = 1 := by decide
        omega
      · rw [dim_same hm 2072 y]; exact h3
    exact hF.2.2.1 (frF r 2072) (row_mem.2 ⟨r, hr, 2072, by omega, by omega, ⟨by omega, by have := hy.2.1; omega, hd⟩, rfl⟩)
/-- Rules of which whatever instant may be asked. -/
structure FarP (n : Nat) (rs : List RV) (off t : Int) : Prop where
  hn : rs.length = n
  hn1 : n ≤ 1000
  ok : ∀ r ∈ rs, okR r ∧ 1900 ≤ r.fr
  sv : ∀ f, FirOf rs f → -90000 < f.sv ∧ f.sv < 90000
  lt : ∀ r ∈ rs, r.lt.length ≤ 1000000000000000
  o1 : -90000 < off
  o2 : off < 90000
  fr : FrT t
set_option maxRecDepth 20000 in
theorem saved_far (e : EV) (A0 : Option Addr) (n c0 : Nat) (rs : List RV) (t : Int) (w : World) (he : e.rl.isEmpty = false) (hA : LaidF w) (hR : RowsAt 11 cR A0 rs w) (hP : FarP n rs e.of t) :
    Calls Tryz.prog 59 #[evV e, .slice A0 n c0, .int .i64 t] w fun x w' => ∃ (s : Int) (l : List UInt8), x = .returned (.tuple #[.int .i64 s, .string ⟨l.toArray⟩]) ∧ (-90000 < s ∧ s < 90000 ∧ l.length ≤ 1000000000000000) ∧ Below w.heap.size w w' := by
  have X0 := Lib.hid (BlkN.make (Below.refl w.heap.size w) (cE e) 54)
  obtain ⟨x0, x1, x2, x3, x4, x5, x6, x7, x8, x9, x10, x11⟩ := cells12 X0.out.blk
  have LT := Lib.hid (callsIn_wide.1 (flatest_far 9 (Nat.le_refl _) A0 n c0 rs e.of t _ (hA.next X0.out.bel) (cell_lt ((hA.next X0.out.bel).ah 1 (by omega) (by omega))) (hR.next X0.out.bel) hP.hn hP.hn1 hP.ok hP.sv hP.o1 hP.o2 hP.fr))
  have FL := Lib.hid (fun W (k : Below w.heap.size w W) => fletter_any A0 n c0 rs W (hR.next k) hP.hn hP.hn1)
  have GB : Hid (∀ f, FirOf rs f → -90000 < f.sv ∧ f.sv < 90000 ∧ f.lt.length ≤ 1000000000000000) := Lib.hid fun f hf => by
    have h1 := hP.sv f hf
    obtain ⟨r, hr, y, -, rfl⟩ := hf
    exact ⟨h1.1, h1.2, hP.lt r hr⟩
  have LB : Hid ((ltrL rs n).length ≤ 1000000000000000) := Lib.hid (by
    rcases ltrL_mem (rs := rs) (n := n) with h | ⟨r, hr, h⟩
    · rw [h]; simp
    · rw [h]; exact hP.lt r hr)
  clear hP hA hR
  obtain ⟨of, rl, sv, fm, en, uy, um, dk, dw, dn, sc, ck⟩ := e
  unfold evV at *
  unfold cE at *
  simp only at *
  go_enter Tryz.func59, Tryz.ntmps59
  repeat (first | go_values | go_skip | go_guarded | go_step | go_upon | go_back)
  go_at_call 77
  refine LT.out.mono ?_
  rintro x w1 ⟨f, b, rfl, hf, k1⟩
  simp only [fvV]
  have X1 := Lib.hid (X0.out.next k1)
  have B1 := Lib.hid (BlkN.make X1.out.bel #[.int .i64 f.nm, .int .i64 f.kd, .int .i64 f.sv, .string ⟨f.lt.toArray⟩] 145)
  obtain ⟨y0, y1, y2, y3⟩ := cel4 B1.out.blk
  have HF := Lib.hid hf
  clear k1 x0 x1 x2 x3 x4 x5 x6 x7 x8 x9 x10 x11 hf
  cases b with
  | true =>
    have G := Lib.hid (GB.out f (HF.out rfl))
    repeat (first | go_values | go_skip | go_guarded | go_step | go_upon | go_back)
    go_quiet (fail)
    go_wp2
    go_ret2
    exact ⟨f.sv, f.lt, rfl, G.out, below_drewN B1.out.bel _⟩
  | false =>
    have FW := Lib.hid (FL.out _ B1.out.bel)
    repeat (first
      | (go_at_call 78; (with_reducible refine FW.out.mono ?_); (rintro x w2 ⟨rfl, k2⟩); have X2 := Lib.hid (bthen B1.out.bel k2); clear k2; simp only [])
      | go_values | go_skip | go_guarded | go_step | go_upon | go_back)
    go_ret2
    exact ⟨0, ltrL rs n, rfl, ⟨by decide, by decide, LB.out⟩, X2.out⟩
set_option maxRecDepth 20000 in
theorem within_far (e : EV) (lv : Value) (t : Int) (w : World) (HA : Hid (LaidB w)) (SV : Hid (∀ W, Below w.heap.size w W → Calls Tryz.prog 59 #[evV e, lv, .int .i64 t] W fun x w' => ∃ (s : Int) (l : List UInt8), x = .returned (.tuple #[.int .i64 s, .string ⟨l.toArray⟩]) ∧ (-90000 < s ∧ s < 90000 ∧ l.length ≤ 1000000000000000) ∧ Below W.heap.size W w')) (h1 : -90000 < e.of) (h2 : e.of < 90000) (hf : e.fm.length ≤ 1000) :
    Calls Tryz.prog 33 #[evV e, lv, .int .i64 t] w fun x w' => ∃ p1 p2 p3 e0, x = .returned (.tuple #[locV p1 p2 p3, .int .i64 e0]) ∧ Below w.heap.size w w' := by
  have SH := Lib.hid (fun l off d W (h : LaidB W) (hl : l.length ≤ 1000000000000000) => zshow_is e.fm l off d W (Lib.hid h) (Lib.hid ⟨hf, hl⟩))
  have X : Hid (TwoB w w.heap.size (cE e) 54 (w.heap.size + 1) #[.int .i64 0, .bool false, .string ⟨#[]⟩] 41 ((w.alloc (.cells (cE e) 54)).alloc (.cells #[.int .i64 0, .bool false, .string ⟨#[]⟩] 41))) :=
    ⟨BlkN.fst (w := w) _ 54 _, BlkN.two w _ _ _⟩
  obtain ⟨of, rl, sv, fm, en, uy, um, dk, dw, dn, sc, ck⟩ := e
  unfold evV at *
  unfold cE at *
  simp only at *
  obtain ⟨x0, x1, x2, x3, x4, x5, x6, x7, x8, x9, x10, x11⟩ := cells12 X.out.a.blk
  go_enter Tryz.func33, Tryz.ntmps33
  repeat (first | go_values | go_skip | go_guarded | go_step | go_upon | go_back)
  go_at_call 59
  refine (SV.out _ X.out.a.bel).mono ?_
  rintro x w1 ⟨s, l, rfl, ⟨hs1, hs2, hl⟩, k1⟩
  simp only []
  have X1 := Lib.hid (X.out.next k1)
  clear k1 x0 x1 x2 x3 x4 x5 x6 x7 x8 x9 x10 x11
  obtain ⟨x0, x1, x2, x3, x4, x5, x6, x7, x8, x9, x10, x11⟩ := cells12 X1.out.a.blk
  have hw : IntKind.i64.wrap (of + s) = of + s := IntWalk.i64_in _ (by omega)
  obtain ⟨n, hn⟩ : ∃ n, of + s = n := ⟨_, rfl⟩
  rw [hn] at hw
  obtain ⟨d, hd⟩ : ∃ d, (s != 0) = d := ⟨_, rfl⟩
  have SW := Lib.hid (fun W (k : Below w.heap.size w W) => SH.out l n d W (HA.out.next k) hl)
  obtain ⟨T, hT⟩ : ∃ T, shS fm n d l = T := ⟨_, rfl⟩
  obtain ⟨e0, he0⟩ : ∃ e0, shE fm n = e0 := ⟨_, rfl⟩
  rw [hT, he0] at SW
  clear hT he0 SH SV hs1 hs2 hl
  by_cases hz : e0 = 0
  · subst hz
    repeat (first
      | (go_at_call 60; refine (SW.out _ X1.out.a.bel).mono ?_; rintro x w2 ⟨rfl, k2⟩; simp only []
         have X2 := Lib.hid (X1.out.b.next k2)
         clear k2
         obtain ⟨c0, c1, c2⟩ := cel3 X2.out.blk
         have f0 := frz (j := 0) X2.out.blk
         have f1 := frz (j := 1) X2.out.blk
         have f2 := frz (j := 2) X2.out.blk)
      | go_values | go_skip | go_guarded | go_step | go_upon | go_back)
    refine (X2.out.set3).ret fun W' B => ?_
    obtain ⟨c0, c1, c2⟩ := cel3 B.blk
    refine bodyPost_ret ?_ rfl ⟨n, d, T, 0, rfl, B.bel⟩
    simp [results, Tryz.results33, go_sem, c0, c1, c2]; rfl
  · have hz1 : (e0 != 0) = true := by simpa using hz
    clear hz
    repeat (first
      | (go_at_call 60; refine (SW.out _ X1.out.a.bel).mono ?_; rintro x w2 ⟨rfl, k2⟩; simp only []
         have X2 := Lib.hid (X1.out.b.next k2)
         clear k2
         obtain ⟨c0, c1, c2⟩ := cel3 X2.out.blk
         have f0 := frz (j := 0) X2.out.blk
         have f1 := frz (j := 1) X2.out.blk
         have f2 := frz (j := 2) X2.out.blk)
      | go_values | go_skip | go_guarded | go_step | go_upon | go_back)
    refine (X2.out.set3).ret fun W' B => ?_
    obtain ⟨c0, c1, c2⟩ := cel3 B.blk
    refine bodyPost_ret ?_ rfl ⟨0, false, [], e0, rfl, B.bel⟩
    simp [results, Tryz.results33, go_sem, c0, c1, c2]; rfl
end Go.Proofs.YtdmfgechoanmlaaGreatDoor

namespace Go.Proofs.YtdmfgechoanmlaaGreatDoor
open Go Go.RowKit Go.Sort Go.Shelf
attribute [local go_sem] Oper.semAt_some

theorem cell_set3 {W : World} {k b o : Nat} {v : Value} (x y z : Value) (h : W.cell? ⟨b, o, none⟩ = some v) (hb : b ≠ k) : (((W.setCell ⟨k, 0, none⟩ x).setCell ⟨k, 1, none⟩ y).setCell ⟨k, 2, none⟩ z).cell? ⟨b, o, none⟩ = some v := by
  have e : (((W.setCell ⟨k, 0, none⟩ x).setCell ⟨k, 1, none⟩ y).setCell ⟨k, 2, none⟩ z).heap[b]? = W.heap[b]? := by
    rw [Below.heap_setCell _ _ _ _ (show b ≠ k from hb), Below.heap_setCell _ _ _ _ (show b ≠ k from hb), Below.heap_setCell _ _ _ _ (show b ≠ k from hb)]
  exact (World.cell?_of_block (a := ⟨b, o, none⟩) e).trans h
set_option maxRecDepth 20000 in
set_option maxHeartbeats 800000 in
theorem zat_fcore (nm : List UInt8) (L off n cz : Nat) (V : Value) (rs : List Value) (es : List Int) (w : World) (t : Int) (e : EV) (k : Nat) (A : Option Addr) (n0 c0 : Nat)
    (OP : Hid (∀ W, Below w.heap.size w W → Calls Tryz.prog 31 #[.agg #[.string ⟨nm.toArray⟩, .slice (some ⟨L, off, none⟩) n cz], .func (.func 10) #[V] #[]] W fun r w' => OpenR 0 rs es r w' ∧ Below W.heap.size W w'))
    (ER : Hid (∀ A c W, IntsAt A es W → Calls Tryz.prog 16 #[.slice A es.length c, .int .i64 t] W fun r w' => r = .returned (.int .i64 (k : Int)) ∧ Below W.heap.size W w'))
    (h5 : ¬ t < -2199023255552) (h6 : ¬ t > 2199023255552) (hkz : (k : Int) < (n : Int)) (hkr : (k : Int) < (rs.length : Int)) (HR : Hid (rs[k]? = some (.slice A n0 c0))) (hL : L < w.heap.size)
    (HC : Hid (w.cell? ⟨L, off + k * 12, none⟩ = some (.int .i64 e.of) ∧ w.cell? ⟨L, off + k * 12 + 1, none⟩ = some (.string ⟨e.rl.toArray⟩) ∧ w.cell? ⟨L, off + k * 12 + 2, none⟩ = some (.int .i64 e.sv) ∧ w.cell? ⟨L, off + k * 12 + 3, none⟩ = some (.string ⟨e.fm.toArray⟩) ∧ w.cell? ⟨L, off + k * 12 + 4, none⟩ = some (.bool e.en) ∧ w.cell? ⟨L, off + k * 12 + 5, none⟩ = some (.int .i64 e.uy) ∧ w.cell? ⟨L, off + k * 12 + 6, none⟩ = some (.int .i64 e.um) ∧ w.cell? ⟨L, off + k * 12 + 7, none⟩ = some (.int .i64 e.dk) ∧ w.cell? ⟨L, off + k * 12 + 8, none⟩ = some (.int .i64 e.dw) ∧ w.cell? ⟨L, off + k * 12 + 9, none⟩ = some (.int .i64 e.dn) ∧ w.cell? ⟨L, off + k * 12 + 10, none⟩ = some (.int .i64 e.sc) ∧ w.cell? ⟨L, off + k * 12 + 11, none⟩ = some (.int .i64 e.ck)))
    (WI : Hid (∀ W, Below w.heap.size w W → Calls Tryz.prog 33 #[evV e, .slice A n0 c0, .int .i64 t] W fun r w' => ∃ p1 p2 p3 e0, r = .returned (.tuple #[locV p1 p2 p3, .int .i64 e0]) ∧ Below W.heap.size W w')) :
    Calls Tryz.prog 13 #[.agg #[.string ⟨nm.toArray⟩, .slice (some ⟨L, off, none⟩) n cz], .func (.func 10) #[V] #[], .int .i64 t] w fun r w' => ∃ p1 p2 p3 e0, r = .returned (.tuple #[locV p1 p2 p3, .int .i64 e0]) ∧ Below w.heap.size w w' := by
  have mixed : Tryz.prog.follows .mixedOrders = true := by kernel_rfl
  have X : Hid (TwoB w w.heap.size #[.string ⟨nm.toArray⟩, .slice (some ⟨L, off, none⟩) n cz] 24 (w.heap.size + 1) #[.int .i64 0, .bool false, .string ⟨#[]⟩] 41 ((w.alloc (.cells #[.string ⟨nm.toArray⟩, .slice (some ⟨L, off, none⟩) n cz] 24)).alloc (.cells #[.int .i64 0, .bool false, .string ⟨#[]⟩] 41))) :=
    ⟨BlkN.fst (w := w) _ 24 _, BlkN.two w _ _ _⟩
  obtain ⟨z0, z1⟩ := cel2 X.out.a.blk
  go_enter Tryz.func13, Tryz.ntmps13
  repeat (first
    | (go_at_call 16; refine (ER.out _ _ _ I1.out).mono ?_; rintro r w2 ⟨rfl, k2⟩
       have X2 := Lib.hid (X1.out.next k2)
       have W2 := Lib.hid (W1.out.next k2)
       have S2 := Lib.hid (S1.out.next k2)
       clear k2 z0 z1 y0 y1
       simp only [])
    | (go_at_call 31; refine (OP.out _ X.out.a.bel).mono ?_; rintro r w1 ⟨⟨A1, n1, c1, A2, n2, c2, rfl, g1, -⟩, k1⟩
       obtain ⟨rfl, rfl, gs, gi⟩ := g1 rfl
       have WB : Hid (w.heap.size + 2 ≤ w1.heap.size) := Lib.hid (by have := (X.out.next k1).b.lt; omega)
       have X1 := Lib.hid ((X.out.next k1).more (.cells #[.slice A1 rs.length c1, .slice A2 es.length c2] 91))
       have W1 := Lib.hid (BlkN.make (X.out.next k1).a.bel #[.slice A1 rs.length c1, .slice A2 es.length c2] 91)
       have S1 := Lib.hid (gs.next ((Below.refl w1.heap.size w1).alloc (Nat.le_refl _) (.cells #[.slice A1 rs.length c1, .slice A2 es.length c2] 91)))
       have I1 := Lib.hid (gi.next ((Below.refl w1.heap.size w1).alloc (Nat.le_refl _) (.cells #[.slice A1 rs.length c1, .slice A2 es.length c2] 91)))
       clear k1 z0 z1 g1 gs gi
       obtain ⟨z0, z1⟩ := cel2 X1.out.a.blk
       obtain ⟨y0, y1⟩ := cel2 W1.out.blk
       simp only [])
    | go_values | go_skip | go_guarded | go_step | go_upon | go_back)
  obtain ⟨z0, z1⟩ := cel2 X2.out.a.blk
  obtain ⟨y0, y1⟩ := cel2 W2.out.blk
  obtain ⟨g, rfl, hg, hgc⟩ := S2.out k _ HR.out
  obtain ⟨x0, x1, x2, x3, x4, x5, x6, x7, x8, x9, x10, x11⟩ : (w2.cell? ⟨L, off + k * 12, none⟩ = some (.int .i64 e.of) ∧ w2.cell? ⟨L, off + k * 12 + 1, none⟩ = some (.string ⟨e.rl.toArray⟩) ∧ w2.cell? ⟨L, off + k * 12 + 2, none⟩ = some (.int .i64 e.sv) ∧ w2.cell? ⟨L, off + k * 12 + 3, none⟩ = some (.string ⟨e.fm.toArray⟩) ∧ w2.cell? ⟨L, off + k * 12 + 4, none⟩ = some (.bool e.en) ∧ w2.cell? ⟨L, off + k * 12 + 5, none⟩ = some (.int .i64 e.uy) ∧ w2.cell? ⟨L, off + k * 12 + 6, none⟩ = some (.int .i64 e.um) ∧ w2.cell? ⟨L, off + k * 12 + 7, none⟩ = some (.int .i64 e.dk) ∧ w2.cell? ⟨L, off + k * 12 + 8, none⟩ = some (.int .i64 e.dw) ∧ w2.cell? ⟨L, off + k * 12 + 9, none⟩ = some (.int .i64 e.dn) ∧ w2.cell? ⟨L, off + k * 12 + 10, none⟩ = some (.int .i64 e.sc) ∧ w2.cell? ⟨L, off + k * 12 + 11, none⟩ = some (.int .i64 e.ck)) := by
    have hh : ∀ {o : Nat} {v : Value}, w.cell? ⟨L, o, none⟩ = some v → w2.cell? ⟨L, o, none⟩ = some v := fun h => (X2.out.a.bel.cell (p := ⟨L, _, none⟩) hL).trans h
    obtain ⟨a0, a1, a2, a3, a4, a5, a6, a7, a8, a9, a10, a11⟩ := HC.out
    exact ⟨hh a0, hh a1, hh a2, hh a3, hh a4, hh a5, hh a6, hh a7, hh a8, hh a9, hh a10, hh a11⟩
  have SK := Lib.hid (fun (w' : World) (k' : Below w2.heap.size w2 w') => (⟨(k'.cell (p := ⟨L, off + k * 12, none⟩) (cell_lt x0)).trans x0, (k'.cell (p := ⟨L, off + k * 12 + 1, none⟩) (cell_lt x1)).trans x1, (k'.cell (p := ⟨L, off + k * 12 + 2, none⟩) (cell_lt x2)).trans x2, (k'.cell (p := ⟨L, off + k * 12 + 3, none⟩) (cell_lt x3)).trans x3, (k'.cell (p := ⟨L, off + k * 12 + 4, none⟩) (cell_lt x4)).trans x4, (k'.cell (p := ⟨L, off + k * 12 + 5, none⟩) (cell_lt x5)).trans x5, (k'.cell (p := ⟨L, off + k * 12 + 6, none⟩) (cell_lt x6)).trans x6, (k'.cell (p := ⟨L, off + k * 12 + 7, none⟩) (cell_lt x7)).trans x7, (k'.cell (p := ⟨L, off + k * 12 + 8, none⟩) (cell_lt x8)).trans x8, (k'.cell (p := ⟨L, off + k * 12 + 9, none⟩) (cell_lt x9)).trans x9, (k'.cell (p := ⟨L, off + k * 12 + 10, none⟩) (cell_lt x10)).trans x10, (k'.cell (p := ⟨L, off + k * 12 + 11, none⟩) (cell_lt x11)).trans x11, (k'.cell (p := ⟨w.heap.size, 1, none⟩) (cell_lt z1)).trans z1, (k'.cell (p := ⟨w1.heap.size, 0, none⟩) (cell_lt y0)).trans y0, (k'.cell (p := ⟨g, k, none⟩) (cell_lt hgc)).trans hgc⟩ : w'.cell? ⟨L, off + k * 12, none⟩ = some (.int .i64 e.of) ∧ w'.cell? ⟨L, off + k * 12 + 1, none⟩ = some (.string ⟨e.rl.toArray⟩) ∧ w'.cell? ⟨L, off + k * 12 + 2, none⟩ = some (.int .i64 e.sv) ∧ w'.cell? ⟨L, off + k * 12 + 3, none⟩ = some (.string ⟨e.fm.toArray⟩) ∧ w'.cell? ⟨L, off + k * 12 + 4, none⟩ = some (.bool e.en) ∧ w'.cell? ⟨L, off + k * 12 + 5, none⟩ = some (.int .i64 e.uy) ∧ w'.cell? ⟨L, off + k * 12 + 6, none⟩ = some (.int .i64 e.um) ∧ w'.cell? ⟨L, off + k * 12 + 7, none⟩ = some (.int .i64 e.dk) ∧ w'.cell? ⟨L, off + k * 12 + 8, none⟩ = some (.int .i64 e.dw) ∧ w'.cell? ⟨L, off + k * 12 + 9, none⟩ = some (.int .i64 e.dn) ∧ w'.cell? ⟨L, off + k * 12 + 10, none⟩ = some (.int .i64 e.sc) ∧ w'.cell? ⟨L, off + k * 12 + 11, none⟩ = some (.int .i64 e.ck) ∧ w'.cell? ⟨w.heap.size, 1, none⟩ = some (.slice (some ⟨L, off, none⟩) n cz) ∧ w'.cell? ⟨w1.heap.size, 0, none⟩ = some (.slice (some ⟨g, 0, none⟩) rs.length c1) ∧ w'.cell? ⟨g, k, none⟩ = some (.slice A n0 c0)))
  have nL : L ≠ w.heap.size + 1 := by omega
  have nz : w.heap.size ≠ w.heap.size + 1 := by omega
  have nw : w1.heap.size ≠ w.heap.size + 1 := by have := WB.out; omega
  have ng : g ≠ w.heap.size + 1 := by
    intro h9
    have h8 := X2.out.b.cell k
    rw [← h9, hgc] at h8
    rcases k with _ | _ | _ | k <;> simp at h8
  have SK3 := Lib.hid (fun (w' : World) (k' : Below w2.heap.size w2 w') (a b c : Value) => (by
    obtain ⟨h0, h1, h2, h3, h4, h5, h6, h7, h8, h9, h10, h11, h12, h13, h14⟩ := SK.out w' k'
    exact ⟨cell_set3 a b c h0 nL, cell_set3 a b c h1 nL, cell_set3 a b c h2 nL, cell_set3 a b c h3 nL, cell_set3 a b c h4 nL, cell_set3 a b c h5 nL, cell_set3 a b c h6 nL, cell_set3 a b c h7 nL, cell_set3 a b c h8 nL, cell_set3 a b c h9 nL, cell_set3 a b c h10 nL, cell_set3 a b c h11 nL, cell_set3 a b c h12 nz, cell_set3 a b c h13 nw, cell_set3 a b c h14 ng⟩ : (((w'.setCell ⟨w.heap.size + 1, 0, none⟩ a).setCell ⟨w.heap.size + 1, 1, none⟩ b).setCell ⟨w.heap.size + 1, 2, none⟩ c).cell? ⟨L, off + k * 12, none⟩ = some (.int .i64 e.of) ∧ (((w'.setCell ⟨w.heap.size + 1, 0, none⟩ a).setCell ⟨w.heap.size + 1, 1, none⟩ b).setCell ⟨w.heap.size + 1, 2, none⟩ c).cell? ⟨L, off + k * 12 + 1, none⟩ = some (.string ⟨e.rl.toArray⟩) ∧ (((w'.setCell ⟨w.heap.size + 1, 0, none⟩ a).setCell ⟨w.heap.size + 1, 1, none⟩ b).setCell ⟨w.heap.size + 1, 2, none⟩ c).cell? ⟨L, off + k * 12 + 2, none⟩ = some (.int .i64 e.sv) ∧ (((w'.setCell ⟨w.heap.size + 1, 0, none⟩ a).setCell ⟨w.heap.size + 1, 1, none⟩ b).setCell ⟨w.heap.size + 1, 2, none⟩ c).cell? ⟨L, off + k * 12 + 3, none⟩ = some (.string ⟨e.fm.toArray⟩) ∧ (((w'.setCell ⟨w.heap.size + 1, 0, none⟩ a).setCell ⟨w.heap.size + 1, 1, none⟩ b).setCell ⟨w.heap.size + 1, 2, none⟩ c).cell? ⟨L, off + k * 12 + 4, none⟩ = some (.bool e.en) ∧ (((w'.setCell ⟨w.heap.size + 1, 0, none⟩ a).setCell ⟨w.heap.size + 1, 1, none⟩ b).setCell ⟨w.heap.size + 1, 2, none⟩ c).cell? ⟨L, off + k * 12 + 5, none⟩ = some (.int .i64 e.uy) ∧ (((w'.setCell ⟨w.heap.size + 1, 0, none⟩ a).setCell ⟨w.heap.size + 1, 1, none⟩ b).setCell ⟨w.heap.size + 1, 2, none⟩ c).cell? ⟨L, off + k * 12 + 6, none⟩ = some (.int .i64 e.um) ∧ (((w'.setCell ⟨w.heap.size + 1, 0, none⟩ a).setCell ⟨w.heap.size + 1, 1, none⟩ b).setCell ⟨w.heap.size + 1, 2, none⟩ c).cell? ⟨L, off + k * 12 + 7, none⟩ = some (.int .i64 e.dk) ∧ (((w'.setCell ⟨w.heap.size + 1, 0, none⟩ a).setCell ⟨w.heap.size + 1, 1, none⟩ b).setCell ⟨w.heap.size + 1, 2, none⟩ c).cell? ⟨L, off + k * 12 + 8, none⟩ = some (.int .i64 e.dw) ∧ (((w'.setCell ⟨w.heap.size + 1, 0, none⟩ a).setCell ⟨w.heap.size + 1, 1, none⟩ b).setCell ⟨w.heap.size + 1, 2, none⟩ c).cell? ⟨L, off + k * 12 + 9, none⟩ = some (.int .i64 e.dn) ∧ (((w'.setCell ⟨w.heap.size + 1, 0, none⟩ a).setCell ⟨w.heap.size + 1, 1, none⟩ b).setCell ⟨w.heap.size + 1, 2, none⟩ c).cell? ⟨L, off + k * 12 + 10, none⟩ = some (.int .i64 e.sc) ∧ (((w'.setCell ⟨w.heap.size + 1, 0, none⟩ a).setCell ⟨w.heap.size + 1, 1, none⟩ b).setCell ⟨w.heap.size + 1, 2, none⟩ c).cell? ⟨L, off + k * 12 + 11, none⟩ = some (.int .i64 e.ck) ∧ (((w'.setCell ⟨w.heap.size + 1, 0, none⟩ a).setCell ⟨w.heap.size + 1, 1, none⟩ b).setCell ⟨w.heap.size + 1, 2, none⟩ c).cell? ⟨w.heap.size, 1, none⟩ = some (.slice (some ⟨L, off, none⟩) n cz) ∧ (((w'.setCell ⟨w.heap.size + 1, 0, none⟩ a).setCell ⟨w.heap.size + 1, 1, none⟩ b).setCell ⟨w.heap.size + 1, 2, none⟩ c).cell? ⟨w1.heap.size, 0, none⟩ = some (.slice (some ⟨g, 0, none⟩) rs.length c1) ∧ (((w'.setCell ⟨w.heap.size + 1, 0, none⟩ a).setCell ⟨w.heap.size + 1, 1, none⟩ b).setCell ⟨w.heap.size + 1, 2, none⟩ c).cell? ⟨g, k, none⟩ = some (.slice A n0 c0)))
  have K0 := Lib.hid (Below.refl w2.heap.size w2)
  have XB := Lib.hid (X2.out.b)
  have AB := Lib.hid (X2.out.a.bel)
  clear x0 x1 x2 x3 x4 x5 x6 x7 x8 x9 x10 x11 y0 y1 z0 z1 hg hgc
  unfold evV cE at WI
  go_region_held3 (fun w' => w'.cell? ⟨L, off + k * 12, none⟩ = some (.int .i64 e.of) ∧ w'.cell? ⟨L, off + k * 12 + 1, none⟩ = some (.string ⟨e.rl.toArray⟩) ∧ w'.cell? ⟨L, off + k * 12 + 2, none⟩ = some (.int .i64 e.sv) ∧ w'.cell? ⟨L, off + k * 12 + 3, none⟩ = some (.string ⟨e.fm.toArray⟩) ∧ w'.cell? ⟨L, off + k * 12 + 4, none⟩ = some (.bool e.en) ∧ w'.cell? ⟨L, off + k * 12 + 5, none⟩ = some (.int .i64 e.uy) ∧ w'.cell? ⟨L, off + k * 12 + 6, none⟩ = some (.int .i64 e.um) ∧ w'.cell? ⟨L, off + k * 12 + 7, none⟩ = some (.int .i64 e.dk) ∧ w'.cell? ⟨L, off + k * 12 + 8, none⟩ = some (.int .i64 e.dw) ∧ w'.cell? ⟨L, off + k * 12 + 9, none⟩ = some (.int .i64 e.dn) ∧ w'.cell? ⟨L, off + k * 12 + 10, none⟩ = some (.int .i64 e.sc) ∧ w'.cell? ⟨L, off + k * 12 + 11, none⟩ = some (.int .i64 e.ck) ∧ w'.cell? ⟨w.heap.size, 1, none⟩ = some (.slice (some ⟨L, off, none⟩) n cz) ∧ w'.cell? ⟨w1.heap.size, 0, none⟩ = some (.slice (some ⟨g, 0, none⟩) rs.length c1) ∧ w'.cell? ⟨g, k, none⟩ = some (.slice A n0 c0)) (first | exact SK.out _ (Below.refl _ w2) | exact SK.out _ (Below.refl _ w2).drew | exact SK.out _ K6.out | exact SK3.out _ K6.out _ _ _) (first
    | (go_at_call 33; (refine (WI.out _ (bthen AB.out K0.out.drew)).mono ?_); rintro r w6 ⟨p1, p2, p3, e0, rfl, k6⟩
       have K6 := Lib.hid (K0.out.drew.trans k6)
       have X3 := Lib.hid (XB.out.next K6.out)
       obtain ⟨q0, q1, q2⟩ := cel3 X3.out.blk
       have f0 := frz (j := 0) X3.out.blk
       have f1 := frz (j := 1) X3.out.blk
       have f2 := frz (j := 2) X3.out.blk
       simp only [locV]))
  all_goals
    repeat (first | go_values | go_skip | go_guarded | go_step | go_upon | go_back)
    refine (X3.out.set3).ret fun W' B => ?_
    obtain ⟨q0, q1, q2⟩ := cel3 B.blk
    refine bodyPost_ret ?_ rfl ⟨p1, p2, p3, e0, rfl, B.bel⟩
    simp [results, Tryz.results13, go_sem, q0, q1, q2]; rfl
section
variable {R : EV → Option Addr × Nat × Nat} {ne aE vE : EV → Int}
theorem zat_ffar (x : WV) (w : World) (H : ZoneW x w R ne aE vE) (t : Int) (e : EV) (hv : opE R ne aE x.es = 0) (t1 : -2199023255552 ≤ t) (t2 : t ≤ 2199023255552) (k : Nat) (hk : kF (endsV aE x.es x.es.length) t = k) (he : x.es[k]? = some e)
    (WI : Hid (∀ W, Below w.heap.size w W → Calls Tryz.prog 33 #[evV e, rlV R e, .int .i64 t] W fun r w' => ∃ p1 p2 p3 e0, r = .returned (.tuple #[locV p1 p2 p3, .int .i64 e0]) ∧ Below W.heap.size W w')) :
    Calls Tryz.prog 13 #[zoV x, setsV x, .int .i64 t] w fun r w' => ∃ p1 p2 p3 e0, r = .returned (.tuple #[locV p1 p2 p3, .int .i64 e0]) ∧ Below w.heap.size w w' := by
  have n4 := H.op.n4
  have hel := endsV_len aE x.es
  obtain ⟨A, n0, c0, hrl⟩ : ∃ A n c, rlV R e = .slice A n c := by
    unfold rlV
    by_cases hr : e.rl.isEmpty = true
    · rw [if_pos hr]; exact ⟨none, 0, 0, rfl⟩
    · rw [if_neg hr]; exact ⟨_, _, _, rfl⟩
  have rlen : (rowsV R x.es x.es.length).length = x.es.length := by unfold rowsV; rw [List.take_of_length_le (Nat.le_refl _), List.length_map]
  have hrow : (rowsV R x.es x.es.length)[k]? = some (.slice A n0 c0) := by
    unfold rowsV
    rw [List.take_of_length_le (Nat.le_refl _), List.getElem?_map, he, ← hrl]; rfl
  have hkn : k < x.es.length := (List.getElem?_eq_some_iff.1 he).1
  rw [hrl] at WI
  obtain ⟨L, off, haz, hL, hEc⟩ := H.es.cells he
  have OP := fun W (kW : Below w.heap.size w W) => open_is x W (H.next kW).op (H.next kW).b (H.next kW).es 0 hv
  have ER := fun A c W (h : IntsAt A (endsV aE x.es x.es.length) W) => zera_is A c (endsV aE x.es x.es.length) t W (by omega) h
  rw [hk] at ER
  unfold zoV
  rw [haz] at OP ⊢
  exact zat_fcore x.nm L off x.es.length x.cz (wvV x) _ _ w t e k A n0 c0 (Lib.hid OP) (Lib.hid ER) (by omega) (by omega) (by omega) (by omega) (Lib.hid hrow) hL (Lib.hid hEc) WI
end
theorem zat_far (x : WV) (t : Int) (w : World) (hA : LaidZ w) (hX : WvAt x w) (hF : FewW x) (hO : WvOk x) (hL : ∀ s ∈ x.ss, ∀ r ∈ s.rs, r.lt.length ≤ 1000000000000000) (ht : FrT t) (h0 : opE (wR x) wN (aW x) x.es = 0) :
    Calls Tryz.prog 13 #[zoV x, setsV x, .int .i64 t] w fun r w' => ∃ p1 p2 p3 e0, r = .returned (.tuple #[locV p1 p2 p3, .int .i64 e0]) ∧ Below w.heap.size w w' := by
  obtain ⟨hn0, -, z2, -⟩ := opE_zero h0
  have hel := endsV_len (aW x) x.es
  have hkl := kF_le (endsV (aW x) x.es x.es.length) t
  obtain ⟨k, hk⟩ : ∃ k, kF (endsV (aW x) x.es x.es.length) t = k := ⟨_, rfl⟩
  have hkn : k < x.es.length := by omega
  obtain ⟨e, he⟩ : ∃ e, x.es[k]? = some e := ⟨_, List.getElem?_eq_getElem hkn⟩
  have hm := List.mem_of_getElem? he
  obtain ⟨hR, -⟩ := f2_right he (z2 k hkn)
  have ho := tmB_no hR.1
  have hv := tmB_no hR.2.1
  have hz := zW_ok hX hF hL e
  have hfm : e.fm.length ≤ 1000 := by have := (hF.es e hm).1; omega
  refine zat_ffar x w (opW_of hA hX hO hF hL) t e h0 ht.1 ht.2 k hk he (Lib.hid fun W kW => ?_)
  rw [zW_val]
  by_cases hr : e.rl.isEmpty = true
  · exact within_far e _ t W (Lib.hid (hA.next kW).b) (Lib.hid fun W' k' => (saved_no e _ t W' hr).mono fun r w' h => ⟨e.sv, [], h.1, ⟨hv.1, hv.2, by simp⟩, h.2⟩) ho.1 ho.2 hfm
  · have hr' : e.rl.isEmpty = false := by simpa using hr
    have hP : FarP (zW x e).rs.length (zW x e).rs e.of t := ⟨rfl, by have := hz.n6; omega, hz.ok, fun f hf => by
      have e1 : zW x e = ofW x e.rl := by unfold zW; rw [if_neg hr]
      rw [e1] at hf
      rcases ofW_mem x e.rl with h | h
      · exact fir_sv (hF.ss _ h) hf
      · rw [h] at hf; obtain ⟨r, hr2, -⟩ := hf; exact absurd hr2 (by simp), hz.lt, ho.1, ho.2, ht⟩
    exact within_far e _ t W (Lib.hid (hA.next kW).b) (Lib.hid fun W' k' => saved_far e _ _ _ (zW x e).rs t W' hr' (hA.next (bthen kW k')).f (hz.rl.next (bthen kW k')) hP) ho.1 ho.2 hfm
end Go.Proofs.YtdmfgechoanmlaaGreatDoor
