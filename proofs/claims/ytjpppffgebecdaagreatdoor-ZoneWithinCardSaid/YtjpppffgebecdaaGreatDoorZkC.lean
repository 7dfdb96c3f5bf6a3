/- For whatever world, instant and place the law ZoneWithin returns true: where its first tests let them in; and altogether. -/
import Derived.Test.YtjpppffgebecdaaGreatDoorZkA
import Derived.Test.YtjpppffgebecdaaGreatDoorMYE
namespace Go.Proofs.YtjpppffgebecdaaGreatDoor
open Go Go.RowKit Go.Sort
attribute [local go_sem] Oper.semAt_some

set_option maxRecDepth 20000 in
set_option maxHeartbeats 4000000 in
theorem zwi_main (x : WV) (t q : Int) (k : Nat) (e : EV) (w : World) (hA : LaidZ w) (hX : WvAt x w) (hO : WvOk x) (h : ZwA x t q k e) (hE : EraOk e)
    {A0 : Option Addr} {n0 c0 : Nat} {lt : List UInt8} {ps : List PV} {e0 xa ya a v9 n9 : Int} {xb yb b there : Bool} {xs ys : List UInt8} (hB : ZwB x e t w A0 n0 c0 lt ps e0 xa ya a v9 n9 xb yb b there xs ys) :
    Calls Tryz.prog 4 #[wvV x, .int .i64 t, .int .i64 q] w fun e w' => e = .returned (.bool true) ∧ Below w.heap.size w w' := by
  have AW := Lib.hid (fun W (k : Below w.heap.size w W) => zawake_is W (Lib.hid (hA.next k).b))
  have TF := Lib.hid (fun W (k : Below w.heap.size w W) => few_is x true W (hX.next k) hO (Lib.hid (.inl ⟨rfl, h.few⟩)))
  have N1 := Lib.hid (fun W => near_is t true W (Lib.hid (.inl ⟨rfl, h.nt⟩)))
  have OF := Lib.hid hB.of
  have AL := Lib.hid hB.al
  have WI := Lib.hid hB.wi
  have RW := Lib.hid hB.rw
  have EN := Lib.hid hB.en
  have NM := Lib.hid hB.nm
  have RE := Lib.hid hB.re
  have SAME := Lib.hid hB.same
  have WAY := Lib.hid hB.way
  have HX := Lib.hid hX
  have hk := h.hk
  have he := h.he
  have hn4 := h.few.ne
  have hn0 := h.ne
  obtain ⟨-, o1, o2, v1, v2, k1, k2⟩ := hE
  clear hA hX hO h hB
  have X0 := Lib.hid (BlkN.make (Below.refl w.heap.size w) #[.string ⟨x.nm.toArray⟩, .slice x.az x.es.length x.cz, .slice x.sa x.ss.length x.cs] 27)
  obtain ⟨c0, c1, c2⟩ := cel3 X0.out.blk
  unfold wvV at *
  have hkn : k < x.es.length := (List.getElem?_eq_some_iff.1 he).1
  obtain ⟨n, hn⟩ : ∃ n, x.es.length = n := ⟨_, rfl⟩
  rw [hn] at TF OF X0 c0 c1 c2 hk hkn hn4 hn0
  simp only [hn]
  clear hn
  have hnb : ((n : Int) == 0) = false := by simp; omega
  have hnz : ¬ (n : Int) = 0 := by omega
  have hm : (0 : Int) < n := by omega
  have a1 := Int.tmod_lt_of_pos q hm
  have a2 : -(n : Int) < q.tmod n := by
    rcases Int.le_total 0 q with h | h
    · have := Int.tmod_nonneg (n : Int) h; omega
    · have h4 := Int.tmod_lt_of_pos (-q) hm
      rw [Int.neg_tmod] at h4; omega
  have wa : IntKind.i64.wrap (q.tmod n + n) = q.tmod n + n := IntWalk.i64_in _ (by omega)
  have hkk : (k : Int) < (n : Int) := by omega
  have HE := Lib.hid he
  obtain ⟨L, off, haz, -, -⟩ := era_cells HX.out.es he
  rw [haz] at TF OF X0 c1
  simp only [haz]
  have HXE : Hid (RowsAt 12 cE (some ⟨L, off, none⟩) x.es w) := Lib.hid (haz ▸ HX.out.es)
  clear haz he a1 a2
  have b1 : ¬ e.of ≤ -90000 := by omega
  have b2 : ¬ 90000 ≤ e.of := by omega
  have b3 : ¬ e.sv ≤ -90000 := by omega
  have b4 : ¬ 90000 ≤ e.sv := by omega
  have b5 : ¬ e.ck < 0 := by omega
  have b6 : ¬ 2 < e.ck := by omega
  clear o1 o2 v1 v2 k1 k2
  obtain ⟨of, rl, sv, fm, en, uy, um, dk, dw, dn, sc, ck⟩ := e
  unfold evV cE at WI RW EN RE
  unfold uvV cU at NM
  unfold locV at WI RW
  simp only at OF WI RW EN RE NM WAY b1 b2 b3 b4 b5 b6
  have EQ : Hid ((e0 = 0 ∧ b = true ∧ xa = ya ∧ xb = yb ∧ xs = ys) ∨ ((e0 == 0) = false ∧ b = false ∧ xa = 0 ∧ xb = false ∧ xs = [])) := Lib.hid (by
    rcases SAME.out with h | ⟨h, h'⟩
    · exact .inl h
    · exact .inr ⟨by simpa using h, h'⟩)
  clear SAME
  go_enter Tryz.func4, Tryz.ntmps4
  repeat (first
    | (go_at_call 21; (with_reducible refine (WI.out _ Y5.out.bel).mono ?_); (rintro r w7 ⟨rfl, k7⟩)
       have Y7a := Lib.hid (Y5.out.next k7)
       have R7a := Lib.hid (R5.out.next k7)
       have LX := Lib.hid (BlkN.make Y7a.out.bel #[.int .i64 xa, .bool xb, .string ⟨xs.toArray⟩] 41)
       have Y7 := Lib.hid (Y7a.out.more (.cells #[.int .i64 xa, .bool xb, .string ⟨xs.toArray⟩] 41))
       have R7 := Lib.hid (R7a.out.more (.cells #[.int .i64 xa, .bool xb, .string ⟨xs.toArray⟩] 41))
       have V7 := Lib.hid ((V5.out.next k7).next ((Below.refl _ w7).alloc (Nat.le_refl _) (.cells #[.int .i64 xa, .bool xb, .string ⟨xs.toArray⟩] 41)))
       clear k7 y0 y1 y2 y3 y4 y5 y6 y7 y8 y9 y10 y11
       obtain ⟨y0, y1, y2, y3, y4, y5, y6, y7, y8, y9, y10, y11⟩ := cells12 Y7.out.blk
       obtain ⟨r0, r1⟩ := cel2 R7.out.blk
       simp only [])
    | (go_at_call 20; (with_reducible refine (AL.out _ Y4.out.bel).mono ?_); (rintro r w5 ⟨v, rfl, hv, k5⟩)
       obtain ⟨A1, c1', rfl, -, -⟩ := pout_form hv rfl
       have Y5a := Lib.hid (Y4.out.next k5)
       have R5 := Lib.hid (BlkN.make Y5a.out.bel #[.slice A1 ps.length c1', .string ⟨lt.toArray⟩] 57)
       have Y5 := Lib.hid (Y5a.out.more (.cells #[.slice A1 ps.length c1', .string ⟨lt.toArray⟩] 57))
       have V5 := Lib.hid (hv.next ((Below.refl _ w5).alloc (Nat.le_refl _) (.cells #[.slice A1 ps.length c1', .string ⟨lt.toArray⟩] 57)))
       clear hv k5 y0 y1 y2 y3 y4 y5 y6 y7 y8 y9 y10 y11
       obtain ⟨y0, y1, y2, y3, y4, y5, y6, y7, y8, y9, y10, y11⟩ := cells12 Y5.out.blk
       simp only [])
    | (go_at_call 13; (with_reducible refine (OF.out _ Y.out.bel).mono ?_); (rintro r w4 ⟨rfl, k4⟩)
       have Y4 := Lib.hid (Y.out.next k4)
       clear k4 y0 y1 y2 y3 y4 y5 y6 y7 y8 y9 y10 y11 c0 c1 c2 d0 d1 d2
       obtain ⟨y0, y1, y2, y3, y4, y5, y6, y7, y8, y9, y10, y11⟩ := cells12 Y4.out.blk
       simp only [])
    | (go_at_call 9; (with_reducible refine (TF.out _ X0.out.bel).mono ?_); (rintro e w1 ⟨rfl, k1⟩); have X1 := Lib.hid (X0.out.next k1); clear k1 c0 c1 c2; obtain ⟨c0, c1, c2⟩ := cel3 X1.out.blk; simp only [])
    | (go_at_call 17; (with_reducible refine (N1.out _).mono ?_); (rintro e w2 ⟨rfl, k2⟩); have X2 := Lib.hid (X1.out.next k2); clear k2 c0 c1 c2; obtain ⟨c0, c1, c2⟩ := cel3 X2.out.blk; simp only []
       obtain ⟨L', off', e', hL, x0, x1, x2, x3, x4, x5, x6, x7, x8, x9, x10, x11⟩ := era_cells (HXE.out.next X2.out.bel) HE.out; cases e'; clear hL
       have Y := Lib.hid (BlkN.make X2.out.bel #[.int .i64 of, .string ⟨rl.toArray⟩, .int .i64 sv, .string ⟨fm.toArray⟩, .bool en, .int .i64 uy, .int .i64 um, .int .i64 dk, .int .i64 dw, .int .i64 dn, .int .i64 sc, .int .i64 ck] 54)
       have X3 := Lib.hid (X2.out.more (.cells #[.int .i64 of, .string ⟨rl.toArray⟩, .int .i64 sv, .string ⟨fm.toArray⟩, .bool en, .int .i64 uy, .int .i64 um, .int .i64 dk, .int .i64 dw, .int .i64 dn, .int .i64 sc, .int .i64 ck] 54))
       obtain ⟨d0, d1, d2⟩ := cel3 X3.out.blk
       obtain ⟨y0, y1, y2, y3, y4, y5, y6, y7, y8, y9, y10, y11⟩ := cells12 Y.out.blk)
    | go_values | go_skip | go_guarded | go_step | go_upon | go_back)
  go_at_call 18
  (with_reducible refine (RW.out _ _ V7.out).mono ?_)
  (rintro r w8 ⟨rfl, k8⟩)
  have Y8a := Lib.hid (Y7.out.next k8)
  have R8a := Lib.hid (R7.out.next k8)
  have LX8a := Lib.hid (LX.out.next k8)
  have V8 := Lib.hid ((V7.out.next k8).next ((Below.refl _ w8).alloc (Nat.le_refl _) (.cells #[.int .i64 ya, .bool yb, .string ⟨ys.toArray⟩] 41)))
  have LY := Lib.hid (BlkN.make Y8a.out.bel #[.int .i64 ya, .bool yb, .string ⟨ys.toArray⟩] 41)
  have Y8 := Lib.hid (Y8a.out.more (.cells #[.int .i64 ya, .bool yb, .string ⟨ys.toArray⟩] 41))
  have R8 := Lib.hid (R8a.out.more (.cells #[.int .i64 ya, .bool yb, .string ⟨ys.toArray⟩] 41))
  have LX8 := Lib.hid (LX8a.out.more (.cells #[.int .i64 ya, .bool yb, .string ⟨ys.toArray⟩] 41))
  clear k8 y0 y1 y2 y3 y4 y5 y6 y7 y8 y9 y10 y11 r0 r1
  obtain ⟨y0, y1, y2, y3, y4, y5, y6, y7, y8, y9, y10, y11⟩ := cells12 Y8.out.blk
  obtain ⟨l0, l1, l2⟩ := cel3 LX8.out.blk
  obtain ⟨m0, m1, m2⟩ := cel3 LY.out.blk
  simp only []
  rcases EQ.out with ⟨rfl, rfl, rfl, rfl, rfl⟩ | ⟨he0, rfl, rfl, rfl, rfl⟩
  all_goals
    clear EQ
    repeat (first | go_values | go_skip | go_guarded | go_step | go_upon | go_back)
    go_at_call 22
    (with_reducible refine (EN.out _ Y8.out.bel).mono ?_)
    (rintro r w9 ⟨rfl, k9⟩)
    have Y9 := Lib.hid (Y8.out.next k9)
    have R9 := Lib.hid (R8.out.next k9)
    have V9 := Lib.hid (V8.out.next k9)
    clear k9 y0 y1 y2 y3 y4 y5 y6 y7 y8 y9 y10 y11 l0 l1 l2 m0 m1 m2
    obtain ⟨y0, y1, y2, y3, y4, y5, y6, y7, y8, y9, y10, y11⟩ := cells12 Y9.out.blk
    obtain ⟨r0, r1⟩ := cel2 R9.out.blk
    simp only []
    rcases WAY.out with ⟨rfl, rfl, rfl⟩ | ⟨rfl, rfl, rfl, rfl⟩ | ⟨rfl, rfl, rfl⟩
    · clear NM RE
      repeat (first
        | (go_at_call 10; (with_reducible refine (AW.out _ Y9.out.bel).mono ?_); (rintro e w12 ⟨rfl, k12⟩); have X12 := Lib.hid (Y9.out.next k12); simp only [])
        | go_values | go_skip | go_guarded | go_step | go_upon | go_back)
      go_ret
      exact ⟨rfl, X12.out.bel⟩
    · have NX := Lib.hid (NM.out rfl)
      clear NM RE
      repeat (first
        | (go_at_call 23; (with_reducible refine (NX.out _).mono ?_); (rintro e w10 ⟨rfl, k10⟩); have Y10 := Lib.hid (Y9.out.next k10); clear k10; simp only [])
        | (go_at_call 10; (with_reducible refine (AW.out _ Y10.out.bel).mono ?_); (rintro e w12 ⟨rfl, k12⟩); have X12 := Lib.hid (Y10.out.next k12); simp only [])
        | go_values | go_skip | go_guarded | go_step | go_upon | go_back)
      go_ret
      exact ⟨rfl, X12.out.bel⟩
    · have NX := Lib.hid (NM.out rfl)
      have RX := Lib.hid (RE.out rfl rfl)
      clear NM RE
      repeat (first
        | (go_at_call 23; (with_reducible refine (NX.out _).mono ?_); (rintro e w10 ⟨rfl, k10⟩); have Y10 := Lib.hid (Y9.out.next k10); have R10 := Lib.hid (R9.out.next k10); have V10 := Lib.hid (V9.out.next k10)
           clear k10 y0 y1 y2 y3 y4 y5 y6 y7 y8 y9 y10 y11 r0 r1
           obtain ⟨y0, y1, y2, y3, y4, y5, y6, y7, y8, y9, y10, y11⟩ := cells12 Y10.out.blk
           obtain ⟨r0, r1⟩ := cel2 R10.out.blk
           simp only [])
        | (go_at_call 24; (with_reducible refine (RX.out _ _ V10.out).mono ?_); (rintro e w11 ⟨rfl, k11⟩); have Y11 := Lib.hid (Y10.out.next k11); clear k11; simp only [])
        | (go_at_call 10; (with_reducible refine (AW.out _ Y11.out.bel).mono ?_); (rintro e w12 ⟨rfl, k12⟩); have X12 := Lib.hid (Y11.out.next k12); simp only [])
        | go_values | go_skip | go_guarded | go_step | go_upon | go_back)
      go_ret
      exact ⟨rfl, X12.out.bel⟩
theorem zoneWithin_walk (x : WV) (t q : Int) (w : World) (hA : LaidZ w) (hX : WvAt x w) (hO : WvOk x) (hL : ∀ s ∈ x.ss, ∀ r ∈ s.rs, r.lt.length ≤ 1000000000000000) :
    Calls Tryz.prog 4 #[wvV x, .int .i64 t, .int .i64 q] w fun e w' => e = .returned (.bool true) ∧ Below w.heap.size w w' := by
  by_cases h : FewW x ∧ 0 < x.es.length ∧ NrT t
  · obtain ⟨k, e, hz⟩ := zwA_ex (q := q) h
    by_cases hb : BadE e
    · exact zwi_bad x t q k e w hA hX hO hz hb
    · have hE : EraOk e := by
        unfold BadE at hb
        exact ⟨h.1.es e (List.mem_of_getElem? hz.he), by omega, by omega, by omega, by omega, by omega, by omega⟩
      obtain ⟨A0, n0, c0, lt, ps, e0, xa, ya, a, v9, n9, xb, yb, b, there, xs, ys, hB⟩ := zwB_ex x e t w hA hX hO h.1 hL h.2.2 hE
      exact zwi_main x t q k e w hA hX hO hz hE hB
  · exact zwi_out x t q w hA hX hO h
end Go.Proofs.YtjpppffgebecdaaGreatDoor
