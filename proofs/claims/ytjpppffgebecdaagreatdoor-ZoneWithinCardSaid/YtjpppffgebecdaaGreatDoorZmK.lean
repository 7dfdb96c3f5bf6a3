/- For whatever world, instant and offset the law ZoneShifts returns true, and nothing that was in memory changes. -/
import Derived.Test.YtjpppffgebecdaaGreatDoorZmJ
import Derived.Test.YtjpppffgebecdaaGreatDoorZmH
import Derived.Test.YtjpppffgebecdaaGreatDoorZnI
import Derived.Test.YtjpppffgebecdaaGreatDoorMYA
import Derived.BigQuiet
namespace Go.Proofs.YtjpppffgebecdaaGreatDoor
open Go Go.RowKit Go.Sort
attribute [local go_sem] Oper.semAt_some

/-- The first tests let a world in. -/
structure ShA (x : WV) (t m : Int) : Prop where
  few : FewW x
  ne : 0 < x.es.length
  nt : NrT t
  m1 : -40000 ≤ m
  m2 : m ≤ 40000
  nm : NrT (t - m)

set_option maxRecDepth 20000 in
set_option maxHeartbeats 2000000 in
theorem zshifts_out (x : WV) (t m : Int) (w : World) (hA : LaidZ w) (hX : WvAt x w) (hO : WvOk x) (h : ¬ ShA x t m) :
    Calls Tryz.prog 7 #[wvV x, .int .i64 t, .int .i64 m] w fun e w' => e = .returned (.bool true) ∧ Below w.heap.size w w' := by
  have AW := Lib.hid (fun W (k : Below w.heap.size w W) => zawake_is W (Lib.hid (hA.next k).b))
  have FT := Lib.hid (fun W (k : Below w.heap.size w W) (hf : FewW x) => few_is x true W (hX.next k) hO (Lib.hid (.inl ⟨rfl, hf⟩)))
  have FF := Lib.hid (fun W (k : Below w.heap.size w W) (hf : ¬ FewW x) => few_is x false W (hX.next k) hO (Lib.hid (.inr ⟨rfl, hf⟩)))
  have NT := Lib.hid (fun z W (hz : NrT z) => near_is z true W (Lib.hid (.inl ⟨rfl, hz⟩)))
  have NF := Lib.hid (fun z W (hz : ¬ NrT z) => near_is z false W (Lib.hid (.inr ⟨rfl, hz⟩)))
  have H := Lib.hid h
  clear hA hX h hO
  have X0 := Lib.hid (BlkN.make (Below.refl w.heap.size w) #[.string ⟨x.nm.toArray⟩, .slice x.az x.es.length x.cz, .slice x.sa x.ss.length x.cs] 27)
  obtain ⟨c0, c1, c2⟩ := cel3 X0.out.blk
  unfold wvV at *
  by_cases hf : FewW x
  · have TF := Lib.hid (fun W k => FT.out W k hf)
    have HF := Lib.hid hf
    clear FF FT hf
    obtain ⟨n, hn⟩ : ∃ n, x.es.length = n := ⟨_, rfl⟩
    rw [hn] at TF X0 c0 c1 c2
    have HN := Lib.hid hn
    have hn4 : n ≤ 4 := by have := HF.out.ne; omega
    simp only [hn]
    clear hn
    by_cases h0 : n = 0
    · subst h0
      go_enter Tryz.func7, Tryz.ntmps7
      repeat (first
        | (go_at_call 9; (with_reducible refine (TF.out _ X0.out.bel).mono ?_); (rintro e w1 ⟨rfl, k1⟩); have X1 := Lib.hid (X0.out.next k1); clear k1 c0 c1 c2; obtain ⟨c0, c1, c2⟩ := cel3 X1.out.blk; simp only [])
        | (go_at_call 10; (with_reducible refine (AW.out _ X1.out.bel).mono ?_); (rintro e w9 ⟨rfl, k9⟩); have X9 := Lib.hid (X1.out.next k9); simp only [])
        | go_values | go_skip | go_guarded | go_step | go_upon | go_back)
      go_ret
      exact ⟨rfl, X9.out.bel⟩
    · have hn0 : ((n : Int) == 0) = false := by simpa using h0
      by_cases t1 : NrT t
      · have N1 := Lib.hid (fun W => NT.out t W t1)
        by_cases m1 : m < -40000
        · clear NT NF
          go_enter Tryz.func7, Tryz.ntmps7
          repeat (first
            | (go_at_call 9; (with_reducible refine (TF.out _ X0.out.bel).mono ?_); (rintro e w1 ⟨rfl, k1⟩); have X1 := Lib.hid (X0.out.next k1); clear k1 c0 c1 c2; obtain ⟨c0, c1, c2⟩ := cel3 X1.out.blk; simp only [])
            | (go_at_call 17; (with_reducible refine (N1.out _).mono ?_); (rintro e w2 ⟨rfl, k2⟩); have X2 := Lib.hid (X1.out.next k2); clear k2 c0 c1 c2; obtain ⟨c0, c1, c2⟩ := cel3 X2.out.blk; simp only [])
            | (go_at_call 10; (with_reducible refine (AW.out _ X2.out.bel).mono ?_); (rintro e w9 ⟨rfl, k9⟩); have X9 := Lib.hid (X2.out.next k9); simp only [])
            | go_values | go_skip | go_guarded | go_step | go_upon | go_back)
          go_ret
          exact ⟨rfl, X9.out.bel⟩
        by_cases m2 : 40000 < m
        · clear NT NF
          go_enter Tryz.func7, Tryz.ntmps7
          repeat (first
            | (go_at_call 9; (with_reducible refine (TF.out _ X0.out.bel).mono ?_); (rintro e w1 ⟨rfl, k1⟩); have X1 := Lib.hid (X0.out.next k1); clear k1 c0 c1 c2; obtain ⟨c0, c1, c2⟩ := cel3 X1.out.blk; simp only [])
            | (go_at_call 17; (with_reducible refine (N1.out _).mono ?_); (rintro e w2 ⟨rfl, k2⟩); have X2 := Lib.hid (X1.out.next k2); clear k2 c0 c1 c2; obtain ⟨c0, c1, c2⟩ := cel3 X2.out.blk; simp only [])
            | (go_at_call 10; (with_reducible refine (AW.out _ X2.out.bel).mono ?_); (rintro e w9 ⟨rfl, k9⟩); have X9 := Lib.hid (X2.out.next k9); simp only [])
            | go_values | go_skip | go_guarded | go_step | go_upon | go_back)
          go_ret
          exact ⟨rfl, X9.out.bel⟩
        have hnm : ¬ NrT (t - m) := fun h => H.out ⟨HF.out, by rw [HN.out]; omega, t1, by omega, by omega, h⟩
        have N2 := Lib.hid (fun W => NF.out (t - m) W hnm)
        have wt : IntKind.i64.wrap (t - m) = t - m := IntWalk.i64_in _ (by have := t1.1; have := t1.2; omega)
        clear NT NF hnm
        go_enter Tryz.func7, Tryz.ntmps7
        repeat (first
          | (go_at_call 9; (with_reducible refine (TF.out _ X0.out.bel).mono ?_); (rintro e w1 ⟨rfl, k1⟩); have X1 := Lib.hid (X0.out.next k1); clear k1 c0 c1 c2; obtain ⟨c0, c1, c2⟩ := cel3 X1.out.blk; simp only [])
          | (go_at_call 17; (with_reducible refine (N1.out _).mono ?_); (rintro e w2 ⟨rfl, k2⟩); have X2 := Lib.hid (X1.out.next k2); clear k2 c0 c1 c2; obtain ⟨c0, c1, c2⟩ := cel3 X2.out.blk; simp only [])
          | (go_at_call 17; (with_reducible refine (N2.out _).mono ?_); (rintro e w2 ⟨rfl, k2⟩); have X3 := Lib.hid (X2.out.next k2); clear k2 c0 c1 c2; obtain ⟨c0, c1, c2⟩ := cel3 X3.out.blk; simp only [])
          | (go_at_call 10; (with_reducible refine (AW.out _ X3.out.bel).mono ?_); (rintro e w9 ⟨rfl, k9⟩); have X9 := Lib.hid (X3.out.next k9); simp only [])
          | go_values | go_skip | go_guarded | go_step | go_upon | go_back)
        go_ret
        exact ⟨rfl, X9.out.bel⟩
      · have N1 := Lib.hid (fun W => NF.out t W t1)
        clear NT NF
        go_enter Tryz.func7, Tryz.ntmps7
        repeat (first
          | (go_at_call 9; (with_reducible refine (TF.out _ X0.out.bel).mono ?_); (rintro e w1 ⟨rfl, k1⟩); have X1 := Lib.hid (X0.out.next k1); clear k1 c0 c1 c2; obtain ⟨c0, c1, c2⟩ := cel3 X1.out.blk; simp only [])
          | (go_at_call 17; (with_reducible refine (N1.out _).mono ?_); (rintro e w2 ⟨rfl, k2⟩); have X2 := Lib.hid (X1.out.next k2); clear k2 c0 c1 c2; obtain ⟨c0, c1, c2⟩ := cel3 X2.out.blk; simp only [])
          | (go_at_call 10; (with_reducible refine (AW.out _ X2.out.bel).mono ?_); (rintro e w9 ⟨rfl, k9⟩); have X9 := Lib.hid (X2.out.next k9); simp only [])
          | go_values | go_skip | go_guarded | go_step | go_upon | go_back)
        go_ret
        exact ⟨rfl, X9.out.bel⟩
  · have TF := Lib.hid (fun W k => FF.out W k hf)
    clear FF FT hf
    go_enter Tryz.func7, Tryz.ntmps7
    repeat (first
      | (go_at_call 9; (with_reducible refine (TF.out _ X0.out.bel).mono ?_); (rintro e w1 ⟨rfl, k1⟩); have X1 := Lib.hid (X0.out.next k1); clear k1 c0 c1 c2; obtain ⟨c0, c1, c2⟩ := cel3 X1.out.blk; simp only [])
      | (go_at_call 10; (with_reducible refine (AW.out _ X1.out.bel).mono ?_); (rintro e w9 ⟨rfl, k9⟩); have X9 := Lib.hid (X1.out.next k9); simp only [])
      | go_values | go_skip | go_guarded | go_step | go_upon | go_back)
    go_ret
    exact ⟨rfl, X9.out.bel⟩

set_option maxRecDepth 20000 in
set_option maxHeartbeats 2000000 in
theorem zshifts_far (x : WV) (t m : Int) (w : World) (hA : LaidZ w) (hX : WvAt x w) (hO : WvOk x) (h : ShA x t m) (h2 : ∀ e, x.es[0]? = some e → -40000 ≤ e.of → e.of ≤ 40000 → x.ss.length = 0) :
    Calls Tryz.prog 7 #[wvV x, .int .i64 t, .int .i64 m] w fun e w' => e = .returned (.bool true) ∧ Below w.heap.size w w' := by
  have AW := Lib.hid (fun W (k : Below w.heap.size w W) => zawake_is W (Lib.hid (hA.next k).b))
  have TF := Lib.hid (fun W (k : Below w.heap.size w W) => few_is x true W (hX.next k) hO (Lib.hid (.inl ⟨rfl, h.few⟩)))
  have N1 := Lib.hid (fun W => near_is t true W (Lib.hid (.inl ⟨rfl, h.nt⟩)))
  have N2 := Lib.hid (fun W => near_is (t - m) true W (Lib.hid (.inl ⟨rfl, h.nm⟩)))
  have H := Lib.hid h
  have HX := Lib.hid hX
  have HAZ := Lib.hid hA
  have m1 := h.m1
  have m2 := h.m2
  have hn4 := h.few.ne
  have hs3 := h.few.ns
  have hn0 := h.ne
  have wt : IntKind.i64.wrap (t - m) = t - m := IntWalk.i64_in _ (by have := h.nt.1; have := h.nt.2; omega)
  clear hA hX h hO
  have X0 := Lib.hid (BlkN.make (Below.refl w.heap.size w) #[.string ⟨x.nm.toArray⟩, .slice x.az x.es.length x.cz, .slice x.sa x.ss.length x.cs] 27)
  obtain ⟨c0, c1, c2⟩ := cel3 X0.out.blk
  unfold wvV at *
  obtain ⟨n, hn⟩ : ∃ n, x.es.length = n := ⟨_, rfl⟩
  obtain ⟨k, hk⟩ : ∃ n, x.ss.length = n := ⟨_, rfl⟩
  rw [hn] at hn4 hn0
  rw [hk] at hs3
  rw [hn, hk] at TF X0 c0 c1 c2
  simp only [hn, hk]
  have HN := Lib.hid hn
  have HK := Lib.hid hk
  have hnb : ((n : Int) == 0) = false := by simp; omega
  have hnl : (0 : Int) < (n : Int) := by omega
  obtain ⟨e, he⟩ : ∃ e, x.es[0]? = some e := ⟨_, List.getElem?_eq_getElem (by omega)⟩
  obtain ⟨L, off, haz, -, -⟩ := era_cells HX.out.es he
  rw [haz] at TF X0 c1
  simp only [haz]
  have HE := Lib.hid he
  have HXE : Hid (RowsAt 12 cE (some ⟨L, off, none⟩) x.es w) := Lib.hid (haz ▸ HX.out.es)
  have H2 := Lib.hid (h2 e he)
  clear hn hk he haz h2
  obtain ⟨of, rl, sv, fm, en, uy, um, dk, dw, dn, sc, ck⟩ := e
  by_cases o1 : of < -40000
  · go_enter Tryz.func7, Tryz.ntmps7
    repeat (first
      | (go_at_call 9; (with_reducible refine (TF.out _ X0.out.bel).mono ?_); (rintro e w1 ⟨rfl, k1⟩); have X1 := Lib.hid (X0.out.next k1); clear k1 c0 c1 c2; obtain ⟨c0, c1, c2⟩ := cel3 X1.out.blk; simp only [])
          | (go_at_call 17; (with_reducible refine (N1.out _).mono ?_); (rintro e w2 ⟨rfl, k2⟩); have X2 := Lib.hid (X1.out.next k2); clear k2 c0 c1 c2; obtain ⟨c0, c1, c2⟩ := cel3 X2.out.blk; simp only [])
          | (go_at_call 17; (with_reducible refine (N2.out _).mono ?_); (rintro e w3 ⟨rfl, k3⟩); have X3 := Lib.hid (X2.out.next k3); clear k3 c0 c1 c2; obtain ⟨c0, c1, c2⟩ := cel3 X3.out.blk; simp only []
             obtain ⟨L', off', e', hL, x0, x1, x2, x3, x4, x5, x6, x7, x8, x9, x10, x11⟩ := era_cells (HXE.out.next X3.out.bel) HE.out; cases e'; clear hL; simp only [Nat.zero_mul, Nat.add_zero] at x0 x1 x2 x3 x4 x5 x6 x7 x8 x9 x10 x11
             have Y3 := Lib.hid (BlkN.make X3.out.bel #[.int .i64 of, .string ⟨rl.toArray⟩, .int .i64 sv, .string ⟨fm.toArray⟩, .bool en, .int .i64 uy, .int .i64 um, .int .i64 dk, .int .i64 dw, .int .i64 dn, .int .i64 sc, .int .i64 ck] 54)
             have V4 := Lib.hid (X3.out.more (.cells #[.int .i64 of, .string ⟨#[82]⟩, .int .i64 0, .string ⟨#[88]⟩, .bool en, .int .i64 uy, .int .i64 um, .int .i64 dk, .int .i64 dw, .int .i64 dn, .int .i64 sc, .int .i64 ck] 54))
             obtain ⟨d0, d1, d2⟩ := cel3 V4.out.blk
             have g0 := frz (j := 0) Y3.out.blk; have g1 := frz (j := 1) Y3.out.blk; have g2 := frz (j := 2) Y3.out.blk; have g3 := frz (j := 3) Y3.out.blk
             obtain ⟨y0, y1, y2, y3, y4, y5, y6, y7, y8, y9, y10, y11⟩ := cells12 Y3.out.blk)
      | (go_at_call 10; (with_reducible refine (AW.out _ (bmk X3.out.bel _)).mono ?_); (rintro e w9 ⟨rfl, k9⟩); have X9 := Lib.hid ((X3.out.more _).next k9); simp only [])
      | go_values | go_skip | go_guarded | go_step | go_upon | go_back)
    go_ret
    exact ⟨rfl, X9.out.bel⟩
  by_cases o2 : 40000 < of
  · go_enter Tryz.func7, Tryz.ntmps7
    repeat (first
      | (go_at_call 9; (with_reducible refine (TF.out _ X0.out.bel).mono ?_); (rintro e w1 ⟨rfl, k1⟩); have X1 := Lib.hid (X0.out.next k1); clear k1 c0 c1 c2; obtain ⟨c0, c1, c2⟩ := cel3 X1.out.blk; simp only [])
          | (go_at_call 17; (with_reducible refine (N1.out _).mono ?_); (rintro e w2 ⟨rfl, k2⟩); have X2 := Lib.hid (X1.out.next k2); clear k2 c0 c1 c2; obtain ⟨c0, c1, c2⟩ := cel3 X2.out.blk; simp only [])
          | (go_at_call 17; (with_reducible refine (N2.out _).mono ?_); (rintro e w3 ⟨rfl, k3⟩); have X3 := Lib.hid (X2.out.next k3); clear k3 c0 c1 c2; obtain ⟨c0, c1, c2⟩ := cel3 X3.out.blk; simp only []
             obtain ⟨L', off', e', hL, x0, x1, x2, x3, x4, x5, x6, x7, x8, x9, x10, x11⟩ := era_cells (HXE.out.next X3.out.bel) HE.out; cases e'; clear hL; simp only [Nat.zero_mul, Nat.add_zero] at x0 x1 x2 x3 x4 x5 x6 x7 x8 x9 x10 x11
             have Y3 := Lib.hid (BlkN.make X3.out.bel #[.int .i64 of, .string ⟨rl.toArray⟩, .int .i64 sv, .string ⟨fm.toArray⟩, .bool en, .int .i64 uy, .int .i64 um, .int .i64 dk, .int .i64 dw, .int .i64 dn, .int .i64 sc, .int .i64 ck] 54)
             have V4 := Lib.hid (X3.out.more (.cells #[.int .i64 of, .string ⟨#[82]⟩, .int .i64 0, .string ⟨#[88]⟩, .bool en, .int .i64 uy, .int .i64 um, .int .i64 dk, .int .i64 dw, .int .i64 dn, .int .i64 sc, .int .i64 ck] 54))
             obtain ⟨d0, d1, d2⟩ := cel3 V4.out.blk
             have g0 := frz (j := 0) Y3.out.blk; have g1 := frz (j := 1) Y3.out.blk; have g2 := frz (j := 2) Y3.out.blk; have g3 := frz (j := 3) Y3.out.blk
             obtain ⟨y0, y1, y2, y3, y4, y5, y6, y7, y8, y9, y10, y11⟩ := cells12 Y3.out.blk)
      | (go_at_call 10; (with_reducible refine (AW.out _ (bmk X3.out.bel _)).mono ?_); (rintro e w9 ⟨rfl, k9⟩); have X9 := Lib.hid ((X3.out.more _).next k9); simp only [])
      | go_values | go_skip | go_guarded | go_step | go_upon | go_back)
    go_ret
    exact ⟨rfl, X9.out.bel⟩
  have hk0 : k = 0 := by rw [← HK.out]; exact H2.out (by show -40000 ≤ of; omega) (by show of ≤ 40000; omega)
  subst hk0
  go_enter Tryz.func7, Tryz.ntmps7
  repeat (first
    | (go_at_call 9; (with_reducible refine (TF.out _ X0.out.bel).mono ?_); (rintro e w1 ⟨rfl, k1⟩); have X1 := Lib.hid (X0.out.next k1); clear k1 c0 c1 c2; obtain ⟨c0, c1, c2⟩ := cel3 X1.out.blk; simp only [])
        | (go_at_call 17; (with_reducible refine (N1.out _).mono ?_); (rintro e w2 ⟨rfl, k2⟩); have X2 := Lib.hid (X1.out.next k2); clear k2 c0 c1 c2; obtain ⟨c0, c1, c2⟩ := cel3 X2.out.blk; simp only [])
        | (go_at_call 17; (with_reducible refine (N2.out _).mono ?_); (rintro e w3 ⟨rfl, k3⟩); have X3 := Lib.hid (X2.out.next k3); clear k3 c0 c1 c2; obtain ⟨c0, c1, c2⟩ := cel3 X3.out.blk; simp only []
           obtain ⟨L', off', e', hL, x0, x1, x2, x3, x4, x5, x6, x7, x8, x9, x10, x11⟩ := era_cells (HXE.out.next X3.out.bel) HE.out; cases e'; clear hL; simp only [Nat.zero_mul, Nat.add_zero] at x0 x1 x2 x3 x4 x5 x6 x7 x8 x9 x10 x11
           have Y3 := Lib.hid (BlkN.make X3.out.bel #[.int .i64 of, .string ⟨rl.toArray⟩, .int .i64 sv, .string ⟨fm.toArray⟩, .bool en, .int .i64 uy, .int .i64 um, .int .i64 dk, .int .i64 dw, .int .i64 dn, .int .i64 sc, .int .i64 ck] 54)
           have V4 := Lib.hid (X3.out.more (.cells #[.int .i64 of, .string ⟨#[82]⟩, .int .i64 0, .string ⟨#[88]⟩, .bool en, .int .i64 uy, .int .i64 um, .int .i64 dk, .int .i64 dw, .int .i64 dn, .int .i64 sc, .int .i64 ck] 54))
           obtain ⟨d0, d1, d2⟩ := cel3 V4.out.blk
           have g0 := frz (j := 0) Y3.out.blk; have g1 := frz (j := 1) Y3.out.blk; have g2 := frz (j := 2) Y3.out.blk; have g3 := frz (j := 3) Y3.out.blk
           obtain ⟨y0, y1, y2, y3, y4, y5, y6, y7, y8, y9, y10, y11⟩ := cells12 Y3.out.blk)
    | (go_at_call 10; (with_reducible refine (AW.out _ (bmk X3.out.bel _)).mono ?_); (rintro e w9 ⟨rfl, k9⟩); have X9 := Lib.hid ((X3.out.more _).next k9); simp only [])
    | go_values | go_skip | go_guarded | go_step | go_upon | go_back)
  go_ret
  exact ⟨rfl, X9.out.bel⟩
end Go.Proofs.YtjpppffgebecdaaGreatDoor
