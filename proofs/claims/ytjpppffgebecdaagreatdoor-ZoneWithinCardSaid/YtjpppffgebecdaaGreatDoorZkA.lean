/- For whatever world, instant and place the law ZoneWithin returns true: where its first tests keep them out. -/
import Derived.Test.YtjpppffgebecdaaGreatDoorZmK
import Derived.Test.YtjpppffgebecdaaGreatDoorMYE
namespace Go.Proofs.YtjpppffgebecdaaGreatDoor
open Go Go.RowKit Go.Sort
attribute [local go_sem] Oper.semAt_some

set_option maxRecDepth 20000 in
set_option maxHeartbeats 2000000 in
theorem zwi_out (x : WV) (t q : Int) (w : World) (hA : LaidZ w) (hX : WvAt x w) (hO : WvOk x) (h : ¬ (FewW x ∧ 0 < x.es.length ∧ NrT t)) :
    Calls Tryz.prog 4 #[wvV x, .int .i64 t, .int .i64 q] w fun e w' => e = .returned (.bool true) ∧ Below w.heap.size w w' := by
  have AW := Lib.hid (fun W (k : Below w.heap.size w W) => zawake_is W (Lib.hid (hA.next k).b))
  have FT := Lib.hid (fun W (k : Below w.heap.size w W) (hf : FewW x) => few_is x true W (hX.next k) hO (Lib.hid (.inl ⟨rfl, hf⟩)))
  have FF := Lib.hid (fun W (k : Below w.heap.size w W) (hf : ¬ FewW x) => few_is x false W (hX.next k) hO (Lib.hid (.inr ⟨rfl, hf⟩)))
  have NF := Lib.hid (fun W (hz : ¬ NrT t) => near_is t false W (Lib.hid (.inr ⟨rfl, hz⟩)))
  have H := Lib.hid h
  clear hA hX hO h
  have X0 := Lib.hid (BlkN.make (Below.refl w.heap.size w) #[.string ⟨x.nm.toArray⟩, .slice x.az x.es.length x.cz, .slice x.sa x.ss.length x.cs] 27)
  obtain ⟨c0, c1, c2⟩ := cel3 X0.out.blk
  unfold wvV at *
  by_cases hf : FewW x
  · have TF := Lib.hid (fun W k => FT.out W k hf)
    have HF := Lib.hid hf
    clear FF FT hf
    obtain ⟨n, hn⟩ : ∃ n, x.es.length = n := ⟨_, rfl⟩
    rw [hn] at TF X0 c0 c1 c2
    have HN := Lib.hid hn
    simp only [hn]
    clear hn
    by_cases h0 : n = 0
    · subst h0
      go_enter Tryz.func4, Tryz.ntmps4
      repeat (first
        | (go_at_call 9; (with_reducible refine (TF.out _ X0.out.bel).mono ?_); (rintro e w1 ⟨rfl, k1⟩); have X1 := Lib.hid (X0.out.next k1); clear k1 c0 c1 c2; obtain ⟨c0, c1, c2⟩ := cel3 X1.out.blk; simp only [])
        | (go_at_call 10; (with_reducible refine (AW.out _ X1.out.bel).mono ?_); (rintro e w9 ⟨rfl, k9⟩); have X9 := Lib.hid (X1.out.next k9); simp only [])
        | go_values | go_skip | go_guarded | go_step | go_upon | go_back)
      go_ret
      exact ⟨rfl, X9.out.bel⟩
    · have hn0 : ((n : Int) == 0) = false := by simpa using h0
      have NX := Lib.hid (fun W => NF.out W (fun k => H.out ⟨HF.out, by have := HN.out; omega, k⟩))
      clear h0 NF
      go_enter Tryz.func4, Tryz.ntmps4
      repeat (first
        | (go_at_call 9; (with_reducible refine (TF.out _ X0.out.bel).mono ?_); (rintro e w1 ⟨rfl, k1⟩); have X1 := Lib.hid (X0.out.next k1); clear k1 c0 c1 c2; obtain ⟨c0, c1, c2⟩ := cel3 X1.out.blk; simp only [])
        | (go_at_call 17; (with_reducible refine (NX.out _).mono ?_); (rintro e w2 ⟨rfl, k2⟩); have X2 := Lib.hid (X1.out.next k2); clear k2 c0 c1 c2; obtain ⟨c0, c1, c2⟩ := cel3 X2.out.blk; simp only [])
        | (go_at_call 10; (with_reducible refine (AW.out _ X2.out.bel).mono ?_); (rintro e w9 ⟨rfl, k9⟩); have X9 := Lib.hid (X2.out.next k9); simp only [])
        | go_values | go_skip | go_guarded | go_step | go_upon | go_back)
      go_ret
      exact ⟨rfl, X9.out.bel⟩
  · have TF := Lib.hid (fun W k => FF.out W k hf)
    clear FF FT hf NF
    go_enter Tryz.func4, Tryz.ntmps4
    repeat (first
      | (go_at_call 9; (with_reducible refine (TF.out _ X0.out.bel).mono ?_); (rintro e w1 ⟨rfl, k1⟩); have X1 := Lib.hid (X0.out.next k1); clear k1 c0 c1 c2; obtain ⟨c0, c1, c2⟩ := cel3 X1.out.blk; simp only [])
      | (go_at_call 10; (with_reducible refine (AW.out _ X1.out.bel).mono ?_); (rintro e w9 ⟨rfl, k9⟩); have X9 := Lib.hid (X1.out.next k9); simp only [])
      | go_values | go_skip | go_guarded | go_step | go_upon | go_back)
    go_ret
    exact ⟨rfl, X9.out.bel⟩

/-- The first tests let a world in; which era it is. -/
structure ZwA (x : WV) (t q : Int) (k : Nat) (e : EV) : Prop where
  few : FewW x
  ne : 0 < x.es.length
  nt : NrT t
  hk : (q.tmod x.es.length + x.es.length).tmod x.es.length = (k : Int)
  he : x.es[k]? = some e
theorem zwA_ex {x : WV} {t q : Int} (h : FewW x ∧ 0 < x.es.length ∧ NrT t) : ∃ k e, ZwA x t q k e := by
  obtain ⟨h1, h2, h3⟩ := h
  have hm : (0 : Int) < x.es.length := by omega
  have a1 := Int.tmod_lt_of_pos q hm
  have a2 : -(x.es.length : Int) < q.tmod x.es.length := by
    rcases Int.le_total 0 q with h | h
    · have := Int.tmod_nonneg (x.es.length : Int) h; omega
    · have h4 := Int.tmod_lt_of_pos (-q) hm
      rw [Int.neg_tmod] at h4; omega
  have a3 := Int.tmod_nonneg (x.es.length : Int) (show 0 ≤ q.tmod x.es.length + x.es.length by omega)
  have a4 := Int.tmod_lt_of_pos (q.tmod x.es.length + x.es.length) hm
  obtain ⟨k, hk⟩ : ∃ k : Nat, (q.tmod x.es.length + x.es.length).tmod x.es.length = (k : Int) := ⟨_, (Int.toNat_of_nonneg a3).symm⟩
  exact ⟨k, x.es[k]'(by omega), h1, h2, h3, hk, List.getElem?_eq_getElem _⟩
/-- An era that may not be asked for what it shows. -/
def BadE (e : EV) : Prop := e.of ≤ -90000 ∨ (¬ e.of ≤ -90000 ∧ 90000 ≤ e.of) ∨ (¬ e.of ≤ -90000 ∧ ¬ 90000 ≤ e.of ∧ e.sv ≤ -90000) ∨ (¬ e.of ≤ -90000 ∧ ¬ 90000 ≤ e.of ∧ ¬ e.sv ≤ -90000 ∧ 90000 ≤ e.sv) ∨
  (¬ e.of ≤ -90000 ∧ ¬ 90000 ≤ e.of ∧ ¬ e.sv ≤ -90000 ∧ ¬ 90000 ≤ e.sv ∧ e.ck < 0) ∨ (¬ e.of ≤ -90000 ∧ ¬ 90000 ≤ e.of ∧ ¬ e.sv ≤ -90000 ∧ ¬ 90000 ≤ e.sv ∧ ¬ e.ck < 0 ∧ 2 < e.ck)
set_option maxRecDepth 20000 in
set_option maxHeartbeats 4000000 in
theorem zwi_bad (x : WV) (t q : Int) (k : Nat) (e : EV) (w : World) (hA : LaidZ w) (hX : WvAt x w) (hO : WvOk x) (h : ZwA x t q k e) (hb : BadE e) :
    Calls Tryz.prog 4 #[wvV x, .int .i64 t, .int .i64 q] w fun e w' => e = .returned (.bool true) ∧ Below w.heap.size w w' := by
  have AW := Lib.hid (fun W (k : Below w.heap.size w W) => zawake_is W (Lib.hid (hA.next k).b))
  have TF := Lib.hid (fun W (k : Below w.heap.size w W) => few_is x true W (hX.next k) hO (Lib.hid (.inl ⟨rfl, h.few⟩)))
  have N1 := Lib.hid (fun W => near_is t true W (Lib.hid (.inl ⟨rfl, h.nt⟩)))
  have HX := Lib.hid hX
  have hk := h.hk
  have he := h.he
  have hn4 := h.few.ne
  have hn0 := h.ne
  clear hA hX hO h
  have X0 := Lib.hid (BlkN.make (Below.refl w.heap.size w) #[.string ⟨x.nm.toArray⟩, .slice x.az x.es.length x.cz, .slice x.sa x.ss.length x.cs] 27)
  obtain ⟨c0, c1, c2⟩ := cel3 X0.out.blk
  unfold wvV at *
  have hkn : k < x.es.length := (List.getElem?_eq_some_iff.1 he).1
  obtain ⟨n, hn⟩ : ∃ n, x.es.length = n := ⟨_, rfl⟩
  rw [hn] at TF X0 c0 c1 c2 hk hkn hn4 hn0
  simp only [hn]
  clear hn
  have hnb : ((n : Int) == 0) = false := by simp; omega
  have hnz : ¬ (n : Int) = 0 := by omega
  have hm : (0 : Int) < n := by omega
  have a1 := Int.tmod_lt_of_pos q hm
  have a2 : -(n : Int) < q.tmod n := by
    rcases Int.le_total 0 q with h | h
    · have := Int.tmod_nonneg (n : Int) h; omega
    · have h4 := Int.tmod_lt_of_pos (-q) hm
      rw [Int.neg_tmod] at h4; omega
  have wa : IntKind.i64.wrap (q.tmod n + n) = q.tmod n + n := IntWalk.i64_in _ (by omega)
  have hkk : (k : Int) < (n : Int) := by omega
  have HE := Lib.hid he
  obtain ⟨L, off, haz, -, -⟩ := era_cells HX.out.es he
  rw [haz] at TF X0 c1
  simp only [haz]
  have HXE : Hid (RowsAt 12 cE (some ⟨L, off, none⟩) x.es w) := Lib.hid (haz ▸ HX.out.es)
  clear haz he a1 a2
  obtain ⟨of, rl, sv, fm, en, uy, um, dk, dw, dn, sc, ck⟩ := e
  unfold BadE at hb
  simp only at hb
  go_enter Tryz.func4, Tryz.ntmps4
  repeat (first
    | (go_at_call 9; (with_reducible refine (TF.out _ X0.out.bel).mono ?_); (rintro e w1 ⟨rfl, k1⟩); have X1 := Lib.hid (X0.out.next k1); clear k1 c0 c1 c2; obtain ⟨c0, c1, c2⟩ := cel3 X1.out.blk; simp only [])
    | (go_at_call 17; (with_reducible refine (N1.out _).mono ?_); (rintro e w2 ⟨rfl, k2⟩); have X2 := Lib.hid (X1.out.next k2); clear k2 c0 c1 c2; obtain ⟨c0, c1, c2⟩ := cel3 X2.out.blk; simp only []
       obtain ⟨L', off', e', hL, x0, x1, x2, x3, x4, x5, x6, x7, x8, x9, x10, x11⟩ := era_cells (HXE.out.next X2.out.bel) HE.out; cases e'; clear hL
       have Y := Lib.hid (BlkN.make X2.out.bel #[.int .i64 of, .string ⟨rl.toArray⟩, .int .i64 sv, .string ⟨fm.toArray⟩, .bool en, .int .i64 uy, .int .i64 um, .int .i64 dk, .int .i64 dw, .int .i64 dn, .int .i64 sc, .int .i64 ck] 54)
       obtain ⟨y0, y1, y2, y3, y4, y5, y6, y7, y8, y9, y10, y11⟩ := cells12 Y.out.blk)
    | go_values | go_skip | go_guarded | go_step | go_upon | go_back)
  rcases hb with hb | ⟨b1, hb⟩ | ⟨b1, b2, hb⟩ | ⟨b1, b2, b3, hb⟩ | ⟨b1, b2, b3, b4, hb⟩ | ⟨b1, b2, b3, b4, b5, hb⟩
  all_goals
    repeat (first
      | (go_at_call 10; (with_reducible refine (AW.out _ Y.out.bel).mono ?_); (rintro e w9 ⟨rfl, k9⟩); have X9 := Lib.hid (Y.out.next k9); simp only [])
      | go_values | go_skip | go_guarded | go_step | go_upon | go_back)
    go_ret
    exact ⟨rfl, X9.out.bel⟩
end Go.Proofs.YtjpppffgebecdaaGreatDoor
