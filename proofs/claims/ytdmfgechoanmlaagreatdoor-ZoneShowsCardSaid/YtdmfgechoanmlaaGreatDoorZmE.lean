/- The contract of fire.Latest. -/
import Derived.Test.YtdmfgechoanmlaaGreatDoorZmC
import Derived.Test.YtdmfgechoanmlaaGreatDoorMZP
namespace Go.Proofs.YtdmfgechoanmlaaGreatDoor
open Go Go.RowKit Go.Sort Go.Shelf
attribute [local go_sem] Oper.semAt_some
attribute [local go_sem] fvV

theorem fbounded_is (t : Int) (w : World) (ht : NrT t) : Calls Tryz.prog 97 #[.int .i64 t] w fun e w' => e = .returned (.int .i64 t) ∧ Below w.heap.size w w' := by
  have h1 : max t (-4398046511104) = t := by have := ht.1; omega
  have h2 : min t 4398046511104 = t := by have := ht.2; omega
  go_enter Tryz.func97, Tryz.ntmps97
  repeat (first | go_values | go_skip | go_guarded | go_step | go_upon | go_back)
  go_ret
  exact ⟨rfl, Below.refl _ w⟩
/-- What is known at the head of the loop. -/
structure LtI (n0 b5 b9 : Nat) (t : Int) (o : Option FV) (w : World) (pre : List (Int × FV)) (X : World) : Prop where
  bel : Below n0 w X
  h5 : X.heap[b5]? = some (.cells #[.int .i64 t] 3 (0, 0))
  h6 : X.heap[b5 + 1]? = some (.cells #[.int .i64 0, .int .i64 0, .int .i64 0, .string ⟨#[]⟩] 145 (0, 0))
  st : ∃ f b, FbIs (stO t o pre) f b ∧ X.heap[b9]? = some (.cells #[.int .i64 f.nm, .int .i64 f.kd, .int .i64 f.sv, .string ⟨f.lt.toArray⟩] 145 (0, 0)) ∧ X.heap[b9 + 1]? = some (.cells #[.bool b] 4 (0, 0))

theorem LtI.own {n0 b5 b9 D : Nat} {t : Int} {o : Option FV} {w : World} (hn : n0 ≤ w.heap.size) (hn1 : n0 ≤ D) (h5 : b5 + 1 < D) (h9 : b9 + 1 < D) : OwnA 145 D (LtI n0 b5 b9 t o w) := fun pre W W' row h hg hr => by
  have bl : ∀ k, k < D → k < W.heap.size → W'.heap[k]? = W.heap[k]? := fun k h1 h2 => hg.block k h2 (fun e => by have := (hr k e.symm).1; omega)
  obtain ⟨f, b, s1, s2, s3⟩ := h.st
  exact ⟨h.bel.trans ((Below.refl n0 W).grown hg (by have := h.bel.size; omega) (fun j hj => by have := (hr j hj).1; omega)), (bl _ (by omega) (Array.getElem?_eq_some_iff.1 h.h5).1).trans h.h5, (bl _ (by omega) (Array.getElem?_eq_some_iff.1 h.h6).1).trans h.h6, f, b, s1, (bl _ (by omega) (Array.getElem?_eq_some_iff.1 s2).1).trans s2, (bl _ (by omega) (Array.getElem?_eq_some_iff.1 s3).1).trans s3⟩
theorem LtI.next {n0 b5 b9 : Nat} {t : Int} {o : Option FV} {w X X' : World} {pre : List (Int × FV)} (hn : n0 ≤ w.heap.size) (h : LtI n0 b5 b9 t o w pre X) (k : Below X.heap.size X X') : LtI n0 b5 b9 t o w pre X' := by
  obtain ⟨f, b, s1, s2, s3⟩ := h.st
  exact ⟨h.bel.trans (k.mono (by have := h.bel.size; omega)), (k.block _ (Array.getElem?_eq_some_iff.1 h.h5).1).trans h.h5, (k.block _ (Array.getElem?_eq_some_iff.1 h.h6).1).trans h.h6, f, b, s1, (k.block _ (Array.getElem?_eq_some_iff.1 s2).1).trans s2, (k.block _ (Array.getElem?_eq_some_iff.1 s3).1).trans s3⟩

set_option maxRecDepth 20000 in
set_option maxHeartbeats 600000 in
theorem flatest_in (N : Nat) (hN : 9 ≤ N) (A0 : Option Addr) (n c0 : Nat) (rs : List RV) (off t : Int) (w : World) (hA : LaidF w) (hg : 2 < w.heap.size) (hR : RowsAt 11 cR A0 rs w) (hn : rs.length = n) (hn1 : n ≤ 1000) (hok : ∀ r ∈ rs, okR r ∧ 1900 ≤ r.fr) (hL : Apt (rowF rs)) (h1 : -90000 < off) (h2 : off < 90000) (ht : NrT t) :
    CallsIn Fence.wide N Tryz.prog 77 #[.slice A0 n c0, .int .i64 off, .int .i64 t] w fun e w' => ∃ f b, e = .returned (.tuple #[fvV f, .bool b]) ∧ FbIs (latF off t 0 none (rowF rs)) f b ∧ Below w.heap.size w w' := by
  have hN1 : 1 ≤ N := by omega
  have HA := Lib.hid hA
  have HR := Lib.hid hR
  have BD := Lib.hid (fun W => fbounded_is t W ht)
  have y1 := nrT_y ht (d := 180000) (by omega) (by omega)
  have y2 := nrT_y ht (d := -179999) (by omega) (by omega)
  rw [show t + -179999 = t - 180000 + 1 by omega] at y2
  have y3 := nrT_y ht (d := 179999) (by omega) (by omega)
  rw [show t + 179999 = t + 180000 - 1 by omega] at y3
  have A1 := Lib.hid (fun X (h1 : LaidF X) (h2 : RowsAt 11 cR A0 rs X) => fahead_is A0 n c0 rs (t + 180000) X h1 h2 hn hn1 hok y1.1 (by omega) (by omega))
  have A2 := Lib.hid (fun X (h1 : LaidF X) (h2 : RowsAt 11 cR A0 rs X) => fahead_is A0 n c0 rs (t - 180000 + 1) X h1 h2 hn hn1 hok y2.1 (by omega) (by omega))
  have TI := Lib.hid (fun X => turns_is A0 n c0 off (t - 180000 + 1) (t + 180000 - 1) X)
  have wr1 : IntKind.i64.wrap (t + 180000) = t + 180000 := IntWalk.i64_in _ (by have := ht.1; have := ht.2; omega)
  have wr2 : IntKind.i64.wrap (t - 180000) = t - 180000 := IntWalk.i64_in _ (by have := ht.1; have := ht.2; omega)
  have wr3 : IntKind.i64.wrap (t - 180000 + 1) = t - 180000 + 1 := IntWalk.i64_in _ (by have := ht.1; have := ht.2; omega)
  have wr4 : IntKind.i64.wrap (t + 180000 - 1) = t + 180000 - 1 := IntWalk.i64_in _ (by have := ht.1; have := ht.2; omega)
  have mixed : Tryz.prog.follows .mixedOrders = true := by kernel_rfl
  have HT := Lib.hid ht
  have HL := Lib.hid hL
  have HOK := Lib.hid hok
  have HN := Lib.hid hn
  have Y1 := Lib.hid y1
  have Y2 := Lib.hid y2
  have Y3 := Lib.hid y3
  have X0 : Hid (TwoB w w.heap.size #[.int .i64 t] 3 (w.heap.size + 1) #[.int .i64 0, .int .i64 0, .int .i64 0, .string ⟨#[]⟩] 145 ((w.alloc (.cells #[.int .i64 t] 3)).alloc (.cells #[.int .i64 0, .int .i64 0, .int .i64 0, .string ⟨#[]⟩] 145))) :=
    ⟨BlkN.fst (w := w) _ 3 _, BlkN.two w _ _ _⟩
  have x0 := cel1 X0.out.a.blk
  clear hA hR ht hL hok hn y1 y2 y3
  refine callsIn_of_wp_marks Tryz.func77 rfl trivial ?_ rfl
  simp only [Tryz.ntmps77, List.size_toArray, List.length_cons, List.length_nil, Nat.reduceAdd, Nat.reduceSub, Array.replicate_succ, Array.replicate_zero, List.push_toArray, List.append_toArray, List.nil_append, List.cons_append]
  gi_wp2_with (first
    | (refine ⟨trivial, ?_⟩; gi_at_call 97; refine (callsIn_wide.2 (BD.out _)).mono ?_; rintro e w1 ⟨rfl, k1⟩
       have X1 := Lib.hid (X0.out.next k1)
       clear k1 x0
       simp only []))
  refine ⟨trivial, ?_⟩
  gi_at_call 94
  refine (callsIn_wide.2 (A1.out _ (HA.out.next X1.out.a.bel) (HR.out.next X1.out.a.bel))).mono ?_
  rintro e w2 ⟨f, b, rfl, hah, k2⟩
  have X2 := Lib.hid (X1.out.next k2)
  have AH1 := Lib.hid hah
  clear k2 hah
  have hc : b = false ∨ (b = true ∧ f.nm ≤ t - 180000) ∨ (b = true ∧ ¬ f.nm ≤ t - 180000) := by
    cases b
    · exact .inl rfl
    · rcases Int.lt_or_le (t - 180000) f.nm with h | h
      · exact .inr (.inr ⟨rfl, by omega⟩)
      · exact .inr (.inl ⟨rfl, h⟩)
  simp only [fvV]
  have Z : ∀ v : Value, Hid (TwoB w (w.heap.size + 1) #[.int .i64 0, .int .i64 0, .int .i64 0, .string ⟨#[]⟩] 145 w2.heap.size #[.int .i64 f.nm, .int .i64 f.kd, .int .i64 f.sv, .string ⟨f.lt.toArray⟩] 145 ((w2.alloc (.cells #[.int .i64 f.nm, .int .i64 f.kd, .int .i64 f.sv, .string ⟨f.lt.toArray⟩] 145)).alloc (.cells #[v] 4))) := fun v => ⟨(X2.out.b.more _).more _, (BlkN.make X2.out.a.bel _ _).more _⟩
  rcases hc with rfl | ⟨rfl, hc⟩ | ⟨rfl, hc⟩
  · have F1 := Lib.hid (lat_far HOK.out HL.out h1 h2 HT.out AH1.out (.inl rfl))
    gi_wp2
    obtain ⟨r0, r1, r2, r3⟩ := cel4 (Z (.bool false)).out.b.blk
    obtain ⟨q0, q1, q2, q3⟩ := cel4 (Z (.bool false)).out.a.blk
    have f0 := frz (j := 0) (Z (.bool false)).out.a.blk
    have f1 := frz (j := 1) (Z (.bool false)).out.a.blk
    have f2 := frz (j := 2) (Z (.bool false)).out.a.blk
    have f3 := frz (j := 3) (Z (.bool false)).out.a.blk
    have z0 := cel1 (BlkN.two w2 (.cells #[.int .i64 f.nm, .int .i64 f.kd, .int .i64 f.sv, .string ⟨f.lt.toArray⟩] 145) #[.bool false] 4).blk
    have BB := Lib.hid (Z (.bool false)).out.a
    generalize ((w2.alloc (.cells #[.int .i64 f.nm, .int .i64 f.kd, .int .i64 f.sv, .string ⟨f.lt.toArray⟩] 145)).alloc (.cells #[.bool false] 4)) = V at *
    clear Z
    have ne1 : ¬ w2.heap.size = w.heap.size := by have := X2.out.b.lt; omega
    have ne2 : ¬ w.heap.size = w2.heap.size := by omega
    refine wpIn_wide.2 ?_
    go_region
    have B := Lib.hid (BB.out.set4 (x := .int .i64 f.nm) (y := .int .i64 f.kd) (z := .int .i64 f.sv) (u := .string ⟨f.lt.toArray⟩)).drew
    generalize ((((V.setCell ⟨w.heap.size + 1, 0, none⟩ (.int .i64 f.nm)).setCell ⟨w.heap.size + 1, 1, none⟩ (.int .i64 f.kd)).setCell ⟨w.heap.size + 1, 2, none⟩ (.int .i64 f.sv)).setCell ⟨w.heap.size + 1, 3, none⟩ (.string ⟨f.lt.toArray⟩)).drew = V1 at *
    clear q0 q1 q2 q3 r0 r1 r2 r3 z0 f0 f1 f2 f3
    gi_wp2
    obtain ⟨c0, c1, c2, c3⟩ := cel4 B.out.blk
    exact ⟨.tuple #[fvV f, .bool false], by simp [results, Tryz.results77, go_sem, c0, c1, c2, c3], f, false, rfl, F1.out, B.out.bel⟩
  · have F1 := Lib.hid (lat_far HOK.out HL.out h1 h2 HT.out AH1.out (.inr hc))
    have hcd : decide (f.nm ≤ t - 180000) = true := by simpa using hc
    clear hc
    gi_wp2
    obtain ⟨r0, r1, r2, r3⟩ := cel4 (Z (.bool true)).out.b.blk
    obtain ⟨q0, q1, q2, q3⟩ := cel4 (Z (.bool true)).out.a.blk
    have f0 := frz (j := 0) (Z (.bool true)).out.a.blk
    have f1 := frz (j := 1) (Z (.bool true)).out.a.blk
    have f2 := frz (j := 2) (Z (.bool true)).out.a.blk
    have f3 := frz (j := 3) (Z (.bool true)).out.a.blk
    have z0 := cel1 (BlkN.two w2 (.cells #[.int .i64 f.nm, .int .i64 f.kd, .int .i64 f.sv, .string ⟨f.lt.toArray⟩] 145) #[.bool true] 4).blk
    have BB := Lib.hid (Z (.bool true)).out.a
    generalize ((w2.alloc (.cells #[.int .i64 f.nm, .int .i64 f.kd, .int .i64 f.sv, .string ⟨f.lt.toArray⟩] 145)).alloc (.cells #[.bool true] 4)) = V at *
    clear Z
    have ne1 : ¬ w2.heap.size = w.heap.size := by have := X2.out.b.lt; omega
    have ne2 : ¬ w.heap.size = w2.heap.size := by omega
    refine wpIn_wide.2 ?_
    go_region
    have B := Lib.hid (BB.out.set4 (x := .int .i64 f.nm) (y := .int .i64 f.kd) (z := .int .i64 f.sv) (u := .string ⟨f.lt.toArray⟩)).drew
    generalize ((((V.setCell ⟨w.heap.size + 1, 0, none⟩ (.int .i64 f.nm)).setCell ⟨w.heap.size + 1, 1, none⟩ (.int .i64 f.kd)).setCell ⟨w.heap.size + 1, 2, none⟩ (.int .i64 f.sv)).setCell ⟨w.heap.size + 1, 3, none⟩ (.string ⟨f.lt.toArray⟩)).drew = V1 at *
    clear q0 q1 q2 q3 r0 r1 r2 r3 z0 f0 f1 f2 f3
    gi_wp2
    obtain ⟨c0, c1, c2, c3⟩ := cel4 B.out.blk
    exact ⟨.tuple #[fvV f, .bool true], by simp [results, Tryz.results77, go_sem, c0, c1, c2, c3], f, true, rfl, F1.out, B.out.bel⟩
  · have hcd : decide (f.nm ≤ t - 180000) = false := by simpa using hc
    clear hc
    have ZZ := Lib.hid (Z (.bool true)).out
    have kV : RowKit.Below w2.heap.size w2 ((w2.alloc (.cells #[.int .i64 f.nm, .int .i64 f.kd, .int .i64 f.sv, .string ⟨f.lt.toArray⟩] 145)).alloc (.cells #[.bool true] 4)) := ((Below.refl _ w2).alloc (Nat.le_refl _) _).alloc (by simp) _
    have kW := X2.out.a.bel.trans (kV.mono X2.out.a.bel.size)
    have LA := Lib.hid (HA.out.next kW)
    have RA := Lib.hid (HR.out.next kW)
    have ZT := Lib.hid (BlkN.two w2 (.cells #[.int .i64 f.nm, .int .i64 f.kd, .int .i64 f.sv, .string ⟨f.lt.toArray⟩] 145) #[.bool true] 4)
    have XA := Lib.hid (((X2.out.a.next kV)))
    clear kV kW Z
    gi_wp2_with (first
      | (refine ⟨trivial, ?_⟩; gi_at_call 94; refine (callsIn_wide.2 (A2.out _ LA.out RA.out)).mono ?_; rintro e w3 ⟨f2, b2, rfl, hah2, k3⟩
         have Z3 := Lib.hid (ZZ.out.next k3)
         have T3 := Lib.hid (ZT.out.next k3)
         have A3 := Lib.hid (XA.out.next k3)
         have AH2 := Lib.hid hah2
         clear k3 hah2
         obtain ⟨q0, q1, q2, q3⟩ := cel4 Z3.out.b.blk
         have f0 := frz (j := 0) Z3.out.b.blk
         have f1 := frz (j := 1) Z3.out.b.blk
         have f2' := frz (j := 2) Z3.out.b.blk
         have f3 := frz (j := 3) Z3.out.b.blk
         have z0 := cel1 T3.out.blk
         have z1 := frz (j := 0) T3.out.blk
         simp only [fvV])
      | (refine ⟨trivial, ?_⟩; gi_at_call 98; refine (callsIn_wide.2 (TI.out _)).mono ?_; rintro e w4 ⟨rfl, rfl⟩
         simp only []))
    obtain ⟨q, hq⟩ : ∃ q, w2.heap.size = q := ⟨_, rfl⟩
    have hqs : w.heap.size + 1 < q := by have := X2.out.b.lt; omega
    have hq3 : q + 1 < w3.heap.size := by have := T3.out.lt; omega
    have Z3b := Z3.out.b.blk
    have T3b := T3.out.blk
    rw [hq] at Z3b T3b
    simp only [hq]
    obtain ⟨U9, hU9⟩ : ∃ U, (((w3.setCell ⟨q, 0, none⟩ (.int .i64 f2.nm)).setCell ⟨q, 1, none⟩ (.int .i64 f2.kd)).setCell ⟨q, 2, none⟩ (.int .i64 f2.sv)).setCell ⟨q, 3, none⟩ (.string ⟨f2.lt.toArray⟩) = U := ⟨_, rfl⟩
    have g1 := set4_grown w3 q (.int .i64 f2.nm) (.int .i64 f2.kd) (.int .i64 f2.sv) (.string ⟨f2.lt.toArray⟩)
    have u9 := set4_blk (.int .i64 f2.nm) (.int .i64 f2.kd) (.int .i64 f2.sv) (.string ⟨f2.lt.toArray⟩) Z3b
    rw [hU9] at g1 u9
    obtain ⟨U, hU⟩ : ∃ U, U9.setCell ⟨q + 1, 0, none⟩ (.bool b2) = U := ⟨_, rfl⟩
    have g2 := grownBy_setCell' U9 (q + 1) (.bool b2)
    have e1 : U9.heap[q + 1]? = w3.heap[q + 1]? := g1.block (q + 1) (by omega) (fun e => by injection e with e; omega)
    have u10 := blk_set (i := 0) (e1.trans T3b) (.bool b2)
    simp only [Array.setIfInBounds] at u10
    rw [hU] at g2 u10
    have sU9 : w3.heap.size ≤ U9.heap.size := g1.size
    have sU : U9.heap.size ≤ U.heap.size := g2.size
    have v9 : U.heap[q]? = some (.cells #[.int .i64 f2.nm, .int .i64 f2.kd, .int .i64 f2.sv, .string ⟨f2.lt.toArray⟩] 145 (0, 0)) := (g2.block q (by omega) (fun e => by injection e with e; omega)).trans u9
    have low : ∀ k, k < q → U.heap[k]? = w3.heap[k]? := fun k hk => (g2.block k (by omega) (fun e => by injection e with e; omega)).trans (g1.block k (by omega) (fun e => by injection e with e; omega))
    have bU : RowKit.Below w.heap.size w U := A3.out.bel.trans (((Below.refl _ w3).grown g1 (by omega) (fun j hj => by injection hj with hj; omega)).trans ((Below.refl _ U9).grown g2 (by omega) (fun j hj => by injection hj with hj; omega)))
    have hb5 : U.heap[w.heap.size]? = some (.cells #[.int .i64 t] 3 (0, 0)) := (low _ (by omega)).trans A3.out.blk
    have hb6 : U.heap[w.heap.size + 1]? = some (.cells #[.int .i64 0, .int .i64 0, .int .i64 0, .string ⟨#[]⟩] 145 (0, 0)) := (low _ (by omega)).trans Z3.out.a.blk
    simp only [hU9, hU]
    clear Z3 T3 A3 Z3b T3b q0 q1 q2 q3 f0 f1 f2' f3 z0 z1 ZZ ZT XA LA RA
    obtain ⟨o, ho1, ho2⟩ := lat_near HOK.out HL.out h1 h2 HT.out AH2.out
    have I0 : LtI w.heap.size w.heap.size q t o w [] U := ⟨bU, hb5, hb6, f2, b2, ho1, v9, by simpa using u10⟩
    obtain ⟨B, hB⟩ : ∃ m, U.heap.size = m := ⟨_, rfl⟩
    have hUs : q + 1 < B := by omega
    obtain ⟨w5, hw5⟩ : ∃ w5, ((((U.alloc (.cells #[.slice A0 n c0] 80)).alloc (.cells #[.int .i64 off] 3)).alloc (.cells #[.int .i64 (t - 180000 + 1)] 3)).alloc (.cells #[.int .i64 (t + 180000 - 1)] 3)) = w5 := ⟨_, rfl⟩
    have k5 : RowKit.Below U.heap.size U w5 := by rw [← hw5]; exact (((((Below.refl _ U).alloc (Nat.le_refl _) _).alloc (by simp) _).alloc (by simp; omega) _).alloc (by simp; omega) _)
    have s5 : w5.heap.size = B + 4 := by rw [← hw5, ← hB]; simp
    have b50 : w5.heap[B]? = some (.cells #[.slice A0 n c0] 80 (0, 0)) := by
      rw [← hw5, Below.heap_alloc _ _ _ (by simp; omega), Below.heap_alloc _ _ _ (by simp; omega), Below.heap_alloc _ _ _ (by simp; omega), ← hB]; exact World.alloc_heap_new U _
    have b51 : w5.heap[B + 1]? = some (.cells #[.int .i64 off] 3 (0, 0)) := by
      rw [← hw5, Below.heap_alloc _ _ _ (by simp; omega), Below.heap_alloc _ _ _ (by simp; omega), ← hB]
      have := World.alloc_heap_new (U.alloc (.cells #[.slice A0 n c0] 80)) (.cells #[.int .i64 off] 3)
      rwa [World.size_alloc] at this
    have b52 : w5.heap[B + 2]? = some (.cells #[.int .i64 (t - 180000 + 1)] 3 (0, 0)) := by
      rw [← hw5, Below.heap_alloc _ _ _ (by simp; omega), ← hB]
      have := World.alloc_heap_new ((U.alloc (.cells #[.slice A0 n c0] 80)).alloc (.cells #[.int .i64 off] 3)) (.cells #[.int .i64 (t - 180000 + 1)] 3)
      rwa [World.size_alloc, World.size_alloc] at this
    have b53 : w5.heap[B + 3]? = some (.cells #[.int .i64 (t + 180000 - 1)] 3 (0, 0)) := by
      rw [← hw5, ← hB]
      have := World.alloc_heap_new (((U.alloc (.cells #[.slice A0 n c0] 80)).alloc (.cells #[.int .i64 off] 3)).alloc (.cells #[.int .i64 (t - 180000 + 1)] 3)) (.cells #[.int .i64 (t + 180000 - 1)] 3)
      rwa [World.size_alloc, World.size_alloc, World.size_alloc] at this
    simp only [hw5]
    have I5 := Lib.hid (I0.next (Nat.le_refl _) k5)
    have b5 := I5.out.bel
    have TB : TuB w.heap.size B B A0 n c0 rs off (t - 180000 + 1) (t + 180000 - 1) w5 := ⟨(RlAt.of HR.out).below b5, b50, b51, b52, b53, (HA.out.next b5).ah, hg, Nat.le_refl _⟩
    have hTl := HT.out.1
    have hTh := HT.out.2
    have SEQ := turns_seq (N - 1) (by omega) w.heap.size B B A0 n c0 rs off (t - 180000 + 1) (t + 180000 - 1) f2.sv w5 TB HN.out hn1 (by omega) HOK.out HL.out.ris (fun f hf => HL.out.1 f hf) (ahead_svb HOK.out HL.out Y2.out.2.2 AH2.out) ⟨h1, h2⟩ Y2.out.1 Y3.out.1 (by omega) (by omega) (by omega)
      ⟨Y2.out.2.1, by have := Y2.out.2.2; omega⟩ ⟨Y3.out.2.2, by have := Y3.out.2.1; omega⟩ (fun g b h => ahead_sv HOK.out HL.out Y2.out.2.2 AH2.out h)
    have HO2 := Lib.hid ho2
    clear hw5 b50 b51 b52 b53 TB I0 k5 hU9 hU g1 g2 u9 u10 e1 v9 low bU hb5 hb6 ho1 ho2
    have hBU : ∀ k, k = B → w5.heap.size = k + 4 := fun k e => by omega
    refine range_ko hN1 (gf := 123) (lb := #[.pointer (some ⟨B, 0, none⟩), .pointer (some ⟨B + 2, 0, none⟩), .pointer (some ⟨B + 3, 0, none⟩), .pointer (some ⟨B + 1, 0, none⟩)]) (by simp only [← hB]; rfl) (enters_of Tryz.func123 (by kernel_rfl) rfl)
      SEQ (by omega) (fun _ => rfl) KpHi.trans KpHi.put
      (LtI w.heap.size w.heap.size q t o w) (fun _ _ _ => False) ?hI (fun _ _ _ _ _ h _ _ => h.elim) I5.out ?round ?done ?stop
    case hI => exact LtI.own (Nat.le_refl _) (by omega) (by omega) (by omega)
    case round =>
      rintro l pre ⟨at', g⟩ X hI hOk hsX
      simp only [encT, fvV]
      have hnX : w.heap.size ≤ X.heap.size := hI.bel.size
      have HII := Lib.hid hI
      have HOK2 := Lib.hid hOk
      have bX : RowKit.Below X.heap.size X (X.alloc (.cells #[.int .i64 g.nm, .int .i64 g.kd, .int .i64 g.sv, .string ⟨g.lt.toArray⟩] 145)) := (Below.refl _ X).alloc (Nat.le_refl _) _
      clear hI hOk
      gi_wp2
      refine ⟨⟨KeepsOthers.alloc X _, bX.mono hnX, KpHi.below bX⟩, fun _ Yw => LtI w.heap.size w.heap.size q t o w pre Yw ∧ Yw.heap[X.heap.size]? = some (.cells #[.int .i64 g.nm, .int .i64 g.kd, .int .i64 g.sv, .string ⟨g.lt.toArray⟩] 145 (0, 0)),
        OwnFrom.and (fun s A' B' row h hg hr => (LtI.own (Nat.le_refl _) (by omega) (by omega) (by omega)).from pre A' B' row h hg hr) (fun s A' B' row h hg hr => (hg.block _ (Array.getElem?_eq_some_iff.1 h).1 (fun e => by obtain ⟨-, o, ho, hc⟩ := hr _ e.symm; rw [h] at ho; cases ho; cases hc)).trans h),
        ⟨HII.out.next (Nat.le_refl _) bX, heap_alloc_new X _⟩, ?_⟩
      rintro W5 ⟨hI5, hF5⟩ hs5
      obtain ⟨fc, bc, hfb, h9, h10⟩ := hI5.st
      have H5 := Lib.hid hI5
      have FB := Lib.hid (hfb.step (at' := at') (g := g))
      have hn5 : w.heap.size ≤ W5.heap.size := hI5.bel.size
      have zt := cel1 hI5.h5
      obtain ⟨z0, z1, z2, z3⟩ := cel4 hF5
      obtain ⟨a0, a1, a2, a3⟩ := cel4 h9
      have f0 := frz (j := 0) h9
      have f1 := frz (j := 1) h9
      have f2' := frz (j := 2) h9
      have f3 := frz (j := 3) h9
      have a4 := cel1 h10
      have f4 := frz (j := 0) h10
      have K9 := Lib.hid h9
      have K10 := Lib.hid h10
      clear hI5 hfb h9 h10 hF5 HII bX
      by_cases hle : at' ≤ t
      · have hlb : decide (at' ≤ t) = true := by simpa using hle
        have FC := Lib.hid (FB.out.1 hle)
        clear hle
        gi_wp2
        have g1 := set4_grown W5 q (.int .i64 g.nm) (.int .i64 g.kd) (.int .i64 g.sv) (.string ⟨g.lt.toArray⟩)
        have u9 := set4_blk (.int .i64 g.nm) (.int .i64 g.kd) (.int .i64 g.sv) (.string ⟨g.lt.toArray⟩) K9.out
        have ko := set4_keeps W5 q (.int .i64 g.nm) (.int .i64 g.kd) (.int .i64 g.sv) (.string ⟨g.lt.toArray⟩)
        generalize (((W5.setCell ⟨q, 0, none⟩ (.int .i64 g.nm)).setCell ⟨q, 1, none⟩ (.int .i64 g.kd)).setCell ⟨q, 2, none⟩ (.int .i64 g.sv)).setCell ⟨q, 3, none⟩ (.string ⟨g.lt.toArray⟩) = U5 at *
        have g2 := grownBy_setCell' U5 (q + 1) (.bool true)
        have l10 := (Array.getElem?_eq_some_iff.1 K10.out).1
        have e1 : U5.heap[q + 1]? = W5.heap[q + 1]? := g1.block (q + 1) l10 (fun e => by injection e with e; omega)
        have u10 := blk_set (i := 0) (e1.trans K10.out) (.bool true)
        simp only [Array.setIfInBounds] at u10
        have sz5 : W5.heap.size ≤ U5.heap.size := g1.size
        have oth : ∀ k, k < W5.heap.size → k ≠ q → k ≠ q + 1 → (U5.setCell ⟨q + 1, 0, none⟩ (.bool true)).heap[k]? = W5.heap[k]? := fun k hk h3 h4 => (g2.block k (by omega) (fun e => by injection e with e; omega)).trans (g1.block k hk (fun e => by injection e with e; omega))
        have bel : RowKit.Below w.heap.size W5 (U5.setCell ⟨q + 1, 0, none⟩ (.bool true)) := ((Below.refl _ W5).grown g1 (by omega) (fun j hj => by injection hj with hj; omega)).trans ((Below.refl _ U5).grown g2 (by omega) (fun j hj => by injection hj with hj; omega))
        exact ⟨⟨ko.trans (KeepsOthers.setCell _ _ _), bel, fun k cs t fz hk h => oth k (Array.getElem?_eq_some_iff.1 h).1 (by omega) (by omega)⟩, ⟨H5.out.bel.trans bel, (oth _ (Array.getElem?_eq_some_iff.1 H5.out.h5).1 (by omega) (by omega)).trans H5.out.h5, (oth _ (Array.getElem?_eq_some_iff.1 H5.out.h6).1 (by omega) (by omega)).trans H5.out.h6, g, true, FC.out, (g2.block q (by have := (Array.getElem?_eq_some_iff.1 u9).1; exact this) (fun e => by injection e with e; omega)).trans u9, by simpa using u10⟩⟩
      · have hlb : decide (at' ≤ t) = false := by simpa using hle
        have FC := Lib.hid (FB.out.2 hle)
        clear hle
        gi_wp2
        exact ⟨⟨KeepsOthers.refl _, Below.refl _ _, fun k cs t fz hk h => rfl⟩, ⟨H5.out.bel, H5.out.h5, H5.out.h6, fc, bc, FC.out, K9.out, K10.out⟩⟩
    case done =>
      rintro D xs X hD hS hI hdf
      have hl := (Array.getElem?_eq_some_iff.1 hdf).1
      rw [hS] at hI
      obtain ⟨fc, bc, hfb, h9, h10⟩ := hI.st
      rw [HO2.out] at hfb
      have FB := Lib.hid hfb
      have hbs := hI.bel.size
      obtain ⟨r0, r1, r2, r3⟩ := cel4 h9
      obtain ⟨q0, q1, q2, q3⟩ := cel4 hI.h6
      have f0 := frz (j := 0) hI.h6
      have f1 := frz (j := 1) hI.h6
      have f2' := frz (j := 2) hI.h6
      have f3 := frz (j := 3) hI.h6
      have z0 := cel1 h10
      have BB : Hid (BlkN w (w.heap.size + 1) #[.int .i64 0, .int .i64 0, .int .i64 0, .string ⟨#[]⟩] 145 X) := ⟨hI.bel, by omega, hI.h6⟩
      have HD := Lib.hid hdf
      clear hI hfb h9 h10 hS hdf
      have ne1 : ¬ q + 1 = w.heap.size + 1 := by omega
      have ne2 : ¬ q = w.heap.size + 1 := by omega
      have ne3 : ¬ q = w.heap.size := by omega
      have ne4 : ¬ w.heap.size = q := by omega
      gi_wp2
      refine wpIn_wide.2 ?_
      go_region
      have B := Lib.hid (BB.out.set4 (x := .int .i64 fc.nm) (y := .int .i64 fc.kd) (z := .int .i64 fc.sv) (u := .string ⟨fc.lt.toArray⟩)).drew
      have HD1 : Hid (((((X.setCell ⟨w.heap.size + 1, 0, none⟩ (.int .i64 fc.nm)).setCell ⟨w.heap.size + 1, 1, none⟩ (.int .i64 fc.kd)).setCell ⟨w.heap.size + 1, 2, none⟩ (.int .i64 fc.sv)).setCell ⟨w.heap.size + 1, 3, none⟩ (.string ⟨fc.lt.toArray⟩)).drew.heap[D]? = some (.deferred (some []))) := Lib.hid ((set4_other _ _ _ _ (by omega)).trans HD.out)
      generalize ((((X.setCell ⟨w.heap.size + 1, 0, none⟩ (.int .i64 fc.nm)).setCell ⟨w.heap.size + 1, 1, none⟩ (.int .i64 fc.kd)).setCell ⟨w.heap.size + 1, 2, none⟩ (.int .i64 fc.sv)).setCell ⟨w.heap.size + 1, 3, none⟩ (.string ⟨fc.lt.toArray⟩)).drew = V1 at *
      clear q0 q1 q2 q3 r0 r1 r2 r3 z0 f0 f1 f2' f3
      gi_wp2
      have B2 : RowKit.Below w.heap.size w (V1.putObj D (.deferred none)) := B.out.bel.trans ((Below.refl _ V1).grown (grownBy_putObj' V1 D (.deferred none)) (by have := B.out.bel.size; omega) (fun j hj => by injection hj with hj; omega))
      have B3 : (V1.putObj D (.deferred none)).heap[w.heap.size + 1]? = some (.cells #[.int .i64 fc.nm, .int .i64 fc.kd, .int .i64 fc.sv, .string ⟨fc.lt.toArray⟩] 145 (0, 0)) := (World.putObj_heap_other (by omega)).trans B.out.blk
      obtain ⟨c0, c1, c2, c3⟩ := cel4 B3
      refine ⟨by simp, .inl ⟨D, _, rfl, run_takeDeferred HD1.out, ?_⟩⟩
      exact ⟨.tuple #[fvV fc, .bool bc], by simp [results, Tryz.results77, go_sem, c0, c1, c2, c3], fc, bc, rfl, FB.out, B2⟩
    case stop =>
      rintro D c pre X hD hSp hx hdf
      exact hx.elim
end Go.Proofs.YtdmfgechoanmlaaGreatDoor
