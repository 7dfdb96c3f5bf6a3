/- The contracts of zone.Era at no ends, of Within of an era without rules, and of At at a zone of one such era. -/
import Derived.Test.YtdmfgechoanmlaaGreatDoorZnG
import Derived.Test.YtdmfgechoanmlaaGreatDoorMZV
import Derived.Test.YtdmfgechoanmlaaGreatDoorMZN
namespace Go.Proofs.YtdmfgechoanmlaaGreatDoor
open Go Go.RowKit
attribute [local go_sem] Oper.semAt_some

theorem era_none (Ae : Option Addr) (ce : Nat) (t : Int) (w : World) : Calls Tryz.prog 16 #[.slice Ae 0 ce, .int .i64 t] w fun x w' => x = .returned (.int .i64 0) ∧ Below w.heap.size w w' := by
  have hmf : ∀ (fn : Fn) (first cap : Array Value) (w : World), (Instr.makeFunc fn first cap).run Tryz.prog w = .ok (.func fn first cap) w := fun _ _ _ _ => rfl
  have IX : Hid (∀ f W, Calls Tryz.prog 36 #[.slice Ae 0 ce, f] W fun x w' => x = .returned (.int .i64 (-1)) ∧ W = w') := Lib.hid fun f W => by
    go_enter Tryz.func36, Tryz.ntmps36
    go_wp2
    go_loopw [8] (fun v wr => v = .int .i64 0 ∧ wr = W) (fun _ _ => 0)
    case atStart => exact ⟨rfl, rfl⟩
    case round =>
      obtain ⟨rfl, rfl⟩ := hrel
      go_wp2
      go_ret
      exact ⟨rfl, rfl⟩
  have k0 : Below w.heap.size w (w.alloc (.cells #[.int .i64 t] 3)) := (Below.refl _ w).alloc (Nat.le_refl _) _
  have K0 := Lib.hid k0
  clear k0
  go_enter Tryz.func16, Tryz.ntmps16
  go_wp2_with (first | (go_at_call 36; refine (IX.out _ _).mono ?_; rintro x w1 ⟨rfl, rfl⟩; simp only []))
  go_ret
  exact ⟨rfl, K0.out⟩
theorem saved_no (e : EV) (l : Value) (t : Int) (w : World) (he : e.rl.isEmpty = true) : Calls Tryz.prog 59 #[evV e, l, .int .i64 t] w fun x w' => x = .returned (.tuple #[.int .i64 e.sv, .string ⟨#[]⟩]) ∧ Below w.heap.size w w' := by
  obtain ⟨x0, x1, x2, x3, x4, x5, x6, x7, x8, x9, x10, x11⟩ := cells12 (heap_alloc_new w (.cells (cE e) 54))
  have k0 : Below w.heap.size w (w.alloc (.cells (cE e) 54)) := (Below.refl _ w).alloc (Nat.le_refl _) _
  have K0 := Lib.hid k0
  clear k0
  obtain ⟨of, rl, sv, fm, en, uy, um, dk, dw, dn, sc, ck⟩ := e
  unfold evV at *
  unfold cE at *
  simp only at *
  go_enter Tryz.func59, Tryz.ntmps59
  go_wp2
  go_ret2
  exact ⟨rfl, K0.out⟩
def locV (a : Int) (b : Bool) (s : List UInt8) : Value := .agg #[.int .i64 a, .bool b, .string ⟨s.toArray⟩]
/-- What an era without rules shows. -/
def plE (e : EV) : Int := shE e.fm (e.of + e.sv)
def plV (e : EV) : Value := if plE e = 0 then locV (e.of + e.sv) (e.sv != 0) (shS e.fm (e.of + e.sv) (e.sv != 0) []) else locV 0 false []
set_option maxRecDepth 20000 in
theorem within_no (e : EV) (l : Value) (t e0 : Int) (V : Value) (w : World) (he : e.rl.isEmpty = true) (HA : Hid (LaidB w)) (HF : Hid (e.fm.length ≤ 1000)) (h1 : -90000 < e.of) (h2 : e.of < 90000) (h3 : -90000 < e.sv) (h4 : e.sv < 90000) (hE : plE e = e0) (hV : plV e = V) :
    Calls Tryz.prog 33 #[evV e, l, .int .i64 t] w fun x w' => x = .returned (.tuple #[V, .int .i64 e0]) ∧ Below w.heap.size w w' := by
  have SV := Lib.hid (fun W => saved_no e l t W he)
  obtain ⟨T, hT⟩ : ∃ T, shS e.fm (e.of + e.sv) (e.sv != 0) [] = T := ⟨_, rfl⟩
  obtain ⟨d, hd⟩ : ∃ d, (e.sv != 0) = d := ⟨_, rfl⟩
  have X : Hid (TwoB w w.heap.size (cE e) 54 (w.heap.size + 1) #[.int .i64 0, .bool false, .string ⟨#[]⟩] 41 ((w.alloc (.cells (cE e) 54)).alloc (.cells #[.int .i64 0, .bool false, .string ⟨#[]⟩] 41))) :=
    ⟨BlkN.fst (w := w) _ 54 _, BlkN.two w _ _ _⟩
  have hw : IntKind.i64.wrap (e.of + e.sv) = e.of + e.sv := IntWalk.i64_in _ (by omega)
  obtain ⟨n, hn⟩ : ∃ n, e.of + e.sv = n := ⟨_, rfl⟩
  unfold plE at hE
  unfold plV plE at hV
  rw [hd] at hT hV
  rw [hT, hE] at hV
  rw [hn] at hT hE hV hw
  have SH : Hid (∀ W, LaidB W → Calls Tryz.prog 60 #[.string ⟨e.fm.toArray⟩, .int .i64 n, .bool d, .string ⟨[].toArray⟩] W fun x w' => x = .returned (.tuple #[.string ⟨T.toArray⟩, .int .i64 e0]) ∧ Below W.heap.size W w') := Lib.hid fun W hW => show_is e.fm [] T n e0 d W (Lib.hid hW) (Lib.hid ⟨HF.out, by simp⟩) (Lib.hid ⟨hT, hE⟩)
  clear hT hE
  obtain ⟨of, rl, sv, fm, en, uy, um, dk, dw, dn, sc, ck⟩ := e
  unfold evV at *
  unfold cE at *
  simp only at *
  obtain ⟨x0, x1, x2, x3, x4, x5, x6, x7, x8, x9, x10, x11⟩ := cells12 X.out.a.blk
  by_cases hz : e0 = 0
  · subst hz
    rw [if_pos rfl] at hV
    have HV := Lib.hid hV
    clear hV
    go_enter Tryz.func33, Tryz.ntmps33
    go_wp2_with (first
      | (go_at_call 59; refine (SV.out _).mono ?_; rintro x w1 ⟨rfl, k1⟩; simp only []
         have X1 := Lib.hid (X.out.next k1)
         clear k1 x0 x1 x2 x3 x4 x5 x6 x7 x8 x9 x10 x11
         obtain ⟨x0, x1, x2, x3, x4, x5, x6, x7, x8, x9, x10, x11⟩ := cells12 X1.out.a.blk)
      | (go_at_call 60; refine (SH.out _ (HA.out.next X1.out.a.bel)).mono ?_; rintro x w2 ⟨rfl, k2⟩; simp only []
         have X2 := Lib.hid (X1.out.b.next k2)
         clear k2
         obtain ⟨c0, c1, c2⟩ := cel3 X2.out.blk
         have f0 := frz (j := 0) X2.out.blk
         have f1 := frz (j := 1) X2.out.blk
         have f2 := frz (j := 2) X2.out.blk))
    refine (X2.out.set3).ret fun W' B => ?_
    obtain ⟨c0, c1, c2⟩ := cel3 B.blk
    refine bodyPost_ret (by simp [results, Tryz.results33, go_sem, c0, c1, c2]; rfl) rfl ⟨?_, B.bel⟩
    rw [← HV.out]; rfl
  · rw [if_neg hz] at hV
    have HV := Lib.hid hV
    have hz1 : (e0 != 0) = true := by simpa using hz
    clear hV hz
    go_enter Tryz.func33, Tryz.ntmps33
    go_wp2_with (first
      | (go_at_call 59; refine (SV.out _).mono ?_; rintro x w1 ⟨rfl, k1⟩; simp only []
         have X1 := Lib.hid (X.out.next k1)
         clear k1 x0 x1 x2 x3 x4 x5 x6 x7 x8 x9 x10 x11
         obtain ⟨x0, x1, x2, x3, x4, x5, x6, x7, x8, x9, x10, x11⟩ := cells12 X1.out.a.blk)
      | (go_at_call 60; refine (SH.out _ (HA.out.next X1.out.a.bel)).mono ?_; rintro x w2 ⟨rfl, k2⟩; simp only []
         have X2 := Lib.hid (X1.out.b.next k2)
         clear k2
         obtain ⟨c0, c1, c2⟩ := cel3 X2.out.blk
         have f0 := frz (j := 0) X2.out.blk
         have f1 := frz (j := 1) X2.out.blk
         have f2 := frz (j := 2) X2.out.blk))
    refine (X2.out.set3).ret fun W' B => ?_
    obtain ⟨c0, c1, c2⟩ := cel3 B.blk
    refine bodyPost_ret (by simp [results, Tryz.results33, go_sem, c0, c1, c2]; rfl) rfl ⟨?_, B.bel⟩
    rw [← HV.out]; rfl
/-- What a zone of such an era shows. -/
def atE (e : EV) (t : Int) : Int := if erE e true 0 ≠ 0 then erE e true 0 else if t < -2199023255552 ∨ 2199023255552 < t then 10 else plE e
def atV (e : EV) (t : Int) : Value := if erE e true 0 ≠ 0 then locV 0 false [] else if t < -2199023255552 ∨ 2199023255552 < t then locV 0 false [] else plV e
set_option maxRecDepth 20000 in
set_option maxHeartbeats 1000000 in
theorem at_plain (nm : List UInt8) (Az : Option Addr) (cz : Nat) (e : EV) (fn : Fn) (fs lb : Array Value) (t e0 : Int) (V : Value) (w : World) (hE : EsAt w.heap.size Az [e] w) (he : e.rl.isEmpty = true) (hen : e.en = false) (HA : Hid (LaidB w)) (HF : Hid (e.fm.length ≤ 1000)) (h0 : atE e t = e0) (hV : atV e t = V) :
    Calls Tryz.prog 13 #[.agg #[.string ⟨nm.toArray⟩, .slice Az 1 cz], .func fn fs lb, .int .i64 t] w fun x w' => x = .returned (.tuple #[V, .int .i64 e0]) ∧ Below w.heap.size w w' := by
  have mixed : Tryz.prog.follows .mixedOrders = true := by kernel_rfl
  obtain ⟨v, hv⟩ : ∃ v, erE e true 0 = v := ⟨_, rfl⟩
  have X : Hid (TwoB w w.heap.size #[.string ⟨nm.toArray⟩, .slice Az 1 cz] 24 (w.heap.size + 1) #[.int .i64 0, .bool false, .string ⟨#[]⟩] 41 ((w.alloc (.cells #[.string ⟨nm.toArray⟩, .slice Az 1 cz] 24)).alloc (.cells #[.int .i64 0, .bool false, .string ⟨#[]⟩] 41))) :=
    ⟨BlkN.fst (w := w) _ 24 _, BlkN.two w _ _ _⟩
  have OP : Hid (∀ W, Below w.heap.size w W → Calls Tryz.prog 31 #[.agg #[.string ⟨nm.toArray⟩, .slice Az 1 cz], .func fn fs lb] W fun x w' => Open1 v x w' ∧ Below W.heap.size W w') := Lib.hid fun W hW => open1_is nm Az cz e fn fs lb v W ((hE.below hW).mono hW.size) he hen (Lib.hid (HA.out.next hW)) HF (Lib.hid hv)
  obtain ⟨z0, z1⟩ := cel2 X.out.a.blk
  have HE := Lib.hid hE
  clear hE
  unfold atE at h0
  unfold atV at hV
  rw [hv] at h0 hV
  by_cases hv0 : v = 0
  · subst hv0
    rw [if_neg (by simp)] at h0 hV
    have T := erE_ways e true 0 0 hv
    by_cases ht : t < -2199023255552 ∨ 2199023255552 < t
    · rw [if_pos ht] at h0 hV
      subst h0
      have HV := Lib.hid hV
      clear hV hv T
      have V2 : t < -2199023255552 ∨ (¬ t < -2199023255552 ∧ t > 2199023255552) := by omega
      clear ht
      rcases V2 with h5 | ⟨h5, h6⟩
      all_goals
        go_enter Tryz.func13, Tryz.ntmps13
        go_wp2_with (first
          | (go_at_call 31; refine (OP.out _ X.out.a.bel).mono ?_; rintro x w1 ⟨(⟨_, g, c, Ae, ce, rfl, hg⟩ | ⟨h1, _⟩), k1⟩; rotate_left
             · exact absurd rfl h1
             have X1 := Lib.hid ((X.out.next k1).more (.cells #[.slice (some ⟨g, 0, none⟩) 1 c, .slice Ae 0 ce] 91))
             clear k1 z0 z1
             obtain ⟨z0, z1⟩ := cel2 X1.out.a.blk
             obtain ⟨c0, c1, c2⟩ := cel3 X1.out.b.blk
             have f0 := frz (j := 0) X1.out.b.blk
             have f1 := frz (j := 1) X1.out.b.blk
             have f2 := frz (j := 2) X1.out.b.blk
             simp only []))
        refine (X1.out.b.set3).ret fun W' B => ?_
        obtain ⟨c0, c1, c2⟩ := cel3 B.blk
        refine bodyPost_ret (by simp [results, Tryz.results13, go_sem, c0, c1, c2]; rfl) rfl ⟨?_, B.bel⟩
        rw [← HV.out]; rfl
    · rw [if_neg ht] at h0 hV
      obtain ⟨h5, h6⟩ : ¬ t < -2199023255552 ∧ ¬ t > 2199023255552 := by omega
      have B4 : -90000 < e.of ∧ e.of < 90000 ∧ -90000 < e.sv ∧ e.sv < 90000 := by
        rcases T with ⟨_, h⟩ | ⟨k, _, ⟨_, h⟩ | ⟨_, _, h⟩ | ⟨t1, t2, -⟩⟩
        · cases h
        · cases h
        · cases h
        · unfold tmB at t1 t2
          simp at t1 t2
          omega
      obtain ⟨p1, p2, p3, rfl⟩ : ∃ a b s, V = locV a b s := by
        rw [← hV]; unfold plV
        split <;> exact ⟨_, _, _, rfl⟩
      have WI : Hid (∀ W n l c, LaidB W → Calls Tryz.prog 33 #[evV e, .slice n l c, .int .i64 t] W fun x w' => x = .returned (.tuple #[locV p1 p2 p3, .int .i64 e0]) ∧ Below W.heap.size W w') := Lib.hid fun W n l c hW => within_no e _ t e0 _ W he (Lib.hid hW) HF B4.1 B4.2.1 B4.2.2.1 B4.2.2.2 h0 hV
      have ER := Lib.hid (fun A c W => era_none A c t W)
      obtain ⟨L, off, rfl, hL, hEc⟩ := HE.out.cells (i := 0) (e := e) rfl
      simp only [Nat.zero_mul, Nat.add_zero] at hEc
      have HC := Lib.hid hEc
      clear hEc h0 hV hv T ht B4
      go_enter Tryz.func13, Tryz.ntmps13
      go_wp2_with (first
        | (go_at_call 31; refine (OP.out _ X.out.a.bel).mono ?_; rintro x w1 ⟨(⟨_, g, c, Ae, ce, rfl, hg⟩ | ⟨h1, _⟩), k1⟩; rotate_left
           · exact absurd rfl h1
           have X1 := Lib.hid ((X.out.next k1).more (.cells #[.slice (some ⟨g, 0, none⟩) 1 c, .slice Ae 0 ce] 91))
           have W1 := Lib.hid (heap_alloc_new w1 (.cells #[.slice (some ⟨g, 0, none⟩) 1 c, .slice Ae 0 ce] 91))
           have G1 := Lib.hid (((Below.refl w1.heap.size w1).alloc (Nat.le_refl _) (.cells #[.slice (some ⟨g, 0, none⟩) 1 c, .slice Ae 0 ce] 91)).cell (p := ⟨g, 0, none⟩) (cell_lt hg) |>.trans hg)
           clear k1 z0 z1 hg
           obtain ⟨z0, z1⟩ := cel2 X1.out.a.blk
           obtain ⟨y0, y1⟩ := cel2 W1.out
           simp only [])
        | (go_at_call 16; refine (ER.out _ _ _).mono ?_; rintro x w2 ⟨rfl, k2⟩
           have X2 := Lib.hid (X1.out.next k2)
           have W2 := Lib.hid ((k2.block _ (Array.getElem?_eq_some_iff.1 W1.out).1).trans W1.out)
           have G2 := Lib.hid ((k2.cell (p := ⟨g, 0, none⟩) (cell_lt G1.out)).trans G1.out)
           clear k2 z0 z1 y0 y1
           simp only []))
      obtain ⟨z0, z1⟩ := cel2 X2.out.a.blk
      obtain ⟨y0, y1⟩ := cel2 W2.out
      obtain ⟨x0, x1, x2, x3, x4, x5, x6, x7, x8, x9, x10, x11⟩ : (w2.cell? ⟨L, off, none⟩ = some (.int .i64 e.of) ∧ w2.cell? ⟨L, off + 1, none⟩ = some (.string ⟨e.rl.toArray⟩) ∧ w2.cell? ⟨L, off + 2, none⟩ = some (.int .i64 e.sv) ∧ w2.cell? ⟨L, off + 3, none⟩ = some (.string ⟨e.fm.toArray⟩) ∧ w2.cell? ⟨L, off + 4, none⟩ = some (.bool e.en) ∧ w2.cell? ⟨L, off + 5, none⟩ = some (.int .i64 e.uy) ∧ w2.cell? ⟨L, off + 6, none⟩ = some (.int .i64 e.um) ∧ w2.cell? ⟨L, off + 7, none⟩ = some (.int .i64 e.dk) ∧ w2.cell? ⟨L, off + 8, none⟩ = some (.int .i64 e.dw) ∧ w2.cell? ⟨L, off + 9, none⟩ = some (.int .i64 e.dn) ∧ w2.cell? ⟨L, off + 10, none⟩ = some (.int .i64 e.sc) ∧ w2.cell? ⟨L, off + 11, none⟩ = some (.int .i64 e.ck)) := by
        have hh : ∀ {o : Nat} {v : Value}, w.cell? ⟨L, o, none⟩ = some v → w2.cell? ⟨L, o, none⟩ = some v := fun h => (X2.out.a.bel.cell (p := ⟨L, _, none⟩) hL).trans h
        obtain ⟨a0, a1, a2, a3, a4, a5, a6, a7, a8, a9, a10, a11⟩ := HC.out
        exact ⟨hh a0, hh a1, hh a2, hh a3, hh a4, hh a5, hh a6, hh a7, hh a8, hh a9, hh a10, hh a11⟩
      have d0 := bel_cell x0
      have d1 := bel_cell x1
      have d2 := bel_cell x2
      have d3 := bel_cell x3
      have d4 := bel_cell x4
      have d5 := bel_cell x5
      have d6 := bel_cell x6
      have d7 := bel_cell x7
      have d8 := bel_cell x8
      have d9 := bel_cell x9
      have d10 := bel_cell x10
      have d11 := bel_cell x11
      have d12 := bel_cell z1
      have d13 := bel_cell y0
      have d14 := bel_cell G2.out
      clear x0 x1 x2 x3 x4 x5 x6 x7 x8 x9 x10 x11 y0 y1 z0 z1
      unfold evV cE locV at WI
      rw [hen] at WI
      refine region_tail 14 mixed (by kernel_rfl) ?_
      simp only [List.take_succ_cons, List.take_zero, List.drop_succ_cons, List.drop_zero]
      repeat (quiet_step ((go_at_call 33; rename_i y; refine (WI.out _ _ _ _ (HA.out.next (X2.out.a.bel.trans (y.k.mono X2.out.a.bel.size)))).mono ?_; rintro x w6 ⟨rfl, k6⟩; exact ⟨rfl, ⟨w6, y.k.trans (k6.mono y.k.size)⟩, rfl⟩)))
      refine wpQuiet_nil ?_
      rintro w6 ⟨x6, hx6⟩
      have X3 := Lib.hid (X2.out.b.next (hx6 ▸ x6.k))
      clear hx6 x6 d0 d1 d2 d3 d4 d5 d6 d7 d8 d9 d10 d11 d12 d13 d14
      obtain ⟨c0, c1, c2⟩ := cel3 X3.out.blk
      have f0 := frz (j := 0) X3.out.blk
      have f1 := frz (j := 1) X3.out.blk
      have f2 := frz (j := 2) X3.out.blk
      go_wp2
      refine (X3.out.set3).ret fun W' B => ?_
      obtain ⟨c0, c1, c2⟩ := cel3 B.blk
      exact bodyPost_ret (by simp [results, Tryz.results13, go_sem, c0, c1, c2]; rfl) rfl ⟨rfl, B.bel⟩
  · rw [if_pos hv0] at h0 hV
    subst h0
    have HV := Lib.hid hV
    have hvb : (v != 0) = true := by simpa using hv0
    have HV0 := Lib.hid hv0
    clear hV hv hv0
    go_enter Tryz.func13, Tryz.ntmps13
    go_wp2_with (first
      | (go_at_call 31; refine (OP.out _ X.out.a.bel).mono ?_; rintro x w1 ⟨(⟨h1, _⟩ | ⟨_, rfl⟩), k1⟩
         · exact absurd h1 HV0.out
         have X1 := Lib.hid ((X.out.next k1).more (.cells #[.slice none 0 0, .slice none 0 0] 91))
         clear k1 z0 z1
         obtain ⟨z0, z1⟩ := cel2 X1.out.a.blk
         obtain ⟨c0, c1, c2⟩ := cel3 X1.out.b.blk
         have f0 := frz (j := 0) X1.out.b.blk
         have f1 := frz (j := 1) X1.out.b.blk
         have f2 := frz (j := 2) X1.out.b.blk
         simp only []))
    refine (X1.out.b.set3).ret fun W' B => ?_
    obtain ⟨c0, c1, c2⟩ := cel3 B.blk
    refine bodyPost_ret (by simp [results, Tryz.results13, go_sem, c0, c1, c2]; rfl) rfl ⟨?_, B.bel⟩
    rw [← HV.out]; rfl
end Go.Proofs.YtdmfgechoanmlaaGreatDoor
