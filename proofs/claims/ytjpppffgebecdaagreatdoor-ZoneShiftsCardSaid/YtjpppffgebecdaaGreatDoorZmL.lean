/- For whatever world, instant and offset the law ZoneShifts returns true: where its tests let them in. -/
import Derived.Test.YtjpppffgebecdaaGreatDoorZmK
namespace Go.Proofs.YtjpppffgebecdaaGreatDoor
open Go Go.RowKit Go.Sort
attribute [local go_sem] Oper.semAt_some

theorem kd_x : kdK [88] = some 0 := by decide
theorem within_x (e : EV) (hf : e.fm = [88]) (hr : e.rl = [82]) (A0 : Option Addr) (n c0 : Nat) (rs : List RV) (t s a : Int) (p : Bool) (w : World) (hA : LaidZ w) (hR : RowsAt 11 cR A0 rs w) (hP : LatP n rs e.of t) (hs : svO (latF e.of t 0 none (rowF rs)) = s) (ha : e.of + s = a) (hp : (s != 0) = p) :
    Calls Tryz.prog 21 #[evV e, .slice A0 n c0, .int .i64 t] w fun x w' => x = .returned (.tuple #[.agg #[.int .i64 a, .bool p, .string ⟨#[88]⟩], .int .i64 0]) ∧ Below w.heap.size w w' := by
  have hb := svO_bd hP.ap e.of t
  rw [hs] at hb
  have h1 := hP.o1
  have h2 := hP.o2
  have e1 : ∀ off, shE [88] off = 0 := fun off => by unfold shE; rw [kd_x]; rfl
  have e2 : ∀ off d l, shS [88] off d l = [88] := fun off d l => by unfold shS; rw [kd_x]; rfl
  subst ha hp
  refine (within_gen e (.slice A0 n c0) t s 0 (ltO (latF e.of t 0 none (rowF rs)) (ltrL rs n)) _ w (Lib.hid hA.b) (Lib.hid fun W k => saved_ruled e A0 n c0 rs t s _ W (by rw [hr]; rfl) (hA.next k).f (hR.next k) hP hs rfl) h1 h2 hb.1 hb.2
    (Lib.hid fun W hW => ?_) (by unfold plO; rw [hf]; exact e1 _) rfl).mono ?_
  · rw [hf, e1, e2]
    exact sh_plain [88] _ _ _ W kd_x (Lib.hid hW) (Lib.hid (by decide))
  · rintro x w' ⟨rfl, k⟩
    refine ⟨?_, k⟩
    unfold plU plO locV
    rw [hf, e1, e2, if_pos rfl]
theorem setCell_sz (W : World) (p : Addr) (v : Value) : (W.setCell p v).heap.size = W.heap.size := by simp
theorem setCell_grown (W : World) (k i : Nat) (v : Value) : W.grownBy (W.setCell ⟨k, i, none⟩ v) (some k) := by
  have b := (Below.refl 0 W).setCell (p := ⟨k, i, none⟩) (Nat.zero_le k) v
  refine ⟨b.os, b.tape, b.output, b.size, fun j _ hne => ?_⟩
  show (W.heap.modify k _)[j]? = _
  rw [Array.getElem?_modify]
  rw [if_neg (fun e => hne (by rw [e]))]
set_option maxRecDepth 20000 in
set_option maxHeartbeats 2000000 in
theorem zshifts_in (x : WV) (t m : Int) (w : World) (hA : LaidZ w) (hX : WvAt x w) (hO : WvOk x) (h : ShA x t m) (e : EV) (he : x.es[0]? = some e) (o1 : -40000 ≤ e.of) (o2 : e.of ≤ 40000) (s : SV) (hs : x.ss[0]? = some s) :
    Calls Tryz.prog 7 #[wvV x, .int .i64 t, .int .i64 m] w fun e w' => e = .returned (.bool true) ∧ Below w.heap.size w w' := by
  have AW := Lib.hid (fun W (k : Below w.heap.size w W) => zawake_is W (Lib.hid (hA.next k).b))
  have TF := Lib.hid (fun W (k : Below w.heap.size w W) => few_is x true W (hX.next k) hO (Lib.hid (.inl ⟨rfl, h.few⟩)))
  have N1 := Lib.hid (fun W => near_is t true W (Lib.hid (.inl ⟨rfl, h.nt⟩)))
  have N2 := Lib.hid (fun W => near_is (t - m) true W (Lib.hid (.inl ⟨rfl, h.nm⟩)))
  have H := Lib.hid h
  have HX := Lib.hid hX
  have HAZ := Lib.hid hA
  have m1 := h.m1
  have m2 := h.m2
  have hn4 := h.few.ne
  have hs3 := h.few.ns
  have hn0 := h.ne
  have wt : IntKind.i64.wrap (t - m) = t - m := IntWalk.i64_in _ (by have := h.nt.1; have := h.nt.2; omega)
  clear hA hX h hO
  have X0 := Lib.hid (BlkN.make (Below.refl w.heap.size w) #[.string ⟨x.nm.toArray⟩, .slice x.az x.es.length x.cz, .slice x.sa x.ss.length x.cs] 27)
  obtain ⟨c0, c1, c2⟩ := cel3 X0.out.blk
  unfold wvV at *
  obtain ⟨n, hn⟩ : ∃ n, x.es.length = n := ⟨_, rfl⟩
  obtain ⟨k, hk⟩ : ∃ n, x.ss.length = n := ⟨_, rfl⟩
  rw [hn] at hn4 hn0
  rw [hk] at hs3
  rw [hn, hk] at TF X0 c0 c1 c2
  simp only [hn, hk]
  have HN := Lib.hid hn
  have HK := Lib.hid hk
  have hnb : ((n : Int) == 0) = false := by simp; omega
  have hnl : (0 : Int) < (n : Int) := by omega
  obtain ⟨L, off, haz, -, -⟩ := era_cells HX.out.es he
  rw [haz] at TF X0 c1
  simp only [haz]
  have HE := Lib.hid he
  have HXE : Hid (RowsAt 12 cE (some ⟨L, off, none⟩) x.es w) := Lib.hid (haz ▸ HX.out.es)
  clear hn hk he haz
  obtain ⟨S, so, hsa, -, -⟩ := set_cells HX.out.ss hs
  rw [hsa] at TF X0 c2
  simp only [hsa]
  have HSS : Hid (RowsAt 2 cS (some ⟨S, so, none⟩) x.ss w) := Lib.hid (hsa ▸ HX.out.ss)
  have HS := Lib.hid hs
  obtain ⟨r, hr⟩ : ∃ r, s.rs.length = r := ⟨_, rfl⟩
  have HR := Lib.hid hr
  have FWS := Lib.hid (H.out.few.ss s (List.mem_of_getElem? hs))
  have r6 : r ≤ 6 := by rw [← hr]; exact FWS.out.1.1
  have RLS := Lib.hid (HX.out.rl s (List.mem_of_getElem? hs))
  have hk1 : 0 < k := by rw [← HK.out]; have := (List.getElem?_eq_some_iff.1 hs).1; omega
  have hkl : (0 : Int) < (k : Int) := by omega
  clear hsa hs hr
  obtain ⟨of, rl, sv, fm, en, uy, um, dk, dw, dn, sc, ck⟩ := e
  simp only at o1 o2
  have hkb : ((k : Int) == 0) = false := by simp; omega
  go_enter Tryz.func7, Tryz.ntmps7
  repeat (first
    | (go_at_call 9; (with_reducible refine (TF.out _ X0.out.bel).mono ?_); (rintro e w1 ⟨rfl, k1⟩); have X1 := Lib.hid (X0.out.next k1); clear k1 c0 c1 c2; obtain ⟨c0, c1, c2⟩ := cel3 X1.out.blk; simp only [])
        | (go_at_call 17; (with_reducible refine (N1.out _).mono ?_); (rintro e w2 ⟨rfl, k2⟩); have X2 := Lib.hid (X1.out.next k2); clear k2 c0 c1 c2; obtain ⟨c0, c1, c2⟩ := cel3 X2.out.blk; simp only [])
        | (go_at_call 17; (with_reducible refine (N2.out _).mono ?_); (rintro e w3 ⟨rfl, k3⟩); have X3 := Lib.hid (X2.out.next k3); clear k3 c0 c1 c2; obtain ⟨c0, c1, c2⟩ := cel3 X3.out.blk; simp only []
           obtain ⟨L', off', e', hL, x0, x1, x2, x3, x4, x5, x6, x7, x8, x9, x10, x11⟩ := era_cells (HXE.out.next X3.out.bel) HE.out; cases e'; clear hL; simp only [Nat.zero_mul, Nat.add_zero] at x0 x1 x2 x3 x4 x5 x6 x7 x8 x9 x10 x11
           have Y3 := Lib.hid (BlkN.make X3.out.bel #[.int .i64 of, .string ⟨rl.toArray⟩, .int .i64 sv, .string ⟨fm.toArray⟩, .bool en, .int .i64 uy, .int .i64 um, .int .i64 dk, .int .i64 dw, .int .i64 dn, .int .i64 sc, .int .i64 ck] 54)
           have V4 := Lib.hid (X3.out.more (.cells #[.int .i64 of, .string ⟨#[82]⟩, .int .i64 0, .string ⟨#[88]⟩, .bool en, .int .i64 uy, .int .i64 um, .int .i64 dk, .int .i64 dw, .int .i64 dn, .int .i64 sc, .int .i64 ck] 54))
           obtain ⟨d0, d1, d2⟩ := cel3 V4.out.blk
           have g0 := frz (j := 0) Y3.out.blk; have g1 := frz (j := 1) Y3.out.blk; have g2 := frz (j := 2) Y3.out.blk; have g3 := frz (j := 3) Y3.out.blk
           obtain ⟨y0, y1, y2, y3, y4, y5, y6, y7, y8, y9, y10, y11⟩ := cells12 Y3.out.blk)
    | go_values | go_skip | go_guarded | go_step | go_upon | go_back)
  obtain ⟨q, hq⟩ : ∃ q, w3.heap.size = q := ⟨_, rfl⟩
  have E4 := Lib.hid (BlkN.make X3.out.bel #[.int .i64 of, .string ⟨#[82]⟩, .int .i64 0, .string ⟨#[88]⟩, .bool en, .int .i64 uy, .int .i64 um, .int .i64 dk, .int .i64 dw, .int .i64 dn, .int .i64 sc, .int .i64 ck] 54)
  have hwq : w.heap.size < q := by have := X3.out.lt; omega
  rw [hq] at E4
  simp only [hq]
  clear x0 x1 x2 x3 x4 x5 x6 x7 x8 x9 x10 x11 y0 y1 y2 y3 y4 y5 y6 y7 y8 y9 y10 y11 g0 g1 g2 g3 c0 c1 c2 d0 d1 d2 Y3 X1 X2 X0
  go_loopw [8, 9, 10] (fun v1 v2 vi wr => ∃ i : Nat, vi = .int .i64 i ∧ i ≤ r ∧ TwoL (q + 1) v1 v2 ((s.rs.take i).map (setK 1)) ((s.rs.take i).map (setK 2)) wr ∧ BlkN w w.heap.size #[.string ⟨x.nm.toArray⟩, .slice (some ⟨L, off, none⟩) n x.cz, .slice (some ⟨S, so, none⟩) k x.cs] 27 wr ∧ BlkN w q #[.int .i64 of, .string ⟨#[82]⟩, .int .i64 0, .string ⟨#[88]⟩, .bool en, .int .i64 uy, .int .i64 um, .int .i64 dk, .int .i64 dw, .int .i64 dn, .int .i64 sc, .int .i64 ck] 54 wr) (fun _ _ vi _ => r - (intOf vi).toNat)
  case atStart => exact ⟨0, rfl, Nat.zero_le _, ⟨World.ownsRow_nil _ _ _ _, World.ownsRow_nil _ _ _ _, .inl rfl⟩, V4.out, E4.out⟩
  case round =>
    clear V4 E4 X3
    obtain ⟨i, rfl, i1, hT, hW, hE⟩ := hrel
    obtain ⟨-, c1, c2⟩ := cel3 hW.blk
    obtain ⟨L2, off2, e2, -, s0, s1⟩ := set_cells (HSS.out.next hW.bel) HS.out
    cases e2
    simp only [Nat.zero_mul, Nat.add_zero] at s0 s1
    rw [HR.out] at s1
    have TL := Lib.hid hT
    have XW := Lib.hid hW
    have XE := Lib.hid hE
    clear hT hW hE s0 c1
    have wi : IntKind.i64.wrap ((i : Int) + 1) = (i : Int) + 1 := IntWalk.i64_in _ (by omega)
    by_cases hlt : i < r
    · have hii : (i : Int) < (r : Int) := by omega
      obtain ⟨z, hz⟩ : ∃ z, s.rs[i]? = some z := ⟨_, List.getElem?_eq_getElem (by rw [HR.out]; exact hlt)⟩
      obtain ⟨RL, ro, hra, hrul⟩ := rul_at RLS.out hz
      obtain ⟨r0, r1, r2, r3, r4, r5, r6', r7, r8, r9, r10⟩ := (hrul.next XW.out.bel).cells
      rw [hra] at s1
      have HZ := Lib.hid hz
      clear hz hrul hra
      have hqB : q < wr.heap.size := XE.out.lt
      have Z0 := Lib.hid (BlkN.make XW.out.bel #[.string ⟨z.nm.toArray⟩, .int .i64 z.fr, .int .i64 z.tl, .int .i64 z.mo, .int .i64 z.dk, .int .i64 z.dw, .int .i64 z.dn, .int .i64 z.sc, .int .i64 z.ck, .int .i64 z.sv, .string ⟨z.lt.toArray⟩] 81)
      have g8 := frz (j := 8) Z0.out.blk
      obtain ⟨z0, z1, z2, z3, z4, z5, z6, z7, z8, z9, z10⟩ := cells11 Z0.out.blk
      have k1 : Below wr.heap.size wr (wr.alloc (.cells #[.string ⟨z.nm.toArray⟩, .int .i64 z.fr, .int .i64 z.tl, .int .i64 z.mo, .int .i64 z.dk, .int .i64 z.dw, .int .i64 z.dn, .int .i64 z.sc, .int .i64 1, .int .i64 z.sv, .string ⟨z.lt.toArray⟩] 81)) := (Below.refl _ _).alloc (Nat.le_refl _) _
      have Z2 := Lib.hid ((BlkN.make XW.out.bel #[.string ⟨z.nm.toArray⟩, .int .i64 z.fr, .int .i64 z.tl, .int .i64 z.mo, .int .i64 z.dk, .int .i64 z.dw, .int .i64 z.dn, .int .i64 z.sc, .int .i64 1, .int .i64 z.sv, .string ⟨z.lt.toArray⟩] 81).more (.cells #[.string ⟨z.nm.toArray⟩, .int .i64 z.fr, .int .i64 z.tl, .int .i64 z.mo, .int .i64 z.dk, .int .i64 z.dw, .int .i64 z.dn, .int .i64 z.sc, .int .i64 1, .int .i64 z.sv, .string ⟨z.lt.toArray⟩] 81))
      have T1 := Lib.hid ((TL.out.next k1).next ((Below.refl _ (wr.alloc (.cells #[.string ⟨z.nm.toArray⟩, .int .i64 z.fr, .int .i64 z.tl, .int .i64 z.mo, .int .i64 z.dk, .int .i64 z.dw, .int .i64 z.dn, .int .i64 z.sc, .int .i64 1, .int .i64 z.sv, .string ⟨z.lt.toArray⟩] 81))).alloc (Nat.le_refl _) (.cells #[.string ⟨z.nm.toArray⟩, .int .i64 z.fr, .int .i64 z.tl, .int .i64 z.mo, .int .i64 z.dk, .int .i64 z.dw, .int .i64 z.dn, .int .i64 z.sc, .int .i64 1, .int .i64 z.sv, .string ⟨z.lt.toArray⟩] 81)))
      have W1 := Lib.hid ((XW.out.next k1).more (.cells #[.string ⟨z.nm.toArray⟩, .int .i64 z.fr, .int .i64 z.tl, .int .i64 z.mo, .int .i64 z.dk, .int .i64 z.dw, .int .i64 z.dn, .int .i64 z.sc, .int .i64 1, .int .i64 z.sv, .string ⟨z.lt.toArray⟩] 81))
      have E1 := Lib.hid ((XE.out.next k1).more (.cells #[.string ⟨z.nm.toArray⟩, .int .i64 z.fr, .int .i64 z.tl, .int .i64 z.mo, .int .i64 z.dk, .int .i64 z.dw, .int .i64 z.dn, .int .i64 z.sc, .int .i64 1, .int .i64 z.sv, .string ⟨z.lt.toArray⟩] 81))
      have l1 : ((s.rs.take i).map (setK 1)).length ≤ 100 := by rw [List.length_map, List.length_take]; omega
      have l2 : ((s.rs.take i).map (setK 2)).length ≤ 100 := by rw [List.length_map, List.length_take]; omega
      have ow1 := Lib.hid TL.out.o1.lt
      have ow2 := Lib.hid TL.out.o2.lt
      have hww : w.heap.size ≤ wr.heap.size := XW.out.bel.size
      have tk1 : True := trivial
      have tk2 : True := trivial
      clear k1
      repeat (first
        | (have _t := tk1; at_builtin; refine wpList_rlpush rfl (.tmp 95) (.tmp 97) rfl T1.out rfl ⟨wr.heap.size + 1, 0, none⟩ (setK 1 z) rfl (fun j u hu => by have := rl_new (wr.alloc (.cells #[.string ⟨z.nm.toArray⟩, .int .i64 z.fr, .int .i64 z.tl, .int .i64 z.mo, .int .i64 z.dk, .int .i64 z.dw, .int .i64 z.dn, .int .i64 z.sc, .int .i64 1, .int .i64 z.sv, .string ⟨z.lt.toArray⟩] 81)) (setK 1 z) 81 j u hu; rwa [World.size_alloc] at this) l1 (by simp; omega) ?_
           intro v5 w5 hT5 hg5 hw5
           rw [World.size_alloc, World.size_alloc] at hw5
           have sz5 : wr.heap.size + 2 ≤ w5.heap.size := by have := hg5.size; simpa using this
           have Z5 := Lib.hid (Z2.out.gr hg5 (fun r hr => by have := ow1.out r hr; omega))
           have W5 := Lib.hid (W1.out.gr hg5 (fun r hr => by have := ow1.out r hr; omega))
           have E5 := Lib.hid (E1.out.gr hg5 (fun r hr => by have := ow1.out r hr; omega))
           have b6 : (w5.setCell ⟨wr.heap.size, 8, none⟩ (.int .i64 2)).heap[wr.heap.size]? = some (.cells #[.string ⟨z.nm.toArray⟩, .int .i64 z.fr, .int .i64 z.tl, .int .i64 z.mo, .int .i64 z.dk, .int .i64 z.dw, .int .i64 z.dn, .int .i64 z.sc, .int .i64 2, .int .i64 z.sv, .string ⟨z.lt.toArray⟩] 81 (0, 0)) := blk_set (i := 8) Z5.out.blk (.int .i64 2)
           have gg6 : w5.grownBy (w5.setCell ⟨wr.heap.size, 8, none⟩ (.int .i64 2)) (some wr.heap.size) := setCell_grown w5 wr.heap.size 8 (.int .i64 2)
           have ne5 : v5.ownBlock ≠ some wr.heap.size := fun e => by
             rcases hw5 with h | h
             · rw [h] at e
               have := ow1.out _ e
               omega
             · rw [h] at e
               injection e with e
               omega
           have ne9 : u9.ownBlock ≠ some wr.heap.size := fun e => by
             have := ow2.out _ e
             omega
           have T2 := Lib.hid ((hT5.other gg6 ⟨ne5, ne9⟩).swap.next ((Below.refl _ _).alloc (Nat.le_refl _) (.cells #[.string ⟨z.nm.toArray⟩, .int .i64 z.fr, .int .i64 z.tl, .int .i64 z.mo, .int .i64 z.dk, .int .i64 z.dw, .int .i64 z.dn, .int .i64 z.sc, .int .i64 2, .int .i64 z.sv, .string ⟨z.lt.toArray⟩] 81)))
           have W6 := Lib.hid ((W5.out.gr gg6 (fun r hr => by injection hr with hr; omega)).more (.cells #[.string ⟨z.nm.toArray⟩, .int .i64 z.fr, .int .i64 z.tl, .int .i64 z.mo, .int .i64 z.dk, .int .i64 z.dw, .int .i64 z.dn, .int .i64 z.sc, .int .i64 2, .int .i64 z.sv, .string ⟨z.lt.toArray⟩] 81))
           have E6 := Lib.hid ((E5.out.gr gg6 (fun r hr => by injection hr with hr; omega)).more (.cells #[.string ⟨z.nm.toArray⟩, .int .i64 z.fr, .int .i64 z.tl, .int .i64 z.mo, .int .i64 z.dk, .int .i64 z.dw, .int .i64 z.dn, .int .i64 z.sc, .int .i64 2, .int .i64 z.sv, .string ⟨z.lt.toArray⟩] 81))
           have g8 := frz (j := 8) Z5.out.blk
           have y8 := (cells11 Z5.out.blk).2.2.2.2.2.2.2.2.1
           obtain ⟨y0', y1', y2', y3', y4', y5', y6', y7', y8', y9', y10'⟩ := cells11 b6
           clear tk1 hT5 hg5 hw5 b6 gg6 ne5 ne9)
        | (have _t := tk2; at_builtin; refine wpList_rlpush rfl (.tmp 101) (.tmp 103) rfl T2.out rfl ⟨w5.heap.size, 0, none⟩ (setK 2 z) rfl (fun j u hu => by have := rl_new (w5.setCell ⟨wr.heap.size, 8, none⟩ (.int .i64 2)) (setK 2 z) 81 j u hu; rwa [setCell_sz] at this) l2 (by simp; omega) ?_
           intro v7 w7 hT7 hg7 hw7
           have T7 := Lib.hid hT7.swap
           have W7 := Lib.hid (W6.out.gr hg7 (fun r hr => by have := ow2.out r hr; omega))
           have E7 := Lib.hid (E6.out.gr hg7 (fun r hr => by have := ow2.out r hr; omega))
           clear tk2 hT7 hg7 hw7)
        | go_values | go_skip | go_guarded | go_step | go_upon | go_back)
      have tks : s.rs.take (i + 1) = s.rs.take i ++ [z] := by
        obtain ⟨hi, hh⟩ := List.getElem?_eq_some_iff.1 HZ.out
        rw [List.take_succ_eq_append_getElem hi, hh]
      go_round
      case rel => exact ⟨i + 1, rfl, by omega, by rw [tks, List.map_append, List.map_append]; exact T7.out, W7.out, E7.out⟩
      case measure => simp [intOf]; omega
    · obtain rfl : i = r := by omega
      have hii : ¬ ((i : Nat) : Int) < (i : Int) := by omega
      have tkr : s.rs.take i = s.rs := List.take_of_length_le (by rw [HR.out]; omega)
      have TL1 := TL.out
      rw [tkr] at TL1
      obtain ⟨R1, hR1⟩ : ∃ R, s.rs.map (setK 1) = R := ⟨_, rfl⟩
      obtain ⟨R2, hR2⟩ : ∃ R, s.rs.map (setK 2) = R := ⟨_, rfl⟩
      have n1 : R1.length = i := by rw [← hR1, List.length_map, HR.out]
      have n2 : R2.length = i := by rw [← hR2, List.length_map, HR.out]
      rw [hR1, hR2] at TL1
      have w1' := TL1.o1
      have w2' := TL1.o2
      rw [n1] at w1'
      rw [n2] at w2'
      obtain ⟨A8, c8, e8⟩ := rown_form w1'
      obtain ⟨A9, c9, e9⟩ := rown_form w2'
      rw [e8] at w1'
      rw [e9] at w2'
      have Q1 := Lib.hid (rown_rows w1' n1)
      have Q2 := Lib.hid (rown_rows w2' n2)
      subst e8
      subst e9
      clear TL TL1 w1' w2' tkr
      have P1 : ∀ o t', -40000 ≤ o → o ≤ 80000 → -80000 ≤ o → NrT t' → True := fun _ _ _ _ _ _ => trivial
      clear P1
      obtain ⟨om, hom⟩ : ∃ o, of + m = o := ⟨_, rfl⟩
      obtain ⟨v1, hv1⟩ : ∃ v, svO (latF of t 0 none (rowF R1)) = v := ⟨_, rfl⟩
      obtain ⟨v2, hv2⟩ : ∃ v, svO (latF of t 0 none (rowF R2)) = v := ⟨_, rfl⟩
      have hv3 : svO (latF om (t - m) 0 none (rowF R1)) = v1 := by
        rw [← hv1, ← hom, ← hR1, rowF_set]
        rw [lat_std of t m (rowF s.rs) 0 0 none]
      have hv4 : svO (latF om t 0 none (rowF R2)) = v2 := by
        rw [← hv2, ← hR2, rowF_set]
        rw [lat_uni of om t (rowF s.rs) 0 0 none]
      have nt := H.out.nt
      have nm := H.out.nm
      have PA : LatP i R1 of t := hR1 ▸ latP_set HR.out FWS.out (by omega) (by omega) nt
      have PB : LatP i R1 om (t - m) := hR1 ▸ latP_set HR.out FWS.out (by omega) (by omega) nm
      have PC : LatP i R2 of t := hR2 ▸ latP_set HR.out FWS.out (by omega) (by omega) nt
      have PD : LatP i R2 om t := hR2 ▸ latP_set HR.out FWS.out (by omega) (by omega) nt
      have b1 := svO_bd PA.ap of t
      have b2 := svO_bd PC.ap of t
      rw [hv1] at b1
      rw [hv2] at b2
      obtain ⟨p1, hp1⟩ : ∃ p, (v1 != 0) = p := ⟨_, rfl⟩
      obtain ⟨p2, hp2⟩ : ∃ p, (v2 != 0) = p := ⟨_, rfl⟩
      obtain ⟨a1, ha1⟩ : ∃ a, of + v1 = a := ⟨_, rfl⟩
      obtain ⟨a2, ha2⟩ : ∃ a, om + v1 = a := ⟨_, rfl⟩
      obtain ⟨a3, ha3⟩ : ∃ a, of + v2 = a := ⟨_, rfl⟩
      obtain ⟨a4, ha4⟩ : ∃ a, om + v2 = a := ⟨_, rfl⟩
      have wo : IntKind.i64.wrap (of + m) = om := by rw [hom]; exact IntWalk.i64_in _ (by omega)
      have wa : IntKind.i64.wrap (a1 + m) = a2 := by rw [show a1 + m = a2 by omega]; exact IntWalk.i64_in _ (by omega)
      have wc : IntKind.i64.wrap (a3 + m) = a4 := by rw [show a3 + m = a4 by omega]; exact IntWalk.i64_in _ (by omega)
      have WA := Lib.hid (fun W (kk : Below wr.heap.size wr W) => within_x ⟨of, [82], 0, [88], en, uy, um, dk, dw, dn, sc, ck⟩ rfl rfl A8 i c8 R1 t v1 a1 p1 W (HAZ.out.next (XE.out.next kk).bel) (Q1.out.next kk) PA hv1 ha1 hp1)
      have WB := Lib.hid (fun W (kk : Below wr.heap.size wr W) => within_x ⟨om, [82], 0, [88], en, uy, um, dk, dw, dn, sc, ck⟩ rfl rfl A8 i c8 R1 (t - m) v1 a2 p1 W (HAZ.out.next (XE.out.next kk).bel) (Q1.out.next kk) PB hv3 ha2 hp1)
      have WC := Lib.hid (fun W (kk : Below wr.heap.size wr W) => within_x ⟨of, [82], 0, [88], en, uy, um, dk, dw, dn, sc, ck⟩ rfl rfl A9 i c9 R2 t v2 a3 p2 W (HAZ.out.next (XE.out.next kk).bel) (Q2.out.next kk) PC hv2 ha3 hp2)
      have WD := Lib.hid (fun W (kk : Below wr.heap.size wr W) => within_x ⟨om, [82], 0, [88], en, uy, um, dk, dw, dn, sc, ck⟩ rfl rfl A9 i c9 R2 t v2 a4 p2 W (HAZ.out.next (XE.out.next kk).bel) (Q2.out.next kk) PD hv4 ha4 hp2)
      clear hom hv1 hv2 hv3 hv4 nt nm PA PB PC PD b1 b2 hp1 hp2 ha1 ha2 ha3 ha4 n1 n2 hR1 hR2
      have K0 := Lib.hid (bmk (Below.refl wr.heap.size wr) (.cells #[.int .i64 om, .string ⟨#[82]⟩, .int .i64 0, .string ⟨#[88]⟩, .bool en, .int .i64 uy, .int .i64 um, .int .i64 dk, .int .i64 dw, .int .i64 dn, .int .i64 sc, .int .i64 ck] 54))
      have O0 := Lib.hid (BlkN.make (Below.refl wr.heap.size wr) #[.int .i64 om, .string ⟨#[82]⟩, .int .i64 0, .string ⟨#[88]⟩, .bool en, .int .i64 uy, .int .i64 um, .int .i64 dk, .int .i64 dw, .int .i64 dn, .int .i64 sc, .int .i64 ck] 54)
      have Oz := Lib.hid (BlkN.make (Below.refl wr.heap.size wr) #[.int .i64 of, .string ⟨#[82]⟩, .int .i64 0, .string ⟨#[88]⟩, .bool en, .int .i64 uy, .int .i64 um, .int .i64 dk, .int .i64 dw, .int .i64 dn, .int .i64 sc, .int .i64 ck] 54)
      obtain ⟨y0, y1, y2, y3, y4, y5, y6, y7, y8, y9, y10, y11⟩ := cells12 XE.out.blk
      obtain ⟨z0, z1, z2, z3, z4, z5, z6, z7, z8, z9, z10, z11⟩ := cells12 (XE.out.next K0.out).blk
      obtain ⟨o0, o1', o2', o3, o4, o5, o6, o7, o8, o9, o10, o11⟩ := cells12 O0.out.blk
      have gz := frz (j := 0) Oz.out.blk
      obtain ⟨gz0, -⟩ := cells12 Oz.out.blk
      obtain ⟨xz0, -⟩ := cells12 (XE.out.next (bmk (Below.refl wr.heap.size wr) (.cells #[.int .i64 of, .string ⟨#[82]⟩, .int .i64 0, .string ⟨#[88]⟩, .bool en, .int .i64 uy, .int .i64 um, .int .i64 dk, .int .i64 dw, .int .i64 dn, .int .i64 sc, .int .i64 ck] 54))).blk
      unfold evV cE at WA WB WC WD
      simp only [] at WA WB WC WD
      repeat (first
        | (go_at_call 21; with_reducible refine (WD.out _ K3.out).mono ?_; rintro e v4' ⟨rfl, kk⟩
           have K4a := Lib.hid (bthen K3.out kk)
           have K4 := Lib.hid (bmk K4a.out (.cells #[.int .i64 a4, .bool p2, .string ⟨#[88]⟩] 41))
           have O4 := Lib.hid ((O3.out.next kk).more (.cells #[.int .i64 a4, .bool p2, .string ⟨#[88]⟩] 41))
           have B4 := Lib.hid (BlkN.make K4a.out #[.int .i64 a4, .bool p2, .string ⟨#[88]⟩] 41)
           have B1 := Lib.hid ((B1.out.next kk).more (.cells #[.int .i64 a4, .bool p2, .string ⟨#[88]⟩] 41))
           have B2 := Lib.hid ((B2.out.next kk).more (.cells #[.int .i64 a4, .bool p2, .string ⟨#[88]⟩] 41))
           have B3 := Lib.hid ((B3.out.next kk).more (.cells #[.int .i64 a4, .bool p2, .string ⟨#[88]⟩] 41))
           clear kk z0 z1 z2 z3 z4 z5 z6 z7 z8 z9 z10 z11 o0 o1' o2' o3 o4 o5 o6 o7 o8 o9 o10 o11
           obtain ⟨l1a, l1b, l1c⟩ := cel3 B1.out.blk
           obtain ⟨l2a, l2b, l2c⟩ := cel3 B2.out.blk
           obtain ⟨l3a, l3b, l3c⟩ := cel3 B3.out.blk
           obtain ⟨l4a, l4b, l4c⟩ := cel3 B4.out.blk
           simp only [])
        | (go_at_call 21; with_reducible refine (WC.out _ K2.out).mono ?_; rintro e v3' ⟨rfl, kk⟩
           have K3a := Lib.hid (bthen K2.out kk)
           have K3 := Lib.hid (bmk K3a.out (.cells #[.int .i64 a3, .bool p2, .string ⟨#[88]⟩] 41))
           have O3 := Lib.hid ((O2.out.next kk).more (.cells #[.int .i64 a3, .bool p2, .string ⟨#[88]⟩] 41))
           have B3 := Lib.hid (BlkN.make K3a.out #[.int .i64 a3, .bool p2, .string ⟨#[88]⟩] 41)
           have B1 := Lib.hid ((B1.out.next kk).more (.cells #[.int .i64 a3, .bool p2, .string ⟨#[88]⟩] 41))
           have B2 := Lib.hid ((B2.out.next kk).more (.cells #[.int .i64 a3, .bool p2, .string ⟨#[88]⟩] 41))
           clear kk z0 z1 z2 z3 z4 z5 z6 z7 z8 z9 z10 z11 o0 o1' o2' o3 o4 o5 o6 o7 o8 o9 o10 o11
           obtain ⟨z0, z1, z2, z3, z4, z5, z6, z7, z8, z9, z10, z11⟩ := cells12 (XE.out.next K3.out).blk
           obtain ⟨o0, o1', o2', o3, o4, o5, o6, o7, o8, o9, o10, o11⟩ := cells12 O3.out.blk
           simp only [])
        | (go_at_call 21; with_reducible refine (WB.out _ K1.out).mono ?_; rintro e v2' ⟨rfl, kk⟩
           have K2a := Lib.hid (bthen K1.out kk)
           have K2 := Lib.hid (bmk K2a.out (.cells #[.int .i64 a2, .bool p1, .string ⟨#[88]⟩] 41))
           have O2 := Lib.hid ((O1.out.next kk).more (.cells #[.int .i64 a2, .bool p1, .string ⟨#[88]⟩] 41))
           have B2 := Lib.hid (BlkN.make K2a.out #[.int .i64 a2, .bool p1, .string ⟨#[88]⟩] 41)
           have B1 := Lib.hid ((B1.out.next kk).more (.cells #[.int .i64 a2, .bool p1, .string ⟨#[88]⟩] 41))
           clear kk z0 z1 z2 z3 z4 z5 z6 z7 z8 z9 z10 z11 o0 o1' o2' o3 o4 o5 o6 o7 o8 o9 o10 o11
           obtain ⟨z0, z1, z2, z3, z4, z5, z6, z7, z8, z9, z10, z11⟩ := cells12 (XE.out.next K2.out).blk
           obtain ⟨o0, o1', o2', o3, o4, o5, o6, o7, o8, o9, o10, o11⟩ := cells12 O2.out.blk
           simp only [])
        | (go_at_call 21; with_reducible refine (WA.out _ K0.out).mono ?_; rintro e v1' ⟨rfl, kk⟩
           have K1a := Lib.hid (bthen K0.out kk)
           have K1 := Lib.hid (bmk K1a.out (.cells #[.int .i64 a1, .bool p1, .string ⟨#[88]⟩] 41))
           have O1 := Lib.hid ((O0.out.next kk).more (.cells #[.int .i64 a1, .bool p1, .string ⟨#[88]⟩] 41))
           have B1 := Lib.hid (BlkN.make K1a.out #[.int .i64 a1, .bool p1, .string ⟨#[88]⟩] 41)
           clear kk z0 z1 z2 z3 z4 z5 z6 z7 z8 z9 z10 z11 o0 o1' o2' o3 o4 o5 o6 o7 o8 o9 o10 o11
           obtain ⟨z0, z1, z2, z3, z4, z5, z6, z7, z8, z9, z10, z11⟩ := cells12 (XE.out.next K1.out).blk
           obtain ⟨o0, o1', o2', o3, o4, o5, o6, o7, o8, o9, o10, o11⟩ := cells12 O1.out.blk
           simp only [])
        | (go_at_call 10; (with_reducible refine (AW.out _ (XE.out.next K4.out).bel).mono ?_); (rintro e w9 ⟨rfl, k9⟩); have X9 := Lib.hid ((XE.out.next K4.out).next k9); simp only [])
        | go_values | go_skip | go_guarded | go_step | go_upon | go_back)
      go_ret
      exact ⟨rfl, X9.out.bel⟩
end Go.Proofs.YtjpppffgebecdaaGreatDoor
