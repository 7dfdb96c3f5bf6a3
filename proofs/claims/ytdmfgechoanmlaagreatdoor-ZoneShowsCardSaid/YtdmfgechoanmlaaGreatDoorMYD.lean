/- The document's answer for zones, its parts: the instant of a firing in a row, a row of rules, the second of an end, and the end.
The document's answer for the end of an era, and for what an era shows.
The document's answer for what an era shows at an instant. -/
import Derived.Test.YtdmfgechoanmlaaGreatDoorMYC
import Derived.Test.YtdmfgechoanmlaaGreatDoorZmG
import Derived.Test.YtdmfgechoanmlaaGreatDoorZnG
import Derived.Test.YtdmfgechoanmlaaGreatDoorMZW
import Derived.Test.YtdmfgechoanmlaaGreatDoorMZN
import Derived.Test.YtdmfgechoanmlaaGreatDoorZnI
namespace Go.Proofs.YtdmfgechoanmlaaGreatDoor
open Go Go.RowKit Go.Sort
attribute [local go_sem] Oper.semAt_some

theorem cel5 {W : World} {g : Nat} {t : TypeId} {v0 v1 v2 v3 v4 : Value} (h : W.heap[g]? = some (.cells #[v0, v1, v2, v3, v4] t (0, 0))) :
    W.cell? ⟨g, 0, none⟩ = some v0 ∧ W.cell? ⟨g, 1, none⟩ = some v1 ∧ W.cell? ⟨g, 2, none⟩ = some v2 ∧ W.cell? ⟨g, 3, none⟩ = some v3 ∧ W.cell? ⟨g, 4, none⟩ = some v4 :=
  ⟨cell_of_row W g 0 _ _ _ h, cell_of_row W g 1 _ _ _ h, cell_of_row W g 2 _ _ _ h, cell_of_row W g 3 _ _ _ h, cell_of_row W g 4 _ _ _ h⟩
/-- What is saved ahead of the i-th firing of a row. -/
def PrevS (ps : List PV) (i : Nat) (sv : Int) : Prop := (i = 0 ∧ sv = 0) ∨ ∃ k q, i = k + 1 ∧ ps[k]? = some q ∧ q.1.sv = sv
set_option maxRecDepth 20000 in
theorem rinst_is (A : Option Addr) (N c : Nat) (ps : List PV) (i : Nat) (p : PV) (off sv v : Int) (w : World) (hP : Hid (PAt A ps w)) (hN : ps.length = N) (hN1 : N ≤ 1000000) (hp : ps[i]? = some p) (hs : Hid (PrevS ps i sv)) (hk : 0 ≤ p.1.kd ∧ p.1.kd ≤ 2)
    (b1 : -1000000000000 ≤ p.1.nm ∧ p.1.nm ≤ 1000000000000) (b2 : -1000000 ≤ off ∧ off ≤ 1000000) (b3 : -1000000 ≤ sv ∧ sv ≤ 1000000) (hv : inF p.1 off sv = v) :
    Calls Tryz.prog 34 #[.slice A N c, .int .i64 (i : Int), .int .i64 off] w fun x w' => x = .returned (.int .i64 v) ∧ Below w.heap.size w w' := by
  obtain ⟨L, o, rfl, hL, c0, c1, c2, c3, c4⟩ := pv_cells hP.out hp
  have X := Lib.hid (BlkN.make (Below.refl w.heap.size w) #[.int .i64 p.1.nm, .int .i64 p.1.kd, .int .i64 p.1.sv, .int .i64 (p.2 : Int), .string ⟨p.1.lt.toArray⟩] 99)
  obtain ⟨x0, x1, x2, x3, x4⟩ := cel5 X.out.blk
  have hiN : (i : Int) < (N : Int) := by have := (List.getElem?_eq_some_iff.1 hp).1; omega
  obtain ⟨⟨nm, kd, s', lt⟩, pl⟩ := p
  simp only at *
  have wo : IntKind.i64.wrap (nm - off) = nm - off := IntWalk.i64_in _ (by omega)
  have ws : IntKind.i64.wrap (nm - off - sv) = nm - off - sv := IntWalk.i64_in _ (by omega)
  obtain rfl | rfl | rfl : kd = 2 ∨ kd = 1 ∨ kd = 0 := by omega
  all_goals
    unfold inF at hv
    simp only at hv
    rcases hs.out with ⟨rfl, rfl⟩ | ⟨k, q, rfl, hq, hqs⟩
    · have d2 : decide ((0 : Int) < 0) = false := by decide
      simp only [Nat.zero_mul, Nat.add_zero] at c0 c1 c2 c3 c4
      go_enter Tryz.func34, Tryz.ntmps34
      repeat (first | go_values | go_skip | go_guarded | go_step | go_upon | go_back)
      first | go_ret | go_ret2
      exact ⟨by rw [← hv]; first | rfl | simp, X.out.bel⟩
    · obtain ⟨L', o', e', hL', b0, b1', b2', b3', b4'⟩ := pv_cells hP.out hq
      cases e'
      rw [hqs] at b2'
      have d2 : decide ((0 : Int) < ((k + 1 : Nat) : Int)) = true := decide_eq_true (by omega)
      have wi : IntKind.i64.wrap (((k + 1 : Nat) : Int) - 1) = (k : Int) := by rw [show ((k + 1 : Nat) : Int) - 1 = (k : Int) by omega]; exact IntWalk.i64_in _ (by omega)
      have hkk : (k : Int) < (N : Int) := by omega
      clear hq hqs b0 b1' b3' b4' hL' hs
      go_enter Tryz.func34, Tryz.ntmps34
      repeat (first | go_values | go_skip | go_guarded | go_step | go_upon | go_back)
      first | go_ret | go_ret2
      exact ⟨by rw [← hv]; rfl, X.out.bel⟩
theorem setC_grown (W : World) (k i : Nat) (v : Value) : W.grownBy (W.setCell ⟨k, i, none⟩ v) (some k) := by
  have b := (Below.refl 0 W).setCell (p := ⟨k, i, none⟩) (Nat.zero_le k) v
  refine ⟨b.os, b.tape, b.output, b.size, fun j _ hne => ?_⟩
  show (W.heap.modify k _)[j]? = _
  rw [Array.getElem?_modify]
  rw [if_neg (fun e => hne (by rw [e]))]
theorem POut.set {v : Value} {l : List PV} {W : World} {B i : Nat} {a : Option Addr} {n c : Nat} (h : POut v l W) (hB : W.cell? ⟨B, 0, none⟩ = some (.slice a n c)) (x : Value) : POut v l (W.setCell ⟨B, i, none⟩ x) := by
  rcases h with h | ⟨g, c', e, hp, hc⟩
  · exact .inl h
  · refine .inr ⟨g, c', e, fun k p hk => ?_, hc⟩
    obtain ⟨L, off, e1, hL, hcell⟩ := hp k p hk
    have hg := setC_grown W B i x
    refine ⟨L, off, e1, Nat.lt_of_lt_of_le hL hg.size, fun j u hj hu => ?_⟩
    have hne : L ≠ B := by
      rintro rfl
      cases e1
      cases l with
      | nil => simp at hk
      | cons q l =>
        obtain ⟨L', off', e', -, hcell'⟩ := hp 0 q rfl
        cases e'
        have := hcell' 0 _ (by omega) (show (cP q).toArray[0]? = some (.int .i64 q.1.nm) from rfl)
        simp only [Nat.zero_mul, Nat.add_zero] at this
        rw [hB] at this
        cases this
    have hb := hg.block L hL (fun e => hne (by injection e))
    have := hcell j u hj hu
    unfold World.cell? at this ⊢
    rw [hb]; exact this
set_option maxRecDepth 20000 in
theorem rof_is (A0 : Option Addr) (n c0 : Nat) (rs : List RV) (w : World) (hR : RowsAt 11 cR A0 rs w) (hn : rs.length = n) (hn1 : n ≤ 6) (hok : ∀ r ∈ rs, okR r) :
    Calls Tryz.prog 32 #[.slice A0 n c0] w fun x w' => ∃ v, x = .returned (.agg #[v, .string ⟨(ltrL rs n).toArray⟩]) ∧ POut v (iso ltP (allN rs 1890 2110 n)) w' ∧ Below w.heap.size w w' := by
  have X0 := Lib.hid (BlkN.make (Below.refl w.heap.size w) #[.slice none 0 0, .string ⟨#[]⟩] 57)
  have AL := Lib.hid (xall_is A0 n c0 rs 1890 2110 _ (hR.next X0.out.bel) hn hn1 hok (by omega) (by omega) (by omega))
  have XL := Lib.hid (fun W (k : Below w.heap.size w W) => xletter_is A0 n c0 rs W (hR.next k) hn (by omega))
  clear hR hn hok
  generalize iso ltP (allN rs 1890 2110 n) = l at AL
  generalize ltrL rs n = lt at XL
  go_enter Tryz.func32, Tryz.ntmps32
  repeat (first
    | (go_at_call 47; refine AL.out.mono ?_; rintro x w1 ⟨v, rfl, hv, k1⟩; have X1 := Lib.hid (X0.out.next k1); have V1 := Lib.hid hv; obtain ⟨A1, c1', rfl, -, -⟩ := pout_form hv rfl; clear hv k1; simp only [])
    | (go_at_call 58; refine (XL.out _ X1.out.bel).mono ?_; rintro x w2 ⟨rfl, k2⟩; have X2 := Lib.hid (X1.out.next k2); have V2 := Lib.hid (V1.out.next k2)
       obtain ⟨c0, c1⟩ := cel2 X2.out.blk
       have f0 := frz (j := 0) X2.out.blk
       have f1 := frz (j := 1) X2.out.blk
       clear k2; simp only [])
    | go_values | go_skip | go_guarded | go_step | go_upon | go_back)
  have B3 := Lib.hid (BlkN.set2z (x := .slice A1 l.length c1') (y := .string ⟨lt.toArray⟩) X2.out)
  have V3 := Lib.hid ((V2.out.set (i := 0) c0 (.slice A1 l.length c1')).set (i := 1) (a := A1) (n := l.length) (c := c1') (B := w.heap.size) (by rw [World.cell?_setCell_same _ _ _ c0]) (.string ⟨lt.toArray⟩))
  generalize ((w2.setCell ⟨w.heap.size, 0, none⟩ (.slice A1 l.length c1')).setCell ⟨w.heap.size, 1, none⟩ (.string ⟨lt.toArray⟩)) = W' at *
  obtain ⟨e0, e1⟩ := cel2 B3.out.blk
  refine bodyPost_ret (v := .agg #[.slice A1 l.length c1', .string ⟨lt.toArray⟩]) ?_ rfl ⟨_, rfl, V3.out, B3.out.bel⟩
  simp [results, Tryz.results32, go_sem, e0, e1]
end Go.Proofs.YtdmfgechoanmlaaGreatDoor

namespace Go.Proofs.YtdmfgechoanmlaaGreatDoor
open Go Go.RowKit Go.Sort
attribute [local go_sem] Oper.semAt_some

set_option maxRecDepth 20000 in
theorem rnom_is (e : EV) (T n : Int) (b : Bool) (w : World) (DY : Hid (∀ W, Calls Tryz.prog 50 #[.agg #[.int .i64 e.dk, .int .i64 e.dw, .int .i64 e.dn], .int .i64 e.uy, .int .i64 e.um] W fun x w' => x = .returned (.tuple #[.int .i64 T, .bool b]) ∧ Below W.heap.size W w'))
    (h1 : -100000000 ≤ T ∧ T ≤ 100000000) (h2 : -604800 < e.sc) (h3 : e.sc < 604800) (hn : 86400 * T + e.sc = n) :
    Calls Tryz.prog 29 #[uvV e] w fun x w' => x = .returned (.tuple #[.int .i64 n, .bool b]) ∧ Below w.heap.size w w' := by
  have X0 := Lib.hid (BlkN.make (Below.refl w.heap.size w) (cU e) 52)
  obtain ⟨x0, x1, x2, x3, x4, x5, x6⟩ := cells7 X0.out.blk
  have wm : IntKind.i64.wrap (86400 * T) = 86400 * T := IntWalk.i64_in _ (by omega)
  have wa : IntKind.i64.wrap (86400 * T + e.sc) = n := by rw [hn]; exact IntWalk.i64_in _ (by omega)
  obtain ⟨of, rl, sv, fm, en, uy, um, dk, dw, dn, sc, ck⟩ := e
  unfold uvV cU at *
  simp only at *
  clear h1 h2 h3 hn
  go_enter Tryz.func29, Tryz.ntmps29
  repeat (first
    | (go_at_call 50; refine (DY.out _).mono ?_; rintro x w1 ⟨rfl, k1⟩; have X1 := Lib.hid (X0.out.next k1); clear k1 x0 x1 x2 x3 x4 x5 x6; obtain ⟨x0, x1, x2, x3, x4, x5, x6⟩ := cells7 X1.out.blk; simp only [])
    | go_values | go_skip | go_guarded | go_step | go_upon | go_back)
  go_ret2
  exact ⟨rfl, X1.out.bel⟩
/-- What is known of an era that ends at a second, and of a row. -/
structure EndR (e : EV) (ps : List PV) (s a : Int) : Prop where
  n6 : ps.length ≤ 1000000
  sc1 : -604800 < e.sc
  sc2 : e.sc < 604800
  nb : -100000000 ≤ tgtD e.dk e.dw e.dn e.uy e.um ∧ tgtD e.dk e.dw e.dn e.uy e.um ≤ 100000000
  o1 : -90000 < e.of
  o2 : e.of < 90000
  k1 : 0 ≤ e.ck
  k2 : e.ck ≤ 2
  s1 : -90000 < s
  s2 : s < 90000
  pb : ∀ q ∈ ps, (0 ≤ q.1.kd ∧ q.1.kd ≤ 2) ∧ (-90000 < q.1.sv ∧ q.1.sv < 90000) ∧ -3000000000 ≤ q.1.nm ∧ q.1.nm < 5000000000
  hs : (if e.rl.isEmpty then e.sv else svE e.of (nmU e) 0 (ps.map Prod.fst)) = s
  ha : enN e s = a

set_option maxRecDepth 20000 in
set_option maxHeartbeats 1000000 in
theorem rend_is (e : EV) (v : Value) (lt : List UInt8) (ps : List PV) (s a : Int) (w : World) (hv : POut v ps w) (H : Hid (EndR e ps s a)) (NM : Hid (∀ W, Calls Tryz.prog 29 #[uvV e] W fun x w' => x = .returned (.tuple #[.int .i64 (nmU e), .bool true]) ∧ Below W.heap.size W w')) :
    Calls Tryz.prog 30 #[evV e, .agg #[v, .string ⟨lt.toArray⟩]] w fun x w' => x = .returned (.int .i64 a) ∧ Below w.heap.size w w' := by
  obtain ⟨N, hN⟩ : ∃ N, ps.length = N := ⟨_, rfl⟩
  obtain ⟨A, c, rfl, hp, -⟩ := pout_form hv hN
  have hN1 : N ≤ 1000000 := by have := H.out.n6; omega
  have X : Hid (TwoB w w.heap.size (cE e) 54 (w.heap.size + 1) #[.slice A N c, .string ⟨lt.toArray⟩] 57 ((w.alloc (.cells (cE e) 54)).alloc (.cells #[.slice A N c, .string ⟨lt.toArray⟩] 57))) :=
    ⟨BlkN.fst (w := w) _ 54 _, BlkN.two w _ _ _⟩
  have PA := Lib.hid (RowsAt.next hp.out X.out.a.bel)
  obtain ⟨x0, x1, x2, x3, x4, x5, x6, x7, x8, x9, x10, x11⟩ := cells12 X.out.a.blk
  have mixed : Tryz.prog.follows .mixedOrders = true := by kernel_rfl
  have o1 := H.out.o1
  have o2 := H.out.o2
  have hT : -10000000000000 ≤ nmU e ∧ nmU e ≤ 10000000000000 := by
    have h := H.out.nb; have h2 := H.out.sc1; have h3 := H.out.sc2
    unfold nmU; omega
  have k1 := H.out.k1
  have k2 := H.out.k2
  have s1 := H.out.s1
  have s2 := H.out.s2
  have ha := H.out.ha
  have hs := H.out.hs
  have PS := Lib.hid H.out.pb
  have HN := Lib.hid hN
  clear H hv hp hN
  unfold enN inF at ha
  simp only at ha
  generalize nmU e = T at *
  obtain ⟨of, rl, sv, fm, en, uy, um, dk, dw, dn, sc, ck⟩ := e
  unfold uvV cU at NM
  unfold evV at *
  unfold cE at *
  simp only at *
  have wo : IntKind.i64.wrap (T - of) = T - of := IntWalk.i64_in _ (by omega)
  have wos : IntKind.i64.wrap (T - of - s) = T - of - s := IntWalk.i64_in _ (by omega)
  obtain rfl | rfl | rfl : ck = 2 ∨ ck = 1 ∨ ck = 0 := by omega
  · obtain rfl : T = a := ha
    clear hs k1 k2
    go_enter Tryz.func30, Tryz.ntmps30
    repeat (first
      | (go_at_call 29; refine (NM.out _).mono ?_; rintro x w1 ⟨rfl, k1⟩; have X1 := Lib.hid (X.out.next k1); clear k1 x0 x1 x2 x3 x4 x5 x6 x7 x8 x9 x10 x11; obtain ⟨x0, x1, x2, x3, x4, x5, x6, x7, x8, x9, x10, x11⟩ := cells12 X1.out.a.blk; simp only [])
      | go_values | go_skip | go_guarded | go_step | go_upon | go_back)
    go_ret
    exact ⟨rfl, X1.out.a.bel⟩
  · obtain rfl : T - of = a := ha
    clear hs k1 k2
    go_enter Tryz.func30, Tryz.ntmps30
    repeat (first
      | (go_at_call 29; refine (NM.out _).mono ?_; rintro x w1 ⟨rfl, k1⟩; have X1 := Lib.hid (X.out.next k1); clear k1 x0 x1 x2 x3 x4 x5 x6 x7 x8 x9 x10 x11; obtain ⟨x0, x1, x2, x3, x4, x5, x6, x7, x8, x9, x10, x11⟩ := cells12 X1.out.a.blk; simp only [])
      | go_values | go_skip | go_guarded | go_step | go_upon | go_back)
    go_ret
    exact ⟨rfl, X1.out.a.bel⟩
  · obtain rfl : T - of - s = a := ha
    by_cases he : rl.isEmpty = true
    · rw [if_pos he] at hs
      subst hs
      clear k1 k2
      go_enter Tryz.func30, Tryz.ntmps30
      repeat (first
        | (go_at_call 29; refine (NM.out _).mono ?_; rintro x w1 ⟨rfl, k1⟩; have X1 := Lib.hid (X.out.next k1); clear k1 x0 x1 x2 x3 x4 x5 x6 x7 x8 x9 x10 x11; obtain ⟨x0, x1, x2, x3, x4, x5, x6, x7, x8, x9, x10, x11⟩ := cells12 X1.out.a.blk; simp only [])
        | go_values | go_skip | go_guarded | go_step | go_upon | go_back)
      go_ret
      exact ⟨rfl, X1.out.a.bel⟩
    · have heb : rl.isEmpty = false := by simpa using he
      rw [if_neg he] at hs
      have HS := Lib.hid hs
      clear hs k1 k2 he
      go_enter Tryz.func30, Tryz.ntmps30
      repeat (first
        | (go_at_call 29; refine (NM.out _).mono ?_; rintro x w1 ⟨rfl, k1⟩; have X1 := Lib.hid (X.out.next k1); have P1 := Lib.hid (RowsAt.next PA.out k1); clear k1 x0 x1 x2 x3 x4 x5 x6 x7 x8 x9 x10 x11; obtain ⟨x0, x1, x2, x3, x4, x5, x6, x7, x8, x9, x10, x11⟩ := cells12 X1.out.a.blk; simp only [])
        | go_values | go_skip | go_guarded | go_step | go_upon | go_back)
      clear x0 x1 x2 x3 x4 x5 x6 x7 x8 x9 x10 x11 X PA
      go_loopw [7, 8] (fun vs vi wr => ∃ (i : Nat) (u : Int), vi = .int .i64 i ∧ vs = .int .i64 u ∧ i ≤ N ∧ (svE of T u ((ps.drop i).map Prod.fst) = s ∧ -90000 < u ∧ u < 90000) ∧ PrevS ps i u ∧ PAt A ps wr ∧ TwoB w w.heap.size #[.int .i64 of, .string ⟨rl.toArray⟩, .int .i64 sv, .string ⟨fm.toArray⟩, .bool en, .int .i64 uy, .int .i64 um, .int .i64 dk, .int .i64 dw, .int .i64 dn, .int .i64 sc, .int .i64 0] 54 (w.heap.size + 1) #[.slice A N c, .string ⟨lt.toArray⟩] 57 wr) (fun _ vi _ => N - (intOf vi).toNat)
      case atStart => exact ⟨0, 0, rfl, rfl, Nat.zero_le _, ⟨HS.out, by omega, by omega⟩, .inl ⟨rfl, rfl⟩, P1.out, X1.out⟩
      case round =>
        clear X1 P1
        obtain ⟨i, u, rfl, rfl, i1, hS, hpv, hP, hX⟩ := hrel
        have S := Lib.hid hS
        have PV := Lib.hid hpv
        have P := Lib.hid hP
        have X := Lib.hid hX
        have u1 := hS.2.1
        have u2 := hS.2.2
        obtain ⟨x0, -⟩ := cells12 X.out.a.blk
        obtain ⟨r0, -⟩ := cel2 X.out.b.blk
        clear hS hpv hP hX
        have wi : IntKind.i64.wrap ((i : Int) + 1) = (i : Int) + 1 := IntWalk.i64_in _ (by omega)
        have wu : IntKind.i64.wrap (T - of - u) = T - of - u := IntWalk.i64_in _ (by omega)
        by_cases hlt : i < N
        · have hii : (i : Int) < (N : Int) := by omega
          obtain ⟨p, hp⟩ : ∃ p, ps[i]? = some p := ⟨_, List.getElem?_eq_getElem (by rw [HN.out]; exact hlt)⟩
          obtain ⟨L, o, e', hL, c0, c1, c2, c3, c4⟩ := pv_cells P.out hp
          have pb := PS.out p (List.mem_of_getElem? hp)
          obtain ⟨q, hq⟩ : ∃ q, inF p.1 of u = q := ⟨_, rfl⟩
          have INS := Lib.hid (fun W (k : Below wr.heap.size wr W) => rinst_is A N c ps i p of u q W (Lib.hid (RowsAt.next P.out k)) HN.out hN1 hp PV pb.1 (by omega) (by omega) (by omega) hq)
          have hdr : (ps.drop i).map Prod.fst = p.1 :: (ps.drop (i + 1)).map Prod.fst := by
            obtain ⟨h1, h2⟩ := List.getElem?_eq_some_iff.1 hp
            rw [← h2, List.drop_eq_getElem_cons h1]; rfl
          have PVN : Hid (PrevS ps (i + 1) p.1.sv) := Lib.hid (.inr ⟨i, p, rfl, hp, rfl⟩)
          have PB := Lib.hid pb.2.1
          have S1 : Hid (svE of T u (p.1 :: (ps.drop (i + 1)).map Prod.fst) = s) := Lib.hid (by have := S.out.1; rwa [hdr] at this)
          have dx := bel_cell x0
          have dr := bel_cell r0
          have HE := Lib.hid e'
          have HQ := Lib.hid hq
          clear hp pb hdr e' hL c0 c1 c3 c4 hq x0
          by_cases hle : T - of - u ≤ q
          · have R : Hid (u = s) := Lib.hid (by have := S1.out; rw [svE, HQ.out, if_pos hle] at this; exact this)
            have hqe : decide (T - of - u ≤ q) = true := by simpa using hle
            clear hle c2
            repeat (first | go_values | go_skip | go_guarded | go_step | go_upon | go_back)
            refine region_bel mixed (by kernel_rfl) ?_
            repeat (quiet_step ((go_at_call 34; rename_i y; refine (INS.out y.w y.k).mono ?_; rintro e w6 ⟨rfl, k6⟩; exact ⟨rfl, ⟨w6, y.k.trans (k6.mono y.k.size)⟩, rfl⟩)))
            refine wpQuiet_nil ?_
            rintro w8 ⟨x8, hx8⟩
            have X8 := Lib.hid (X.out.next (hx8 ▸ x8.k))
            obtain ⟨x0, -⟩ := cells12 X8.out.a.blk
            clear hx8 x8 dx dr r0
            repeat (first | go_values | go_skip | go_guarded | go_step | go_upon | go_back)
            go_ret
            exact ⟨by rw [← R.out]; rfl, X8.out.a.bel⟩
          · have R : Hid (svE of T p.1.sv ((ps.drop (i + 1)).map Prod.fst) = s) := Lib.hid (by have := S1.out; rw [svE, HQ.out, if_neg hle] at this; exact this)
            have hqe : decide (T - of - u ≤ q) = false := by simpa using hle
            clear hle
            repeat (first | go_values | go_skip | go_guarded | go_step | go_upon | go_back)
            refine region_bel mixed (by kernel_rfl) ?_
            repeat (quiet_step ((go_at_call 34; rename_i y; refine (INS.out y.w y.k).mono ?_; rintro e w6 ⟨rfl, k6⟩; exact ⟨rfl, ⟨w6, y.k.trans (k6.mono y.k.size)⟩, rfl⟩)))
            refine wpQuiet_nil ?_
            rintro w8 ⟨x8, hx8⟩
            have k8 : Below wr.heap.size wr w8 := hx8 ▸ x8.k
            have X8 := Lib.hid (X.out.next k8)
            have P8 := Lib.hid (RowsAt.next P.out k8)
            obtain ⟨r0', -⟩ := cel2 X8.out.b.blk
            have c2' := (k8.cell (p := ⟨L, o + i * 5 + 2, none⟩) (cell_lt c2)).trans c2
            have hA := HE.out
            subst hA
            clear hx8 x8 k8 dx dr r0 c2
            repeat (first | go_values | go_skip | go_guarded | go_step | go_upon | go_back)
            go_round
            case rel => exact ⟨i + 1, p.1.sv, rfl, rfl, by omega, ⟨R.out, PB.out⟩, PVN.out, P8.out, X8.out⟩
            case measure => simp [intOf]; omega
        · obtain rfl : i = N := by omega
          have hii : ¬ ((i : Nat) : Int) < (i : Int) := by omega
          have R : Hid (u = s) := Lib.hid (by
            have := S.out.1
            rw [List.drop_of_length_le (by rw [HN.out]; exact Nat.le_refl _)] at this
            exact this)
          repeat (first | go_values | go_skip | go_guarded | go_step | go_upon | go_back)
          go_ret
          exact ⟨by rw [← R.out]; rfl, X.out.a.bel⟩
end Go.Proofs.YtdmfgechoanmlaaGreatDoor

namespace Go.Proofs.YtdmfgechoanmlaaGreatDoor
open Go Go.RowKit Go.Sort
attribute [local go_sem] Oper.semAt_some

/-- What is known of an era and a row, and what is found: what is saved, and the letter. -/
structure WitR (e : EV) (ps : List PV) (lt : List UInt8) (t s : Int) (l : List UInt8) : Prop where
  n6 : ps.length ≤ 1000000
  o1 : -90000 < e.of
  o2 : e.of < 90000
  s1 : -90000 < s
  s2 : s < 90000
  pb : ∀ q ∈ ps, (0 ≤ q.1.kd ∧ q.1.kd ≤ 2) ∧ (-90000 < q.1.sv ∧ q.1.sv < 90000) ∧ -3000000000 ≤ q.1.nm ∧ q.1.nm < 5000000000
  hs : (if e.rl.isEmpty then e.sv else svO (latF e.of t 0 none (ps.map Prod.fst))) = s
  hl : (if e.rl.isEmpty then [] else ltO (latF e.of t 0 none (ps.map Prod.fst)) lt) = l
theorem BlkN.three (w : World) (o o' : Obj) (C : Array Value) (t : TypeId) : BlkN w (w.heap.size + 1 + 1) C t (((w.alloc o).alloc o').alloc (.cells C t)) := by
  have h := BlkN.make (w := w) (bmk (bmk (Below.refl w.heap.size w) o) o') C t
  rwa [World.size_alloc, World.size_alloc] at h

set_option maxRecDepth 20000 in
set_option maxHeartbeats 1000000 in
theorem rwithin_is (e : EV) (v : Value) (lt : List UInt8) (ps : List PV) (t s : Int) (l T : List UInt8) (d b : Bool) (w : World) (hv : POut v ps w) (H : Hid (WitR e ps lt t s l)) (hd : (s != 0) = d)
    (SH : Hid (∀ W, Calls Tryz.prog 35 #[.string ⟨e.fm.toArray⟩, .int .i64 (e.of + s), .bool d, .string ⟨l.toArray⟩] W fun x w' => x = .returned (.tuple #[.string ⟨T.toArray⟩, .bool b]) ∧ Below W.heap.size W w')) :
    Calls Tryz.prog 15 #[evV e, .agg #[v, .string ⟨lt.toArray⟩], .int .i64 t] w fun x w' => x = .returned (.tuple #[locV (e.of + s) d T, .bool b]) ∧ Below w.heap.size w w' := by
  obtain ⟨N, hN⟩ : ∃ N, ps.length = N := ⟨_, rfl⟩
  obtain ⟨A, c, rfl, hp, -⟩ := pout_form hv hN
  have hN1 : N ≤ 1000000 := by have := H.out.n6; omega
  have X : Hid (TwoB w w.heap.size (cE e) 54 (w.heap.size + 1) #[.slice A N c, .string ⟨lt.toArray⟩] 57 (((w.alloc (.cells (cE e) 54)).alloc (.cells #[.slice A N c, .string ⟨lt.toArray⟩] 57)).alloc (.cells #[.int .i64 0, .bool false, .string ⟨#[]⟩] 41))) :=
    ⟨(BlkN.fst (w := w) _ 54 _).more _, (BlkN.two w _ _ _).more _⟩
  have Y := Lib.hid (BlkN.three w (.cells (cE e) 54) (.cells #[.slice A N c, .string ⟨lt.toArray⟩] 57) #[.int .i64 0, .bool false, .string ⟨#[]⟩] 41)
  have PA := Lib.hid (RowsAt.next hp.out X.out.a.bel)
  obtain ⟨x0, x1, x2, x3, x4, x5, x6, x7, x8, x9, x10, x11⟩ := cells12 X.out.a.blk
  obtain ⟨r0, r1⟩ := cel2 X.out.b.blk
  have o1 := H.out.o1
  have o2 := H.out.o2
  have s1 := H.out.s1
  have s2 := H.out.s2
  have hs := H.out.hs
  have hl := H.out.hl
  have PS := Lib.hid H.out.pb
  have HN := Lib.hid hN
  clear H hv hp hN
  obtain ⟨of, rl, sv, fm, en, uy, um, dk, dw, dn, sc, ck⟩ := e
  unfold evV at *
  unfold cE at *
  unfold locV
  simp only at *
  have ws : IntKind.i64.wrap (of + s) = of + s := IntWalk.i64_in _ (by omega)
  by_cases he : rl.isEmpty = true
  · rw [if_pos he] at hs hl
    subst hs hl
    go_enter Tryz.func15, Tryz.ntmps15
    repeat (first
      | (go_at_call 35; refine (SH.out _).mono ?_; rintro x w1 ⟨rfl, k1⟩
         have X1 := Lib.hid (X.out.next k1); have Y1 := Lib.hid (Y.out.next k1)
         clear k1 x0 x1 x2 x3 x4 x5 x6 x7 x8 x9 x10 x11 r0 r1
         obtain ⟨x0, x1, x2, x3, x4, x5, x6, x7, x8, x9, x10, x11⟩ := cells12 X1.out.a.blk
         obtain ⟨c0, c1, c2⟩ := cel3 Y1.out.blk
         have f0 := frz (j := 0) Y1.out.blk
         have f1 := frz (j := 1) Y1.out.blk
         have f2 := frz (j := 2) Y1.out.blk
         simp only [])
      | go_values | go_skip | go_guarded | go_step | go_upon | go_back)
    refine (Y1.out.set3).ret fun W' B => ?_
    obtain ⟨c0, c1, c2⟩ := cel3 B.blk
    exact bodyPost_ret (by simp [results, Tryz.results15, go_sem, c0, c1, c2]) rfl ⟨rfl, B.bel⟩
  · have heb : rl.isEmpty = false := by simpa using he
    rw [if_neg he] at hs hl
    obtain ⟨O, hO⟩ : ∃ O, latF of t 0 none (ps.map Prod.fst) = O := ⟨_, rfl⟩
    rw [hO] at hs hl
    have HO := Lib.hid hO
    have HS := Lib.hid hs
    have HL := Lib.hid hl
    clear hs hl hO he
    go_enter Tryz.func15, Tryz.ntmps15
    repeat (first | go_values | go_skip | go_guarded | go_step | go_upon | go_back)
    clear x0 x1 x2 x3 x4 x5 x6 x7 x8 x9 x10 x11 r0 r1
    go_loopw [8, 9, 10] (fun vs vl vi wr => ∃ (i : Nat) (u : Int) (B : Option FV), vi = .int .i64 i ∧ vs = .int .i64 (svO B) ∧ vl = .string ⟨(ltO B lt).toArray⟩ ∧ i ≤ N ∧ (latF of t u B ((ps.drop i).map Prod.fst) = O ∧ -90000 < u ∧ u < 90000) ∧ PrevS ps i u ∧ PAt A ps wr ∧ TwoB w w.heap.size #[.int .i64 of, .string ⟨rl.toArray⟩, .int .i64 sv, .string ⟨fm.toArray⟩, .bool en, .int .i64 uy, .int .i64 um, .int .i64 dk, .int .i64 dw, .int .i64 dn, .int .i64 sc, .int .i64 ck] 54 (w.heap.size + 1) #[.slice A N c, .string ⟨lt.toArray⟩] 57 wr ∧ BlkN w (w.heap.size + 1 + 1) #[.int .i64 0, .bool false, .string ⟨#[]⟩] 41 wr) (fun _ _ vi _ => N - (intOf vi).toNat)
    case atStart => exact ⟨0, 0, none, rfl, rfl, rfl, Nat.zero_le _, ⟨HO.out, by omega, by omega⟩, .inl ⟨rfl, rfl⟩, PA.out, X.out, Y.out⟩
    case round =>
      clear X Y PA
      obtain ⟨i, u, B, rfl, rfl, rfl, i1, hS, hpv, hP, hX, hY⟩ := hrel
      have S := Lib.hid hS
      have PV := Lib.hid hpv
      have P := Lib.hid hP
      have X := Lib.hid hX
      have Y := Lib.hid hY
      have u1 := hS.2.1
      have u2 := hS.2.2
      obtain ⟨x0, x1, x2, x3, x4, x5, x6, x7, x8, x9, x10, x11⟩ := cells12 X.out.a.blk
      obtain ⟨r0, r1⟩ := cel2 X.out.b.blk
      clear hS hpv hP hX hY
      have wi : IntKind.i64.wrap ((i : Int) + 1) = (i : Int) + 1 := IntWalk.i64_in _ (by omega)
      by_cases hlt : i < N
      · have hii : (i : Int) < (N : Int) := by omega
        obtain ⟨p, hp⟩ : ∃ p, ps[i]? = some p := ⟨_, List.getElem?_eq_getElem (by rw [HN.out]; exact hlt)⟩
        have pb := PS.out p (List.mem_of_getElem? hp)
        obtain ⟨q, hq⟩ : ∃ q, inF p.1 of u = q := ⟨_, rfl⟩
        have INS := Lib.hid (rinst_is A N c ps i p of u q wr (Lib.hid P.out) HN.out hN1 hp PV pb.1 (by omega) (by omega) (by omega) hq)
        have hdr : (ps.drop i).map Prod.fst = p.1 :: (ps.drop (i + 1)).map Prod.fst := by
          obtain ⟨h1, h2⟩ := List.getElem?_eq_some_iff.1 hp
          rw [← h2, List.drop_eq_getElem_cons h1]; rfl
        have PVN : Hid (PrevS ps (i + 1) p.1.sv) := Lib.hid (.inr ⟨i, p, rfl, hp, rfl⟩)
        have PB := Lib.hid pb.2.1
        have S1 : Hid (latF of t u B (p.1 :: (ps.drop (i + 1)).map Prod.fst) = O) := Lib.hid (by have := S.out.1; rwa [hdr] at this)
        have HQ := Lib.hid hq
        have HPI := Lib.hid hp
        clear hp pb hdr hq
        by_cases hle : q ≤ t
        · have R : Hid (latF of t p.1.sv (some p.1) ((ps.drop (i + 1)).map Prod.fst) = O) := Lib.hid (by have := S1.out; rw [latF, HQ.out, if_pos hle] at this; exact this)
          have hqe : decide (q ≤ t) = true := by simpa using hle
          clear hle
          repeat (first
            | (go_at_call 34; refine INS.out.mono ?_; rintro x w1 ⟨rfl, k1⟩
               have X1 := Lib.hid (X.out.next k1); have Y1 := Lib.hid (Y.out.next k1); have P1 := Lib.hid (RowsAt.next P.out k1)
               obtain ⟨L, o, e', hL, c0, c1, c2, c3, c4⟩ := pv_cells P1.out HPI.out
               subst e'
               clear k1 x0 x1 x2 x3 x4 x5 x6 x7 x8 x9 x10 x11 r0 r1 hL c0 c1 c3
               obtain ⟨r0, r1⟩ := cel2 X1.out.b.blk
               simp only [])
            | go_values | go_skip | go_guarded | go_step | go_upon | go_back)
          go_round
          case rel => exact ⟨i + 1, p.1.sv, some p.1, rfl, rfl, rfl, by omega, ⟨R.out, PB.out⟩, PVN.out, P1.out, X1.out, Y1.out⟩
          case measure => simp [intOf]; omega
        · have R : Hid (latF of t p.1.sv B ((ps.drop (i + 1)).map Prod.fst) = O) := Lib.hid (by have := S1.out; rw [latF, HQ.out, if_neg hle] at this; exact this)
          have hqe : decide (q ≤ t) = false := by simpa using hle
          clear hle
          repeat (first
            | (go_at_call 34; refine INS.out.mono ?_; rintro x w1 ⟨rfl, k1⟩
               have X1 := Lib.hid (X.out.next k1); have Y1 := Lib.hid (Y.out.next k1); have P1 := Lib.hid (RowsAt.next P.out k1)
               clear k1 x0 x1 x2 x3 x4 x5 x6 x7 x8 x9 x10 x11 r0 r1
               simp only [])
            | go_values | go_skip | go_guarded | go_step | go_upon | go_back)
          go_round
          case rel => exact ⟨i + 1, p.1.sv, B, rfl, rfl, rfl, by omega, ⟨R.out, PB.out⟩, PVN.out, P1.out, X1.out, Y1.out⟩
          case measure => simp [intOf]; omega
      · obtain rfl : i = N := by omega
        have hii : ¬ ((i : Nat) : Int) < (i : Int) := by omega
        have hB : B = O := by
          have := S.out.1
          rw [List.drop_of_length_le (by rw [HN.out]; exact Nat.le_refl _)] at this
          exact this
        subst hB
        rw [HS.out, HL.out]
        repeat (first
          | (go_at_call 35; refine (SH.out _).mono ?_; rintro x w1 ⟨rfl, k1⟩
             have X1 := Lib.hid (X.out.next k1); have Y1 := Lib.hid (Y.out.next k1)
             clear k1 x0 x1 x2 x3 x4 x5 x6 x7 x8 x9 x10 x11 r0 r1
             obtain ⟨x0, x1, x2, x3, x4, x5, x6, x7, x8, x9, x10, x11⟩ := cells12 X1.out.a.blk
             obtain ⟨c0, c1, c2⟩ := cel3 Y1.out.blk
             have f0 := frz (j := 0) Y1.out.blk
             have f1 := frz (j := 1) Y1.out.blk
             have f2 := frz (j := 2) Y1.out.blk
             simp only [])
          | go_values | go_skip | go_guarded | go_step | go_upon | go_back)
        refine (Y1.out.set3).ret fun W' B => ?_
        obtain ⟨c0, c1, c2⟩ := cel3 B.blk
        exact bodyPost_ret (by simp [results, Tryz.results15, go_sem, c0, c1, c2]) rfl ⟨rfl, B.bel⟩
end Go.Proofs.YtdmfgechoanmlaaGreatDoor
