/- What fire.turns' iterator hands to whatever loop it is ranged over by: the firings of a stretch, in order, with their instants. -/
import Derived.Test.YtdmfgechoanmlaaGreatDoorMZP
import Derived.Test.YtdmfgechoanmlaaGreatDoorRgW
import Derived.Shelf.Abstract
namespace Go.Proofs.YtdmfgechoanmlaaGreatDoor
open Go Go.RowKit Go.Sort Go.Shelf
attribute [local go_sem] Oper.semAt_some
attribute [local go_sem] fvV

/-- What a round keeps: the variable 'ahead', the loop's own yield. -/
structure TuI (n0 m1 B Bq Ba l : Nat) (A0 : Option Addr) (n c0 : Nat) (rs : List RV) (off lo hi sv0 : Int) (J : List (Int × FV) → World → Prop) (N : Nat) (pre : List FV) (X : World) : Prop where
  tb : TuB n0 m1 B A0 n c0 rs off lo hi X
  q : X.heap[Bq]? = some (.cells #[.func (.yield l) #[] #[]] 197 (0, 0))
  a : ∃ g : FV, X.heap[Ba]? = some (.cells #[.int .i64 g.nm, .int .i64 g.kd, .int .i64 g.sv, .string ⟨g.lt.toArray⟩] 145 (0, 0)) ∧ g.sv = lastS sv0 pre
  sz : N ≤ X.heap.size
  j : J (trF off sv0 pre) X
theorem TuI.own {n0 m1 B Bq Ba l : Nat} {A0 : Option Addr} {n c0 : Nat} {rs : List RV} {off lo hi sv0 : Int} {J : List (Int × FV) → World → Prop} {N D : Nat} (hJ : OwnFrom N J) (hN : N ≤ D) (hn : n0 ≤ D) (hq : Bq < D) (ha : Ba < D) (hnn : ∀ X : World, N ≤ X.heap.size → n0 ≤ X.heap.size) : OwnFrom D (TuI n0 m1 B Bq Ba l A0 n c0 rs off lo hi sv0 J N) := fun pre W W' row h hg hr => by
  have hk : Below n0 W W' := (Below.refl n0 W).grown hg (hnn W h.sz) (fun j hj => by have := (hr j hj).1; omega)
  have kp : KpHi m1 W W' := fun k cs t fz _ hkk => hg.block k (Array.getElem?_eq_some_iff.1 hkk).1 (fun e => by
    obtain ⟨-, o, ho, hc⟩ := hr k e.symm
    rw [hkk] at ho; cases ho; cases hc)
  have bl : ∀ k, k < D → k < W.heap.size → W'.heap[k]? = W.heap[k]? := fun k h1 h2 => hg.block k h2 (fun e => by have := (hr k e.symm).1; omega)
  obtain ⟨g, hg1, hg2⟩ := h.a
  exact ⟨h.tb.keep hk kp, (bl Bq hq (Array.getElem?_eq_some_iff.1 h.q).1).trans h.q, ⟨g, (bl Ba ha (Array.getElem?_eq_some_iff.1 hg1).1).trans hg1, hg2⟩, Nat.le_trans h.sz hg.size,
    hJ _ W W' row h.j hg (fun r e => ⟨by have := (hr r e).1; omega, (hr r e).2⟩)⟩
theorem TuI.next {n0 m1 B Bq Ba l : Nat} {A0 : Option Addr} {n c0 : Nat} {rs : List RV} {off lo hi sv0 : Int} {J : List (Int × FV) → World → Prop} {N : Nat} {pre : List FV} {X X' : World} (hJ : OwnFrom N J) (h : TuI n0 m1 B Bq Ba l A0 n c0 rs off lo hi sv0 J N pre X) (hn : n0 ≤ X.heap.size) (k : Below X.heap.size X X') : TuI n0 m1 B Bq Ba l A0 n c0 rs off lo hi sv0 J N pre X' := by
  obtain ⟨g, hg1, hg2⟩ := h.a
  exact ⟨h.tb.next hn k, (k.block Bq (Array.getElem?_eq_some_iff.1 h.q).1).trans h.q, ⟨g, (k.block Ba (Array.getElem?_eq_some_iff.1 hg1).1).trans hg1, hg2⟩, Nat.le_trans h.sz k.size, hJ _ _ _ none h.j (grown_bel k none) (fun r e => by cases e)⟩

theorem TuB.under {n0 m1 B D : Nat} {A0 : Option Addr} {n c0 : Nat} {rs : List RV} {off lo hi : Int} {W W' : World} (h : TuB n0 m1 B A0 n c0 rs off lo hi W) (k : Below D W W') (h1 : n0 ≤ D) (h2 : B + 4 ≤ D) : TuB n0 m1 B A0 n c0 rs off lo hi W' :=
  ⟨h.rl.below (k.mono h1), (k.block _ (by omega)).trans h.b0, (k.block _ (by omega)).trans h.b1, (k.block _ (by omega)).trans h.b2, (k.block _ (by omega)).trans h.b3, h.ah.below (k.mono h1) h.hg, h.hg, h.hm⟩
theorem set4_below {n0 : Nat} {w W : World} {k : Nat} (x y z u : Value) (h : Below n0 w W) (hk : n0 ≤ k) : Below n0 w ((((W.setCell ⟨k, 0, none⟩ x).setCell ⟨k, 1, none⟩ y).setCell ⟨k, 2, none⟩ z).setCell ⟨k, 3, none⟩ u) :=
  (((h.setCell (p := ⟨k, 0, none⟩) hk _).setCell (p := ⟨k, 1, none⟩) hk _).setCell (p := ⟨k, 2, none⟩) hk _).setCell (p := ⟨k, 3, none⟩) hk _
theorem set4_keeps (W : World) (k : Nat) (x y z u : Value) : KeepsOthers W ((((W.setCell ⟨k, 0, none⟩ x).setCell ⟨k, 1, none⟩ y).setCell ⟨k, 2, none⟩ z).setCell ⟨k, 3, none⟩ u) :=
  (KeepsOthers.setCell _ _ _).trans ((KeepsOthers.setCell _ _ _).trans ((KeepsOthers.setCell _ _ _).trans (KeepsOthers.setCell _ _ _)))
theorem set4_grown (W : World) (k : Nat) (x y z u : Value) : W.grownBy ((((W.setCell ⟨k, 0, none⟩ x).setCell ⟨k, 1, none⟩ y).setCell ⟨k, 2, none⟩ z).setCell ⟨k, 3, none⟩ u) (some k) := by
  have b := set4_below (n0 := 0) x y z u (Below.refl 0 W) (Nat.zero_le k)
  exact ⟨b.os, b.tape, b.output, b.size, fun j _ hne => set4_other x y z u (fun e => hne (by rw [e]))⟩

set_option maxRecDepth 20000 in
set_option maxHeartbeats 4000000 in
theorem turns_seq (N : Nat) (hN : 8 ≤ N) (n0 m1 B : Nat) (A0 : Option Addr) (n c0 : Nat) (rs : List RV) (off lo hi sv0 : Int) (w : World) (hB : TuB n0 m1 B A0 n c0 rs off lo hi w) (hn : rs.length = n) (hn1 : n ≤ 1000) (hn0 : n0 ≤ w.heap.size)
    (hok : ∀ r ∈ rs, okR r ∧ 1900 ≤ r.fr) (hR : Ris (rowF rs)) (hsvb : ∀ f ∈ rowF rs, -90000 < f.sv ∧ f.sv < 90000) (hs0 : -90000 < sv0 ∧ sv0 < 90000) (hoff : -90000 < off ∧ off < 90000)
    (hlo : inS lo) (hhi : inS hi) (hlb : -4611686018427387904 ≤ lo) (hub : hi ≤ 4611686018427387904) (hlh : lo ≤ hi + 1) (hyb : 1892 ≤ ySec lo ∧ ySec lo ≤ 3000) (hyh : ySec hi + 1 ≤ 2110 ∧ -90000 ≤ ySec hi) (hsv : ∀ f b, AheadIs rs lo f b → f.sv = sv0) :
    SeqKo 145 N Tryz.prog 123 #[.pointer (some ⟨B, 0, none⟩), .pointer (some ⟨B + 2, 0, none⟩), .pointer (some ⟨B + 3, 0, none⟩), .pointer (some ⟨B + 1, 0, none⟩)] encT (fun pre x => pre ++ [x] <+: trF off sv0 (win (rowF rs) lo (hi + 1))) n0 (KpHi m1) (fun xs => xs = trF off sv0 (win (rowF rs) lo (hi + 1))) (fun pre => pre <+: trF off sv0 (win (rowF rs) lo (hi + 1))) w := by
  intro l J Jx W hW hJ hJx hYd hj0
  have h1 : 1 ≤ N := by omega
  have HB := Lib.hid (hB.next hn0 hW)
  have AHD := Lib.hid (fun X (h1 : LaidF X) (h2 : RowsAt 11 cR A0 rs X) => fahead_is A0 n c0 rs lo X h1 h2 hn hn1 hok hlo (by omega) (by omega))
  have BTW := Lib.hid (fun X => between_is A0 n c0 lo hi X)
  have HJ := Lib.hid hJ
  have HX := Lib.hid hJx
  have HYd := Lib.hid hYd
  have J0 := Lib.hid hj0
  have HN := Lib.hid hn
  have HSV := Lib.hid hsv
  have HR := Lib.hid hR
  have HSB := Lib.hid hsvb
  have HOK := Lib.hid hok
  have HW0 : Hid (n0 ≤ W.heap.size) := Lib.hid (Nat.le_trans hn0 hW.size)
  obtain ⟨Bq, hBq⟩ : ∃ k, W.heap.size = k := ⟨_, rfl⟩
  have hBs := HB.out.size
  obtain ⟨W1, hW1⟩ : ∃ W1, W.alloc (.cells #[.func (.yield l) #[] #[]] 197) = W1 := ⟨_, rfl⟩
  have k1 : Below W.heap.size W W1 := by rw [← hW1]; exact (Below.refl _ W).alloc (Nat.le_refl _) _
  have q1 : W1.heap[Bq]? = some (.cells #[.func (.yield l) #[] #[]] 197 (0, 0)) := by rw [← hW1, ← hBq]; exact World.alloc_heap_new W _
  have s1 : W1.heap.size = Bq + 1 := by rw [← hW1, ← hBq]; simp
  have HB1 := Lib.hid (HB.out.next HW0.out k1)
  have J1 := Lib.hid (HJ.out [] _ _ none J0.out (grown_bel k1 none) (fun r e => by cases e))
  have c0' := cel1 HB1.out.b0
  have c2' := cel1 HB1.out.b2
  have c3' := cel1 HB1.out.b3
  have Q1 := Lib.hid q1
  have S1 := Lib.hid s1
  have K1 := Lib.hid k1
  have HBQ := Lib.hid hBq
  clear hB hn hn0 hok hsv hR hsvb hJ hJx hYd hj0 hW k1 q1 s1 hBq HB J0
  refine callsIn_of_wp_marks Tryz.func123 rfl trivial ?_ rfl
  simp only [Tryz.ntmps123, List.size_toArray, List.length_cons, List.length_nil, Nat.reduceAdd, Nat.reduceSub, Array.replicate_succ, Array.replicate_zero, List.push_toArray, List.append_toArray, List.nil_append, List.cons_append]
  subst hW1
  gi_wp2_with (first
    | (refine ⟨trivial, ?_⟩; gi_at_call 94; refine (callsIn_wide.2 (AHD.out _ ⟨HB1.out.ah⟩ HB1.out.rl.1)).mono ?_; rintro e w2 ⟨f, b, rfl, hah, k2⟩
       have k3 := k2.trans (((Below.refl w2.heap.size w2).alloc (Nat.le_refl _) (.cells #[.int .i64 f.nm, .int .i64 f.kd, .int .i64 f.sv, .string ⟨f.lt.toArray⟩] 145)).mono k2.size)
       have HN1 := Lib.hid (Nat.le_trans HW0.out K1.out.size)
       have HB3 := Lib.hid (HB1.out.next HN1.out k3)
       have Q3 := Lib.hid ((k3.block _ (Array.getElem?_eq_some_iff.1 Q1.out).1).trans Q1.out)
       have A3 := Lib.hid (heap_alloc_new w2 (.cells #[.int .i64 f.nm, .int .i64 f.kd, .int .i64 f.sv, .string ⟨f.lt.toArray⟩] 145))
       have J3 := Lib.hid (HJ.out [] _ _ none J1.out (grown_bel k3 none) (fun r e => by cases e))
       have F3 := Lib.hid (HSV.out f b hah)
       have S3 := Lib.hid k2.size
       clear k2 k3 hah c0' c2' c3'
       have c0' := cel1 HB3.out.b0
       have c2' := cel1 HB3.out.b2
       have c3' := cel1 HB3.out.b3
       simp only [fvV])
    | (refine ⟨trivial, ?_⟩; gi_at_call 124; refine (callsIn_wide.2 (BTW.out _)).mono ?_; rintro e w4 ⟨rfl, rfl⟩
       simp only []))
  obtain ⟨W3, hW3⟩ : ∃ W3, (w2.alloc (.cells #[.int .i64 f.nm, .int .i64 f.kd, .int .i64 f.sv, .string ⟨f.lt.toArray⟩] 145)) = W3 := ⟨_, rfl⟩
  have sz3 : W3.heap.size = w2.heap.size + 1 := by rw [← hW3]; simp
  obtain ⟨w4, hw4⟩ : ∃ w4, (((W3.alloc (.cells #[.slice A0 n c0] 80)).alloc (.cells #[.int .i64 lo] 3)).alloc (.cells #[.int .i64 hi] 3)) = w4 := ⟨_, rfl⟩
  simp only [hW3, hw4]
  obtain ⟨m2, hm2⟩ : ∃ m, W3.heap.size = m := ⟨_, rfl⟩
  have k4 : Below W3.heap.size W3 w4 := by rw [← hw4]; exact ((((Below.refl _ W3).alloc (Nat.le_refl _) _).alloc (by simp) _).alloc (by simp; omega) _)
  have s4 : w4.heap.size = m2 + 3 := by rw [← hw4, ← hm2]; simp
  have b40 : w4.heap[m2]? = some (.cells #[.slice A0 n c0] 80 (0, 0)) := by
    rw [← hw4, Below.heap_alloc _ _ _ (by simp; omega), Below.heap_alloc _ _ _ (by simp; omega), ← hm2]; exact World.alloc_heap_new W3 _
  have b41 : w4.heap[m2 + 1]? = some (.cells #[.int .i64 lo] 3 (0, 0)) := by
    rw [← hw4, Below.heap_alloc _ _ _ (by simp; omega), ← hm2]
    have := World.alloc_heap_new (W3.alloc (.cells #[.slice A0 n c0] 80)) (.cells #[.int .i64 lo] 3)
    rwa [World.size_alloc] at this
  have b42 : w4.heap[m2 + 2]? = some (.cells #[.int .i64 hi] 3 (0, 0)) := by
    rw [← hw4, ← hm2]
    have := World.alloc_heap_new ((W3.alloc (.cells #[.slice A0 n c0] 80)).alloc (.cells #[.int .i64 lo] 3)) (.cells #[.int .i64 hi] 3)
    rwa [World.size_alloc, World.size_alloc] at this
  obtain ⟨Ba, hBa⟩ : ∃ a, w2.heap.size = a := ⟨_, rfl⟩
  have hBqv := HBQ.out
  have hS1 := S1.out
  have hS3 := S3.out
  simp only [World.size_alloc] at hS1 hS3
  have hN3 : n0 ≤ W3.heap.size := by have := HW0.out; omega
  have mixed : Tryz.prog.follows .mixedOrders = true := by kernel_rfl
  have BY := bty_of (lo := lo) (hi := hi) HOK.out HR.out hyb.1 hyh.1 rfl
  have BB : BtB n0 m2 m2 A0 n c0 rs lo hi w4 := ⟨by rw [← hW3] at k4; exact HB3.out.rl.below (k4.mono (by rw [hW3]; omega)), b40, b41, b42, by rw [← hW3] at k4; exact HB3.out.ah.next k4, HB3.out.hg, Nat.le_refl _⟩
  have I4 : TuI n0 m1 B Bq Ba l A0 n c0 rs off lo hi sv0 J W.heap.size [] w4 := by
    rw [← hW3] at k4
    refine ⟨HB3.out.next (by rw [hW3]; omega) k4, (k4.block _ (Array.getElem?_eq_some_iff.1 Q3.out).1).trans Q3.out, ⟨f, (k4.block _ (by rw [hW3]; omega)).trans (by rw [← hBa]; exact A3.out), F3.out⟩, ?_, HJ.out [] _ _ none J3.out (grown_bel k4 none) (fun r e => by cases e)⟩
    have := k4.size; rw [hW3] at this; omega
  have SEQ := betw_seq (N - 1) (by omega) n0 m2 m2 A0 n c0 rs lo hi _ _ _ w4 BB HN.out hn1 (by omega) BY hlo hhi hlb hub hlh rfl hyb hyh rfl rfl
  have HI4 := Lib.hid I4
  have OWN : ∀ pre : Unit, True := fun _ => trivial
  clear hw4 b40 b41 b42 BB I4 BY c0' c2' c3' OWN HB1 Q1 J1 HB3 Q3 A3 J3 F3 k4
  subst hBa
  subst hBqv
  refine range_kn h1 (gf := 142) (lb := #[.pointer (some ⟨m2, 0, none⟩), .pointer (some ⟨m2 + 1, 0, none⟩), .pointer (some ⟨m2 + 2, 0, none⟩)]) (by simp only [← hm2, sz3]; rfl) (enters_of Tryz.func142 (by kernel_rfl) rfl)
    SEQ (by omega) (fun _ => rfl) KpHi.trans KpHi.put
    (TuI n0 m1 B W.heap.size w2.heap.size l A0 n c0 rs off lo hi sv0 J W.heap.size) (fun c _ X => c = .ret ∧ ∃ p, p <+: trF off sv0 (win (rowF rs) lo (hi + 1)) ∧ Jx p X) ?hI ?hIx HI4.out ?round ?done ?stop
  case hI => exact TuI.own HJ.out.from (by omega) (by omega) (by omega) (by omega) (fun X h => by have := HW0.out; omega)
  case hIx => exact fun c s X Y row ⟨h2, p, h3, h4⟩ hg hr => ⟨h2, p, h3, HX.out.from _ X Y row h4 hg (fun r e => ⟨by have := (hr r e).1; omega, (hr r e).2⟩)⟩
  case round =>
    rintro l2 pre f2 X hI hOk hsX
    simp only [encG]
    have hmem : ∀ g ∈ pre ++ [f2], g ∈ win (rowF rs) lo (hi + 1) := fun g hg => hOk.subset hg
    have hf2 := win_mem.1 (hmem f2 (by simp))
    have hnm : -4611686018427387904 ≤ f2.nm ∧ f2.nm ≤ 4611686018427387904 := by omega
    obtain ⟨g, hg1, hg2⟩ := hI.a
    have hgs : -90000 < g.sv ∧ g.sv < 90000 := by
      rw [hg2]
      exact lastS_bd (fun q hq => HSB.out q (win_mem.1 (hmem q (by simp [hq]))).1) hs0.1 hs0.2
    obtain ⟨v, hv⟩ : ∃ v, inF f2 off g.sv = v := ⟨_, rfl⟩
    have FI : Hid (∀ Y, Calls Tryz.prog 75 #[.agg #[.int .i64 f2.nm, .int .i64 f2.kd, .int .i64 f2.sv, .string ⟨f2.lt.toArray⟩], .int .i64 off, .int .i64 g.sv] Y fun e w' => e = .returned (.int .i64 v) ∧ RowKit.Below Y.heap.size Y w') := Lib.hid (fun Y => finst_is f2 off g.sv v Y hnm (by omega) (by omega) hv)
    have OK : Hid (trF off sv0 pre ++ [(v, f2)] <+: trF off sv0 (win (rowF rs) lo (hi + 1))) := Lib.hid (by
      have := trF_pre off sv0 hOk
      rw [trF_snoc, ← hg2, hv] at this
      exact this)
    have TS : Hid (trF off sv0 (pre ++ [f2]) = trF off sv0 pre ++ [(v, f2)]) := Lib.hid (by rw [trF_snoc, ← hg2, hv])
    have HG := Lib.hid hg1
    have HII := Lib.hid hI
    have HG2 := Lib.hid hg2
    have hsz := hI.sz
    have hnX : n0 ≤ X.heap.size := by have := HW0.out; omega
    clear hmem hf2 hnm hgs hv hg1 hI hOk hg2
    have bX : RowKit.Below X.heap.size X (X.alloc (.cells #[.int .i64 f2.nm, .int .i64 f2.kd, .int .i64 f2.sv, .string ⟨f2.lt.toArray⟩] 145)) := (Below.refl _ X).alloc (Nat.le_refl _) _
    gi_wp2
    refine ⟨⟨KeepsOthers.alloc X _, bX.mono hnX, KpHi.below bX⟩, fun _ Yw => (TuI n0 m1 B W.heap.size w2.heap.size l A0 n c0 rs off lo hi sv0 J W.heap.size pre Yw ∧ Yw.heap[w2.heap.size]? = some (.cells #[.int .i64 g.nm, .int .i64 g.kd, .int .i64 g.sv, .string ⟨g.lt.toArray⟩] 145 (0, 0))) ∧ Yw.heap[X.heap.size]? = some (.cells #[.int .i64 f2.nm, .int .i64 f2.kd, .int .i64 f2.sv, .string ⟨f2.lt.toArray⟩] 145 (0, 0)),
      OwnFrom.and (OwnFrom.and (fun s A' B' row h hg hr => TuI.own HJ.out.from (by omega) (by omega) (by omega) (by omega) (fun X h => by have := HW0.out; omega) pre A' B' row h hg hr) (fun s A' B' row h hg hr => (hg.block _ (Array.getElem?_eq_some_iff.1 h).1 (fun e => by obtain ⟨-, o, ho, hc⟩ := hr _ e.symm; rw [h] at ho; cases ho; cases hc)).trans h)) (fun s A' B' row h hg hr => (hg.block _ (Array.getElem?_eq_some_iff.1 h).1 (fun e => by obtain ⟨-, o, ho, hc⟩ := hr _ e.symm; rw [h] at ho; cases ho; cases hc)).trans h),
      ⟨⟨HII.out.next HJ.out.from hnX bX, (bX.block _ (Array.getElem?_eq_some_iff.1 HG.out).1).trans HG.out⟩, heap_alloc_new X _⟩, ?_⟩
    rintro W5 ⟨⟨hI5, hG5⟩, hF5⟩ hs5
    have H5 := Lib.hid hI5
    have G5 := Lib.hid hG5
    have F5 := Lib.hid hF5
    have hn5 : n0 ≤ W5.heap.size := by have := hI5.sz; have := HW0.out; omega
    obtain ⟨z0, z1, z2, z3⟩ := cel4 hF5
    have zq := cel1 hI5.q
    have zo := cel1 hI5.tb.b1
    obtain ⟨-, -, za, -⟩ := cel4 hG5
    have d0 := bel_cell z0
    have d1 := bel_cell z1
    have d2 := bel_cell z2
    have d3 := bel_cell z3
    have d4 := bel_cell zq
    have d5 := bel_cell zo
    have d6 := bel_cell za
    clear bX hI5 hG5 hF5 HII HG z0 z1 z2 z3 zq zo za
    gi_wp2
    refine region_tail_round 7 mixed (by kernel_rfl) (by kernel_rfl) ?_
    simp only [List.take_succ_cons, List.take_zero, List.drop_succ_cons, List.drop_zero]
    repeat (quiet_step ((go_at_call 75; rename_i y; refine (FI.out _).mono ?_; rintro e w6 ⟨rfl, k6⟩; exact ⟨rfl, ⟨w6, y.k.trans (k6.mono y.k.size)⟩, rfl⟩)))
    refine wpQuiet_nil ?_
    rintro w8 ⟨x8, hx8⟩
    have k8 : RowKit.Below W5.heap.size W5 w8 := hx8 ▸ x8.k
    have H8 := Lib.hid (H5.out.next HJ.out.from hn5 k8)
    have G8 := Lib.hid ((k8.block _ (Array.getElem?_eq_some_iff.1 G5.out).1).trans G5.out)
    have F8 := Lib.hid ((k8.block _ (Array.getElem?_eq_some_iff.1 F5.out).1).trans F5.out)
    have K8 := Lib.hid k8
    have hn8 : n0 ≤ w8.heap.size := Nat.le_trans hn5 k8.size
    have hw8 : W.heap.size ≤ w8.heap.size := H8.out.sz
    clear hx8 x8 k8 d0 d1 d2 d3 d4 d5 d6
    obtain ⟨fn, tmps, assign, body, hy, hR⟩ := yield_inner (l' := l2) (m' := N - 1 - 1 - 1) (HYd.out (trF off sv0 pre) (v, f2) w8 H8.out.j OK.out hw8)
    simp only [encT, fvV] at hy
    gi_wp2
    refine ⟨fun _ => by omega, hR.mono ?_⟩
    rintro e W9 (⟨rfl, hJ9, hk9, hkp9, hko9⟩ | ⟨rfl, hJx9, hkf9⟩)
    · have hm1 := H8.out.tb.hm
      have hW0v := HW0.out
      have hG9 := (hkp9 w2.heap.size _ _ _ (by omega) G8.out).trans G8.out
      have hF9 := (hkp9 X.heap.size _ _ _ (by omega) F8.out).trans F8.out
      have hQ9 := (hkp9 W.heap.size _ _ _ (by omega) H8.out.q).trans H8.out.q
      have T9 := Lib.hid (H8.out.tb.keep hk9 hkp9)
      have KO9 := Lib.hid ((KeepsOthers.of_grownBy (grown_bel K8.out none) (fun j o e => by cases e)).trans hko9)
      have KB9 := Lib.hid ((K8.out.mono hn5).trans hk9)
      have KH9 := Lib.hid ((KpHi.below K8.out).trans (hkp9.mono (show m1 ≤ m2 by omega)))
      have J9 := Lib.hid hJ9
      have Q9 := Lib.hid hQ9
      have hs9 : W.heap.size ≤ W9.heap.size := Nat.le_trans hw8 hk9.size
      obtain ⟨z0, z1, z2, z3⟩ := cel4 hF9
      obtain ⟨a0, a1, a2, a3⟩ := cel4 hG9
      have f0 := frz (j := 0) hG9
      have f1 := frz (j := 1) hG9
      have f2' := frz (j := 2) hG9
      have f3 := frz (j := 3) hG9
      have G9 := Lib.hid hG9
      clear hJ9 hk9 hkp9 hko9 hF9 hG9 hQ9 hy hR
      gi_wp2
      have SB := set4_below (n0 := w2.heap.size) (.int .i64 f2.nm) (.int .i64 f2.kd) (.int .i64 f2.sv) (.string ⟨f2.lt.toArray⟩) (Below.refl _ W9) (Nat.le_refl _)
      refine ⟨⟨KO9.out.trans (set4_keeps _ _ _ _ _ _), KB9.out.trans (SB.mono (by omega)), KH9.out.trans (fun k cs t fz hk _ => set4_other _ _ _ _ (by omega))⟩, T9.out.under SB (by omega) (by omega), (SB.block _ (by omega)).trans Q9.out, ⟨f2, set4_blk _ _ _ _ G9.out, by rw [lastS_snoc]⟩, Nat.le_trans hs9 SB.size, ?_⟩
      rw [TS.out]
      exact HJ.out _ _ _ _ J9.out (set4_grown _ _ _ _ _ _) (fun r e => by injection e with e; subst e; exact ⟨by omega, _, G9.out, .inr ⟨_, _, rfl⟩⟩)
    · have KF9 := Lib.hid (kfrom_trans (((KeepsOthers.of_grownBy (grown_bel K8.out none) (fun j o e => by cases e)).from W.heap.size)) hkf9)
      have JX9 := Lib.hid hJx9
      clear hy hR hkf9 hJx9
      gi_wp2
      exact ⟨kfrom_mono KF9.out (by omega), rfl, _, OK.out, JX9.out⟩
  case done =>
    rintro D xs X hD hS hI hdf
    have JF := Lib.hid (HJ.out _ _ _ _ hI.j (grownBy_putObj' X D (.deferred none)) (fun r e => by injection e with e; subst e; exact ⟨by omega, _, hdf, .inl rfl⟩))
    have HS := Lib.hid hS
    clear hI hS
    gi_wp2
    refine ⟨by simp, .inl ⟨D, _, rfl, run_takeDeferred hdf, ?_⟩⟩
    exact ⟨_, results_none rfl _ _ _, ⟨_, rfl⟩, .inl (by have := JF.out; rwa [HS.out] at this)⟩
  case stop =>
    rintro D c pre X hD hSp ⟨rfl, p, hp, hx⟩ hdf
    have JF := Lib.hid (HX.out _ _ _ _ hx (grownBy_putObj' X D (.deferred none)) (fun r e => by injection e with e; subst e; exact ⟨by omega, _, hdf, .inl rfl⟩))
    have HP := Lib.hid hp
    clear hx hp hSp
    gi_wp2
    refine ⟨by simp, .inl ⟨D, _, rfl, run_takeDeferred hdf, ?_⟩⟩
    exact ⟨_, results_none rfl _ _ _, ⟨_, rfl⟩, .inr ⟨_, HP.out, JF.out⟩⟩
end Go.Proofs.YtdmfgechoanmlaaGreatDoor
