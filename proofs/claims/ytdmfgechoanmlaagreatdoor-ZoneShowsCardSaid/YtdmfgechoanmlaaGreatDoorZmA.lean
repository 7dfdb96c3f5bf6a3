/- fire.between: which variables its iterator has, and what it hands to whatever loop it is ranged over by: the firings of a stretch, in order. -/
import Derived.Test.YtdmfgechoanmlaaGreatDoorZnZ
import Derived.Test.YtdmfgechoanmlaaGreatDoorMZL
import Derived.Test.YtdmfgechoanmlaaGreatDoorMZN
import Derived.LoopNIn
import Derived.LoopIn
import Derived.WalkMore
namespace Go.Proofs.YtdmfgechoanmlaaGreatDoor
open Go Go.RowKit Go.Sort
attribute [local go_sem] Oper.semAt_some
attribute [local go_sem] fvV

/-- Blocks of cells from m on lie as they lay. -/
def KpHi (m : Nat) (X Y : World) : Prop := ∀ (k : Nat) (cs : Array Value) (t : TypeId) (fz : Nat × Nat), m ≤ k → X.heap[k]? = some (Obj.cells cs t fz) → Y.heap[k]? = X.heap[k]?
theorem KpHi.trans {m : Nat} {A B C : World} (h : KpHi m A B) (k : KpHi m B C) : KpHi m A C := fun j cs t fz hm hj => by
  have h1 := h j cs t fz hm hj
  exact (k j cs t fz hm (h1.trans hj)).trans h1
theorem KpHi.put {m : Nat} (W : World) (l : Nat) (r r' : Loop) (h : W.heap[l]? = some (.loop r)) : KpHi m W (W.putObj l (.loop r')) := fun k cs t fz _ hk =>
  World.putObj_heap_other (fun e => by subst e; rw [h] at hk; cases hk)
theorem KpHi.below {m : Nat} {X Y : World} (h : Below X.heap.size X Y) : KpHi m X Y := fun k _ _ _ _ hk => h.block k (Array.getElem?_eq_some_iff.1 hk).1
theorem KpHi.mono {m m' : Nat} {X Y : World} (h : KpHi m X Y) (k : m ≤ m') : KpHi m' X Y := fun j cs t fz hm hj => h j cs t fz (by omega) hj
theorem KpHi.cell {m : Nat} {X Y : World} (h : KpHi m X Y) {b o : Nat} {v : Value} (hb : m ≤ b) (hc : X.cell? ⟨b, o, none⟩ = some v) : Y.cell? ⟨b, o, none⟩ = some v := by
  have hk : ∃ cs t fz, X.heap[b]? = some (Obj.cells cs t fz) := by
    unfold World.cell? at hc
    split at hc
    · exact ⟨_, _, _, by assumption⟩
    · cases hc
  obtain ⟨cs, t, fz, hk⟩ := hk
  exact (World.cell?_of_block (h b cs t fz hb hk)).trans hc
/-- Rules that lie below n0. -/
def RlAt (n0 : Nat) (A : Option Addr) (rs : List RV) (W : World) : Prop := RowsAt 11 cR A rs W ∧ ∀ L off, A = some ⟨L, off, none⟩ → rs ≠ [] → L < n0
theorem RlAt.below {n0 : Nat} {A : Option Addr} {rs : List RV} {W W' : World} (h : RlAt n0 A rs W) (k : Below n0 W W') : RlAt n0 A rs W' :=
  ⟨fun i r hr => by
    obtain ⟨L, off, e, hl, hc⟩ := h.1 i r hr
    have := h.2 L off e (fun e => by rw [e] at hr; simp at hr)
    exact ⟨L, off, e, Nat.lt_of_lt_of_le hl k.size, fun j v hj hv => (k.cell (p := ⟨L, off + i * 11 + j, none⟩) this).trans (hc j v hj hv)⟩, h.2⟩
theorem RlAt.of {A : Option Addr} {rs : List RV} {w : World} (h : RowsAt 11 cR A rs w) : RlAt w.heap.size A rs w := ⟨h, fun L off e hne => by
  obtain ⟨r, hr⟩ : ∃ r, rs[0]? = some r := by cases rs with
    | nil => exact absurd rfl hne
    | cons r l => exact ⟨r, rfl⟩
  obtain ⟨L', off', e', hl, -⟩ := h 0 r hr
  rw [e] at e'; injection e' with e'; injection e' with e' _; rw [e']; exact hl⟩

theorem between_is (A0 : Option Addr) (n c0 : Nat) (lo hi : Int) (w : World) :
    Calls Tryz.prog 124 #[.slice A0 n c0, .int .i64 lo, .int .i64 hi] w fun e w' => e = .returned (.func (.func 142) #[] #[.pointer (some ⟨w.heap.size, 0, none⟩), .pointer (some ⟨w.heap.size + 1, 0, none⟩), .pointer (some ⟨w.heap.size + 1 + 1, 0, none⟩)]) ∧
      w' = ((w.alloc (.cells #[.slice A0 n c0] 80)).alloc (.cells #[.int .i64 lo] 3)).alloc (.cells #[.int .i64 hi] 3) := by
  have hmf : ∀ (fn : Fn) (first cap : Array Value) (w : World), (Instr.makeFunc fn first cap).run Tryz.prog w = .ok (.func fn first cap) w := fun _ _ _ _ => rfl
  go_enter Tryz.func124, Tryz.ntmps124
  go_wp2
  go_ret
  exact ⟨rfl, rfl⟩
def encG (f : FV) : Array Value := #[fvV f]
/-- What the iterator reads. -/
structure BtB (n0 m1 B : Nat) (A0 : Option Addr) (n c0 : Nat) (rs : List RV) (lo hi : Int) (W : World) : Prop where
  rl : RlAt n0 A0 rs W
  b0 : W.heap[B]? = some (.cells #[.slice A0 n c0] 80 (0, 0))
  b1 : W.heap[B + 1]? = some (.cells #[.int .i64 lo] 3 (0, 0))
  b2 : W.heap[B + 2]? = some (.cells #[.int .i64 hi] 3 (0, 0))
  ah : AhAt W
  hg : 2 < n0
  hm : m1 ≤ B
theorem BtB.keep {n0 m1 B : Nat} {A0 : Option Addr} {n c0 : Nat} {rs : List RV} {lo hi : Int} {W W' : World} (h : BtB n0 m1 B A0 n c0 rs lo hi W) (k : Below n0 W W') (kp : KpHi m1 W W') : BtB n0 m1 B A0 n c0 rs lo hi W' :=
  ⟨h.rl.below k, (kp B _ _ _ h.hm h.b0).trans h.b0, (kp (B + 1) _ _ _ (by have := h.hm; omega) h.b1).trans h.b1, (kp (B + 2) _ _ _ (by have := h.hm; omega) h.b2).trans h.b2, h.ah.below k h.hg, h.hg, h.hm⟩
theorem BtB.next {n0 m1 B : Nat} {A0 : Option Addr} {n c0 : Nat} {rs : List RV} {lo hi : Int} {W W' : World} (h : BtB n0 m1 B A0 n c0 rs lo hi W) (hn : n0 ≤ W.heap.size) (k : Below W.heap.size W W') : BtB n0 m1 B A0 n c0 rs lo hi W' := h.keep (k.mono hn) (KpHi.below k)

/-- What is known at the head of the loop over years. -/
def BtL (n0 m1 B : Nat) (A0 : Option Addr) (n c0 : Nat) (rs : List RV) (lo hi y0 y beg k : Int) (J : List FV → World → Prop) (N : Nat) (W : World) : Prop :=
  BtI rs lo hi y beg ∧ y0 ≤ y ∧ 1 ≤ k ∧ k ≤ 256 ∧ BtB n0 m1 B A0 n c0 rs lo hi W ∧ N ≤ W.heap.size ∧ J (win (rowF rs) lo beg) W

theorem win_snoc {C : List FV} {i : Nat} {f : FV} {lo hi : Int} (h : C[i]? = some f) : win (C.take (i + 1)) lo hi = win (C.take i) lo hi ++ if lo ≤ f.nm ∧ f.nm < hi then [f] else [] := by
  obtain ⟨h1, h2⟩ := List.getElem?_eq_some_iff.1 h
  rw [List.take_succ_eq_append_getElem h1, h2]
  unfold win
  rw [List.filter_append]
  congr 1
  by_cases hc : lo ≤ f.nm ∧ f.nm < hi
  · rw [if_pos hc]; simp [hc]
  · rw [if_neg hc]; simp [hc]
theorem win_pre {A B : List FV} (h : A <+: B) (lo hi : Int) : win A lo hi <+: win B lo hi := h.filter _
/-- The chunk's row of firings, of which some are told. -/
structure BtC (n0 m1 B : Nat) (A0 : Option Addr) (n c0 : Nat) (rs : List RV) (lo hi beg e : Int) (A : Option Addr) (C : List FV) (J : List FV → World → Prop) (N : Nat) (i : Nat) (W : World) : Prop where
  bb : BtB n0 m1 B A0 n c0 rs lo hi W
  rw' : RowsAt 4 (fun f => (cF f).toArray) A C W
  fr : ∀ x, A = some x → m1 ≤ x.block
  sz : N ≤ W.heap.size
  j : J (win (rowF rs) lo beg ++ win (C.take i) beg e) W
theorem BtC.rows {n0 m1 B : Nat} {A0 : Option Addr} {n c0 : Nat} {rs : List RV} {lo hi beg e : Int} {A : Option Addr} {C : List FV} {J : List FV → World → Prop} {N i : Nat} {W W' : World} (h : BtC n0 m1 B A0 n c0 rs lo hi beg e A C J N i W) (hs : W.heap.size ≤ W'.heap.size) (kp : KpHi m1 W W') : RowsAt 4 (fun f => (cF f).toArray) A C W' := fun j x hx => by
  obtain ⟨L, off, q, hl, hc⟩ := h.rw' j x hx
  have hm := h.fr _ q
  exact ⟨L, off, q, Nat.lt_of_lt_of_le hl hs, fun k v hk hv => kp.cell hm (hc k v hk hv)⟩

theorem BtC.step {n0 m1 B : Nat} {A0 : Option Addr} {n c0 : Nat} {rs : List RV} {lo hi beg e : Int} {A : Option Addr} {C : List FV} {J : List FV → World → Prop} {N i i' : Nat} {W W' : World} (h : BtC n0 m1 B A0 n c0 rs lo hi beg e A C J N i W) (k : Below n0 W W') (kp : KpHi m1 W W')
    (hj : J (win (rowF rs) lo beg ++ win (C.take i') beg e) W') : BtC n0 m1 B A0 n c0 rs lo hi beg e A C J N i' W' := ⟨h.bb.keep k kp, h.rows k.size kp, h.fr, Nat.le_trans h.sz k.size, hj⟩

set_option maxRecDepth 20000 in
set_option maxHeartbeats 4000000 in
theorem betw_seq (N : Nat) (hN : 5 ≤ N) (n0 m1 B : Nat) (A0 : Option Addr) (n c0 : Nat) (rs : List RV) (lo hi y0 yL yl : Int) (w : World) (hB : BtB n0 m1 B A0 n c0 rs lo hi w) (hn : rs.length = n) (hn1 : n ≤ 1000) (hn0 : n0 ≤ w.heap.size) (hY : BtY rs lo hi y0 yL)
    (hlo : inS lo) (hhi : inS hi) (hlb : -4611686018427387904 ≤ lo) (hub : hi ≤ 4611686018427387904) (hlh : lo ≤ hi + 1) (hyl : (if lo < smS (ySec lo) then ySec lo - 1 else ySec lo) = yl) (hyb : 1892 ≤ ySec lo ∧ ySec lo ≤ 3000) (hyh : ySec hi + 1 ≤ 2110 ∧ -90000 ≤ ySec hi) (h0 : max yl (max (spA rs) (-100000)) = y0) (hL : min (min (spB rs) 100000) (ySec hi + 1) = yL) :
    SeqKp N Tryz.prog 142 #[.pointer (some ⟨B, 0, none⟩), .pointer (some ⟨B + 1, 0, none⟩), .pointer (some ⟨B + 2, 0, none⟩)] encG (fun pre x => pre ++ [x] <+: win (rowF rs) lo (hi + 1)) n0 (KpHi m1) (fun xs => xs = win (rowF rs) lo (hi + 1)) (fun pre => pre <+: win (rowF rs) lo (hi + 1)) w := by
  intro l J Jx W hW hJ hJx hYd hj0
  have HB := Lib.hid (hB.next hn0 hW)
  have SPN := Lib.hid (fun X (h : RowsAt 11 cR A0 rs X) => span_is A0 n c0 rs _ _ X h hn hn1 rfl rfl)
  obtain ⟨a, ha⟩ : ∃ a, max (spA rs) (-100000) = a := ⟨_, rfl⟩
  obtain ⟨b, hb⟩ : ∃ b, min (spB rs) 100000 = b := ⟨_, rfl⟩
  obtain ⟨p, hp⟩ : ∃ p, ySec lo = p := ⟨_, rfl⟩
  have HPP := Lib.hid hp
  obtain ⟨q, hq⟩ : ∃ q, ySec hi = q := ⟨_, rfl⟩
  obtain ⟨sp, hsp⟩ : ∃ s, smS p = s := ⟨_, rfl⟩
  rw [ha, hb] at SPN
  rw [ha] at h0
  rw [hb, hq] at hL
  rw [hp] at hyl hyb
  rw [hsp] at hyl
  rw [hq] at hyh
  have YL := Lib.hid (fun X (h : AhAt X) => yearOf_is lo p X h hlo hp)
  have YH := Lib.hid (fun X (h : AhAt X) => yearOf_is hi q X h hhi hq)
  have SM := Lib.hid (fun X (h : AhAt X) => summer_is p sp X h (by omega) (by omega) hsp)
  have HJ := Lib.hid hJ
  have HYd := Lib.hid hYd
  have J0 := Lib.hid hj0
  have HN := Lib.hid hn
  have HY := Lib.hid hY
  have HW0 : Hid (n0 ≤ W.heap.size) := Lib.hid (Nat.le_trans hn0 hW.size)
  have c0' := cel1 HB.out.b0
  have c1' := cel1 HB.out.b1
  have c2' := cel1 HB.out.b2
  clear hB hn hn0 hY hlo hhi hW hJ hJx hYd hj0 ha hb hp hq
  refine callsIn_of_wp Tryz.func142 rfl trivial ?_ rfl
  simp only [Tryz.ntmps142, List.size_toArray, List.length_cons, List.length_nil, Nat.reduceAdd, Nat.reduceSub, Array.replicate_succ, Array.replicate_zero, List.push_toArray, List.append_toArray, List.nil_append, List.cons_append]
  have h1 : 1 ≤ N := by omega
  gi_wp2_with (first
    | (refine ⟨trivial, ?_⟩; gi_at_call 143; refine (callsIn_wide.2 (SPN.out _ HB.out.rl.1)).mono ?_; rintro e w1 ⟨rfl, k1⟩
       have HB1 := Lib.hid (HB.out.next HW0.out k1)
       have K1 := Lib.hid k1
       clear k1 c0' c1' c2'
       have c1' := cel1 HB1.out.b1
       simp only [])
    | (refine ⟨trivial, ?_⟩; gi_at_call 120; refine (callsIn_wide.2 (YL.out _ HB1.out.ah)).mono ?_; rintro e w2 ⟨rfl, k2⟩
       have HB2 := Lib.hid (HB1.out.next (Nat.le_trans HW0.out K1.out.size) k2)
       have K2 := Lib.hid (K1.out.trans (k2.mono K1.out.size))
       clear k2 c1'
       have c1' := cel1 HB2.out.b1
       simp only []))
  have mixed : Tryz.prog.follows .mixedOrders = true := by kernel_rfl
  have HN2 : n0 ≤ w2.heap.size := Nat.le_trans HW0.out K2.out.size
  have V : (lo < sp ∧ p - 1 = yl) ∨ (¬ lo < sp ∧ p = yl) := by
    by_cases h : lo < sp
    · rw [if_pos h] at hyl; exact .inl ⟨h, hyl⟩
    · rw [if_neg h] at hyl; exact .inr ⟨h, hyl⟩
  have hls1 : lo ≤ smS (y0 + 1) := by
    have h3 := (ySec_spec lo).2
    rw [HPP.out] at h3
    have h4 := (smS_bd (p + 1)).1
    rcases V with ⟨h5, h6⟩ | ⟨_, h6⟩
    · have h7 := smS_mono (a := p) (b := y0 + 1) (by omega)
      omega
    · have h7 := smS_mono (a := p + 1) (b := y0 + 1) (by omega)
      omega
  have d1 := bel_cell c1'
  have w0 : IntKind.i64.wrap (p - 1) = p - 1 := IntWalk.i64_in _ (by omega)
  have mm0 := fmax2 Tryz.prog 3 yl a y0 h0
  have mm1 := fmin2 Tryz.prog 3 b (q + 1) yL hL
  have w1' : IntKind.i64.wrap (q + 1) = q + 1 := IntWalk.i64_in _ (by omega)
  clear c1' hyl
  refine wpIn_calm ?_
  refine wpIn_wide.2 ?_
  refine region_bel mixed (by kernel_rfl) ?_
  repeat (quiet_step ((go_at_call 144; rename_i y; refine (SM.out _ (HB2.out.next HN2 y.k).ah).mono ?_; rintro e w6 ⟨rfl, k6⟩; exact ⟨rfl, ⟨w6, y.k.trans (k6.mono y.k.size)⟩, rfl⟩)))
  refine wpQuiet_nil ?_
  rintro w6 ⟨x6, hx6⟩
  have k6 : Below w2.heap.size w2 w6 := hx6 ▸ x6.k
  have HB6 := Lib.hid (HB2.out.next HN2 k6)
  have K6 := Lib.hid (K2.out.trans (k6.mono K2.out.size))
  have HN6 : n0 ≤ w6.heap.size := Nat.le_trans HN2 k6.size
  clear hx6 x6 k6 d1
  simp only [calmQ]
  have c2' := cel1 HB6.out.b2
  have c1' := cel1 HB6.out.b1
  rcases V with ⟨hls, hpy⟩ | ⟨hls, hpy⟩
  all_goals
    gi_wp2_with (first
      | (refine ⟨trivial, ?_⟩; gi_at_call 120; refine (callsIn_wide.2 (YH.out _ HB6.out.ah)).mono ?_; rintro e w7 ⟨rfl, k7⟩
         have HB7 := Lib.hid (HB6.out.next HN6 k7)
         have K7 := Lib.hid (K6.out.trans (k7.mono K6.out.size))
         have HN7 : n0 ≤ w7.heap.size := Nat.le_trans HN6 k7.size
         clear k7 c1' c2'
         have c1' := cel1 HB7.out.b1
         simp only []))
    clear hls hpy c1'
    gi_loopw [7, 8, 9] (fun v7 v8 v9 wr => ∃ y beg k : Int, v7 = .int .i64 y ∧ v8 = .int .i64 beg ∧ v9 = .int .i64 k ∧ BtL n0 m1 B A0 n c0 rs lo hi y0 y beg k J W.heap.size wr) (fun v7 _ _ _ => (yL + 1 - intOf v7).toNat)
    case atStart => exact ⟨y0, lo, 1, rfl, rfl, rfl, BtI.start HY.out hlh hls1, Int.le_refl _, by omega, by omega, HB7.out, K7.out.size, by rw [win_none (Int.le_refl _)]; exact HJ.out [] _ _ none J0.out (grown_bel K7.out none) (fun r e => by cases e)⟩
    case round =>
      obtain ⟨y, beg, k, rfl, rfl, rfl, hBI, hy0, hk1, hk2, hBB, hsz, hJp⟩ := hrel
      have hl0 := HY.out.lb
      have hl1 := HY.out.ub
      have HNr : n0 ≤ wr.heap.size := Nat.le_trans HW0.out hsz
      have BI := Lib.hid hBI
      have BB := Lib.hid hBB
      have JP := Lib.hid hJp
      have e1' := cel1 hBB.b2
      have e0' := cel1 hBB.b0
      clear hBI hBB hJp HB7 K7 HB6 K6 HB2 K2 HB1 K1
      by_cases hle : y ≤ yL
      · obtain ⟨s2, hs2⟩ : ∃ s, smS (y + k) = s := ⟨_, rfl⟩
        obtain ⟨e, he⟩ : ∃ e, chE hi y k = e := ⟨_, rfl⟩
        obtain ⟨b2, hb2⟩ : ∃ b, min (y + k) yL = b := ⟨_, rfl⟩
        have he2 : min s2 (hi + 1) = e := by rw [← he, ← hs2]; rfl
        have SM2 := Lib.hid (fun X (h : AhAt X) => summer_is (y + k) s2 X h (by omega) (by omega) hs2)
        have CH := Lib.hid (BI.out.chunk HY.out hy0 hb2)
        have BN := Lib.hid (BI.out.next HY.out hk1)
        have BL := Lib.hid (BI.out.le hk1)
        rw [he] at CH BN BL
        have OR := Lib.hid (fun X (h : LaidF X) (h2 : RowsAt 11 cR A0 rs X) => callsIn_wide.1 (forder_in A0 n c0 rs y b2 X h h2 HN.out hn1 (fun r hr => (HY.out.ok r hr).1) (by omega) (by omega) (by omega) 5 (Nat.le_refl _)))
        have wy : IntKind.i64.wrap (y + k) = y + k := IntWalk.i64_in _ (by omega)
        have wh : IntKind.i64.wrap (hi + 1) = hi + 1 := IntWalk.i64_in _ (by have := BI.out.lb; have := BI.out.ub; omega)
        have wk2 : IntKind.i64.wrap (2 * k) = 2 * k := IntWalk.i64_in _ (by omega)
        have n1' := fmin2 Tryz.prog 3 s2 (hi + 1) e he2
        have n2' := fmin2 Tryz.prog 3 (y + k) yL b2 hb2
        have n3' := fmin2 Tryz.prog 3 (2 * k) 256 _ rfl
        have d1 := bel_cell e1'
        clear hs2 he he2 e1'
        gi_wp2
        refine wpIn_calm ?_
        refine wpIn_wide.2 ?_
        refine region_bel mixed (by kernel_rfl) ?_
        repeat (quiet_step ((go_at_call 144; rename_i y; refine (SM2.out _ (BB.out.next HNr y.k).ah).mono ?_; rintro e w6 ⟨rfl, k6⟩; exact ⟨rfl, ⟨w6, y.k.trans (k6.mono y.k.size)⟩, rfl⟩)))
        refine wpQuiet_nil ?_
        rintro w8 ⟨x8, hx8⟩
        have k8 : Below wr.heap.size wr w8 := hx8 ▸ x8.k
        have BB8 := Lib.hid (BB.out.next HNr k8)
        have HN8 : n0 ≤ w8.heap.size := Nat.le_trans HNr k8.size
        have J8 := Lib.hid (HJ.out _ _ _ none JP.out (grown_bel k8 none) (fun r e => by cases e))
        have S8 : W.heap.size ≤ w8.heap.size := Nat.le_trans hsz k8.size
        clear hx8 x8 k8 d1 e0'
        simp only [calmQ]
        have e0' := cel1 BB8.out.b0
        gi_wp2_with (first
          | (refine ⟨trivial, ?_⟩; gi_at_call 141; refine (callsIn_wide.2 (OR.out _ ⟨BB8.out.ah⟩ BB8.out.rl.1)).mono ?_; rintro e w9 ⟨A, c, rfl, hrw, k9, hfr⟩
             have BB9 := Lib.hid (BB8.out.next HN8 k9)
             have HN9 : n0 ≤ w9.heap.size := Nat.le_trans HN8 k9.size
             have J9 := Lib.hid (HJ.out _ _ _ none J8.out (grown_bel k9 none) (fun r e => by cases e))
             have S9 : W.heap.size ≤ w9.heap.size := Nat.le_trans S8 k9.size
             have RW := Lib.hid hrw
             have FR := Lib.hid hfr
             have K9 := k9.size
             clear k9 hrw hfr e0'
             simp only []))
        obtain ⟨m, hm⟩ : ∃ m, (allF rs y b2).length = m := ⟨_, rfl⟩
        obtain ⟨C, hC⟩ : ∃ C, iso (ltOf cfF) (allF rs y b2) = C := ⟨_, rfl⟩
        have hCm : C.length = m := by rw [← hC, iso_len, hm]
        have hm9 : m ≤ 5100000 := by
          have h := allF_len (rs := rs) (a := y) (b := b2) (by omega)
          rw [HN.out] at h
          omega
        rw [hC] at RW CH
        simp only [hm]
        have HCM := Lib.hid hCm
        have BC9 : Hid (BtC n0 m1 B A0 n c0 rs lo hi beg e A C J W.heap.size 0 w9) := Lib.hid ⟨BB9.out, RW.out, fun x hx => by have h9 := FR.out x hx; have h8 := (Array.getElem?_eq_some_iff.1 BB8.out.b2).1; have h7 := BB8.out.hm; omega, S9, by
          rw [List.take_zero, show win [] beg e = [] from rfl, List.append_nil]; exact J9.out⟩
        have PRE : Hid (∀ i f, C[i]? = some f → beg ≤ f.nm → f.nm < e → (win (rowF rs) lo beg ++ win (C.take i) beg e) ++ [f] <+: win (rowF rs) lo (hi + 1)) := Lib.hid fun i f hf h3 h4 => by
          have h5 := win_snoc (lo := beg) (hi := e) hf
          rw [if_pos ⟨h3, h4⟩] at h5
          rw [List.append_assoc, ← h5]
          have h6 : win (rowF rs) lo beg ++ win (C.take (i + 1)) beg e <+: win (rowF rs) lo beg ++ win C beg e := (List.prefix_append_right_inj _).2 (win_pre (List.take_prefix _ _) _ _)
          rw [CH.out, win_app HY.out.ris BI.out.lb BL.out.1] at h6
          refine h6.trans ?_
          rw [← win_app HY.out.ris (show lo ≤ e by have := BI.out.lb; have := BL.out.1; omega) BL.out.2]
          exact List.prefix_append _ _
        have FIN : Hid (win (rowF rs) lo beg ++ win (C.take m) beg e = win (rowF rs) lo e) := Lib.hid (by
          rw [List.take_of_length_le (by omega), CH.out, win_app HY.out.ris BI.out.lb BL.out.1])
        clear hm hC hCm BB9 J9 S9 RW FR K9 J8 S8 CH BL BI BB JP
        gi_loopw [57] (fun v wr2 => ∃ i : Nat, v = .int .i64 i ∧ i ≤ m ∧ BtC n0 m1 B A0 n c0 rs lo hi beg e A C J W.heap.size i wr2) (fun v _ => m - (intOf v).toNat)
        case atStart => exact ⟨0, rfl, Nat.zero_le _, BC9.out⟩
        case round =>
          obtain ⟨i, rfl, hi', hBC⟩ := hrel
          have BC := Lib.hid hBC
          have hs2 := hBC.sz
          clear hBC BC9
          by_cases hlt : i < m
          · have hltz : (i : Int) < (m : Int) := by omega
            obtain ⟨f, hf⟩ : ∃ f, C[i]? = some f := ⟨_, List.getElem?_eq_getElem (by rw [HCM.out]; exact hlt)⟩
            obtain ⟨L, off, rfl, hL, hc⟩ := BC.out.rw' i f hf
            have x0 : wr.cell? ⟨L, off + i * 4, none⟩ = some (.int .i64 f.nm) := hc 0 _ (by omega) rfl
            have x1 : wr.cell? ⟨L, off + i * 4 + 1, none⟩ = some (.int .i64 f.kd) := hc 1 _ (by omega) rfl
            have x2 : wr.cell? ⟨L, off + i * 4 + 2, none⟩ = some (.int .i64 f.sv) := hc 2 _ (by omega) rfl
            have x3 : wr.cell? ⟨L, off + i * 4 + 3, none⟩ = some (.string ⟨f.lt.toArray⟩) := hc 3 _ (by omega) rfl
            have SN := Lib.hid (win_snoc (lo := beg) (hi := e) hf)
            have bX : Below wr.heap.size wr (wr.alloc (.cells #[.int .i64 f.nm, .int .i64 f.kd, .int .i64 f.sv, .string ⟨f.lt.toArray⟩] 145)) := (Below.refl _ wr).alloc (Nat.le_refl _) _
            have HNX : n0 ≤ wr.heap.size := Nat.le_trans HW0.out hs2
            have BX := Lib.hid bX
            clear hc
            by_cases hin : beg ≤ f.nm ∧ f.nm < e
            · obtain ⟨i1, i2⟩ := hin
              rw [if_pos ⟨i1, i2⟩] at SN
              have OK := Lib.hid (PRE.out i f hf i1 i2)
              obtain ⟨fn, tmps, assign, body, hy, hR⟩ := HYd.out _ f _ (HJ.out.alloc (.cells #[.int .i64 f.nm, .int .i64 f.kd, .int .i64 f.sv, .string ⟨f.lt.toArray⟩] 145) BC.out.j) OK.out (by rw [World.size_alloc]; omega)
              simp only [encG, fvV] at hy
              clear bX hf
              gi_wp2
              refine hR.mono ?_
              rintro e1 W3 (⟨rfl, hJ3, hk3, hkp⟩ | ⟨rfl, hJx3⟩)
              · have BC3 := Lib.hid (BC.out.step (i' := i + 1) ((BX.out.mono HNX).trans hk3) ((KpHi.below BX.out).trans hkp) (by rw [SN.out, ← List.append_assoc]; exact hJ3))
                clear hJ3 hk3 hkp hy hR
                gi_wp2
                go_roundw
                case rel => exact ⟨i + 1, by go_num, by omega, BC3.out⟩
                case measure => simp [intOf]; omega
              · clear hy hR
                gi_wp2
                exact bodyPost_ret (results_none rfl _ _ _) rfl ⟨⟨_, rfl⟩, .inr ⟨_, OK.out, hJx3⟩⟩
            · rw [if_neg hin, List.append_nil] at SN
              have BC3 := Lib.hid (BC.out.step (i' := i + 1) (bX.mono HNX) (KpHi.below bX) (by rw [SN.out]; exact HJ.out.alloc _ BC.out.j))
              have V2 : ¬ beg ≤ f.nm ∨ (beg ≤ f.nm ∧ ¬ f.nm < e) := by omega
              clear hin bX hf
              rcases V2 with i1 | ⟨i1, i2⟩
              all_goals
                gi_wp2
                refine ⟨fun _ h => (by cases h), ?_⟩
                gi_wp2
                go_roundw
                case rel => exact ⟨i + 1, by go_num, by omega, BC3.out⟩
                case measure => simp [intOf]; omega
          · obtain rfl : i = m := by omega
            have hltz : ¬ (i : Int) < (i : Int) := by omega
            have BB7 := Lib.hid BC.out.bb
            have J7 : Hid (J (win (rowF rs) lo e) _) := Lib.hid (by have := BC.out.j; rw [FIN.out] at this; exact this)
            gi_wp2
            go_roundw
            case rel =>
              have BTL : BtL n0 m1 B A0 n c0 rs lo hi y0 (y + k) e (min (2 * k) 256) J W.heap.size _ := ⟨BN.out, by omega, by omega, by omega, BB7.out, hs2, J7.out⟩
              first
                | exact ⟨y + k, e, min (2 * k) 256, rfl, rfl, rfl, BTL⟩
                | exact ⟨_, _, _, ⟨y + k, rfl, e, rfl, min (2 * k) 256, rfl, BTL⟩, rfl, rfl, rfl⟩
            case measure => simp [intOf]; omega
      · have DONE := Lib.hid (BI.out.done HY.out (by omega))
        gi_wp2
        have JD := JP.out
        rw [DONE.out] at JD
        go_end0
        first | exact ⟨⟨_, rfl⟩, .inl ⟨_, rfl, JD⟩⟩ | exact ⟨⟨_, rfl⟩, .inl JD⟩
end Go.Proofs.YtdmfgechoanmlaaGreatDoor
