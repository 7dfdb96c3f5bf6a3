/- Iterators of changes: what a loop over one keeps; table.distinct, and what its iterator hands on. -/
import Derived.Test.YtdmfgechoanmlaaGreatDoorTbP
import Derived.Test.YtdmfgechoanmlaaGreatDoorMYK
import Derived.Test.YtdmfgechoanmlaaGreatDoorZmC
namespace Go.Proofs.YtdmfgechoanmlaaGreatDoor
open Go Go.RowKit Go.Shelf
attribute [local go_sem] Oper.semAt_some

def cC (c : CV) : Array Value := #[.int .i64 c.t, .int .i64 c.of, .bool c.ds, .string ⟨c.ab.toArray⟩]
def cvV (c : CV) : Value := .agg #[.int .i64 c.t, .int .i64 c.of, .bool c.ds, .string ⟨c.ab.toArray⟩]
def encC (c : CV) : Array Value := #[cvV c]
/-- What a round keeps: all but lists of changes that are longer than one. -/
def uC (cs : Array Value) (t : TypeId) : Bool := !(t == 71) || cs.size == 4
def KpC (m : Nat) (X Y : World) : Prop := ∀ (k : Nat) (cs : Array Value) (t : TypeId) (fz : Nat × Nat), m ≤ k → X.heap[k]? = some (Obj.cells cs t fz) → uC cs t = true → Y.heap[k]? = X.heap[k]?
theorem KpC.trans {m : Nat} {A B C : World} (h : KpC m A B) (k : KpC m B C) : KpC m A C := fun j cs t fz hm hj hu => by
  have h1 := h j cs t fz hm hj hu
  exact (k j cs t fz hm (h1.trans hj) hu).trans h1
theorem KpC.put {m : Nat} (W : World) (l : Nat) (r r' : Loop) (h : W.heap[l]? = some (.loop r)) : KpC m W (W.putObj l (.loop r')) := fun k cs t fz _ hk _ =>
  World.putObj_heap_other (fun e => by subst e; rw [h] at hk; cases hk)
theorem KpC.below {m : Nat} {X Y : World} (h : Below X.heap.size X Y) : KpC m X Y := fun k _ _ _ _ hk _ => h.block k (Array.getElem?_eq_some_iff.1 hk).1
theorem KpC.mono {m m' : Nat} {X Y : World} (h : KpC m X Y) (k : m ≤ m') : KpC m' X Y := fun j cs t fz hm hj hu => h j cs t fz (by omega) hj hu
theorem KpC.grown {m : Nat} {X Y : World} {row : Option Nat} (h : X.grownBy Y row) (hr : ∀ j, row = some j → j < m ∨ ∃ cs t fz, X.heap[j]? = some (Obj.cells cs t fz) ∧ uC cs t = false) : KpC m X Y := fun k cs t fz hm hk hu =>
  h.block k (Array.getElem?_eq_some_iff.1 hk).1 (fun e => by
    rcases hr k e.symm with h1 | ⟨cs', t', fz', h1, h2⟩
    · omega
    · rw [hk] at h1; cases h1; rw [hu] at h2; cases h2)
/-- Cells that iterators turn between the rounds. -/
def tC (t : TypeId) : Bool := t == 41 || t == 4 || t == 3 || t == 145
/-- An iterator of changes, for whatever loop. -/
def ItC (N : Nat) (g : Nat) (lb : Array Value) (L : List CV) (n0 : Nat) (w : World) : Prop :=
  n0 ≤ w.heap.size ∧ (∀ args w, (callFunc g args).run Tryz.prog w = .ok (.enter g args) w) ∧ ∀ (m : Nat) (w' : World), Below n0 w w' → m ≤ w'.heap.size → SeqKs tC N Tryz.prog g lb encC (fun pre x => pre ++ [x] <+: L) n0 (KpC m) (fun xs => xs = L) (fun pre => pre <+: L) w'
theorem ItC.next {N g : Nat} {lb : Array Value} {L : List CV} {n0 : Nat} {w w1 : World} (h : ItC N g lb L n0 w) (k : Below n0 w w1) : ItC N g lb L n0 w1 := ⟨Nat.le_trans h.1 k.size, h.2.1, fun m w' k' hm => h.2.2 m w' (k.trans k') hm⟩

/-- What distinct's iterator knows between two rounds. -/
structure DiI (Bq Ba Bf l N0 : Nat) (J : List CV → World → Prop) (pre : List CV) (X : World) : Prop where
  q : X.heap[Bq]? = some (.cells #[.func (.yield l) #[] #[]] 108 (0, 0))
  f : X.heap[Bf]? = some (.cells #[.bool pre.isEmpty] 4 (0, 0))
  a : ∃ (x : Int) (y : Bool) (z : List UInt8), X.heap[Ba]? = some (.cells #[.int .i64 x, .bool y, .string ⟨z.toArray⟩] 41 (0, 0)) ∧ (pre = [] ∨ endC none pre = some (x, y, z))
  sz : N0 ≤ X.heap.size
  j : J (mrgC none pre) X
theorem DiI.own {Bq Ba Bf l N0 D : Nat} {J : List CV → World → Prop} (hJ : OwnS tC N0 J) (hN : N0 ≤ D) (hq : Bq < D) (ha : Ba < D) (hf : Bf < D) : OwnS tC D (DiI Bq Ba Bf l N0 J) := fun pre W W' row h hg hr => by
  have bl : ∀ k, k < D → k < W.heap.size → W'.heap[k]? = W.heap[k]? := fun k h1 h2 => hg.block k h2 (fun e => by have := (hr k e.symm).1; omega)
  obtain ⟨x, y, z, h1, h2⟩ := h.a
  exact ⟨(bl Bq hq (Array.getElem?_eq_some_iff.1 h.q).1).trans h.q, (bl Bf hf (Array.getElem?_eq_some_iff.1 h.f).1).trans h.f, ⟨x, y, z, (bl Ba ha (Array.getElem?_eq_some_iff.1 h1).1).trans h1, h2⟩, Nat.le_trans h.sz hg.size, hJ _ W W' row h.j hg (fun r e => ⟨by have := (hr r e).1; omega, (hr r e).2⟩)⟩
theorem DiI.next {Bq Ba Bf l N0 : Nat} {J : List CV → World → Prop} {pre : List CV} {X X' : World} (hJ : OwnS tC N0 J) (h : DiI Bq Ba Bf l N0 J pre X) (k : Below X.heap.size X X') : DiI Bq Ba Bf l N0 J pre X' := by
  obtain ⟨x, y, z, h1, h2⟩ := h.a
  exact ⟨(k.block _ (Array.getElem?_eq_some_iff.1 h.q).1).trans h.q, (k.block _ (Array.getElem?_eq_some_iff.1 h.f).1).trans h.f, ⟨x, y, z, (k.block _ (Array.getElem?_eq_some_iff.1 h1).1).trans h1, h2⟩, Nat.le_trans h.sz k.size, hJ.bel h.j k⟩
theorem distinct_is (V : Fn) (fs cs : Array Value) (w : World) : Calls Tryz.prog 63 #[.func V fs cs] w fun e w' => e = .returned (.func (.func 83) #[] #[.pointer (some ⟨w.heap.size, 0, none⟩)]) ∧ w' = w.alloc (.cells #[.func V fs cs] 132) := by
  have hmf : ∀ (fn : Fn) (first cap : Array Value) (w : World), (Instr.makeFunc fn first cap).run Tryz.prog w = .ok (.func fn first cap) w := fun _ _ _ _ => rfl
  go_enter Tryz.func63, Tryz.ntmps63
  go_wp2
  go_ret
  exact ⟨rfl, rfl⟩
theorem set3_grown (W : World) (k : Nat) (x y z : Value) : W.grownBy (((W.setCell ⟨k, 0, none⟩ x).setCell ⟨k, 1, none⟩ y).setCell ⟨k, 2, none⟩ z) (some k) := by
  have b := (((Below.refl 0 W).setCell (p := ⟨k, 0, none⟩) (Nat.zero_le k) x).setCell (p := ⟨k, 1, none⟩) (Nat.zero_le k) y).setCell (p := ⟨k, 2, none⟩) (Nat.zero_le k) z
  refine ⟨b.os, b.tape, b.output, b.size, fun j _ hne => ?_⟩
  have h : ∀ (V : World) (i : Nat) (v : Value), (V.setCell ⟨k, i, none⟩ v).heap[j]? = V.heap[j]? := fun V i v => by
    show (V.heap.modify k _)[j]? = _
    rw [Array.getElem?_modify, if_neg (fun e => hne (by rw [e]))]
  rw [h, h, h]
/-- Behind a change that is handed on: what distinct stores. -/
theorem dset_all {n0 m Bq l N0 : Nat} {J : List CV → World → Prop} {s : List CV} {w : World} {y0 y1 y2 z : Value} (a : Int) (b : Bool) (c : List UInt8) (hJ : OwnS tC N0 J) (hj : J s w) (hN : N0 ≤ Bq + 1) (hn : n0 ≤ Bq) (hm : Bq + 3 ≤ m)
    (hq : w.heap[Bq]? = some (.cells #[.func (.yield l) #[] #[]] 108 (0, 0))) (hg : w.heap[Bq + 1]? = some (.cells #[y0, y1, y2] 41 (0, 0))) (hf : w.heap[Bq + 2]? = some (.cells #[z] 4 (0, 0))) (hs : N0 ≤ w.heap.size) :
    let W := (((w.setCell ⟨Bq + 2, 0, none⟩ (.bool false)).setCell ⟨Bq + 1, 0, none⟩ (.int .i64 a)).setCell ⟨Bq + 1, 1, none⟩ (.bool b)).setCell ⟨Bq + 1, 2, none⟩ (.string ⟨c.toArray⟩)
    KeepsOthers w W ∧ Below n0 w W ∧ KpC m w W ∧ J s W ∧ W.heap[Bq]? = some (.cells #[.func (.yield l) #[] #[]] 108 (0, 0)) ∧ W.heap[Bq + 1]? = some (.cells #[.int .i64 a, .bool b, .string ⟨c.toArray⟩] 41 (0, 0)) ∧ W.heap[Bq + 2]? = some (.cells #[.bool false] 4 (0, 0)) ∧ N0 ≤ W.heap.size := by
  have g1 : w.grownBy (w.setCell ⟨Bq + 2, 0, none⟩ (.bool false)) (some (Bq + 2)) := grownBy_setCell' w (Bq + 2) (.bool false)
  obtain ⟨V, hV⟩ : ∃ V, w.setCell ⟨Bq + 2, 0, none⟩ (.bool false) = V := ⟨_, rfl⟩
  have hfV : V.heap[Bq + 2]? = some (.cells #[.bool false] 4 (0, 0)) := by
    have := blk_set (i := 0) hf (.bool false)
    rw [← hV]; simpa using this
  have ko1 : KeepsOthers w V := by rw [← hV]; exact KeepsOthers.setCell _ _ _
  rw [hV] at g1
  have hgV := (g1.block _ (Array.getElem?_eq_some_iff.1 hg).1 (fun e => by injection e with e; omega)).trans hg
  have hqV := (g1.block _ (Array.getElem?_eq_some_iff.1 hq).1 (fun e => by injection e with e; omega)).trans hq
  have hjV := hJ _ _ _ _ hj g1 (fun r e => by injection e with e; subst e; exact ⟨by omega, _, hf, .inr ⟨_, _, _, rfl, rfl⟩⟩)
  have g2 := set3_grown V (Bq + 1) (.int .i64 a) (.bool b) (.string ⟨c.toArray⟩)
  simp only [hV]
  have hb := (Array.getElem?_eq_some_iff.1 hq).1
  have hbV := (Array.getElem?_eq_some_iff.1 hqV).1
  refine ⟨ko1.trans ((KeepsOthers.setCell _ _ _).trans ((KeepsOthers.setCell _ _ _).trans (KeepsOthers.setCell _ _ _))), ((Below.refl n0 w).grown g1 (by omega) (fun j hj => by injection hj with hj; omega)).trans ((Below.refl n0 V).grown g2 (by omega) (fun j hj => by injection hj with hj; omega)),
    KpC.trans (KpC.grown g1 fun j hj => .inl (by injection hj with hj; omega)) (KpC.grown g2 fun j hj => .inl (by injection hj with hj; omega)),
    hJ _ _ _ _ hjV g2 (fun r e => by injection e with e; subst e; exact ⟨by omega, _, hgV, .inr ⟨_, _, _, rfl, rfl⟩⟩),
    (g2.block _ hbV (fun e => by injection e with e; omega)).trans hqV, ?_, (g2.block _ (Array.getElem?_eq_some_iff.1 hfV).1 (fun e => by injection e with e; omega)).trans hfV, ?_⟩
  · have := blk_set (i := 2) (blk_set (i := 1) (blk_set (i := 0) hgV (.int .i64 a)) (.bool b)) (.string ⟨c.toArray⟩)
    simpa using this
  · have := g1.size; have := g2.size; omega
set_option maxRecDepth 20000 in
set_option maxHeartbeats 2000000 in
theorem distinct_seq (N : Nat) (hN : 4 ≤ N) (g : Nat) (lb : Array Value) (L : List CV) (n0 B : Nat) (w : World) (H : ItC (N - 1) g lb L n0 w) (hB : w.heap[B]? = some (.cells #[.func (.func g) #[] lb] 132 (0, 0))) (hBn : B < n0) :
    ItC N 83 #[.pointer (some ⟨B, 0, none⟩)] (mrgC none L) n0 w := by
  refine ⟨H.1, enters_of Tryz.func83 (by kernel_rfl) rfl, fun m w' kw hm => ?_⟩
  intro l J Jx W hW hJ hJx hYd hj0
  have h1 : 1 ≤ N := by omega
  have mixed : Tryz.prog.follows .mixedOrders = true := by kernel_rfl
  have kW : Below n0 w W := kw.trans (hW.mono (by have := H.1; have := kw.size; omega))
  have hn0 : n0 ≤ W.heap.size := Nat.le_trans H.1 kW.size
  have hmW : m ≤ W.heap.size := Nat.le_trans hm hW.size
  have c1' := cel1 ((kW.block B hBn).trans hB)
  have BB := Lib.hid ((kW.block B hBn).trans hB)
  have HH := Lib.hid (H.next kW)
  have HJ := Lib.hid hJ
  have HX := Lib.hid hJx
  have HYd := Lib.hid hYd
  have J0 := Lib.hid hj0
  clear hB H kW hW hJ hJx hYd hj0 kw
  refine callsIn_of_wp_marks Tryz.func83 rfl trivial ?_ rfl
  simp only [Tryz.ntmps83, List.size_toArray, List.length_cons, List.length_nil, Nat.reduceAdd, Nat.reduceSub, Array.replicate_succ, Array.replicate_zero, List.push_toArray, List.append_toArray, List.nil_append, List.cons_append]
  have hBW : B < W.heap.size := by omega
  have c3' : (((W.alloc (.cells #[.func (.yield l) #[] #[]] 108)).alloc (.cells #[.int .i64 0, .bool false, .string ⟨#[]⟩] 41)).alloc (.cells #[.bool true] 4)).cell? ⟨B, 0, none⟩ = some (.func (.func g) #[] lb) :=
    (Below.cell (p := ⟨B, 0, none⟩) ((((Below.refl W.heap.size W).alloc (Nat.le_refl _) _).alloc (by simp) _).alloc (by simp; omega) _) hBW).trans c1'
  clear c1'
  gi_wp2
  refine fscope_in ?_
  gi_wp2
  refine wpIn_label ?_
  gi_wp2
  obtain ⟨W3, hW3⟩ : ∃ W3, (((W.alloc (.cells #[.func (.yield l) #[] #[]] 108)).alloc (.cells #[.int .i64 0, .bool false, .string ⟨#[]⟩] 41)).alloc (.cells #[.bool true] 4)) = W3 := ⟨_, rfl⟩
  simp only [hW3]
  obtain ⟨Bq, hBq⟩ : ∃ k, W.heap.size = k := ⟨_, rfl⟩
  have k3 : Below W.heap.size W W3 := by rw [← hW3]; exact (((Below.refl _ W).alloc (Nat.le_refl _) _).alloc (by simp) _).alloc (by simp; omega) _
  have s3 : W3.heap.size = Bq + 3 := by rw [← hW3, ← hBq]; simp
  have q3 : W3.heap[Bq]? = some (.cells #[.func (.yield l) #[] #[]] 108 (0, 0)) := by
    rw [← hW3, Below.heap_alloc _ _ _ (by simp; omega), Below.heap_alloc _ _ _ (by simp; omega), ← hBq]; exact World.alloc_heap_new W _
  have a3 : W3.heap[Bq + 1]? = some (.cells #[.int .i64 0, .bool false, .string ⟨#[]⟩] 41 (0, 0)) := by
    rw [← hW3, Below.heap_alloc _ _ _ (by simp; omega), ← hBq]
    have := World.alloc_heap_new (W.alloc (.cells #[.func (.yield l) #[] #[]] 108)) (.cells #[.int .i64 0, .bool false, .string ⟨#[]⟩] 41)
    rwa [World.size_alloc] at this
  have f3 : W3.heap[Bq + 2]? = some (.cells #[.bool true] 4 (0, 0)) := by
    rw [← hW3, ← hBq]
    have := World.alloc_heap_new ((W.alloc (.cells #[.func (.yield l) #[] #[]] 108)).alloc (.cells #[.int .i64 0, .bool false, .string ⟨#[]⟩] 41)) (.cells #[.bool true] 4)
    rwa [World.size_alloc, World.size_alloc] at this
  have I3 := Lib.hid (show DiI Bq (Bq + 1) (Bq + 2) l W.heap.size J [] W3 from ⟨q3, f3, ⟨0, false, [], a3, .inl rfl⟩, by have := k3.size; omega, HJ.out.bel J0.out k3⟩)
  have SEQ := (HH.out.next (k3.mono hn0)).2.2 (Bq + 3) W3 (Below.refl _ _) (by omega)
  have eg := HH.out.2.1
  simp only [hBq]
  clear hW3 q3 a3 f3 BB c3' J0 HH
  refine range_ks h1 (gf := g) (lb := lb) rfl eg SEQ (by omega) (by intro _; rfl) KpC.trans KpC.put
    (DiI Bq (Bq + 1) (Bq + 2) l W.heap.size J) (fun c _ X => c = .exit 0 ∧ ∃ p, p <+: mrgC none L ∧ Jx p X) ?hI ?hIx I3.out ?round ?done ?stop
  case hI => exact DiI.own HJ.out (by omega) (by omega) (by omega) (by omega)
  case hIx => exact fun c s X Y row ⟨h2, p, h3, h4⟩ hg hr => ⟨h2, p, h3, HX.out _ X Y row h4 hg (fun r e => ⟨by have := (hr r e).1; omega, (hr r e).2⟩)⟩
  case round =>
    rintro l2 pre x X hI hOk hsX
    simp only [encC, cvV]
    obtain ⟨p1, p2, p3, hg1, hg2⟩ := hI.a
    have HII := Lib.hid hI
    have HG := Lib.hid hg1
    have HOk := Lib.hid hOk
    have hsz := hI.sz
    have hnX : n0 ≤ X.heap.size := by omega
    have bX : RowKit.Below X.heap.size X (X.alloc (.cells #[.int .i64 x.t, .int .i64 x.of, .bool x.ds, .string ⟨x.ab.toArray⟩] 71)) := (Below.refl _ X).alloc (Nat.le_refl _) _
    clear hI hOk hg1
    gi_wp2
    refine ⟨⟨KeepsOthers.alloc X _, bX.mono hnX, KpC.below bX⟩, fun _ Yw => (DiI Bq (Bq + 1) (Bq + 2) l W.heap.size J pre Yw ∧ Yw.heap[Bq + 1]? = some (.cells #[.int .i64 p1, .bool p2, .string ⟨p3.toArray⟩] 41 (0, 0))) ∧ Yw.heap[X.heap.size]? = some (.cells #[.int .i64 x.t, .int .i64 x.of, .bool x.ds, .string ⟨x.ab.toArray⟩] 71 (0, 0)),
      OwnFrom.and (OwnFrom.and (fun s A' B' row h hg hr => (DiI.own HJ.out (by omega) (by omega) (by omega) (by omega)).from pre A' B' row h hg hr) (fun s A' B' row h hg hr => (hg.block _ (Array.getElem?_eq_some_iff.1 h).1 (fun e => by obtain ⟨-, o, ho, hc⟩ := hr _ e.symm; rw [h] at ho; cases ho; cases hc)).trans h)) (fun s A' B' row h hg hr => (hg.block _ (Array.getElem?_eq_some_iff.1 h).1 (fun e => by obtain ⟨-, o, ho, hc⟩ := hr _ e.symm; rw [h] at ho; cases ho; cases hc)).trans h),
      ⟨⟨HII.out.next HJ.out bX, (bX.block _ (Array.getElem?_eq_some_iff.1 HG.out).1).trans HG.out⟩, heap_alloc_new X _⟩, ?_⟩
    rintro W5 ⟨⟨hI5, hG5⟩, hF5⟩ hs5
    have H5 := Lib.hid hI5
    have G5 := Lib.hid hG5
    have F5 := Lib.hid hF5
    have hn5 : n0 ≤ W5.heap.size := by have := hI5.sz; omega
    have hw5 : W.heap.size ≤ W5.heap.size := hI5.sz
    have hX5 := (Array.getElem?_eq_some_iff.1 hF5).1
    obtain ⟨z0, z1, z2, z3⟩ := cel4 hF5
    have zq := cel1 hI5.q
    have zf := cel1 hI5.f
    obtain ⟨a0, a1, a2⟩ := cel3 hG5
    clear bX hI5 hG5 hF5 HII HG
    have V : ((pre.isEmpty = true ∧ pre = []) ∨ (pre.isEmpty = false ∧ ¬ x.of = p1) ∨ (pre.isEmpty = false ∧ x.of = p1 ∧ ¬ x.ds = p2) ∨ (pre.isEmpty = false ∧ x.of = p1 ∧ x.ds = p2 ∧ ¬ x.ab = p3)) ∨ (pre.isEmpty = false ∧ p1 = x.of ∧ p2 = x.ds ∧ p3 = x.ab) := by
      cases pre with
      | nil => exact .inl (.inl ⟨rfl, rfl⟩)
      | cons c pre =>
        by_cases q1 : x.of = p1
        · by_cases q2 : x.ds = p2
          · by_cases q3 : x.ab = p3
            · exact .inr ⟨rfl, q1.symm, q2.symm, q3.symm⟩
            · exact .inl (.inr (.inr (.inr ⟨rfl, q1, q2, q3⟩)))
          · exact .inl (.inr (.inr (.inl ⟨rfl, q1, q2⟩)))
        · exact .inl (.inr (.inl ⟨rfl, q1⟩))
    rcases V with V | ⟨hfs, rfl, rfl, rfl⟩
    · have YES : Hid (mrgC none (pre ++ [x]) = mrgC none pre ++ [x]) := Lib.hid (by
        rw [cmr_snoc, if_neg]
        intro he
        have hne : pre ≠ [] := by intro h; subst h; simp [endC] at he
        have h2 : endC none pre = some (p1, p2, p3) := hg2.resolve_left hne
        rw [h2] at he
        simp only [loC, Option.some.injEq, Prod.mk.injEq] at he
        rcases V with ⟨-, h⟩ | ⟨-, h⟩ | ⟨-, -, h⟩ | ⟨-, -, -, h⟩
        · exact hne h
        · exact h he.1.symm
        · exact h he.2.1.symm
        · exact h he.2.2.symm)
      have OK : Hid (mrgC none pre ++ [x] <+: mrgC none L) := Lib.hid (by
        obtain ⟨T, hT⟩ := HOk.out
        rw [← YES.out, ← hT, cmr_app (pre ++ [x]) T]; exact List.prefix_append _ _)
      obtain ⟨fn, tmps, assign, body, hy, hR⟩ := yield_inner (l' := l2) (m' := N - 1 - 1 - 1) (HYd.out (mrgC none pre) x W5 H5.out.j OK.out hw5)
      simp only [encC, cvV] at hy
      have FIN : Hid (∀ W9, J (mrgC none pre ++ [x]) W9 → RowKit.Below n0 W5 W9 → KpC m W5 W9 → KeepsOthers W5 W9 → ∀ a' : Act, postN W3.heap.size n0 (KpC (Bq + 3)) (DiI Bq (Bq + 1) (Bq + 2) l W.heap.size J) (fun c _ X => c = .exit 0 ∧ ∃ p, p <+: mrgC none L ∧ Jx p X) (pre ++ [x]) W5 .normal a'
          ((((W9.drew.setCell ⟨Bq + 1 + 1, 0, none⟩ (.bool false)).setCell ⟨Bq + 1, 0, none⟩ (.int .i64 x.of)).setCell ⟨Bq + 1, 1, none⟩ (.bool x.ds)).setCell ⟨Bq + 1, 2, none⟩ (.string ⟨x.ab.toArray⟩))) := Lib.hid (fun W9 hJ9 hk9 hkp9 hko9 a' => by
        have hQ9 := (hkp9 Bq _ _ _ (by omega) H5.out.q (by rfl)).trans H5.out.q
        have hG9 := (hkp9 (Bq + 1) _ _ _ (by omega) G5.out (by rfl)).trans G5.out
        have hf9 := (hkp9 (Bq + 2) _ _ _ (by omega) H5.out.f (by rfl)).trans H5.out.f
        have k8 : RowKit.Below W9.heap.size W9 W9.drew := (Below.refl _ _).drew
        have hf8 := (k8.block _ (Array.getElem?_eq_some_iff.1 hf9).1).trans hf9
        have hG8 := (k8.block _ (Array.getElem?_eq_some_iff.1 hG9).1).trans hG9
        have hQ8 := (k8.block _ (Array.getElem?_eq_some_iff.1 hQ9).1).trans hQ9
        have s9 := hk9.size
        obtain ⟨h1', h2', h3', h4', h5', h6', h7', h8'⟩ := dset_all (n0 := n0) (m := Bq + 3) x.of x.ds x.ab HJ.out (HJ.out.bel hJ9 k8) (by omega) (by omega) (by omega) hQ8 hG8 hf8 (by have := k8.size; omega)
        obtain ⟨W10, hW10⟩ : ∃ V, ((((W9.drew.setCell ⟨Bq + 1 + 1, 0, none⟩ (.bool false)).setCell ⟨Bq + 1, 0, none⟩ (.int .i64 x.of)).setCell ⟨Bq + 1, 1, none⟩ (.bool x.ds)).setCell ⟨Bq + 1, 2, none⟩ (.string ⟨x.ab.toArray⟩)) = V := ⟨_, rfl⟩
        rw [show Bq + 2 = Bq + 1 + 1 from rfl] at h1' h2' h3' h4' h5' h6' h7' h8'
        rw [hW10] at h1' h2' h3' h4' h5' h6' h7' h8' ⊢
        have ko : KeepsOthers W5 W9.drew := hko9.trans (KeepsOthers.of_grownBy (grown_bel k8 none) (fun j o e => by cases e))
        have kb : RowKit.Below n0 W5 W9.drew := hk9.trans (k8.mono (by omega))
        have kc : KpC (Bq + 3) W5 W9.drew := (hkp9.mono (by omega)).trans (KpC.below k8)
        refine ⟨⟨ko.trans h1', kb.trans h2', kc.trans h3'⟩, h5', ?_, ⟨_, _, _, h6', .inr (endC_snoc _ _ _)⟩, by omega, by rw [YES.out]; exact h4'⟩
        rw [show (pre ++ [x]).isEmpty = false by simp]; exact h7')
      rcases V with ⟨hfs, -⟩ | ⟨hfs, hq⟩ | ⟨hfs, rfl, hq2⟩ | ⟨hfs, rfl, rfl, hq3⟩
      all_goals
        rw [hfs] at zf
        gi_wp2
        refine ⟨fun _ => by omega, hR.mono ?_⟩
        rintro e W9 (⟨rfl, hJ9, hk9, hkp9, hko9⟩ | ⟨rfl, hJx9, hkf9⟩)
        · have hG9 := (hkp9 (Bq + 1) _ _ _ (by omega) G5.out (by rfl)).trans G5.out
          have hf9 := (hkp9 (Bq + 2) _ _ _ (by omega) H5.out.f (by rfl)).trans H5.out.f
          have hF9 := (hkp9 X.heap.size _ _ _ (by omega) F5.out (by rfl)).trans F5.out
          have FF := Lib.hid (FIN.out W9 hJ9 hk9 hkp9 hko9)
          obtain ⟨-, z1, z2, z3⟩ := cel4 hF9
          obtain ⟨a0, a1, a2⟩ := cel3 hG9
          have u0 : W9.cell? ⟨Bq + 1 + 1, 0, none⟩ = some (.bool pre.isEmpty) := cel1 hf9
          have e0 := frz (j := 0) hG9
          have e1 := frz (j := 1) hG9
          have e2 := frz (j := 2) hG9
          have e3 : W9.frozen? ⟨Bq + 1 + 1, 0, none⟩ = false := frz (j := 0) hf9
          clear hJ9 hk9 hkp9 hko9 hF9 hG9 hf9 hy hR zq zf
          gi_wp2
          gi_region
          all_goals
            gi_wp2
            exact FF.out _
        · have KF9 := Lib.hid hkf9
          have JX9 := Lib.hid hJx9
          clear hy hR hkf9 hJx9
          gi_wp2
          exact ⟨kfrom_mono KF9.out (by omega), rfl, _, OK.out, JX9.out⟩
    · have NO : Hid (mrgC none (pre ++ [x]) = mrgC none pre) := Lib.hid (by
        have hne : pre ≠ [] := by intro h; subst h; simp at hfs
        have h2 := hg2.resolve_left hne
        rw [cmr_snoc, h2, show some (x.of, x.ds, x.ab) = some (loC x) from rfl, if_pos rfl, List.append_nil])
      rw [hfs] at zf
      gi_wp2
      refine ⟨⟨KeepsOthers.refl _, Below.refl _ _, KpC.below (Below.refl _ _)⟩, H5.out.q, ?_, ⟨_, _, _, G5.out, .inr (endC_snoc _ _ _)⟩, hw5, by rw [NO.out]; exact H5.out.j⟩
      have := H5.out.f
      rw [hfs] at this
      rw [show (pre ++ [x]).isEmpty = false by simp]; exact this
  case done =>
    rintro D xs X hD hS hI hdf
    have JF := Lib.hid (HJ.out _ _ _ _ hI.j (grownBy_putObj' X D (.deferred none)) (fun r e => by injection e with e; subst e; exact ⟨by omega, _, hdf, .inl rfl⟩))
    have HS := Lib.hid hS
    clear hI hS
    gi_wp2
    rw [Exit.noGoto_normal]
    refine ⟨by simp, .inl ⟨D, _, rfl, run_takeDeferred hdf, ?_⟩⟩
    exact ⟨_, results_none rfl _ _ _, ⟨_, rfl⟩, .inl ⟨_, rfl, by have := JF.out; rwa [HS.out] at this⟩⟩
  case stop =>
    rintro D c pre X hD hSp ⟨rfl, p, hp, hx⟩ hdf
    have JF := Lib.hid (HX.out _ _ _ _ hx (grownBy_putObj' X D (.deferred none)) (fun r e => by injection e with e; subst e; exact ⟨by omega, _, hdf, .inl rfl⟩))
    have HP := Lib.hid hp
    clear hx hp hSp
    gi_wp2
    rw [Exit.noGoto_normal]
    refine ⟨by simp, .inl ⟨D, _, rfl, run_takeDeferred hdf, ?_⟩⟩
    exact ⟨_, results_none rfl _ _ _, ⟨_, rfl⟩, .inr ⟨_, HP.out, JF.out⟩⟩
end Go.Proofs.YtdmfgechoanmlaaGreatDoor
