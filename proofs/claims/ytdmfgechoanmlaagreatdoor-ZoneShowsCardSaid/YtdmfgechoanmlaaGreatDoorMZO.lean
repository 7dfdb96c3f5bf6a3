/- The contract of fire.nearest, downwards: the last firing below a second.
The contract of fire.Ahead: the last firing whose nominal second is below a second. -/
import Derived.Test.YtdmfgechoanmlaaGreatDoorMZI
import Derived.Test.YtdmfgechoanmlaaGreatDoorMZL
import Derived.Shelf.Abstract
namespace Go.Proofs.YtdmfgechoanmlaaGreatDoor
open Go Go.RowKit Go.Shelf
attribute [local go_sem] Oper.semAt_some
attribute [local go_sem] coV fvV

theorem zrun_store_func {P : Program} {w : World} {a : Addr} {m : Mode} (fn : Fn) (fs cs : Array Value) : (store a (.func fn fs cs) m).run P w = stored P w a (.func fn fs cs) m := run_store P w a _ m rfl
attribute [local go_sem] zrun_store_func
/-- What nearest holds. -/
structure NBk (B Bs : Nat) (Y s : Int) (f : FV) (y : Int) (b : Bool) (W : World) : Prop where
  co : W.heap[B]? = some (.cells #[.int .i64 Y, .int .i64 (-100000), .int .i64 (-1)] 192 (0, 0))
  fi : W.heap[B + 1]? = some (.cells #[.func (.func 121) #[] #[.pointer (some ⟨Bs, 0, none⟩)]] 194 (0, 0))
  re : W.heap[B + 2]? = some (.cells #[.int .i64 0, .int .i64 0, .int .i64 0, .string ⟨#[]⟩] 145 (0, 0))
  be : W.heap[B + 3]? = some (.cells #[.int .i64 f.nm, .int .i64 f.kd, .int .i64 f.sv, .string ⟨f.lt.toArray⟩] 145 (0, 0))
  yr : W.heap[B + 4]? = some (.cells #[.int .i64 y] 3 (0, 0))
  fo : W.heap[B + 5]? = some (.cells #[.bool b] 4 (0, 0))
  bt : W.heap[B + 6]? = some (.cells #[.func (.func 136) #[] #[.pointer (some ⟨B + 5, 0, none⟩), .pointer (some ⟨B, 0, none⟩), .pointer (some ⟨B + 3, 0, none⟩)]] 194 (0, 0))
  sc : W.cell? ⟨Bs, 0, none⟩ = some (.int .i64 s)
  lo : Bs < B
theorem NBk.below {B Bs : Nat} {Y s : Int} {f : FV} {y : Int} {b : Bool} {W W' : World} (h : NBk B Bs Y s f y b W) (k : Below (B + 7) W W') : NBk B Bs Y s f y b W' :=
  ⟨(k.block _ (by omega)).trans h.co, (k.block _ (by omega)).trans h.fi, (k.block _ (by omega)).trans h.re, (k.block _ (by omega)).trans h.be, (k.block _ (by omega)).trans h.yr, (k.block _ (by omega)).trans h.fo, (k.block _ (by omega)).trans h.bt, (k.cell (p := ⟨Bs, 0, none⟩) (by have := h.lo; show Bs < _; omega)).trans h.sc, h.lo⟩
theorem NBk.size {B Bs : Nat} {Y s : Int} {f : FV} {y : Int} {b : Bool} {W : World} (h : NBk B Bs Y s f y b W) : B + 7 ≤ W.heap.size := (Array.getElem?_eq_some_iff.1 h.bt).1
theorem NBk.next {B Bs : Nat} {Y s : Int} {f : FV} {y : Int} {b : Bool} {W W' : World} (h : NBk B Bs Y s f y b W) (k : Below W.heap.size W W') : NBk B Bs Y s f y b W' := h.below (k.mono h.size)
theorem NBk.own {β : Type} (B Bs D : Nat) (Y s : Int) (f : β → FV) (y : β → Int) (b : β → Bool) (hD : B + 7 ≤ D) : OwnFrom D (fun (x : β) W => NBk B Bs Y s (f x) (y x) (b x) W) := fun x W W' row h hg hr =>
  h.below ((Below.refl _ W).grown hg h.size (fun j hj => by have := (hr j hj).1; omega))

theorem fr_small {r : RV} {y : Int} (hr : okR r) (hf : frY r y) (h1 : -100000 ≤ y) (h2 : y ≤ 100000) : -4611686018427387904 ≤ (frF r y).nm ∧ (frF r y).nm ≤ 4611686018427387904 := by
  have := frF_bd hr hf
  have := ny_bd y (by omega) (by omega)
  omega
theorem NrSt.bd {rs : List RV} {s y Y : Int} {f : FV} {b : Bool} (h : NrSt rs s f y b) (hok : ∀ r ∈ rs, okR r ∧ 1900 ≤ r.fr) (hY : ySec s + 1 = Y) (hY1 : Y ≤ 99000) : (-100000 ≤ y ∧ y ≤ 100000) ∧ (-4611686018427387904 ≤ f.nm ∧ f.nm ≤ 4611686018427387904) := by
  rcases h with ⟨rfl, ⟨r, hr, hy, rfl⟩, h2, -⟩ | ⟨-, rfl, rfl, -⟩
  · have a1 := (hok r hr).2
    have a2 := hy.1
    have a3 := frF_low (hok r hr).1 hy h2
    have a4 : -100000 ≤ y ∧ y ≤ 100000 := by omega
    exact ⟨a4, fr_small (hok r hr).1 hy a4.1 a4.2⟩
  · exact ⟨by omega, by show _ ≤ (0 : Int) ∧ (0 : Int) ≤ _; omega⟩
theorem drop_one {rs : List RV} {i j n : Nat} {r : RV} (hj : j + 1 + i = n) (hr : rs[j]? = some r) : rs.drop (n - (i + 1)) = r :: rs.drop (n - i) := by
  rw [show n - (i + 1) = j by omega, show n - i = j + 1 by omega]
  obtain ⟨h1, h2⟩ := List.getElem?_eq_some_iff.1 hr
  rw [← h2]
  exact List.drop_eq_getElem_cons h1

theorem better_nb (g : FV) {f : FV} {b : Bool} {B Bs : Nat} {Y s y : Int} {W0 : World} (_ : NBk B Bs Y s f y b W0) (hf : -4611686018427387904 ≤ f.nm ∧ f.nm ≤ 4611686018427387904) (hg : -4611686018427387904 ≤ g.nm ∧ g.nm ≤ 4611686018427387904) :
    ∃ v, ((v = true ∧ (b = true → f.nm < g.nm)) ∨ (v = false ∧ b = true ∧ g.nm ≤ f.nm)) ∧ ∀ W, NBk B Bs Y s f y b W →
      Calls Tryz.prog 136 #[fvV g, .pointer (some ⟨B + 5, 0, none⟩), .pointer (some ⟨B, 0, none⟩), .pointer (some ⟨B + 3, 0, none⟩)] W fun e w' => e = .returned (.bool v) ∧ Below W.heap.size W w' := by
  refine ⟨(!b || decide (f.nm < g.nm)), ?_, fun W h => better_is g f b _ (B + 5) B (B + 3) W (cel1 h.fo) (cel3 h.co).2.2 (cel4 h.be).1 rfl hg hf⟩
  cases b
  · left; exact ⟨rfl, fun h => by cases h⟩
  · by_cases h : f.nm < g.nm
    · left; exact ⟨by simpa using h, fun _ => h⟩
    · right; exact ⟨by simpa using h, rfl, by omega⟩
/-- The world in which the best firing is another one. -/
def bstW (W : World) (B : Nat) (g : FV) (z : Int) : World := (((((W.setCell ⟨B + 3, 0, none⟩ (.int .i64 g.nm)).setCell ⟨B + 3, 1, none⟩ (.int .i64 g.kd)).setCell ⟨B + 3, 2, none⟩ (.int .i64 g.sv)).setCell ⟨B + 3, 3, none⟩ (.string ⟨g.lt.toArray⟩)).setCell ⟨B + 4, 0, none⟩ (.int .i64 z)).setCell ⟨B + 5, 0, none⟩ (.bool true)
theorem bstW_keeps (W : World) (B : Nat) (g : FV) (z : Int) : KeepsOthers W (bstW W B g z) := by
  unfold bstW
  exact (KeepsOthers.setCell _ _ _).trans ((KeepsOthers.setCell _ _ _).trans ((KeepsOthers.setCell _ _ _).trans ((KeepsOthers.setCell _ _ _).trans ((KeepsOthers.setCell _ _ _).trans (KeepsOthers.setCell _ _ _)))))
theorem bstW_below {n0 : Nat} {w W : World} {B : Nat} (g : FV) (z : Int) (h : Below n0 w W) (hB : n0 ≤ B) : Below n0 w (bstW W B g z) := by
  unfold bstW
  exact (((((h.setCell (p := ⟨B + 3, 0, none⟩) (by show n0 ≤ B + 3; omega) _).setCell (p := ⟨B + 3, 1, none⟩) (by show n0 ≤ B + 3; omega) _).setCell (p := ⟨B + 3, 2, none⟩) (by show n0 ≤ B + 3; omega) _).setCell (p := ⟨B + 3, 3, none⟩) (by show n0 ≤ B + 3; omega) _).setCell (p := ⟨B + 4, 0, none⟩) (by show n0 ≤ B + 4; omega) _).setCell (p := ⟨B + 5, 0, none⟩) (by show n0 ≤ B + 5; omega) _
theorem set4_blk {W : World} {k : Nat} {t : TypeId} {a b c d : Value} (x y z u : Value) (h : W.heap[k]? = some (.cells #[a, b, c, d] t (0, 0))) : ((((W.setCell ⟨k, 0, none⟩ x).setCell ⟨k, 1, none⟩ y).setCell ⟨k, 2, none⟩ z).setCell ⟨k, 3, none⟩ u).heap[k]? = some (.cells #[x, y, z, u] t (0, 0)) := by
  have := blk_set (i := 3) (blk_set (i := 2) (blk_set (i := 1) (blk_set (i := 0) h x) y) z) u
  simpa using this
theorem set1_blk {W : World} {k : Nat} {t : TypeId} {a : Value} (x : Value) (h : W.heap[k]? = some (.cells #[a] t (0, 0))) : (W.setCell ⟨k, 0, none⟩ x).heap[k]? = some (.cells #[x] t (0, 0)) := by
  have := blk_set (i := 0) h x
  simpa using this
theorem set4_other {W : World} {k j : Nat} (x y z u : Value) (h : j ≠ k) : ((((W.setCell ⟨k, 0, none⟩ x).setCell ⟨k, 1, none⟩ y).setCell ⟨k, 2, none⟩ z).setCell ⟨k, 3, none⟩ u).heap[j]? = W.heap[j]? := by
  rw [Below.heap_setCell _ _ _ _ h, Below.heap_setCell _ _ _ _ h, Below.heap_setCell _ _ _ _ h, Below.heap_setCell _ _ _ _ h]
theorem NBk.put {B Bs : Nat} {Y s : Int} {f : FV} {y : Int} {b : Bool} {W : World} (h : NBk B Bs Y s f y b W) (g : FV) (z : Int) : NBk B Bs Y s g z true (bstW W B g z) := by
  have hl := h.lo
  unfold bstW
  obtain ⟨k3, e3⟩ : ∃ k, B + 3 = k := ⟨_, rfl⟩
  obtain ⟨k4, e4⟩ : ∃ k, B + 4 = k := ⟨_, rfl⟩
  obtain ⟨k5, e5⟩ : ∃ k, B + 5 = k := ⟨_, rfl⟩
  have hbe := h.be
  have hyr := h.yr
  have hfo := h.fo
  rw [e3] at hbe
  rw [e4] at hyr
  rw [e5] at hfo
  rw [e3, e4, e5]
  have q1 := set4_blk (.int .i64 g.nm) (.int .i64 g.kd) (.int .i64 g.sv) (.string ⟨g.lt.toArray⟩) hbe
  have o1 : ∀ j, j ≠ k3 → _ := fun j hj => set4_other (W := W) (k := k3) (j := j) (.int .i64 g.nm) (.int .i64 g.kd) (.int .i64 g.sv) (.string ⟨g.lt.toArray⟩) hj
  generalize ((((W.setCell ⟨k3, 0, none⟩ (.int .i64 g.nm)).setCell ⟨k3, 1, none⟩ (.int .i64 g.kd)).setCell ⟨k3, 2, none⟩ (.int .i64 g.sv)).setCell ⟨k3, 3, none⟩ (.string ⟨g.lt.toArray⟩)) = W1 at q1 o1 ⊢
  have q2 := set1_blk (.int .i64 z) ((o1 k4 (by omega)).trans hyr)
  have o2 : ∀ j, j ≠ k4 → (W1.setCell ⟨k4, 0, none⟩ (.int .i64 z)).heap[j]? = W1.heap[j]? := fun j hj => Below.heap_setCell _ _ _ _ hj
  generalize W1.setCell ⟨k4, 0, none⟩ (.int .i64 z) = W2 at q2 o2 ⊢
  have q3 := set1_blk (.bool true) ((o2 k5 (by omega)).trans ((o1 k5 (by omega)).trans hfo))
  have o3 : ∀ j, j ≠ k5 → (W2.setCell ⟨k5, 0, none⟩ (.bool true)).heap[j]? = W2.heap[j]? := fun j hj => Below.heap_setCell _ _ _ _ hj
  generalize W2.setCell ⟨k5, 0, none⟩ (.bool true) = W3 at q3 o3 ⊢
  have o : ∀ k, k ≠ k3 → k ≠ k4 → k ≠ k5 → W3.heap[k]? = W.heap[k]? := fun k h3 h4 h5 => (o3 k h5).trans ((o2 k h4).trans (o1 k h3))
  exact ⟨(o B (by omega) (by omega) (by omega)).trans h.co, (o (B + 1) (by omega) (by omega) (by omega)).trans h.fi, (o (B + 2) (by omega) (by omega) (by omega)).trans h.re,
    by rw [e3]; exact (o3 k3 (by omega)).trans ((o2 k3 (by omega)).trans q1), by rw [e4]; exact (o3 k4 (by omega)).trans q2, by rw [e5]; exact q3,
    (o (B + 6) (by omega) (by omega) (by omega)).trans h.bt, (World.cell?_of_block (o Bs (by omega) (by omega) (by omega))).trans h.sc, h.lo⟩
/-- What a round keeps, and how the loop is left. -/
def NI (B Bs : Nat) (Y s : Int) (f : FV) (y : Int) (b : Bool) (ds : List Nat) (w : World) (pre : List (Int × FV)) (X : World) : Prop := NBk B Bs Y s f y b X ∧ DsOk w ds X ∧ Below w.heap.size w X ∧ ∀ x ∈ pre, s ≤ x.2.nm
def NIx (B Bs : Nat) (Y s : Int) (rs : List RV) (ds : List Nat) (w : World) (c : Code) (X : World) : Prop := (∃ f y b, c = .exit 1 ∧ NBk B Bs Y s f y b X ∧ NrSt rs s f y b) ∧ DsOk w ds X ∧ Below w.heap.size w X
theorem NI.own (B Bs D : Nat) (Y s : Int) (f : FV) (y : Int) (b : Bool) (ds : List Nat) (w : World) (hD : B + 7 ≤ D) (hw : w.heap.size ≤ D) (hds : ∀ x ∈ ds, x < D) : OwnFrom D (NI B Bs Y s f y b ds w) :=
  OwnFrom.and (NBk.own B Bs _ Y s (fun _ => f) (fun _ => y) (fun _ => b) hD) (OwnFrom.and (dsOk_own w _ ds hds) (OwnFrom.and (ownFrom_below (Nat.le_refl _) hw) (fun _ _ _ _ h _ _ => h)))
theorem NIx.own {β : Type} (B Bs D : Nat) (Y s : Int) (rs : List RV) (ds : List Nat) (w : World) (c : Code) (hD : B + 7 ≤ D) (hw : w.heap.size ≤ D) (hds : ∀ x ∈ ds, x < D) : OwnFrom D (fun (_ : β) X => NIx B Bs Y s rs ds w c X) :=
  OwnFrom.and (fun _ X Y' row ⟨f', y', b', hc, hnb, hst⟩ hg hr => ⟨f', y', b', hc, NBk.own (β := Unit) B Bs D Y s (fun _ => f') (fun _ => y') (fun _ => b') hD () X Y' row hnb hg hr, hst⟩) (OwnFrom.and (dsOk_own w _ ds hds) (ownFrom_below (Nat.le_refl _) hw))

/-- What the loop over the rules knows. -/
def NLp (B Bs : Nat) (Y s : Int) (rs : List RV) (n : Nat) (w : World) (i : Nat) (ds : List Nat) (W : World) : Prop := ∃ f y b, i ≤ n ∧ NBk B Bs Y s f y b W ∧ NrSt (rs.drop (n - i)) s f y b ∧ DsOk w ds W ∧ Below w.heap.size w W

set_option maxHeartbeats 4000000 in
set_option maxRecDepth 20000 in
theorem fnear_in (A0 : Option Addr) (n c0 Bs : Nat) (rs : List RV) (s Y : Int) (w : World) (hA : LaidF w) (hR : RowsAt 11 cR A0 rs w) (hn : rs.length = n) (hn1 : n ≤ 1000) (hok : ∀ r ∈ rs, okR r ∧ 1900 ≤ r.fr) (hY : ySec s + 1 = Y) (hY1 : Y ≤ 99000) (hs : w.cell? ⟨Bs, 0, none⟩ = some (.int .i64 s)) (N : Nat) (hN : 5 ≤ N) :
    CallsIn Fence.wide N Tryz.prog 118 #[.slice A0 n c0, coV Y (-100000) (-1), .func (.func 121) #[] #[.pointer (some ⟨Bs, 0, none⟩)]] w fun e w' => ∃ f b, e = .returned (.tuple #[fvV f, .bool b]) ∧ AheadIs rs s f b ∧ Below w.heap.size w w' := by
  have hmf : ∀ (fn : Fn) (first cap : Array Value) (w : World), (Instr.makeFunc fn first cap).run Tryz.prog w = .ok (.func fn first cap) w := fun _ _ _ _ => rfl
  have h1 : 1 ≤ N := by omega
  refine callsIn_of_wp_marks Tryz.func118 rfl trivial ?_ rfl
  simp only [Tryz.ntmps118, List.size_toArray, List.length_cons, List.length_nil, Nat.reduceAdd, Nat.reduceSub, Array.replicate_succ, Array.replicate_zero, List.push_toArray, List.append_toArray, List.nil_append, List.cons_append]
  unfold coV
  obtain ⟨B, hB⟩ : ∃ B, w.heap.size = B := ⟨_, rfl⟩
  obtain ⟨W0, hW0⟩ : ∃ W0, (((((((w.alloc (.cells #[.int .i64 Y, .int .i64 (-100000), .int .i64 (-1)] 192)).alloc (.cells #[.func (.func 121) #[] #[.pointer (some ⟨Bs, 0, none⟩)]] 194)).alloc (.cells #[.int .i64 0, .int .i64 0, .int .i64 0, .string ⟨#[]⟩] 145)).alloc (.cells #[.int .i64 0, .int .i64 0, .int .i64 0, .string ⟨#[]⟩] 145)).alloc (.cells #[.int .i64 0] 3)).alloc (.cells #[.bool false] 4)).alloc
    (.cells #[.func (.func 136) #[] #[.pointer (some ⟨B + 5, 0, none⟩), .pointer (some ⟨B, 0, none⟩), .pointer (some ⟨B + 3, 0, none⟩)]] 194)) = W0 := ⟨_, rfl⟩
  have k0 : Below w.heap.size w W0 := by rw [← hW0]; exact (((((((Below.refl _ w).alloc (Nat.le_refl _) _).alloc (by simp) _).alloc (by simp; omega) _).alloc (by simp; omega) _).alloc (by simp; omega) _).alloc (by simp; omega) _).alloc (by simp; omega) _
  have b0 : NBk B Bs Y s noF 0 false W0 := by
    have hl := cell_lt hs
    have e : ∀ (V : World) (o : Obj) (k : Nat), V.heap.size = k → (V.alloc o).heap[k]? = some o := fun V o k h => by rw [← h]; exact World.alloc_heap_new V o
    rw [← hW0]
    refine ⟨?_, ?_, ?_, ?_, ?_, ?_, ?_, ?_, by omega⟩
    · rw [Below.heap_alloc _ _ _ (by simp; omega), Below.heap_alloc _ _ _ (by simp; omega), Below.heap_alloc _ _ _ (by simp; omega), Below.heap_alloc _ _ _ (by simp; omega), Below.heap_alloc _ _ _ (by simp; omega), Below.heap_alloc _ _ _ (by simp; omega)]; exact e _ _ _ hB
    · rw [Below.heap_alloc _ _ _ (by simp; omega), Below.heap_alloc _ _ _ (by simp; omega), Below.heap_alloc _ _ _ (by simp; omega), Below.heap_alloc _ _ _ (by simp; omega), Below.heap_alloc _ _ _ (by simp; omega)]; exact e _ _ _ (by simp; omega)
    · rw [Below.heap_alloc _ _ _ (by simp; omega), Below.heap_alloc _ _ _ (by simp; omega), Below.heap_alloc _ _ _ (by simp; omega), Below.heap_alloc _ _ _ (by simp; omega)]; exact e _ _ _ (by simp; omega)
    · rw [Below.heap_alloc _ _ _ (by simp; omega), Below.heap_alloc _ _ _ (by simp; omega), Below.heap_alloc _ _ _ (by simp; omega)]; exact e _ _ _ (by simp; omega)
    · rw [Below.heap_alloc _ _ _ (by simp; omega), Below.heap_alloc _ _ _ (by simp; omega)]; exact e _ _ _ (by simp; omega)
    · rw [Below.heap_alloc _ _ _ (by simp; omega)]; exact e _ _ _ (by simp; omega)
    · exact e _ _ _ (by simp; omega)
    · rw [hW0]; exact (k0.cell (p := ⟨Bs, 0, none⟩) hl).trans hs
  have s0 : W0.heap.size = B + 7 := by rw [← hW0]; simp; omega
  have HA := Lib.hid hA
  have HR := Lib.hid hR
  have HN := Lib.hid hn
  have HK := Lib.hid hok
  have HY := Lib.hid hY
  have HB0 := Lib.hid b0
  have HK0 := Lib.hid k0
  have HBB := Lib.hid hB
  have HWW := Lib.hid hW0
  have S0 := Lib.hid s0
  clear hA hR hn hok hY hs b0 k0 hB hW0 s0
  gi_wp2
  refine fscope_in ?_
  gi_wp2
  refine wpIn_label ?_
  gi_wp2
  have hB := HBB.out
  have hW0 := HWW.out
  simp only [hB, Nat.add_assoc, Nat.reduceAdd, hW0]
  clear hB hW0
  refine wpIn_loop (fun A W => ∃ (i : Nat) (ds : List Nat) (u12 u13 u14 u15 u16 u22 u23 u24 u25 u26 u27 u28 u29 u30 u31 u32 u33 u34 u35 u36 u37 u38 u39 u40 u41 u42 u43 u44 u45 u46 u47 u48 u49 u50 u51 u52 u53 u54 u55 u56 u57 u58 u59 u60 u61 u62 u63 u64 u65 u66 u67 u68 u69 u70 u71 u72 u73 u74 : Value), NLp B Bs Y s rs n w i ds W ∧ A = { tmps := #[.slice A0 n c0, .agg #[.int .i64 Y, .int .i64 (-100000), .int .i64 (-1)], .func (.func 121) #[] #[.pointer (some ⟨Bs, 0, none⟩)], undef, .pointer (some ⟨B, 0, none⟩), .pointer (some ⟨B + 1, 0, none⟩), .pointer (some ⟨B + 2, 0, none⟩), .bool false, .pointer (some ⟨B + 3, 0, none⟩), .pointer (some ⟨B + 4, 0, none⟩), .pointer (some ⟨B + 5, 0, none⟩), .pointer (some ⟨B + 6, 0, none⟩), u12, u13, u14, u15, u16, .agg #[.int .i64 0, .int .i64 0, .int .i64 0, .string ⟨#[]⟩], .func (.func 136) #[] #[.pointer (some ⟨B + 5, 0, none⟩), .pointer (some ⟨B, 0, none⟩), .pointer (some ⟨B + 3, 0, none⟩)], .slice A0 n c0, .int .i64 n, .int .i64 ((i : Nat)), u22, u23, u24, u25, u26, u27, u28, u29, u30, u31, u32, u33, u34, u35, u36, u37, u38, u39, u40, u41, u42, u43, u44, u45, u46, u47, u48, u49, u50, u51, u52, u53, u54, u55, u56, u57, u58, u59, u60, u61, u62, u63, u64, u65, u66, u67, u68, u69, u70, u71, u72, u73, u74], defers := dsV ds }) (fun A _ => n - (intOf (A.tmps.getD 21 undef)).toNat) ?start ?round
  case start => exact ⟨0, [], undef, undef, undef, undef, undef, undef, undef, undef, undef, undef, undef, undef, undef, undef, undef, undef, undef, undef, undef, undef, undef, undef, undef, undef, undef, undef, undef, undef, undef, undef, undef, undef, undef, undef, undef, undef, undef, undef, undef, undef, undef, undef, undef, undef, undef, undef, undef, undef, undef, undef, undef, undef, undef, undef, undef, undef, undef, undef, ⟨noF, 0, false, Nat.zero_le _, HB0.out, by rw [List.drop_of_length_le (by rw [HN.out]; omega)]; exact NrSt.nil s, ⟨List.nodup_nil, by simp⟩, HK0.out⟩, rfl⟩
  case round =>
    clear HB0 HK0
    rintro _ W ⟨i, ds, u12, u13, u14, u15, u16, u22, u23, u24, u25, u26, u27, u28, u29, u30, u31, u32, u33, u34, u35, u36, u37, u38, u39, u40, u41, u42, u43, u44, u45, u46, u47, u48, u49, u50, u51, u52, u53, u54, u55, u56, u57, u58, u59, u60, u61, u62, u63, u64, u65, u66, u67, u68, u69, u70, u71, u72, u73, u74, ⟨f, y, b, hi, hNB, hSt, hDs, hBel⟩, rfl⟩
    by_cases hlt : i < n
    · have hltz : (i : Int) < (n : Int) := by omega
      obtain ⟨j, hj⟩ : ∃ j, j + 1 + i = n := ⟨n - 1 - i, by omega⟩
      have hjz : (n : Int) - 1 - (i : Int) = (j : Int) := by omega
      have hjn : (j : Int) < (n : Int) := by omega
      obtain ⟨r, hr⟩ : ∃ r, rs[j]? = some r := ⟨_, List.getElem?_eq_getElem (by rw [HN.out]; omega)⟩
      obtain ⟨L, off, rfl, hrul⟩ := rul_at HR.out hr
      have hL := hrul.1
      have RU := Lib.hid (hrul.next hBel)
      have OKr := Lib.hid (HK.out r (List.mem_of_getElem? hr))
      have DR := Lib.hid (drop_one hj hr)
      have OKs : Hid (∀ q ∈ rs.drop (n - i), okR q ∧ 1900 ≤ q.fr) := Lib.hid fun q hq => HK.out q (List.mem_of_mem_drop hq)
      obtain ⟨T, hT⟩ : ∃ T, min (min Y r.tl) 100000 = T := ⟨_, rfl⟩
      obtain ⟨F, hF⟩ : ∃ F, max (max (-100000) r.fr) (-100000) = F := ⟨_, rfl⟩
      have DY : Hid (DnY r (ySec s + 1) T F) := Lib.hid ⟨by rw [HY.out]; exact hT, hF⟩
      have hF1 : 1900 ≤ F := by have := OKr.out.2; omega
      have hT1 : T ≤ 99000 := by omega
      have PA := Lib.hid (fun X (h : RulAt L (off + j * 11) r X) => fpartd_is L (off + j * 11) r Y (-100000) F T X h hT hF)
      have HSt := Lib.hid hSt
      obtain ⟨⟨hy1, hy2⟩, hfb⟩ := hSt.bd OKs.out HY.out hY1
      have HFb := Lib.hid hfb
      have HNB := Lib.hid hNB
      have HDs := Lib.hid hDs
      have HBl := Lib.hid hBel
      obtain ⟨c0', c1', c2'⟩ := cel3 hNB.co
      have hsB := hNB.size
      clear hSt hNB hDs hBel hr hrul hT hF hfb
      by_cases hTF : F ≤ T
      · have HS : Hid (∀ X, Calls Tryz.prog 138 #[.agg #[.int .i64 T, .int .i64 F, .int .i64 (-1)], .int .i64 T] X fun e w' => e = .returned (.bool true) ∧ Below X.heap.size X w') := Lib.hid fun X => fhasd_is T F T true X (decide_eq_true hTF).symm
        have m0 : IntKind.i64.wrap (T - y) = T - y := IntWalk.i64_in _ (by omega)
        have m1 : IntKind.i64.wrap (-1 * (T - y)) = y - T := by rw [IntWalk.i64_in _ (by omega)]; omega
        by_cases hfar : b = true ∧ T + 2 ≤ y
        · obtain ⟨rfl, hy3⟩ := hfar
          have m2 : y - T > 1 := by omega
          have ST := Lib.hid (dn_far OKr.out.1 (fun q hq => (OKs.out q hq).1) DY.out (by have := OKr.out.2; omega) (by rw [HY.out]; exact hY1) HSt.out rfl hy3)
          gi_wp2_with (first
            | (refine ⟨trivial, ?_⟩; gi_at_call 137; refine (callsIn_wide.2 (PA.out _ RU.out)).mono ?_; rintro e w1 ⟨rfl, k1⟩
               have k2 := k1.trans ((Below.refl w1.heap.size w1).alloc (Nat.le_refl _) (.cells #[.int .i64 T, .int .i64 F, .int .i64 (-1)] 192) |>.mono k1.size)
               have NB2 := Lib.hid (HNB.out.next k2)
               have DS2 := Lib.hid (HDs.out.below k2)
               have BL2 := Lib.hid (HBl.out.trans (k2.mono HBl.out.size))
               have RU2 := Lib.hid (RU.out.next k2)
               have G2 := Lib.hid (heap_alloc_new w1 (.cells #[.int .i64 T, .int .i64 F, .int .i64 (-1)] 192))
               clear k1 k2 c0' c1' c2'
               obtain ⟨g0, g1, g2⟩ := cel3 G2.out
               simp only [coV])
            | (refine ⟨trivial, ?_⟩; gi_at_call 138; with_reducible refine (callsIn_wide.2 (HS.out _)).mono ?_; rintro e w3 ⟨rfl, k3⟩
               have NB3 := Lib.hid (NB2.out.next k3)
               have DS3 := Lib.hid (DS2.out.below k3)
               have BL3 := Lib.hid (BL2.out.trans (k3.mono BL2.out.size))
               have RU3 := Lib.hid (RU2.out.next k3)
               have G3 := Lib.hid ((k3.block w1.heap.size (Array.getElem?_eq_some_iff.1 G2.out).1).trans G2.out)
               clear k3 g0 g1 g2
               obtain ⟨g0, g1, g2⟩ := cel3 G3.out
               obtain ⟨e0', e1', e2'⟩ := cel3 NB3.out.co
               have e4' := cel1 NB3.out.yr
               have e5' := cel1 NB3.out.fo
               simp only []))
          refine ⟨⟨i + 1, ds, _, _, _, _, _, _, _, _, _, _, _, _, _, _, _, _, _, _, _, _, _, _, _, _, _, _, _, _, _, _, _, _, _, _, _, _, _, _, _, _, _, _, _, _, _, _, _, _, _, _, _, _, _, _, _, _, _, _, ⟨f, y, _, by omega, NB3.out, by rw [DR.out]; exact ST.out, DS3.out, BL3.out⟩, rfl⟩, ?_⟩
          simp [intOf]; omega
        · have m3 : b = true → ¬ (y - T > 1) := fun h hh => hfar ⟨h, by omega⟩
          have NF : Hid (¬ (b = true ∧ T + 2 ≤ y)) := Lib.hid hfar
          clear hfar
          have V : (b = true ∧ ¬ (y - T > 1)) ∨ b = false := by
            cases b
            · exact .inr rfl
            · exact .inl ⟨rfl, m3 rfl⟩
          clear m3
          rcases V with ⟨rfl, m2⟩ | rfl
          all_goals
            gi_wp2_with (first
              | (refine ⟨trivial, ?_⟩; gi_at_call 137; refine (callsIn_wide.2 (PA.out _ RU.out)).mono ?_; rintro e w1 ⟨rfl, k1⟩
                 have k2 := k1.trans ((Below.refl w1.heap.size w1).alloc (Nat.le_refl _) (.cells #[.int .i64 T, .int .i64 F, .int .i64 (-1)] 192) |>.mono k1.size)
                 have NB2 := Lib.hid (HNB.out.next k2)
                 have DS2 := Lib.hid (HDs.out.below k2)
                 have BL2 := Lib.hid (HBl.out.trans (k2.mono HBl.out.size))
                 have RU2 := Lib.hid (RU.out.next k2)
                 have G2 := Lib.hid (heap_alloc_new w1 (.cells #[.int .i64 T, .int .i64 F, .int .i64 (-1)] 192))
                 clear k1 k2 c0' c1' c2'
                 obtain ⟨g0, g1, g2⟩ := cel3 G2.out
                 simp only [coV])
              | (refine ⟨trivial, ?_⟩; gi_at_call 138; with_reducible refine (callsIn_wide.2 (HS.out _)).mono ?_; rintro e w3 ⟨rfl, k3⟩
                 have NB3 := Lib.hid (NB2.out.next k3)
                 have DS3 := Lib.hid (DS2.out.below k3)
                 have BL3 := Lib.hid (BL2.out.trans (k3.mono BL2.out.size))
                 have RU3 := Lib.hid (RU2.out.next k3)
                 have G3 := Lib.hid ((k3.block w1.heap.size (Array.getElem?_eq_some_iff.1 G2.out).1).trans G2.out)
                 clear k3 g0 g1 g2
                 obtain ⟨g0, g1, g2⟩ := cel3 G3.out
                 obtain ⟨e0', e1', e2'⟩ := cel3 NB3.out.co
                 have e4' := cel1 NB3.out.yr
                 have e5' := cel1 NB3.out.fo
                 simp only [])
              | (refine ⟨trivial, ?_⟩; gi_at_call 139; refine (callsIn_wide.2 (ffirings_is _ T F (-1) _)).mono ?_; rintro e w4 ⟨rfl, rfl⟩; simp only []))

            obtain ⟨W4, hW4⟩ : ∃ W4, ((w3.alloc (.cells #[.pointer (some ⟨L, off + j * 11, none⟩)] 178)).alloc (.cells #[.int .i64 T, .int .i64 F, .int .i64 (-1)] 192)) = W4 := ⟨_, rfl⟩
            have B4 : Hid (TwoB w3 w3.heap.size #[.pointer (some ⟨L, off + j * 11, none⟩)] 178 (w3.heap.size + 1) #[.int .i64 T, .int .i64 F, .int .i64 (-1)] 192 W4) := Lib.hid (by
              rw [← hW4]; exact ⟨BlkN.fst (w := w3) _ 178 _, BlkN.two w3 _ _ _⟩)
            have e4 : Below w3.heap.size w3 W4 := B4.out.a.bel
            have NB4 := Lib.hid (NB3.out.next e4)
            have DS4 := Lib.hid (DS3.out.below e4)
            have BL4 := Lib.hid (BL3.out.trans (e4.mono BL3.out.size))
            have RU4 := Lib.hid (RU3.out.next e4)
            have A4 := Lib.hid (HA.out.next BL4.out)
            have hs4 := B4.out.b.lt
            have hs3 := NB3.out.size
            have hAl := HA.out.ah.lt
            simp only [hW4]
            clear hW4 e4 e0' e1' e2' e4' e5' g0 g1 g2
            obtain ⟨q0, q1, q2⟩ := cel3 B4.out.b.blk
            obtain ⟨M, hM⟩ : ∃ M, (T + 1 - F).toNat = M := ⟨_, rfl⟩
            have hBw : w.heap.size = B := HBB.out
            refine range_kp h1 (gf := 155) (lb := #[.pointer (some ⟨w3.heap.size + 1, 0, none⟩), .pointer (some ⟨w3.heap.size, 0, none⟩)]) rfl (enters_of Tryz.func155 (by kernel_rfl) rfl)
              (firings_down (N - 1) (by omega) (w3.heap.size + 1) w3.heap.size L (off + j * 11) r T F F T M W4 RU4.out OKr.out.1 A4.out q0 q1 q2 B4.out.a.blk w.heap.size hL hAl (by have := DY.out.t; omega) (by have := DY.out.f; omega) hM (by omega) hT1) (by omega) (fun _ => rfl) KpT.trans KpT.put
              (NI B Bs Y s f y _ ds w) (fun c _ X => NIx B Bs Y s (r :: rs.drop (n - i)) ds w c X) ?hI ?hIx ⟨NB4.out, DS4.out, BL4.out, by simp⟩ ?round2 ?done ?stop
            case hI => exact NI.own B Bs _ Y s f y _ ds w (by omega) (by omega) (fun D hD => DS4.out.lt D hD)
            case hIx => exact fun c => NIx.own B Bs _ Y s _ ds w c (by omega) (by omega) (fun D hD => DS4.out.lt D hD)
            case round2 =>
              rintro l pre ⟨z, g⟩ X ⟨hnb, hds, hbl, hpre⟩ hOk hsX
              simp only [encF]
              clear hBw
              obtain ⟨hz, hgz⟩ : frY r z ∧ g = frF r z := by
                obtain ⟨post, hp⟩ := hOk
                exact (frB_mem (r := r) (T := T) (n := M) (x := (z, g)) (by rw [← hp]; simp)).2.2
              have hgb : -4611686018427387904 ≤ g.nm ∧ g.nm ≤ 4611686018427387904 := by
                obtain ⟨post, hp⟩ := hOk
                have h3 := frB_mem (r := r) (T := T) (n := M) (x := (z, g)) (by rw [← hp]; simp)
                rw [hgz]
                exact fr_small OKr.out.1 hz (by have := h3.1; simp only at this; omega) (by have := h3.2.1; simp only at this; omega)
              obtain ⟨v2, hv2, BT0⟩ := better_nb g hnb HFb.out hgb
              have BT := Lib.hid BT0
              have OK := Lib.hid hOk
              have HP := Lib.hid hpre
              have HZ := Lib.hid (And.intro hz hgz)
              clear BT0 hOk hpre hz hgz hgb
              have bX : RowKit.Below X.heap.size X (X.alloc (.cells #[.int .i64 g.nm, .int .i64 g.kd, .int .i64 g.sv, .string ⟨g.lt.toArray⟩] 145)) := (Below.refl _ X).alloc (Nat.le_refl _) _
              gi_wp2
              refine ⟨⟨KeepsOthers.alloc X _, bX.mono (by have := HBB.out; omega), KpT.below bX⟩, fun _ Yw => (NBk B Bs Y s f y _ Yw ∧ DsOk w ds Yw ∧ Below w.heap.size w Yw) ∧ Yw.heap[X.heap.size]? = some (.cells #[.int .i64 g.nm, .int .i64 g.kd, .int .i64 g.sv, .string ⟨g.lt.toArray⟩] 145 (0, 0)),
                OwnFrom.and (OwnFrom.and (NBk.own B Bs _ Y s (fun _ => f) (fun _ => y) (fun _ => _) (by have := HBB.out; omega)) (OwnFrom.and (dsOk_own w _ ds (fun D hD => DS4.out.lt D hD)) (ownFrom_below (Nat.le_refl _) (by have := HBB.out; omega)))) (fun s' A' B' row h hg hr => (hg.block _ (Array.getElem?_eq_some_iff.1 h).1 (fun e => by obtain ⟨-, o, ho, hc⟩ := hr _ e.symm; rw [h] at ho; cases ho; cases hc)).trans h),
                ⟨⟨hnb.next bX, hds.below bX, hbl.trans (bX.mono hbl.size)⟩, heap_alloc_new X _⟩, ?_⟩
              rintro W5 ⟨⟨hnb5, hds5, hbl5⟩, hblk⟩ hsz5
              clear bX hnb hds hbl
              obtain ⟨y0, y1, y2, y3⟩ := cel4 hblk
              have x1 := cel1 hnb5.fi
              have HBLK := Lib.hid hblk
              have HN5 := Lib.hid hnb5
              have HD5 := Lib.hid hds5
              have HL5 := Lib.hid hbl5
              clear hblk hnb5 hds5 hbl5
              gi_wp2
              obtain ⟨v, hv⟩ : ∃ v, decide (g.nm < s) = v := ⟨_, rfl⟩
              refine ⟨trivial, fun _ => by omega, CallsIn.inRound l (callsIn_wide.2 ((fits_is g Bs s v W5 HN5.out.sc hv).mono ?_))⟩
              rintro e w6 ⟨rfl, k6⟩
              have hs6 := k6.size
              have hs5 := HL5.out.size
              have KO := Lib.hid (KeepsOthers.of_grownBy (grown_bel k6 none) (fun j o e => by cases e))
              have HN6 := Lib.hid (HN5.out.next k6)
              have HD6 := Lib.hid (HD5.out.below k6)
              have HL6 := Lib.hid (HL5.out.trans (k6.mono HL5.out.size))
              have HK6 := Lib.hid k6
              have hblk6 := (k6.block _ (Array.getElem?_eq_some_iff.1 HBLK.out).1).trans HBLK.out
              clear y0 y1 y2 y3 x1 k6
              obtain ⟨y0, y1, y2, y3⟩ := cel4 hblk6
              have x6 := cel1 HN6.out.bt
              have HBLK6 := Lib.hid hblk6
              clear hblk6
              simp only []
              cases v with
              | false =>
                have hns : s ≤ g.nm := by simpa using hv
                clear hv hv2
                gi_wp2
                refine ⟨⟨KO.out, HK6.out.mono (by have := HBB.out; omega), KpT.below HK6.out⟩, HN6.out, HD6.out, HL6.out, fun x hx => ?_⟩
                rcases List.mem_append.1 hx with hx | hx
                · exact HP.out x hx
                · rw [List.mem_singleton.1 hx]; exact hns
              | true =>
                have hgs : g.nm < s := by simpa using hv
                have ONE := Lib.hid (dn_one OKr.out.1 DY.out (by have := OKr.out.2; omega) (by rw [HY.out]; exact hY1) (by rw [hM]; exact OK.out) HP.out)
                clear hv
                gi_wp2
                refine ⟨trivial, fun _ => by omega, CallsIn.inRound l (callsIn_wide.2 ((BT.out w6 HN6.out).mono ?_))⟩
                rintro e w7 ⟨rfl, k7⟩
                have KO7 := Lib.hid (KO.out.trans (KeepsOthers.of_grownBy (grown_bel k7 none) (fun j o e => by cases e)))
                have HN7 := Lib.hid (HN6.out.next k7)
                have HD7 := Lib.hid (HD6.out.below k7)
                have HL7 := Lib.hid (HL6.out.trans (k7.mono HL6.out.size))
                have hblk7 := (k7.block _ (Array.getElem?_eq_some_iff.1 HBLK6.out).1).trans HBLK6.out
                clear y0 y1 y2 y3 x6 k7
                obtain ⟨y0, y1, y2, y3⟩ := cel4 hblk7
                obtain ⟨b0', b1', b2', b3'⟩ := cel4 HN7.out.be
                have b4' := cel1 HN7.out.yr
                have b5' := cel1 HN7.out.fo
                have f0 := frz (j := 0) HN7.out.be
                have f1 := frz (j := 1) HN7.out.be
                have f2 := frz (j := 2) HN7.out.be
                have f3 := frz (j := 3) HN7.out.be
                have f4 := frz (j := 0) HN7.out.yr
                have f5 := frz (j := 0) HN7.out.fo
                clear hblk7
                simp only []
                rcases hv2 with ⟨rfl, ht⟩ | ⟨rfl, hb', ht⟩
                · have ST : Hid (NrSt (r :: rs.drop (n - i)) s g z true) := Lib.hid (by
                    obtain ⟨q1, q2, q3⟩ := ONE.out
                    have := HSt.out.take q1 (by rw [← q2]; exact hgs) (by rw [← q2]; first | exact fun _ => ht trivial | exact ht | exact fun h => by cases h) (by rw [← q2]; exact q3)
                    rwa [← q2] at this)
                  gi_wp2
                  exact ⟨KO7.out.trans (bstW_keeps w7 B g z), ⟨g, z, true, rfl, HN7.out.put g z, ST.out⟩, HD7.out.keep (bstW_keeps w7 B g z), bstW_below g z HL7.out (by have := HBB.out; omega)⟩
                · have ST := Lib.hid (HSt.out.skip (r := r) fun x hx hl => ⟨by first | rfl | exact hb', Int.le_trans (ONE.out.2.2 x hx hl) ht⟩)
                  gi_wp2
                  exact ⟨KO7.out, ⟨f, y, _, rfl, HN7.out, ST.out⟩, HD7.out, HL7.out⟩
            case done =>
              rintro D xs X hD rfl ⟨hnb, hds, hbl, hpre⟩ hdf
              have ST := Lib.hid (dn_all OKr.out.1 DY.out (by have := OKr.out.2; omega) (by rw [HY.out]; exact hY1) HSt.out (by rw [hM]; exact hpre))
              have hBw := HBB.out
              have hdd := Lib.hid (hds.more (by omega) (fun x hx => by have := DS4.out.lt x hx; omega) hdf)
              have HN5 := Lib.hid hnb
              have HB5 := Lib.hid hbl
              clear hnb hds hbl hpre hdf hBw
              gi_wp2
              refine ⟨⟨i + 1, D :: ds, _, _, _, _, _, _, _, _, _, _, _, _, _, _, _, _, _, _, _, _, _, _, _, _, _, _, _, _, _, _, _, _, _, _, _, _, _, _, _, _, _, _, _, _, _, _, _, _, _, _, _, _, _, _, _, _, _, _, ⟨_, _, _, by omega, HN5.out, by rw [DR.out]; exact ST.out, hdd.out, HB5.out⟩, rfl⟩, ?_⟩
              simp [intOf]; omega
            case stop =>
              rintro D c pre X hD hSp ⟨⟨f', y', b', rfl, hnb, hst⟩, hds, hbl⟩ hdf
              have hBw := HBB.out
              have hdd := Lib.hid (hds.more (by omega) (fun x hx => by have := DS4.out.lt x hx; omega) hdf)
              have HN5 := Lib.hid hnb
              have HB5 := Lib.hid hbl
              have ST := Lib.hid hst
              clear hnb hds hbl hdf hst hBw
              gi_wp2
              refine ⟨⟨i + 1, D :: ds, _, _, _, _, _, _, _, _, _, _, _, _, _, _, _, _, _, _, _, _, _, _, _, _, _, _, _, _, _, _, _, _, _, _, _, _, _, _, _, _, _, _, _, _, _, _, _, _, _, _, _, _, _, _, _, _, _, _, ⟨_, _, _, by omega, HN5.out, by rw [DR.out]; exact ST.out, hdd.out, HB5.out⟩, rfl⟩, ?_⟩
              simp [intOf]; omega
      · have HS : Hid (∀ X, Calls Tryz.prog 138 #[.agg #[.int .i64 T, .int .i64 F, .int .i64 (-1)], .int .i64 T] X fun e w' => e = .returned (.bool false) ∧ Below X.heap.size X w') := Lib.hid fun X => fhasd_is T F T false X (decide_eq_false hTF).symm
        have ST := Lib.hid (dn_none OKr.out.1 DY.out (by have := OKr.out.2; omega) (by rw [HY.out]; exact hY1) HSt.out (by omega))
        gi_wp2_with (first
          | (refine ⟨trivial, ?_⟩; gi_at_call 137; refine (callsIn_wide.2 (PA.out _ RU.out)).mono ?_; rintro e w1 ⟨rfl, k1⟩
             have k2 := k1.trans ((Below.refl w1.heap.size w1).alloc (Nat.le_refl _) (.cells #[.int .i64 T, .int .i64 F, .int .i64 (-1)] 192) |>.mono k1.size)
             have NB2 := Lib.hid (HNB.out.next k2)
             have DS2 := Lib.hid (HDs.out.below k2)
             have BL2 := Lib.hid (HBl.out.trans (k2.mono HBl.out.size))
             have RU2 := Lib.hid (RU.out.next k2)
             have G2 := Lib.hid (heap_alloc_new w1 (.cells #[.int .i64 T, .int .i64 F, .int .i64 (-1)] 192))
             clear k1 k2 c0' c1' c2'
             obtain ⟨g0, g1, g2⟩ := cel3 G2.out
             simp only [coV])
          | (refine ⟨trivial, ?_⟩; gi_at_call 138; with_reducible refine (callsIn_wide.2 (HS.out _)).mono ?_; rintro e w3 ⟨rfl, k3⟩
             have NB3 := Lib.hid (NB2.out.next k3)
             have DS3 := Lib.hid (DS2.out.below k3)
             have BL3 := Lib.hid (BL2.out.trans (k3.mono BL2.out.size))
             have RU3 := Lib.hid (RU2.out.next k3)
             have G3 := Lib.hid ((k3.block w1.heap.size (Array.getElem?_eq_some_iff.1 G2.out).1).trans G2.out)
             clear k3 g0 g1 g2
             obtain ⟨g0, g1, g2⟩ := cel3 G3.out
             obtain ⟨e0', e1', e2'⟩ := cel3 NB3.out.co
             have e4' := cel1 NB3.out.yr
             have e5' := cel1 NB3.out.fo
             simp only []))
        refine ⟨⟨i + 1, ds, ⟨f, y, b, by omega, NB3.out, by rw [DR.out]; exact ST.out, DS3.out, BL3.out⟩, by rw [Int.natCast_add]; rfl, rfl⟩, ?_⟩
        simp [intOf]; omega
    · obtain rfl : i = n := by omega
      have hltz : ¬ (i : Int) < (i : Int) := by omega
      rw [Nat.sub_self, List.drop_zero] at hSt
      have ST := Lib.hid hSt.ahead
      obtain ⟨b0', b1', b2', b3'⟩ := cel4 hNB.be
      obtain ⟨r0', r1', r2', r3'⟩ := cel4 hNB.re
      have b5' := cel1 hNB.fo
      have f0 := frz (j := 0) hNB.re
      have f1 := frz (j := 1) hNB.re
      have f2 := frz (j := 2) hNB.re
      have f3 := frz (j := 3) hNB.re
      have HN5 := Lib.hid hNB
      have HD5 := Lib.hid hDs
      have HL5 := Lib.hid hBel
      clear hSt hNB hDs hBel
      gi_wp2
      have mixed : Tryz.prog.follows .mixedOrders = true := by kernel_rfl
      refine wpIn_calm ?_
      refine wpIn_wide.2 ?_
      go_region
      all_goals
        simp only [calmQ]
        gi_wp2
        rw [Exit.noGoto_ret]
        have N6 := set4_blk (.int .i64 f.nm) (.int .i64 f.kd) (.int .i64 f.sv) (.string ⟨f.lt.toArray⟩) HN5.out.re
        have hK : KeepsOthers W ((((W.setCell ⟨B + 2, 0, none⟩ (.int .i64 f.nm)).setCell ⟨B + 2, 1, none⟩ (.int .i64 f.kd)).setCell ⟨B + 2, 2, none⟩ (.int .i64 f.sv)).setCell ⟨B + 2, 3, none⟩ (.string ⟨f.lt.toArray⟩)) := (KeepsOthers.setCell _ _ _).trans ((KeepsOthers.setCell _ _ _).trans ((KeepsOthers.setCell _ _ _).trans (KeepsOthers.setCell _ _ _)))
        have hq : w.heap.size ≤ B + 2 := by have := HBB.out; omega
        have hB6 := (((HL5.out.setCell (p := ⟨B + 2, 0, none⟩) hq (.int .i64 f.nm)).setCell (p := ⟨B + 2, 1, none⟩) hq (.int .i64 f.kd)).setCell (p := ⟨B + 2, 2, none⟩) hq (.int .i64 f.sv)).setCell (p := ⟨B + 2, 3, none⟩) hq (.string ⟨f.lt.toArray⟩)
        have hD6 := HD5.out.keep hK
        generalize ((((W.setCell ⟨B + 2, 0, none⟩ (.int .i64 f.nm)).setCell ⟨B + 2, 1, none⟩ (.int .i64 f.kd)).setCell ⟨B + 2, 2, none⟩ (.int .i64 f.sv)).setCell ⟨B + 2, 3, none⟩ (.string ⟨f.lt.toArray⟩)) = W6 at N6 hB6 hD6 ⊢
        have hD7 : DsOk w ds W6.drew := ⟨hD6.1, hD6.2⟩
        have hB7 : Below w.heap.size w W6.drew := hB6.trans ((Below.refl _ W6).drew.mono hB6.size)
        have N7 : W6.drew.heap[B + 2]? = some (.cells #[.int .i64 f.nm, .int .i64 f.kd, .int .i64 f.sv, .string ⟨f.lt.toArray⟩] 145 (0, 0)) := N6
        refine leaves_all w ds _ hD7 fun W' b' kp => ?_
        obtain ⟨c0', c1', c2', c3'⟩ := cel4 ((kp (B + 2) _ _ _ N7 rfl).trans N7)
        exact ⟨.tuple #[fvV f, .bool b], by simp [results, Tryz.results118, go_sem, c0', c1', c2', c3'], f, b, rfl, ST.out, hB7.trans b'⟩
end Go.Proofs.YtdmfgechoanmlaaGreatDoor

namespace Go.Proofs.YtdmfgechoanmlaaGreatDoor
open Go Go.RowKit
attribute [local go_sem] coV fvV

set_option maxRecDepth 20000 in
theorem fahead_is (A0 : Option Addr) (n c0 : Nat) (rs : List RV) (s : Int) (w : World) (hA : LaidF w) (hR : RowsAt 11 cR A0 rs w) (hn : rs.length = n) (hn1 : n ≤ 1000) (hok : ∀ r ∈ rs, okR r ∧ 1900 ≤ r.fr) (hs : inS s) (hY1 : ySec s + 1 ≤ 99000) (hY0 : -99000 ≤ ySec s) :
    Calls Tryz.prog 94 #[.slice A0 n c0, .int .i64 s] w fun e w' => ∃ f b, e = .returned (.tuple #[fvV f, .bool b]) ∧ AheadIs rs s f b ∧ Below w.heap.size w w' := by
  have hmf : ∀ (fn : Fn) (first cap : Array Value) (w : World), (Instr.makeFunc fn first cap).run Tryz.prog w = .ok (.func fn first cap) w := fun _ _ _ _ => rfl
  obtain ⟨y, hy⟩ : ∃ y, ySec s = y := ⟨_, rfl⟩
  have X : Hid (TwoB w w.heap.size #[.int .i64 s] 3 (w.heap.size + 1) #[.int .i64 0, .int .i64 0, .int .i64 0, .string ⟨#[]⟩] 145 ((w.alloc (.cells #[.int .i64 s] 3)).alloc (.cells #[.int .i64 0, .int .i64 0, .int .i64 0, .string ⟨#[]⟩] 145))) :=
    ⟨BlkN.fst (w := w) _ 3 _, BlkN.two w _ _ _⟩
  have YO := Lib.hid (fun W (h : LaidF W) => yearOf_is s y W h.ah hs hy)
  have DN := Lib.hid (fun a W => fdown_is a W)
  have NR := Lib.hid (fun W (h1 : LaidF W) (h2 : RowsAt 11 cR A0 rs W) (Bs : Nat) (h3 : W.cell? ⟨Bs, 0, none⟩ = some (.int .i64 s)) => callsIn_wide.1 (fnear_in A0 n c0 Bs rs s (y + 1) W h1 h2 hn hn1 hok (by omega) (by omega) h3 5 (Nat.le_refl _)))
  have HA := Lib.hid hA
  have HR := Lib.hid hR
  have x0 := cel1 X.out.a.blk
  rw [hy] at hY0 hY1
  have hyb : IntKind.i64.wrap (y + 1) = y + 1 := IntWalk.i64_in _ (by omega)
  clear hA hR hok hs hy hY0 hY1
  go_enter Tryz.func94, Tryz.ntmps94
  go_wp2_with (first
    | (go_at_call 120; refine (YO.out _ (HA.out.next X.out.a.bel)).mono ?_; rintro e w1 ⟨rfl, k1⟩
       have X1 := Lib.hid (X.out.next k1)
       clear k1 x0
       simp only [])
    | (go_at_call 119; refine (DN.out _ _).mono ?_; rintro e w2 ⟨rfl, k2⟩
       have X2 := Lib.hid (X1.out.next k2)
       clear k2
       simp only [coV])
    | (go_at_call 118; refine (NR.out _ (HA.out.next X2.out.a.bel) (HR.out.next X2.out.a.bel) w.heap.size (cel1 X2.out.a.blk)).mono ?_; rintro e w3 ⟨f, b, rfl, h3, k3⟩
       have X3 := Lib.hid (X2.out.b.next k3)
       have H3 := Lib.hid h3
       clear k3 h3
       obtain ⟨c0, c1, c2, c3⟩ := cel4 X3.out.blk
       have f0 := frz (j := 0) X3.out.blk
       have f1 := frz (j := 1) X3.out.blk
       have f2 := frz (j := 2) X3.out.blk
       have f3 := frz (j := 3) X3.out.blk
       simp only [fvV]))
  refine (X3.out.set4).ret fun W' B => ?_
  obtain ⟨c0, c1, c2, c3⟩ := cel4 B.blk
  refine bodyPost_ret (by simp [results, Tryz.results94, go_sem, c0, c1, c2, c3]) rfl ⟨f, b, rfl, H3.out, B.bel⟩
end Go.Proofs.YtdmfgechoanmlaaGreatDoor
