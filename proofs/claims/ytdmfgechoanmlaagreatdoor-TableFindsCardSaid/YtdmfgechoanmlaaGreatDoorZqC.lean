/- What a stretch without rules shows: table's shown, and what its iterator hands on. -/
import Derived.Test.YtdmfgechoanmlaaGreatDoorTbA
import Derived.Test.YtdmfgechoanmlaaGreatDoorZqB
import Derived.Test.YtdmfgechoanmlaaGreatDoorZnH
import Derived.Test.YtdmfgechoanmlaaGreatDoorMYA
namespace Go.Proofs.YtdmfgechoanmlaaGreatDoor
open Go Go.RowKit Go.Sort Go.Shelf
attribute [local go_sem] Oper.semAt_some

/-- An era without rules, where it begins, and where it ends. -/
abbrev SX := EV × Int × Int
def cSx (x : SX) : Array Value := #[.int .i64 x.1.of, .string ⟨x.1.rl.toArray⟩, .int .i64 x.1.sv, .string ⟨x.1.fm.toArray⟩, .bool x.1.en, .int .i64 x.1.uy, .int .i64 x.1.um, .int .i64 x.1.dk, .int .i64 x.1.dw, .int .i64 x.1.dn, .int .i64 x.1.sc, .int .i64 x.1.ck, .slice none 0 0, .int .i64 x.2.1, .int .i64 x.2.2]
def svX (x : SX) : Value := .agg (cSx x)
def loS (e : EV) : LoV := (e.of + e.sv, e.sv != 0, shS e.fm (e.of + e.sv) (e.sv != 0) [])
structure PlE (e : EV) : Prop where
  rl : e.rl.isEmpty = true
  fm : e.fm.length ≤ 1000
  o1 : -90000 < e.of
  o2 : e.of < 90000
  v1 : -90000 < e.sv
  v2 : e.sv < 90000
  pl : plE e = 0
/-- What a stretch shows from an instant up to another one. -/
def seL (a b : Int) (x : SX) : List CV := if max x.2.1 a ≤ min (x.2.2 - 1) b then [⟨max x.2.1 a, (loS x.1).1, (loS x.1).2.1, (loS x.1).2.2⟩] else []
/-- What the iterator reads. -/
structure ShB (Bb Bl Bs : Nat) (p q : Int) (x : SX) (W : World) : Prop where
  bb : W.heap[Bb]? = some (.cells #[.int .i64 p] 3 (0, 0))
  bl : W.heap[Bl]? = some (.cells #[.int .i64 q] 3 (0, 0))
  bs : W.heap[Bs]? = some (.cells (cSx x) 160 (0, 0))
theorem ShB.next {Bb Bl Bs : Nat} {p q : Int} {x : SX} {W W' : World} (h : ShB Bb Bl Bs p q x W) (k : Below W.heap.size W W') : ShB Bb Bl Bs p q x W' :=
  ⟨(k.block _ (Array.getElem?_eq_some_iff.1 h.bb).1).trans h.bb, (k.block _ (Array.getElem?_eq_some_iff.1 h.bl).1).trans h.bl, (k.block _ (Array.getElem?_eq_some_iff.1 h.bs).1).trans h.bs⟩
theorem cells15 {W : World} {g : Nat} {t : TypeId} {v0 v1 v2 v3 v4 v5 v6 v7 v8 v9 v10 v11 v12 v13 v14 : Value} (h : W.heap[g]? = some (.cells #[v0, v1, v2, v3, v4, v5, v6, v7, v8, v9, v10, v11, v12, v13, v14] t (0, 0))) :
    (W.cell? ⟨g, 0, none⟩ = some v0 ∧ W.cell? ⟨g, 1, none⟩ = some v1 ∧ W.cell? ⟨g, 2, none⟩ = some v2 ∧ W.cell? ⟨g, 3, none⟩ = some v3 ∧ W.cell? ⟨g, 4, none⟩ = some v4 ∧ W.cell? ⟨g, 5, none⟩ = some v5 ∧ W.cell? ⟨g, 6, none⟩ = some v6 ∧ W.cell? ⟨g, 7, none⟩ = some v7 ∧ W.cell? ⟨g, 8, none⟩ = some v8 ∧ W.cell? ⟨g, 9, none⟩ = some v9) ∧ W.cell? ⟨g, 10, none⟩ = some v10 ∧ W.cell? ⟨g, 11, none⟩ = some v11 ∧ W.cell? ⟨g, 12, none⟩ = some v12 ∧ W.cell? ⟨g, 13, none⟩ = some v13 ∧ W.cell? ⟨g, 14, none⟩ = some v14 :=
  ⟨⟨cell_of_row W g 0 _ _ _ h, cell_of_row W g 1 _ _ _ h, cell_of_row W g 2 _ _ _ h, cell_of_row W g 3 _ _ _ h, cell_of_row W g 4 _ _ _ h, cell_of_row W g 5 _ _ _ h, cell_of_row W g 6 _ _ _ h, cell_of_row W g 7 _ _ _ h, cell_of_row W g 8 _ _ _ h, cell_of_row W g 9 _ _ _ h⟩, cell_of_row W g 10 _ _ _ h, cell_of_row W g 11 _ _ _ h, cell_of_row W g 12 _ _ _ h, cell_of_row W g 13 _ _ _ h, cell_of_row W g 14 _ _ _ h⟩
theorem blocks3 (w : World) (C0 C1 C2 : Array Value) (t0 t1 t2 : TypeId) :
    Below w.heap.size w (((w.alloc (.cells C0 t0)).alloc (.cells C1 t1)).alloc (.cells C2 t2)).drew ∧ (((w.alloc (.cells C0 t0)).alloc (.cells C1 t1)).alloc (.cells C2 t2)).drew.heap.size = w.heap.size + 3 ∧
      (((w.alloc (.cells C0 t0)).alloc (.cells C1 t1)).alloc (.cells C2 t2)).drew.heap[w.heap.size]? = some (.cells C0 t0 (0, 0)) ∧ (((w.alloc (.cells C0 t0)).alloc (.cells C1 t1)).alloc (.cells C2 t2)).drew.heap[w.heap.size + 1]? = some (.cells C1 t1 (0, 0)) ∧ (((w.alloc (.cells C0 t0)).alloc (.cells C1 t1)).alloc (.cells C2 t2)).drew.heap[w.heap.size + 1 + 1]? = some (.cells C2 t2 (0, 0)) := by
  refine ⟨((((Below.refl _ w).alloc (Nat.le_refl _) _).alloc (by simp) _).alloc (by simp; omega) _).drew, by show (World.alloc _ _).heap.size = _; simp, ?_, ?_, ?_⟩
  · show (World.alloc _ _).heap[_]? = _
    rw [Below.heap_alloc _ _ _ (by simp; omega), Below.heap_alloc _ _ _ (by simp)]; exact World.alloc_heap_new w _
  · show (World.alloc _ _).heap[_]? = _
    rw [Below.heap_alloc _ _ _ (by simp)]
    have := World.alloc_heap_new (w.alloc (.cells C0 t0)) (.cells C1 t1)
    rwa [World.size_alloc] at this
  · show (World.alloc _ _).heap[_]? = _
    have := World.alloc_heap_new ((w.alloc (.cells C0 t0)).alloc (.cells C1 t1)) (.cells C2 t2)
    rwa [World.size_alloc, World.size_alloc] at this
set_option maxRecDepth 20000 in
set_option maxHeartbeats 1000000 in
theorem sshown_is (x : SX) (a b : Int) (w : World) (h1 : -4611686018427387904 ≤ x.2.2) (h2 : x.2.2 ≤ 4611686018427387904) :
    Calls Tryz.prog 86 #[svX x, .int .i64 a, .int .i64 b] w fun e w' => ∃ Bb Bl Bs, e = .returned (.func (.func 105) #[] #[.pointer (some ⟨Bb, 0, none⟩), .pointer (some ⟨Bl, 0, none⟩), .pointer (some ⟨Bs, 0, none⟩)]) ∧ ShB Bb Bl Bs (max x.2.1 a) (min (x.2.2 - 1) b) x w' ∧ w.heap.size ≤ Bb ∧ w.heap.size ≤ Bl ∧ w.heap.size ≤ Bs ∧ Below w.heap.size w w' := by
  have hmf : ∀ (fn : Fn) (first cap : Array Value) (w : World), (Instr.makeFunc fn first cap).run Tryz.prog w = .ok (.func fn first cap) w := fun _ _ _ _ => rfl
  obtain ⟨⟨of, rl, sv, fm, en, uy, um, dk, dw, dn, sc, ck⟩, p, q⟩ := x
  simp only at h1 h2 ⊢
  have X := Lib.hid (BlkN.make (Below.refl w.heap.size w) #[.int .i64 of, .string ⟨rl.toArray⟩, .int .i64 sv, .string ⟨fm.toArray⟩, .bool en, .int .i64 uy, .int .i64 um, .int .i64 dk, .int .i64 dw, .int .i64 dn, .int .i64 sc, .int .i64 ck, .slice none 0 0, .int .i64 p, .int .i64 q] 160)
  obtain ⟨-, -, -, -, x13, x14⟩ := cells15 X.out.blk
  have wq : IntKind.i64.wrap (q - 1) = q - 1 := IntWalk.i64_in _ (by omega)
  obtain ⟨pm, hpm⟩ : ∃ m, max p a = m := ⟨_, rfl⟩
  obtain ⟨qm, hqm⟩ : ∃ m, min (q - 1) b = m := ⟨_, rfl⟩
  have mm0 := fmax2 Tryz.prog 3 p a pm hpm
  have mm1 := fmin2 Tryz.prog 3 (q - 1) b qm hqm
  rw [hpm, hqm]
  clear hpm hqm h1 h2
  unfold svX cSx
  go_enter Tryz.func86, Tryz.ntmps86
  repeat (first | go_values | go_skip | go_guarded | go_step | go_upon | go_back)
  go_region
  all_goals
    repeat (first | go_values | go_skip | go_guarded | go_step | go_upon | go_back)
    go_ret
  · obtain ⟨k3, -, b0, b1, b2⟩ := blocks3 w #[.int .i64 of, .string ⟨rl.toArray⟩, .int .i64 sv, .string ⟨fm.toArray⟩, .bool en, .int .i64 uy, .int .i64 um, .int .i64 dk, .int .i64 dw, .int .i64 dn, .int .i64 sc, .int .i64 ck, .slice none 0 0, .int .i64 p, .int .i64 q] #[.int .i64 pm] #[.int .i64 qm] 160 3 3
    exact ⟨_, _, _, rfl, ⟨b1, b2, b0⟩, by omega, by omega, by omega, k3⟩
  · obtain ⟨k3, -, b0, b1, b2⟩ := blocks3 w #[.int .i64 of, .string ⟨rl.toArray⟩, .int .i64 sv, .string ⟨fm.toArray⟩, .bool en, .int .i64 uy, .int .i64 um, .int .i64 dk, .int .i64 dw, .int .i64 dn, .int .i64 sc, .int .i64 ck, .slice none 0 0, .int .i64 p, .int .i64 q] #[.int .i64 qm] #[.int .i64 pm] 160 3 3
    exact ⟨_, _, _, rfl, ⟨b2, b1, b0⟩, by omega, by omega, by omega, k3⟩
theorem begun_none (x : SX) (w : World) : Calls Tryz.prog 106 #[svX x] w fun e w' => e = .returned (.int .i64 (-3217830838488)) ∧ Below w.heap.size w w' := by
  obtain ⟨⟨of, rl, sv, fm, en, uy, um, dk, dw, dn, sc, ck⟩, p, q⟩ := x
  have X := Lib.hid (BlkN.make (Below.refl w.heap.size w) #[.int .i64 of, .string ⟨rl.toArray⟩, .int .i64 sv, .string ⟨fm.toArray⟩, .bool en, .int .i64 uy, .int .i64 um, .int .i64 dk, .int .i64 dw, .int .i64 dn, .int .i64 sc, .int .i64 ck, .slice none 0 0, .int .i64 p, .int .i64 q] 160)
  obtain ⟨-, -, -, x12, -, -⟩ := cells15 X.out.blk
  have mm0 := fmin2 Tryz.prog 3 (-100000) 100000 (-100000) (by omega)
  unfold svX cSx
  go_enter Tryz.func106, Tryz.ntmps106
  repeat (first | go_values | go_skip | go_guarded | go_step | go_upon | go_back)
  go_loopw [3, 8] (fun v3 v8 wr => v3 = .int .i64 (-100000) ∧ v8 = .int .i64 0 ∧ Below w.heap.size w wr) (fun _ _ _ => 0)
  case atStart => exact ⟨rfl, rfl, X.out.bel⟩
  case round =>
    obtain ⟨rfl, rfl, hk⟩ := hrel
    have HK := Lib.hid hk
    clear hk
    repeat (first | go_values | go_skip | go_guarded | go_step | go_upon | go_back)
    go_ret
    exact ⟨rfl, HK.out⟩
end Go.Proofs.YtdmfgechoanmlaaGreatDoor
