/- Lists of texts and lists of bytes that a call made itself; lists of texts seen from wherever they lie. -/
import Derived.Maps.AppendAt
import Derived.ArgAppend
import Derived.Laws.AppendOwnNone
import Derived.Laws.OwnMore
import Derived.Laws.Runes
import Derived.LoopN
import Derived.OwnWalk
import Derived.Deep.LoopGhost
import Derived.RangeFuncBox
import Derived.WalkKit
import Derived.IntWalk
import Derived.LoopTactic
import Derived.Below
import Derived.Deep.RegionHeld3
import Derived.Deep.QuietTactic
import Derived.BigQuiet
import Derived.Laws.IdiomStrings
import Derived.Laws.Concat
import Derived.Laws.DeepStrings4
import Derived.Laws.Strings3
import Derived.Laws.Cover4
import Derived.Test.YtomiopdmgdidnaaDoorChecked
import Derived.Test.YtomiopdmgdidnaaDoorLex
namespace Go.Proofs.YtomiopdmgdidnaaDoor
open Go.RowKit
attribute [local go_sem] Oper.semAt_some

theorem lxs_info : (Tryd.prog.info? 9).map (fun i => (i.zero, i.size, i.bytes)) = some (some (.string ⟨#[]⟩), 1, 16) := by kernel_rfl
theorem lxu_info : (Tryd.prog.info? 5).map (fun i => (i.zero, i.size, i.bytes)) = some (some (.int .u8 0), 1, 1) := by kernel_rfl

def tcl (l : List (List UInt8)) : List Value := l.map fun p => .string ⟨p.toArray⟩
theorem tcl_len (l : List (List UInt8)) : (tcl l).length = l.length := by simp [tcl]
theorem tcl_app (l m : List (List UInt8)) : tcl (l ++ m) = tcl l ++ tcl m := by simp [tcl]
theorem tcl_one (l : List (List UInt8)) : ∀ u ∈ tcl l, u.oneCell' = true := by
  intro u hu
  obtain ⟨b, _, rfl⟩ := List.mem_map.1 hu
  rfl
theorem tcl_get {l : List (List UInt8)} {j : Nat} {p : List UInt8} (h : l[j]? = some p) : (tcl l)[j]? = some (.string ⟨p.toArray⟩) := by
  rw [tcl, List.getElem?_map, h]; rfl
def ycl (l : List UInt8) : List Value := l.map fun b => .int .u8 (b.toNat : Int)
theorem ycl_len (l : List UInt8) : (ycl l).length = l.length := by simp [ycl]
theorem ycl_app (l x : List UInt8) : ycl (l ++ x) = ycl l ++ ycl x := by simp [ycl]
theorem ycl_one (l : List UInt8) : ∀ u ∈ ycl l, u.oneCell' = true := by
  intro u hu
  obtain ⟨b, _, rfl⟩ := List.mem_map.1 hu
  rfl

theorem lxgrown {W W1 : World} (h : Below W.heap.size W W1) (row : Option Nat) : W.grownBy W1 row := ⟨h.os, h.tape, h.output, h.size, fun i hi _ => h.block i hi⟩
theorem lxown_form {W : World} {v' : Value} {base n : Nat} {e : TypeId} {xs : List Value} (h : W.ownsRow base e 1 v' n xs) : ∃ A c, v' = .slice A n c := by
  rcases h.2 with ⟨rfl, rfl⟩ | ⟨g, cap, _, rfl, _⟩
  · exact ⟨none, 0, rfl⟩
  · exact ⟨_, cap, rfl⟩
theorem lxown_keep {W W1 : World} {base n k : Nat} {e : TypeId} {v : Value} {xs : List Value} (h : W.ownsRow base e k v n xs) (b : Below W.heap.size W W1) : W1.ownsRow base e k v n xs := h.kept (lxgrown b none) (by cases v.ownBlock <;> simp)
theorem lxown_mono {W : World} {base base' n k : Nat} {e : TypeId} {v : Value} {xs : List Value} (h : W.ownsRow base e k v n xs) (hb : base' ≤ base) : W.ownsRow base' e k v n xs := by
  refine ⟨h.1, ?_⟩
  rcases h.2 with h1 | ⟨g, cap, cur, h1, h2, h3⟩
  · exact .inl h1
  · exact .inr ⟨g, cap, cur, h1, by omega, h3⟩
theorem lxown_cells {w : World} {base n c : Nat} {A : Option Addr} {e : TypeId} {xs : List Value} (h : w.ownsRow base e 1 (.slice A n c) n xs) (h0 : 0 < n) :
    ∃ g, A = some ⟨g, 0, none⟩ ∧ g < w.heap.size ∧ base ≤ g ∧ w.frozen? ⟨g, 0, none⟩ = false ∧ (∀ o, w.frozen? ⟨g, o, none⟩ = false) ∧ ∀ j u, xs[j]? = some u → w.cell? ⟨g, j, none⟩ = some u := by
  rcases h.2 with ⟨_, h1⟩ | ⟨g', cap, cur, hv, hb, hg, h1, h2, h3, h4⟩
  · omega
  · injection hv with e1 e2 e3
    refine ⟨g', e1, (Array.getElem?_eq_some_iff.1 hg).1, hb, by simp [World.frozen?, hg], fun o => by simp [World.frozen?, hg], fun j u hu => ?_⟩
    have hj : j < xs.length := by
      rcases Nat.lt_or_ge j xs.length with h5 | h5
      · exact h5
      · rw [List.getElem?_eq_none h5] at hu; cases hu
    have hl := h.1
    rw [cell_of_row w g' j _ _ (0, 0) hg, ← Array.getElem?_toList]
    rw [← h4, List.getElem?_take_of_lt (by omega)] at hu
    exact hu

/-- One text behind a list of texts that the call made itself. -/
theorem wpList_tpush {w : World} {ops : Array Oper} {rest : List Oper} {o : Oper} {a : Act} {Q : Exit → Act → World → Prop} (hgd : o.guard = none) (s x : Operand)
    (ho : o.op = .call { callee := .builtin .append, args := #[s, x], argTypes := #[23, 23] }) {base n m c : Nat} {A : Option Addr} {l : List (List UInt8)} (hn : l.length = n) (hm : n + 1 = m) (X : w.ownsRow base 9 1 (.slice A n c) n (tcl l))
    (hs : a.eval s = .slice A n c) (ad : Addr) (p : List UInt8) (hx : a.eval x = .slice (some ad) 1 1) (hb : w.cell? ad = some (.string ⟨p.toArray⟩)) (hl : n ≤ 100000) (hbase : base ≤ w.heap.size)
    (h : ∀ A' c' w', w'.ownsRow base 9 1 (.slice A' m c') m (tcl (l ++ [p])) → Below base w w' → wpList Tryd.prog ops Q rest (a.put o.dst (.slice A' m c')) w') : wpList Tryd.prog ops Q (o :: rest) a w := by
  obtain ⟨i0, hi0, hz0, hz1, hz2⟩ := info_parts lxs_info
  subst hn hm
  refine wpList_append_own_at _ hgd s x _ ho base 9 i0 _ 1 16 Tryd.underlying23 hi0 hz0 hz1 hz2 rfl (by omega) (.slice A l.length c) l.length (tcl l) hs X ad 1 1 (tcl [p]) hx rfl (by intro j u hu; rcases j with _ | j <;> simp [tcl] at hu; subst hu; simpa [Addr.add] using hb) (tcl_one _) (by simp only [maxLen]; omega) (by omega) hbase ?_
  intro v' w' hown hg _ _
  obtain ⟨A', c', rfl⟩ := lxown_form hown
  rw [← tcl_app] at hown
  exact h A' c' w' hown ((Below.refl base w).grown hg hbase (fun k hk => (X.lt k hk).1))
/-- One byte behind a list of bytes that the call made itself. -/
theorem wpList_ypush {w : World} {ops : Array Oper} {rest : List Oper} {o : Oper} {a : Act} {Q : Exit → Act → World → Prop} (hgd : o.guard = none) (s x : Operand)
    (ho : o.op = .call { callee := .builtin .append, args := #[s, x], argTypes := #[46, 46] }) {base n m c : Nat} {A : Option Addr} {l : List UInt8} (hn : l.length = n) (hm : n + 1 = m) (X : w.ownsRow base 5 1 (.slice A n c) n (ycl l))
    (hs : a.eval s = .slice A n c) (ad : Addr) (p : UInt8) (hx : a.eval x = .slice (some ad) 1 1) (hb : w.cell? ad = some (.int .u8 (p.toNat : Int))) (hl : n ≤ 100000) (hbase : base ≤ w.heap.size)
    (h : ∀ A' c' w', w'.ownsRow base 5 1 (.slice A' m c') m (ycl (l ++ [p])) → Below base w w' → wpList Tryd.prog ops Q rest (a.put o.dst (.slice A' m c')) w') : wpList Tryd.prog ops Q (o :: rest) a w := by
  obtain ⟨i0, hi0, hz0, hz1, hz2⟩ := info_parts lxu_info
  subst hn hm
  refine wpList_append_own_at _ hgd s x _ ho base 5 i0 _ 1 1 Tryd.underlying46 hi0 hz0 hz1 hz2 rfl (by omega) (.slice A l.length c) l.length (ycl l) hs X ad 1 1 (ycl [p]) hx rfl (by intro j u hu; rcases j with _ | j <;> simp [ycl] at hu; subst hu; simpa [Addr.add] using hb) (ycl_one _) (by simp only [maxLen]; omega) (by omega) hbase ?_
  intro v' w' hown hg _ _
  obtain ⟨A', c', rfl⟩ := lxown_form hown
  rw [← ycl_app] at hown
  exact h A' c' w' hown ((Below.refl base w).grown hg hbase (fun k hk => (X.lt k hk).1))

/-- The texts ws lie at the address: a slice's elements. -/
def Ws (w : World) (A : Option Addr) (ws : List (List UInt8)) : Prop :=
  ∀ (j : Nat) (p : List UInt8), ws[j]? = some p → ∃ g o, A = some ⟨g, o, none⟩ ∧ g < w.heap.size ∧ w.cell? ⟨g, o + j, none⟩ = some (.string ⟨p.toArray⟩)
theorem Ws.nil (w : World) (A : Option Addr) : Ws w A [] := fun j p h => by simp at h
theorem Ws.next {w w' : World} {A : Option Addr} {ws : List (List UInt8)} (h : Ws w A ws) (k : Below w.heap.size w w') : Ws w' A ws := fun j p hp => by
  obtain ⟨g, o, e, hlt, hc⟩ := h j p hp
  exact ⟨g, o, e, Nat.lt_of_lt_of_le hlt k.size, by rw [k.cell (p := ⟨g, o + j, none⟩) hlt]; exact hc⟩
theorem Ws.of_own {w : World} {base n c : Nat} {A : Option Addr} {ws : List (List UInt8)} (h : w.ownsRow base 9 1 (.slice A n c) n (tcl ws)) : Ws w A ws := fun j p hp => by
  have hn : n = ws.length := by have := h.1; rw [tcl_len] at this; omega
  have hj := (List.getElem?_eq_some_iff.1 hp).1
  obtain ⟨g, e, hlt, _, _, _, hc⟩ := lxown_cells h (by omega)
  exact ⟨g, 0, e, hlt, by rw [Nat.zero_add]; exact hc j _ (tcl_get hp)⟩
/-- A slice made of a literal. -/
theorem Ws.new (w : World) (ws : List (List UInt8)) (cs : Array Value) (t : TypeId) (hc : cs = (tcl ws).toArray) : Ws (w.alloc (.cells cs t)) (some ⟨w.heap.size, 0, none⟩) ws := fun j p hp => by
  refine ⟨_, 0, rfl, by simp, ?_⟩
  subst hc
  rw [cell_of_row _ w.heap.size (0 + j) _ t (0, 0) (heap_alloc_new w _), Nat.zero_add]
  simpa using tcl_get hp

/-- What an append of one text does, said of whatever operation it is: for walks that must not search. -/
def PushT (W w0 : World) (s x : Nat) (A : Option Addr) (n c : Nat) (o : List (List UInt8)) (p : List UInt8) (v : Value) : Prop :=
  ∀ (ops : Array Oper) (rest : List Oper) (oo : Oper) (aa : Act) (QQ : Exit → Act → World → Prop), oo.guard = none → oo.op = .call { callee := .builtin .append, args := #[.tmp s, .tmp x], argTypes := #[23, 23] } →
    aa.eval (.tmp s) = .slice A n c → aa.eval (.tmp x) = .slice (some ⟨W.heap.size, 0, none⟩) 1 1 →
    (∀ A' c' w', w'.ownsRow w0.heap.size 9 1 (.slice A' (n + 1) c') (n + 1) (tcl (o ++ [p])) → Below w0.heap.size w0 w' → wpList Tryd.prog ops QQ rest (aa.put oo.dst (.slice A' (n + 1) c')) w') →
    wpList Tryd.prog ops QQ (oo :: rest) aa (W.alloc (.cells #[v] 9))
theorem PushT.of {W w0 : World} {A : Option Addr} {n c : Nat} {o : List (List UInt8)} (s x : Nat) (p : List UInt8) (v : Value) (hv : v = .string ⟨p.toArray⟩) (hn : o.length = n) (hO : W.ownsRow w0.heap.size 9 1 (.slice A n c) n (tcl o)) (hB : Below w0.heap.size w0 W) (hl : n ≤ 100000) : PushT W w0 s x A n c o p v :=
  fun ops rest oo aa QQ g1 g2 g3 g4 g5 => by
    subst hv
    exact wpList_tpush g1 (.tmp s) (.tmp x) g2 (m := n + 1) hn rfl (lxown_keep hO ((Below.refl W.heap.size W).alloc (Nat.le_refl _) _)) g3 ⟨W.heap.size, 0, none⟩ p g4 (Boxed.new W _ _).cell hl (by have := hB.size; simp; omega) (fun A' c' w' k1 k2 => g5 A' c' w' k1 ((hB.alloc hB.size _).trans k2))

/-- Texts, of the call's own, and an error are what is given back. -/
def CollT (ws : List (List UInt8)) (er : Int) (w : World) (e : Ending) (w' : World) : Prop :=
  ∃ A c, e = .returned (.tuple #[.slice A ws.length c, .int .i64 er]) ∧ w'.ownsRow w.heap.size 9 1 (.slice A ws.length c) ws.length (tcl ws) ∧ Below w.heap.size w w'
theorem CollT.of {ws : List (List UInt8)} {er : Int} {w w' : World} {e : Ending} {A : Option Addr} {n c : Nat} (hn : ws.length = n) (he : e = .returned (.tuple #[.slice A n c, .int .i64 er])) (h : w'.ownsRow w.heap.size 9 1 (.slice A n c) n (tcl ws)) (hb : Below w.heap.size w w') : CollT ws er w e w' := by
  subst hn
  exact ⟨A, c, he, h, hb⟩
theorem CollT.none {er : Int} {w w' : World} (hb : Below w.heap.size w w') : CollT [] er w (.returned (.tuple #[.slice none 0 0, .int .i64 er])) w' := ⟨Option.none, 0, rfl, World.ownsRow_nil _ _ _ _, hb⟩

theorem lxcell_lt {w : World} {b o : Nat} {v : Value} (h : w.cell? ⟨b, o, none⟩ = some v) : b < w.heap.size := by
  rcases Nat.lt_or_ge b w.heap.size with h1 | h1
  · exact h1
  · have e : w.heap[b]? = none := by simp [h1]
    simp [World.cell?, e] at h
theorem lxbyte_at (p : List UInt8) (i : Nat) (h : i < p.length) (c : UInt8) (hc : p.getD i 0 = c) (w : World) : (Instr.index 9 (.string ⟨p.toArray⟩) (.int .i64 (i : Int))).run Tryd.prog w = .ok (.int .u8 (c.toNat : Int)) w := by
  rw [← hc]
  have hs : (⟨p.toArray⟩ : ByteArray).size = p.length := by simp [ByteArray.size]
  rw [run_index_string w _ _ _ _ Tryd.underlying9, dif_pos ⟨by omega, by omega⟩]
  have : (⟨p.toArray⟩ : ByteArray)[(i : Int).toNat]'(by rw [hs]; simpa using h) = p.getD i 0 := by
    simp [ByteArray.getElem_eq_getElem_data, h]
  rw [this]
theorem lxadd (x y : List UInt8) (hx : x.length ≤ 100000) (hy : y.length ≤ 100000) (W : World) : (Op.stringOp .add ⟨x.toArray⟩ ⟨y.toArray⟩).run Tryd.prog W = .ok (.string ⟨(x ++ y).toArray⟩) W :=
  run_string_add_lists W x y (by omega) (by omega)
theorem lxsize (s : List UInt8) : (⟨s.toArray⟩ : ByteArray).size = s.length := by simp [ByteArray.size]
theorem lxsub_run (s : List UInt8) (f i : Nat) (p : List UInt8) (hp : (s.drop f).take (i - f) = p) (h1 : f ≤ i) (h2 : i ≤ s.length) (W : World) :
    (Instr.slice 9 (.string ⟨s.toArray⟩) (some (.int .i64 (f : Int))) (some (.int .i64 (i : Int))) none).run Tryd.prog W = .ok (.string ⟨p.toArray⟩) W := by
  have hs : (⟨s.toArray⟩ : ByteArray).size = s.length := by simp [ByteArray.size]
  rw [run_slice_string_if (h := Tryd.underlying9), if_pos ⟨by omega, by rw [hs]; omega⟩, if_pos ⟨by omega, by omega⟩]
  subst hp
  congr 2
  simp [ByteArray.extract_mk]
theorem lxfrom_run (s : List UInt8) (f : Nat) (p : List UInt8) (hp : s.drop f = p) (h1 : f ≤ s.length) (W : World) :
    (Instr.slice 9 (.string ⟨s.toArray⟩) (some (.int .i64 (f : Int))) none none).run Tryd.prog W = .ok (.string ⟨p.toArray⟩) W := by
  have hs : (⟨s.toArray⟩ : ByteArray).size = s.length := by simp [ByteArray.size]
  rw [run_slice_string_from_if (h := Tryd.underlying9), if_pos ⟨by omega, by rw [hs]; omega⟩]
  subst hp
  congr 2
  simp only [ByteArray.extract_mk, ByteArray.size, Int.toNat_natCast, List.size_toArray]
  rw [List.take_of_length_le (by rw [List.length_drop]; exact Nat.le_refl _)]
theorem lxdrop_at {s : List UInt8} {i : Nat} {c : UInt8} (h : i < s.length) (hc : s.getD i 0 = c) : s.drop i = c :: s.drop (i + 1) := by
  have e : s[i] = c := by simpa [h] using hc
  rw [List.drop_eq_getElem_cons h, e]
theorem lxtake_at {s : List UInt8} {i : Nat} {c : UInt8} (h : i < s.length) (hc : s.getD i 0 = c) : s.take (i + 1) = s.take i ++ [c] := by
  rw [List.take_succ_eq_append_getElem h]
  congr 2
  simpa [h] using hc
theorem byte_ne {b : UInt8} (k : UInt8) (z : Int) (hz : (k.toNat : Int) = z) (h : (b == k) = false) : ((b.toNat : Int) == z) = false := by
  rw [beq_eq_false_iff_ne]
  intro e
  have : b = k := UInt8.toNat_inj.1 (by omega)
  rw [this] at h; simp at h
theorem byte_eq {b : UInt8} (k : UInt8) (z : Int) (hz : (k.toNat : Int) = z) (h : (b == k) = true) : ((b.toNat : Int) == z) = true := by
  have : b = k := by simpa using h
  subst this
  rw [beq_iff_eq]; exact hz
end Go.Proofs.YtomiopdmgdidnaaDoor
