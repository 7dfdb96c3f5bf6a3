/- Appends to lists that a call made itself: of bytes, of numbers; what is given back so. -/
import Derived.Maps.AppendAt
import Derived.ArgAppend
import Derived.Laws.AppendOwnNone
import Derived.Laws.OwnMore
import Derived.LoopN
import Derived.OwnWalk
import Derived.Test.YtjpppffgebecdaaGreatDoorWrA
namespace Go.Proofs.YtjpppffgebecdaaGreatDoor
open Go.RowKit
attribute [local go_sem] Oper.semAt_some

theorem wown_form {W : World} {v' : Value} {base n : Nat} {e : TypeId} {xs : List Value} (h : W.ownsRow base e 1 v' n xs) : ∃ A c, v' = .slice A n c := by
  rcases h.2 with ⟨rfl, rfl⟩ | ⟨g, cap, _, rfl, _⟩
  · exact ⟨none, 0, rfl⟩
  · exact ⟨_, cap, rfl⟩

def icl (l : List Nat) : List Value := l.map (fun b : Nat => Value.int .i64 (b : Int))
theorem icl_len (l : List Nat) : (icl l).length = l.length := by simp [icl]
theorem icl_app (l x : List Nat) : icl (l ++ x) = icl l ++ icl x := by simp [icl]
theorem icl_one (l : List Nat) : ∀ u ∈ icl l, u.oneCell' = true := by
  intro u hu
  obtain ⟨b, _, rfl⟩ := List.mem_map.1 hu
  rfl
theorem grown_of_bel {W W1 : World} (h : Below W.heap.size W W1) (row : Option Nat) : W.grownBy W1 row := ⟨h.os, h.tape, h.output, h.size, fun i hi _ => h.block i hi⟩
theorem wown_keep {W W1 : World} {base n : Nat} {e : TypeId} {v : Value} {xs : List Value} (h : W.ownsRow base e 1 v n xs) (k : Below W.heap.size W W1) : W1.ownsRow base e 1 v n xs := h.kept (grown_of_bel k none) (by cases v.ownBlock <;> simp)

/-- One number behind a list of numbers that the call made itself. -/
theorem wpList_ipush {w : World} {ops : Array Oper} {rest : List Oper} {o : Oper} {a : Act} {Q : Exit → Act → World → Prop} (hgd : o.guard = none) (s x : Operand)
    (ho : o.op = .call { callee := .builtin .append, args := #[s, x], argTypes := #[28, 28] }) {base n m c : Nat} {A : Option Addr} {l : List Nat} (hn : l.length = n) (hm : n + 1 = m) (X : w.ownsRow base 3 1 (.slice A n c) n (icl l))
    (hs : a.eval s = .slice A n c) (ad : Addr) (p : Nat) (hx : a.eval x = .slice (some ad) 1 1) (hb : w.cell? ad = some (.int .i64 (p : Int))) (hl : n ≤ 100000) (hbase : base ≤ w.heap.size)
    (h : ∀ A' c' w', w'.ownsRow base 3 1 (.slice A' m c') m (icl (l ++ [p])) → Below base w w' → wpList Tryz.prog ops Q rest (a.put o.dst (.slice A' m c')) w') : wpList Tryz.prog ops Q (o :: rest) a w := by
  obtain ⟨i0, hi0, hz0, hz1, hz2⟩ := info_parts wint_info
  subst hn hm
  refine wpList_append_own_at _ hgd s x _ ho base 3 i0 _ 1 8 Tryz.underlying28 hi0 hz0 hz1 hz2 rfl (by omega) (.slice A l.length c) l.length (icl l) hs X ad 1 1 (icl [p]) hx rfl (by intro j u hu; rcases j with _ | j <;> simp [icl] at hu; subst hu; simpa [Addr.add] using hb) (icl_one _) (by simp only [maxLen]; omega) (by omega) hbase ?_
  intro v' w' hown hg _ _
  obtain ⟨A', c', rfl⟩ := wown_form hown
  rw [← icl_app] at hown
  exact h A' c' w' hown ((Below.refl base w).grown hg hbase (fun k hk => (X.lt k hk).1))
/-- One byte behind a list of bytes that the call made itself. -/
theorem wpList_bpush {w : World} {ops : Array Oper} {rest : List Oper} {o : Oper} {a : Act} {Q : Exit → Act → World → Prop} (hgd : o.guard = none) (s x : Operand)
    (ho : o.op = .call { callee := .builtin .append, args := #[s, x], argTypes := #[165, 165] }) {base n m c : Nat} {A : Option Addr} {l : List UInt8} (hn : l.length = n) (hm : n + 1 = m) (X : w.ownsRow base 5 1 (.slice A n c) n (ubl l))
    (hs : a.eval s = .slice A n c) (ad : Addr) (p : UInt8) (hx : a.eval x = .slice (some ad) 1 1) (hb : w.cell? ad = some (.int .u8 (p.toNat : Int))) (hl : n ≤ 100000) (hbase : base ≤ w.heap.size)
    (h : ∀ A' c' w', w'.ownsRow base 5 1 (.slice A' m c') m (ubl (l ++ [p])) → Below base w w' → wpList Tryz.prog ops Q rest (a.put o.dst (.slice A' m c')) w') : wpList Tryz.prog ops Q (o :: rest) a w := by
  obtain ⟨i0, hi0, hz0, hz1, hz2⟩ := info_parts wu8_info
  subst hn hm
  refine wpList_append_own_at _ hgd s x _ ho base 5 i0 _ 1 1 Tryz.underlying165 hi0 hz0 hz1 hz2 rfl (by omega) (.slice A l.length c) l.length (ubl l) hs X ad 1 1 (ubl [p]) hx rfl (by intro j u hu; rcases j with _ | j <;> simp [ubl] at hu; subst hu; simpa [Addr.add] using hb) (ubl_one _) (by simp only [maxLen]; omega) (by omega) hbase ?_
  intro v' w' hown hg _ _
  obtain ⟨A', c', rfl⟩ := wown_form hown
  rw [← ubl_app] at hown
  exact h A' c' w' hown ((Below.refl base w).grown hg hbase (fun k hk => (X.lt k hk).1))

/-- A list of numbers, of the call's own, is what is given back. -/
def CollI (l : List Nat) (w : World) (e : Ending) (w' : World) : Prop := ∃ A c, e = .returned (.slice A l.length c) ∧ w'.ownsRow w.heap.size 3 1 (.slice A l.length c) l.length (icl l) ∧ Below w.heap.size w w'
theorem CollI.of {L : List Nat} {w w' : World} {e : Ending} {A : Option Addr} {n c : Nat} (hn : L.length = n) (he : e = .returned (.slice A n c)) (h : w'.ownsRow w.heap.size 3 1 (.slice A n c) n (icl L)) (hb : Below w.heap.size w w') : CollI L w e w' := by
  subst hn
  exact ⟨A, c, he, h, hb⟩

theorem wown_cells {w : World} {base n c : Nat} {A : Option Addr} {e : TypeId} {xs : List Value} (h : w.ownsRow base e 1 (.slice A n c) n xs) (h0 : 0 < n) : ∃ g cap, A = some ⟨g, 0, none⟩ ∧ c = cap ∧ ∀ j u, xs[j]? = some u → w.cell? ⟨g, j, none⟩ = some u := by
  rcases h.2 with ⟨_, h1⟩ | ⟨g', cap, cur, hv, hb, hg, h1, h2, h3, h4⟩
  · omega
  · injection hv with e1 e2 e3
    refine ⟨g', cap, e1, e3, fun j u hu => ?_⟩
    have hj : j < xs.length := by
      rcases Nat.lt_or_ge j xs.length with h5 | h5
      · exact h5
      · rw [List.getElem?_eq_none h5] at hu; cases hu
    have hl := h.1
    rw [cell_of_row w g' j _ _ (0, 0) hg, ← Array.getElem?_toList]
    rw [← h4, List.getElem?_take_of_lt (by omega)] at hu
    exact hu

/-- A slice of numbers, seen from wherever it lies. -/
def Nu (w : World) (a : Option Addr) (l : List Nat) : Prop :=
  ∀ k, k < l.length → ∃ b off, a = some ⟨b, off, none⟩ ∧ b < w.heap.size ∧ w.cell? ⟨b, off + k, none⟩ = some (.int .i64 ((l.getD k 0 : Nat) : Int))
theorem Nu.next {w w' : World} {a : Option Addr} {l : List Nat} (h : Nu w a l) (hb : Below w.heap.size w w') : Nu w' a l := fun k hk => by
  obtain ⟨b, off, e, hlt, hc⟩ := h k hk
  exact ⟨b, off, e, Nat.lt_of_lt_of_le hlt hb.size, by rw [hb.cell (p := ⟨b, off + k, none⟩) hlt]; exact hc⟩
theorem Nu.of_own {w : World} {g : Nat} {A : Option Addr} {n c : Nat} {l : List Nat} (h : w.ownsRow g 3 1 (.slice A n c) n (icl l)) : Nu w A l := fun k hk => by
  have hn : n = l.length := by have := h.1; rw [icl_len] at this; omega
  obtain ⟨g', cap, rfl, rfl, hc⟩ := wown_cells h (by omega)
  refine ⟨g', 0, rfl, (h.lt g' rfl).2, ?_⟩
  rw [Nat.zero_add, hc k (.int .i64 ((l.getD k 0 : Nat) : Int))]
  rw [icl, List.getElem?_map, List.getElem?_eq_getElem hk]
  simp [List.getD, List.getElem?_eq_getElem hk]
theorem own_none {w : World} {base n c : Nat} {A : Option Addr} {e : TypeId} {xs : List Value} (h : w.ownsRow base e 1 (.slice A n c) n xs) : A = none → n = 0 ∧ c = 0 := by
  rintro rfl
  rcases h.2 with ⟨hv, h0⟩ | ⟨g', cap, cur, hv, _⟩
  · injection hv with e1 e2 e3; exact ⟨h0, e3⟩
  · injection hv with e1; cases e1
theorem own_le {w : World} {base n c : Nat} {A : Option Addr} {e : TypeId} {xs : List Value} (h : w.ownsRow base e 1 (.slice A n c) n xs) : n ≤ c := by
  rcases h.2 with ⟨h1, h2⟩ | ⟨g', cap, cur, hv, hb, hg, h1, h2, h3, h4⟩
  · omega
  · injection hv with e1 e2 e3; omega
theorem By.cells {w : World} {ad : Addr} {l : List UInt8} (h : By w (some ad) l) : ∀ (j : Nat) (u : Value), (ubl l)[j]? = some u → w.cell? (ad.add j) = some u := by
  intro j u hu
  have hj : j < l.length := by
    rcases Nat.lt_or_ge j l.length with h1 | h1
    · exact h1
    · rw [List.getElem?_eq_none (by rw [ubl_len]; exact h1)] at hu; cases hu
  obtain ⟨b, off, he, _, hc⟩ := h j hj
  injection he with he
  subst he
  rw [Go.WideShapes.add_plain, hc, ← hu, ubl, List.getElem?_map, List.getElem?_eq_getElem hj]
  simp [List.getD, List.getElem?_eq_getElem hj]

/-- Bytes, nil or not, behind a list of bytes that the call made itself. -/
theorem wpList_bapp {w : World} {ops : Array Oper} {rest : List Oper} {o : Oper} {a : Act} {Q : Exit → Act → World → Prop} (hgd : o.guard = none) (s x : Operand)
    (ho : o.op = .call { callee := .builtin .append, args := #[s, x], argTypes := #[165, 165] }) {base n c n2 c2 m : Nat} {A A2 : Option Addr} {l l2 : List UInt8} (hn2 : l2.length = n2) (hm : n + n2 = m) (X : w.ownsRow base 5 1 (.slice A n c) n (ubl l))
    (hs : a.eval s = .slice A n c) (hx : a.eval x = .slice A2 n2 c2) (h2 : By w A2 l2) (hc2 : A2 = none → c2 = 0) (hl : m ≤ 100000) (hbase : base ≤ w.heap.size)
    (h : ∀ A' c' w', w'.ownsRow base 5 1 (.slice A' m c') m (ubl (l ++ l2)) → Below base w w' → wpList Tryz.prog ops Q rest (a.put o.dst (.slice A' m c')) w') : wpList Tryz.prog ops Q (o :: rest) a w := by
  obtain ⟨i0, hi0, hz0, hz1, hz2⟩ := info_parts wu8_info
  subst hn2 hm
  cases A2 with
  | none =>
    have hl2 : l2 = [] := by
      cases l2 with
      | nil => rfl
      | cons y ys => obtain ⟨_, _, h, _⟩ := h2 0 (by simp); cases h
    subst hl2
    rw [hc2 rfl] at hx
    have key := h A c w (by rw [List.append_nil]; exact X) (Below.refl _ _)
    exact wpList_append_own_none hgd s x 165 ho base 5 i0 1 Tryz.underlying165 hi0 _ n (ubl l) hs X hx key
  | some ad =>
    refine wpList_append_own w hgd s x 165 ho base 5 i0 (.int .u8 0) 1 1 Tryz.underlying165 hi0 hz0 hz1 hz2 rfl (by omega) _ n (ubl l) hs X ad l2.length c2 (ubl l2) hx (by rw [ubl_len]; omega) h2.cells (ubl_one _) (by unfold maxLen; omega) (by omega) hbase fun v' w' k2 k3 _ => ?_
    obtain ⟨A', c', rfl⟩ := wown_form k2
    rw [← ubl_app] at k2
    exact h A' c' w' k2 ((Below.refl base w).grown k3 hbase (fun k hk => (X.lt k hk).1))
/-- The iterator's bytes, appended: whatever iterator. -/
def Coll (l : List UInt8) (w : World) (e : Ending) (w' : World) : Prop := ∃ A c, e = .returned (.slice A l.length c) ∧ w'.ownsRow w.heap.size 5 1 (.slice A l.length c) l.length (ubl l) ∧ Below w.heap.size w w'

theorem Coll.to {L : List UInt8} {w w1 : World} {e : Ending} {w' : World} (h : Coll L w1 e w') (hb : Below w.heap.size w w1) : Coll L w e w' := by
  obtain ⟨A, c, rfl, h1, h2⟩ := h
  refine ⟨A, c, rfl, ⟨h1.1, ?_⟩, hb.trans (h2.mono hb.size)⟩
  rcases h1.2 with hn | ⟨g, cap, cur, hv, hbg, rest⟩
  · exact .inl hn
  · exact .inr ⟨g, cap, cur, hv, Nat.le_trans hb.size hbg, rest⟩

theorem Coll.of {L : List UInt8} {w w' : World} {e : Ending} {A : Option Addr} {n c : Nat} (hn : L.length = n) (he : e = .returned (.slice A n c)) (h : w'.ownsRow w.heap.size 5 1 (.slice A n c) n (ubl L)) (hb : Below w.heap.size w w') : Coll L w e w' := by
  subst hn
  exact ⟨A, c, he, h, hb⟩
end Go.Proofs.YtjpppffgebecdaaGreatDoor
