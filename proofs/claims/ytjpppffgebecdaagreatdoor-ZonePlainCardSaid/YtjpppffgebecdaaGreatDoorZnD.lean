/- What is found out of a zone while its eras are gone through: rules and ends, in lists of the call's own; the contracts of what is asked of an era. -/
import Derived.Test.YtjpppffgebecdaaGreatDoorZnC
namespace Go.Proofs.YtjpppffgebecdaaGreatDoor
open Go Go.RowKit
attribute [local go_sem] Oper.semAt_some

theorem wrul_info : (Tryz.prog.info? 60).map (fun i => (i.zero, i.size, i.bytes)) = some (some (.slice none 0 0), 1, 24) := by kernel_rfl
/-- A value behind a list of slices of rules that the call made itself. -/
theorem wpList_rpush {w : World} {ops : Array Oper} {rest : List Oper} {o : Oper} {a : Act} {Q : Exit → Act → World → Prop} (hgd : o.guard = none) (s x : Operand)
    (ho : o.op = .call { callee := .builtin .append, args := #[s, x], argTypes := #[92, 92] }) {base n m c : Nat} {A : Option Addr} {l : List Value} (hm : n + 1 = m) (X : w.ownsRow base 60 1 (.slice A n c) n l)
    (hs : a.eval s = .slice A n c) (ad : Addr) (p : Value) (hp : p.oneCell' = true) (hx : a.eval x = .slice (some ad) 1 1) (hb : w.cell? ad = some p) (hl : n ≤ 100000) (hbase : base ≤ w.heap.size)
    (h : ∀ A' c' w', w'.ownsRow base 60 1 (.slice A' m c') m (l ++ [p]) → w.grownBy w' (Value.slice A n c).ownBlock → wpList Tryz.prog ops Q rest (a.put o.dst (.slice A' m c')) w') : wpList Tryz.prog ops Q (o :: rest) a w := by
  obtain ⟨i0, hi0, hz0, hz1, hz2⟩ := info_parts wrul_info
  subst hm
  refine wpList_append_own_at _ hgd s x _ ho base 60 i0 _ 1 24 Tryz.underlying92 hi0 hz0 hz1 hz2 rfl (by omega) (.slice A n c) n l hs X ad 1 1 [p] hx rfl (by intro j u hu; rcases j with _ | j <;> simp at hu; subst hu; simpa [Addr.add] using hb) (by simpa using hp) (by simp only [maxLen]; omega) (by omega) hbase ?_
  intro v' w' hown hg _ _
  obtain ⟨A', c', rfl⟩ := wown_form hown
  exact h A' c' w' hown hg
theorem own_apart {W : World} {b1 b2 n1 n2 : Nat} {e1 e2 : TypeId} {v1 v2 : Value} {x1 x2 : List Value} (h1 : W.ownsRow b1 e1 1 v1 n1 x1) (h2 : W.ownsRow b2 e2 1 v2 n2 x2) (hne : e1 ≠ e2) : v1.ownBlock = none ∨ v1.ownBlock ≠ v2.ownBlock := by
  rcases h1.2 with ⟨rfl, _⟩ | ⟨g, cap, cur, rfl, hb, hg, _⟩
  · exact .inl rfl
  · rcases h2.2 with ⟨rfl, _⟩ | ⟨g', cap', cur', rfl, hb', hg', _⟩
    · exact .inr (by simp [Value.ownBlock])
    · refine .inr fun h => ?_
      simp [Value.ownBlock] at h
      subst h
      rw [hg] at hg'
      cases hg'
      exact hne rfl
/-- What is found out so far: the rules' slices, and ends. -/
structure WhX (gw : Nat) (rows : List Value) (ends : List Int) (Ar : Option Addr) (cr : Nat) (Ae : Option Addr) (ce : Nat) (W : World) : Prop where
  blk : W.heap[gw]? = some (.cells #[.slice Ar rows.length cr, .slice Ae ends.length ce] 94 (0, 0))
  rw' : W.ownsRow (gw + 1) 60 1 (.slice Ar rows.length cr) rows.length rows
  en : W.ownsRow (gw + 1) 3 1 (.slice Ae ends.length ce) ends.length (ends.map fun n => .int .i64 n)
def Wh (gw : Nat) (rows : List Value) (ends : List Int) (W : World) : Prop := ∃ Ar cr Ae ce, WhX gw rows ends Ar cr Ae ce W
theorem WhX.kept {gw : Nat} {rows : List Value} {ends : List Int} {Ar : Option Addr} {cr : Nat} {Ae : Option Addr} {ce : Nat} {W W' : World} {row : Option Nat} (h : WhX gw rows ends Ar cr Ae ce W) (hg : W.grownBy W' row)
    (hr : ∀ r, row = some r → ∃ o : Obj, W.heap[r]? = some o ∧ ∀ cs t fz, o = .cells cs t fz → t ≠ 94 ∧ t ≠ 60 ∧ t ≠ 3) : WhX gw rows ends Ar cr Ae ce W' := by
  have key : ∀ k cs t fz, W.heap[k]? = some (.cells cs t fz) → (t = 94 ∨ t = 60 ∨ t = 3) → some k ≠ row := fun k cs t fz hk ht e => by
    obtain ⟨o, ho, h3⟩ := hr k e.symm
    rw [hk] at ho; cases ho
    have := h3 cs t fz rfl
    rcases ht with h | h | h
    · exact this.1 h
    · exact this.2.1 h
    · exact this.2.2 h
  have ok : ∀ {v : Value} {n : Nat} {xs : List Value} {e : TypeId}, W.ownsRow (gw + 1) e 1 v n xs → (e = 94 ∨ e = 60 ∨ e = 3) → v.ownBlock = none ∨ v.ownBlock ≠ row := fun {v n xs e} hv he => by
    rcases hv.2 with ⟨rfl, _⟩ | ⟨g, cap, cur, rfl, hb, hgg, _⟩
    · exact .inl rfl
    · exact .inr (key g _ _ _ hgg he)
  exact ⟨(hg.block gw (Array.getElem?_eq_some_iff.1 h.blk).1 (key gw _ _ _ h.blk (.inl rfl))).trans h.blk, h.rw'.kept hg (ok h.rw' (.inr (.inl rfl))), h.en.kept hg (ok h.en (.inr (.inr rfl)))⟩
theorem WhX.next {gw : Nat} {rows : List Value} {ends : List Int} {Ar : Option Addr} {cr : Nat} {Ae : Option Addr} {ce : Nat} {W W' : World} (h : WhX gw rows ends Ar cr Ae ce W) (k : Below W.heap.size W W') : WhX gw rows ends Ar cr Ae ce W' := h.kept (zgrown k) (fun r e => by cases e)
theorem Wh.own {β : Type} (B gw : Nat) (rows : β → List Value) (ends : β → List Int) : OwnE B (fun (s : β) W => Wh gw (rows s) (ends s) W) := fun s W W' row ⟨Ar, cr, Ae, ce, h⟩ hg hr =>
  ⟨Ar, cr, Ae, ce, h.kept hg fun r e => by
    obtain ⟨o, ho, h2⟩ := (hr r e).2
    refine ⟨o, ho, fun cs t fz h3 => ?_⟩
    subst h3
    rcases h2 with h2 | ⟨cs', fz', h2⟩
    · cases h2
    · cases h2; decide⟩
theorem Wh.next {gw : Nat} {rows : List Value} {ends : List Int} {W W' : World} (h : Wh gw rows ends W) (k : Below W.heap.size W W') : Wh gw rows ends W' := by
  obtain ⟨Ar, cr, Ae, ce, h⟩ := h
  exact ⟨Ar, cr, Ae, ce, h.next k⟩
end Go.Proofs.YtjpppffgebecdaaGreatDoor
