/- What is asked of an era: its rules, what is wrong with it by itself, and that its end rises: the contracts of the closures of zone.open.
What is found out of a zone while its eras are gone through: rules and ends, in lists of the call's own; the contracts of what is asked of an era. -/
import Derived.Test.YtdmfgechoanmlaaGreatDoorMZQ
import Derived.Test.YtdmfgechoanmlaaGreatDoorMZR
import Derived.Test.YtdmfgechoanmlaaGreatDoorMZS
import Derived.Test.YtdmfgechoanmlaaGreatDoorMZN
namespace Go.Proofs.YtdmfgechoanmlaaGreatDoor
open Go Go.RowKit
attribute [local go_sem] Oper.semAt_some

def tmB (n : Int) : Bool := decide (n ≤ -90000 ∨ 90000 ≤ n)
theorem toom_is (n : Int) (v : Bool) (w : World) (hv : Hid (tmB n = v)) : Calls Tryz.prog 72 #[.int .i64 n] w fun e w' => e = .returned (.bool v) ∧ w = w' := by
  have V : (n ≤ -90000 ∧ v = true) ∨ (¬ n ≤ -90000 ∧ 90000 ≤ n ∧ v = true) ∨ (¬ n ≤ -90000 ∧ ¬ 90000 ≤ n ∧ v = false) := by
    have h := hv.out
    unfold tmB at h
    by_cases h1 : n ≤ -90000
    · left; exact ⟨h1, by rw [← h]; simp [h1]⟩
    · by_cases h2 : 90000 ≤ n
      · right; left; exact ⟨h1, h2, by rw [← h]; simp [h2]⟩
      · right; right; exact ⟨h1, h2, by rw [← h]; simp; omega⟩
  clear hv
  rcases V with ⟨h1, rfl⟩ | ⟨h1, h2, rfl⟩ | ⟨h1, h2, rfl⟩
  · go_enter Tryz.func72, Tryz.ntmps72
    go_wp2
    go_ret
    exact ⟨rfl, rfl⟩
  · have h3 : n ≥ 90000 := h2
    go_enter Tryz.func72, Tryz.ntmps72
    go_wp2
    go_ret
    exact ⟨rfl, rfl⟩
  · have h3 : ¬ n ≥ 90000 := h2
    go_enter Tryz.func72, Tryz.ntmps72
    go_wp2
    go_ret
    exact ⟨rfl, rfl⟩
def unV (e : EV) : Value := .agg #[.int .i64 e.uy, .int .i64 e.um, .int .i64 e.dk, .int .i64 e.dw, .int .i64 e.dn, .int .i64 e.sc, .int .i64 e.ck]
/-- What is wrong with an era by itself; ne: what is wrong with its Until. -/
def erE (e : EV) (last : Bool) (ne : Int) : Int :=
  if kdK e.fm = none then 12 else if tmB e.of = true ∨ tmB e.sv = true then 10 else if (e.rl ≠ [] ∧ e.sv ≠ 0) ∨ e.en = last then 12 else if e.en = true then ne else 0
theorem erE_ways (e : EV) (last : Bool) (ne v : Int) (h : erE e last ne = v) :
    (kdK e.fm = none ∧ v = 12) ∨ ∃ k, kdK e.fm = some k ∧ ((tmB e.of = true ∧ v = 10) ∨ (tmB e.of = false ∧ tmB e.sv = true ∧ v = 10) ∨ (tmB e.of = false ∧ tmB e.sv = false ∧
      ((e.rl.isEmpty = false ∧ (e.sv != 0) = true ∧ v = 12) ∨
       (((e.rl.isEmpty = false ∧ e.sv = 0) ∨ e.rl.isEmpty = true) ∧ ((e.en = last ∧ v = 12) ∨ (e.en = true ∧ last = false ∧ v = ne) ∨ (e.en = false ∧ last = true ∧ v = 0)))))) := by
  unfold erE at h
  cases hk : kdK e.fm with
  | none => left; rw [hk] at h; simp at h; exact ⟨rfl, h.symm⟩
  | some k =>
    right
    refine ⟨k, rfl, ?_⟩
    rw [hk, if_neg (by simp)] at h
    cases h1 : tmB e.of
    · cases h2 : tmB e.sv
      · right; right
        refine ⟨rfl, rfl, ?_⟩
        rw [h1, h2, if_neg (by simp)] at h
        cases h3 : e.rl.isEmpty
        · have h3' : e.rl ≠ [] := by intro h; rw [h] at h3; simp at h3
          cases h4 : (e.sv != 0)
          · right
            have h4' : ¬ (e.sv ≠ 0) := by simpa using h4
            refine ⟨.inl ⟨rfl, by simpa using h4⟩, ?_⟩
            cases h5 : e.en <;> cases last <;> simp [h5, h4', h3'] at h ⊢ <;> exact h.symm
          · left
            have h4' : e.sv ≠ 0 := by simpa using h4
            simp [h3', h4'] at h
            exact ⟨rfl, rfl, h.symm⟩
        · right
          have h3' : e.rl = [] := by simpa using h3
          refine ⟨.inr rfl, ?_⟩
          cases h5 : e.en <;> cases last <;> simp [h5, h3'] at h ⊢ <;> exact h.symm
      · right; left
        rw [h1, h2] at h
        simp at h
        exact ⟨rfl, rfl, h.symm⟩
    · left
      rw [h1] at h
      simp at h
      exact ⟨rfl, h.symm⟩
set_option maxRecDepth 20000 in
set_option maxHeartbeats 2000000 in
theorem wera_is (e : EV) (last : Bool) (ne v : Int) (w : World) (HA : Hid (LaidB w)) (HF : Hid (e.fm.length ≤ 1000)) (hN : Hid (e.en = true → ∀ W, Below w.heap.size w W → Calls Tryz.prog 73 #[unV e] W fun x W' => ∃ nv, x = .returned (.tuple #[.int .i64 nv, .int .i64 ne]) ∧ Below W.heap.size W W')) (hv : erE e last ne = v) :
    Calls Tryz.prog 54 #[evV e, .bool last] w fun x w' => x = .returned (.int .i64 v) ∧ Below w.heap.size w w' := by
  have X := Lib.hid (BlkN.make (Below.refl w.heap.size w) (cE e) 54)
  obtain ⟨x0, x1, x2, x3, x4, x5, x6, x7, x8, x9, x10, x11⟩ := cells12 X.out.blk
  have V := erE_ways e last ne v hv
  clear hv
  obtain ⟨of, rl, sv, fm, en, uy, um, dk, dw, dn, sc, ck⟩ := e
  unfold evV unV at *
  unfold cE at *
  simp only at *
  rcases V with ⟨hk, rfl⟩ | ⟨k, hk, V⟩
  · have HK : Hid (kdV fm = 0 ∧ kdE fm = 12) := Lib.hid (by unfold kdV kdE; rw [hk]; exact ⟨rfl, rfl⟩)
    clear hk hN
    go_enter Tryz.func54, Tryz.ntmps54
    go_wp2_with (first | (go_at_call 71; refine (kind_is fm _ _ _ (HA.out.next X.out.bel) HF.out HK).mono ?_; rintro e w1 ⟨rfl, k1⟩; simp only []))
    go_ret
    exact ⟨rfl, bthen X.out.bel k1⟩
  · have HK : Hid (kdV fm = (k : Int) ∧ kdE fm = 0) := Lib.hid (by unfold kdV kdE; rw [hk]; exact ⟨rfl, rfl⟩)
    have TM := Lib.hid (fun n v W h => toom_is n v W h)
    clear hk
    rcases V with ⟨h1, rfl⟩ | ⟨h1, h2, rfl⟩ | ⟨h1, h2, V⟩
    · have T1 := Lib.hid h1
      clear h1 hN
      go_enter Tryz.func54, Tryz.ntmps54
      go_wp2_with (first
        | (go_at_call 71; refine (kind_is fm _ _ _ (HA.out.next X.out.bel) HF.out HK).mono ?_; rintro e w1 ⟨rfl, k1⟩; simp only []
           have X1 := Lib.hid (X.out.next k1)
           clear k1 x0 x1 x2 x3 x4 x5 x6 x7 x8 x9 x10 x11
           obtain ⟨x0, x1, x2, x3, x4, x5, x6, x7, x8, x9, x10, x11⟩ := cells12 X1.out.blk)
        | (go_at_call 72; refine (TM.out _ true _ T1).mono ?_; rintro e w2 ⟨rfl, rfl⟩; simp only []))
      go_ret
      exact ⟨rfl, X1.out.bel⟩
    · have T1 := Lib.hid h1
      have T2 := Lib.hid h2
      clear h1 h2 hN
      go_enter Tryz.func54, Tryz.ntmps54
      go_wp2_with (first
        | (go_at_call 71; refine (kind_is fm _ _ _ (HA.out.next X.out.bel) HF.out HK).mono ?_; rintro e w1 ⟨rfl, k1⟩; simp only []
           have X1 := Lib.hid (X.out.next k1)
           clear k1 x0 x1 x2 x3 x4 x5 x6 x7 x8 x9 x10 x11
           obtain ⟨x0, x1, x2, x3, x4, x5, x6, x7, x8, x9, x10, x11⟩ := cells12 X1.out.blk)
        | (go_at_call 72; refine (TM.out _ false _ T1).mono ?_; rintro e w2 ⟨rfl, rfl⟩; simp only []; clear T1)
        | (go_at_call 72; refine (TM.out _ true _ T2).mono ?_; rintro e w2 ⟨rfl, rfl⟩; simp only []))
      go_ret
      exact ⟨rfl, X1.out.bel⟩
    · have T1 := Lib.hid h1
      have T2 := Lib.hid h2
      clear h1 h2
      rcases V with ⟨h3, h4, rfl⟩ | ⟨⟨h3, rfl⟩ | h3, V⟩
      · clear hN
        go_enter Tryz.func54, Tryz.ntmps54
        go_wp2_with (first
          | (go_at_call 71; refine (kind_is fm _ _ _ (HA.out.next X.out.bel) HF.out HK).mono ?_; rintro e w1 ⟨rfl, k1⟩; simp only []
             have X1 := Lib.hid (X.out.next k1)
             clear k1 x0 x1 x2 x3 x4 x5 x6 x7 x8 x9 x10 x11
             obtain ⟨x0, x1, x2, x3, x4, x5, x6, x7, x8, x9, x10, x11⟩ := cells12 X1.out.blk)
          | (go_at_call 72; refine (TM.out _ false _ T1).mono ?_; rintro e w2 ⟨rfl, rfl⟩; simp only []; clear T1)
          | (go_at_call 72; refine (TM.out _ false _ T2).mono ?_; rintro e w2 ⟨rfl, rfl⟩; simp only []))
        go_ret
        exact ⟨rfl, X1.out.bel⟩
      all_goals
        rcases V with ⟨rfl, rfl⟩ | ⟨rfl, rfl, rfl⟩ | ⟨rfl, rfl, rfl⟩
        · clear hN
          cases en
          all_goals
            go_enter Tryz.func54, Tryz.ntmps54
            go_wp2_with (first
              | (go_at_call 71; refine (kind_is fm _ _ _ (HA.out.next X.out.bel) HF.out HK).mono ?_; rintro e w1 ⟨rfl, k1⟩; simp only []
                 have X1 := Lib.hid (X.out.next k1)
                 clear k1 x0 x1 x2 x3 x4 x5 x6 x7 x8 x9 x10 x11
                 obtain ⟨x0, x1, x2, x3, x4, x5, x6, x7, x8, x9, x10, x11⟩ := cells12 X1.out.blk)
              | (go_at_call 72; refine (TM.out _ false _ T1).mono ?_; rintro e w2 ⟨rfl, rfl⟩; simp only []; clear T1)
              | (go_at_call 72; refine (TM.out _ false _ T2).mono ?_; rintro e w2 ⟨rfl, rfl⟩; simp only []))
            go_ret
            exact ⟨rfl, X1.out.bel⟩
        · have NM := Lib.hid (hN.out rfl)
          clear hN
          go_enter Tryz.func54, Tryz.ntmps54
          go_wp2_with (first
            | (go_at_call 71; refine (kind_is fm _ _ _ (HA.out.next X.out.bel) HF.out HK).mono ?_; rintro e w1 ⟨rfl, k1⟩; simp only []
               have X1 := Lib.hid (X.out.next k1)
               clear k1 x0 x1 x2 x3 x4 x5 x6 x7 x8 x9 x10 x11
               obtain ⟨x0, x1, x2, x3, x4, x5, x6, x7, x8, x9, x10, x11⟩ := cells12 X1.out.blk)
            | (go_at_call 72; refine (TM.out _ false _ T1).mono ?_; rintro e w2 ⟨rfl, rfl⟩; simp only []; clear T1)
            | (go_at_call 72; refine (TM.out _ false _ T2).mono ?_; rintro e w2 ⟨rfl, rfl⟩; simp only [])
            | (go_at_call 73; refine (NM.out _ X1.out.bel).mono ?_; rintro e w3 ⟨nv, rfl, k3⟩; simp only []
               have X2 := Lib.hid (bthen X1.out.bel k3)
               clear k3))
          go_ret
          exact ⟨rfl, X2.out⟩
        · clear hN
          go_enter Tryz.func54, Tryz.ntmps54
          go_wp2_with (first
            | (go_at_call 71; refine (kind_is fm _ _ _ (HA.out.next X.out.bel) HF.out HK).mono ?_; rintro e w1 ⟨rfl, k1⟩; simp only []
               have X1 := Lib.hid (X.out.next k1)
               clear k1 x0 x1 x2 x3 x4 x5 x6 x7 x8 x9 x10 x11
               obtain ⟨x0, x1, x2, x3, x4, x5, x6, x7, x8, x9, x10, x11⟩ := cells12 X1.out.blk)
            | (go_at_call 72; refine (TM.out _ false _ T1).mono ?_; rintro e w2 ⟨rfl, rfl⟩; simp only []; clear T1)
            | (go_at_call 72; refine (TM.out _ false _ T2).mono ?_; rintro e w2 ⟨rfl, rfl⟩; simp only []))
          go_ret
          exact ⟨rfl, X1.out.bel⟩
end Go.Proofs.YtdmfgechoanmlaaGreatDoor

namespace Go.Proofs.YtdmfgechoanmlaaGreatDoor
open Go Go.RowKit
attribute [local go_sem] Oper.semAt_some

theorem wrul_info : (Tryz.prog.info? 80).map (fun i => (i.zero, i.size, i.bytes)) = some (some (.slice none 0 0), 1, 24) := by kernel_rfl
/-- A value behind a list of slices of rules that the call made itself. -/
theorem wpList_rpush {w : World} {ops : Array Oper} {rest : List Oper} {o : Oper} {a : Act} {Q : Exit → Act → World → Prop} (hgd : o.guard = none) (s x : Operand)
    (ho : o.op = .call { callee := .builtin .append, args := #[s, x], argTypes := #[89, 89] }) {base n m c : Nat} {A : Option Addr} {l : List Value} (hm : n + 1 = m) (X : w.ownsRow base 80 1 (.slice A n c) n l)
    (hs : a.eval s = .slice A n c) (ad : Addr) (p : Value) (hp : p.oneCell' = true) (hx : a.eval x = .slice (some ad) 1 1) (hb : w.cell? ad = some p) (hl : n ≤ 100000) (hbase : base ≤ w.heap.size)
    (h : ∀ A' c' w', w'.ownsRow base 80 1 (.slice A' m c') m (l ++ [p]) → w.grownBy w' (Value.slice A n c).ownBlock → wpList Tryz.prog ops Q rest (a.put o.dst (.slice A' m c')) w') : wpList Tryz.prog ops Q (o :: rest) a w := by
  obtain ⟨i0, hi0, hz0, hz1, hz2⟩ := info_parts wrul_info
  subst hm
  refine wpList_append_own_at _ hgd s x _ ho base 80 i0 _ 1 24 Tryz.underlying89 hi0 hz0 hz1 hz2 rfl (by omega) (.slice A n c) n l hs X ad 1 1 [p] hx rfl (by intro j u hu; rcases j with _ | j <;> simp at hu; subst hu; simpa [Addr.add] using hb) (by simpa using hp) (by simp only [maxLen]; omega) (by omega) hbase ?_
  intro v' w' hown hg _ _
  obtain ⟨A', c', rfl⟩ := wown_form hown
  exact h A' c' w' hown hg
theorem own_apart {W : World} {b1 b2 n1 n2 : Nat} {e1 e2 : TypeId} {v1 v2 : Value} {x1 x2 : List Value} (h1 : W.ownsRow b1 e1 1 v1 n1 x1) (h2 : W.ownsRow b2 e2 1 v2 n2 x2) (hne : e1 ≠ e2) : v1.ownBlock = none ∨ v1.ownBlock ≠ v2.ownBlock := by
  rcases h1.2 with ⟨rfl, _⟩ | ⟨g, cap, cur, rfl, hb, hg, _⟩
  · exact .inl rfl
  · rcases h2.2 with ⟨rfl, _⟩ | ⟨g', cap', cur', rfl, hb', hg', _⟩
    · exact .inr (by simp [Value.ownBlock])
    · refine .inr fun h => ?_
      simp [Value.ownBlock] at h
      subst h
      rw [hg] at hg'
      cases hg'
      exact hne rfl
/-- What is found out so far: the rules' slices, and ends. -/
structure WhX (gw : Nat) (rows : List Value) (ends : List Int) (Ar : Option Addr) (cr : Nat) (Ae : Option Addr) (ce : Nat) (W : World) : Prop where
  blk : W.heap[gw]? = some (.cells #[.slice Ar rows.length cr, .slice Ae ends.length ce] 91 (0, 0))
  rw' : W.ownsRow (gw + 1) 80 1 (.slice Ar rows.length cr) rows.length rows
  en : W.ownsRow (gw + 1) 3 1 (.slice Ae ends.length ce) ends.length (ends.map fun n => .int .i64 n)
def Wh (gw : Nat) (rows : List Value) (ends : List Int) (W : World) : Prop := ∃ Ar cr Ae ce, WhX gw rows ends Ar cr Ae ce W
theorem WhX.kept {gw : Nat} {rows : List Value} {ends : List Int} {Ar : Option Addr} {cr : Nat} {Ae : Option Addr} {ce : Nat} {W W' : World} {row : Option Nat} (h : WhX gw rows ends Ar cr Ae ce W) (hg : W.grownBy W' row)
    (hr : ∀ r, row = some r → ∃ o : Obj, W.heap[r]? = some o ∧ ∀ cs t fz, o = .cells cs t fz → t ≠ 91 ∧ t ≠ 80 ∧ t ≠ 3) : WhX gw rows ends Ar cr Ae ce W' := by
  have key : ∀ k cs t fz, W.heap[k]? = some (.cells cs t fz) → (t = 91 ∨ t = 80 ∨ t = 3) → some k ≠ row := fun k cs t fz hk ht e => by
    obtain ⟨o, ho, h3⟩ := hr k e.symm
    rw [hk] at ho; cases ho
    have := h3 cs t fz rfl
    rcases ht with h | h | h
    · exact this.1 h
    · exact this.2.1 h
    · exact this.2.2 h
  have ok : ∀ {v : Value} {n : Nat} {xs : List Value} {e : TypeId}, W.ownsRow (gw + 1) e 1 v n xs → (e = 91 ∨ e = 80 ∨ e = 3) → v.ownBlock = none ∨ v.ownBlock ≠ row := fun {v n xs e} hv he => by
    rcases hv.2 with ⟨rfl, _⟩ | ⟨g, cap, cur, rfl, hb, hgg, _⟩
    · exact .inl rfl
    · exact .inr (key g _ _ _ hgg he)
  exact ⟨(hg.block gw (Array.getElem?_eq_some_iff.1 h.blk).1 (key gw _ _ _ h.blk (.inl rfl))).trans h.blk, h.rw'.kept hg (ok h.rw' (.inr (.inl rfl))), h.en.kept hg (ok h.en (.inr (.inr rfl)))⟩
theorem WhX.next {gw : Nat} {rows : List Value} {ends : List Int} {Ar : Option Addr} {cr : Nat} {Ae : Option Addr} {ce : Nat} {W W' : World} (h : WhX gw rows ends Ar cr Ae ce W) (k : Below W.heap.size W W') : WhX gw rows ends Ar cr Ae ce W' := h.kept (zgrown k) (fun r e => by cases e)
theorem Wh.own {β : Type} (B gw : Nat) (rows : β → List Value) (ends : β → List Int) : OwnE B (fun (s : β) W => Wh gw (rows s) (ends s) W) := fun s W W' row ⟨Ar, cr, Ae, ce, h⟩ hg hr =>
  ⟨Ar, cr, Ae, ce, h.kept hg fun r e => by
    obtain ⟨o, ho, h2⟩ := (hr r e).2
    refine ⟨o, ho, fun cs t fz h3 => ?_⟩
    subst h3
    rcases h2 with h2 | ⟨cs', fz', h2⟩
    · cases h2
    · cases h2; decide⟩
theorem Wh.next {gw : Nat} {rows : List Value} {ends : List Int} {W W' : World} (h : Wh gw rows ends W) (k : Below W.heap.size W W') : Wh gw rows ends W' := by
  obtain ⟨Ar, cr, Ae, ce, h⟩ := h
  exact ⟨Ar, cr, Ae, ce, h.next k⟩
end Go.Proofs.YtdmfgechoanmlaaGreatDoor
