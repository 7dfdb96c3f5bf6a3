/- The contract of lexer.Lines' closure: it hands all lines of a text that have words, up to the first wrong one, to whatever loop it is ranged over by; the contract of Lines. -/
import Derived.Test.YtomiopdmgdidnaaDoorLxF
import Derived.Test.YtomiopdmgdidnaaDoorLxN
import Derived.Test.YtomiopdmgdidnaaDoorLxM
namespace Go.Proofs.YtomiopdmgdidnaaDoor
open Go.RowKit Go.Shelf
attribute [local go_sem] Oper.semAt_some

/-- A line that is told: its number, its words and where they lie, its error. -/
structure Tx where
  no : Nat
  ws : List (List UInt8)
  er : Int
  A : Option Addr
  c : Nat
  bd : no < 1000000 ∧ ws.length ≤ 32
def txV (x : Tx) : Array Value := #[.agg #[.int .i64 (x.no : Int), .slice x.A x.ws.length x.c], .int .i64 x.er]
def tell (x : Tx) : Told := (x.no, x.ws)
/-- The texts ws lie in a row of texts. -/
def Rw (W : World) (A : Option Addr) (ws : List (List UInt8)) : Prop :=
  ∀ (j : Nat) (p : List UInt8), ws[j]? = some p → ∃ g cs fz, A = some ⟨g, 0, none⟩ ∧ W.heap[g]? = some (.cells cs 9 fz) ∧ cs[j]? = some (.string ⟨p.toArray⟩)
theorem Rw.nil (W : World) (A : Option Addr) : Rw W A [] := fun j p h => by simp at h
theorem Rw.of_own {w : World} {base n c : Nat} {A : Option Addr} {ws : List (List UInt8)} (h : w.ownsRow base 9 1 (.slice A n c) n (tcl ws)) : Rw w A ws := fun j p hp => by
  have hn : n = ws.length := by have := h.1; rw [tcl_len] at this; omega
  have hj := (List.getElem?_eq_some_iff.1 hp).1
  rcases h.2 with ⟨_, h1⟩ | ⟨g, cap, cur, hv, hb, hg, h1, h2, h3, h4⟩
  · omega
  · injection hv with e1 e2 e3
    refine ⟨g, cur, _, e1, hg, ?_⟩
    have := tcl_get hp
    rw [← h4, List.getElem?_take_of_lt (by omega)] at this
    rw [← Array.getElem?_toList]; exact this
theorem Rw.ws {W : World} {A : Option Addr} {ws : List (List UInt8)} (h : Rw W A ws) : Ws W A ws := fun j p hp => by
  obtain ⟨g, cs, fz, e, hg, hc⟩ := h j p hp
  exact ⟨g, 0, e, (Array.getElem?_eq_some_iff.1 hg).1, by rw [Nat.zero_add, cell_of_row W g j _ _ fz hg]; exact hc⟩
theorem Rw.kept {W W' : World} {row : Option Nat} {A : Option Addr} {ws : List (List UInt8)} (h : Rw W A ws) (hg : W.grownBy W' row) (hr : ∀ r, row = some r → ∀ cs fz, W.heap[r]? ≠ some (.cells cs 9 fz)) : Rw W' A ws := fun j p hp => by
  obtain ⟨g, cs, fz, e, hh, hc⟩ := h j p hp
  exact ⟨g, cs, fz, e, (hg.block g (Array.getElem?_eq_some_iff.1 hh).1 (fun e => hr g e.symm cs fz hh)).trans hh, hc⟩
theorem Rw.next {W W' : World} {A : Option Addr} {ws : List (List UInt8)} (h : Rw W A ws) (k : Below W.heap.size W W') : Rw W' A ws := h.kept (lxgrown k none) (fun r e => by cases e)

/-- All that is told of numbered lines, and the error of the first wrong one. -/
def toldP : List (Nat × List UInt8) → List Told
  | [] => []
  | x :: r => if lexE x.2 ≠ 0 then [(x.1, [])] else if wordsL x.2 = [] then toldP r else (x.1, wordsL x.2) :: toldP r
def errP : List (Nat × List UInt8) → Int
  | [] => 0
  | x :: r => if lexE x.2 ≠ 0 then lexE x.2 else errP r
theorem toldP_ix : ∀ (ls : List (List UInt8)) (n : Nat), toldP (ixF n ls) = toldL n ls
  | [], _ => rfl
  | l :: ls, n => by rw [ixF, toldP, toldL, toldP_ix ls (n + 1)]
theorem errP_ix : ∀ (ls : List (List UInt8)) (n : Nat), errP (ixF n ls) = toldE ls
  | [], _ => rfl
  | l :: ls, n => by rw [ixF, errP, toldE, errP_ix ls (n + 1)]
theorem toldP_app : ∀ a b : List (Nat × List UInt8), toldP (a ++ b) = if errP a = 0 then toldP a ++ toldP b else toldP a
  | [], b => by simp [toldP, errP]
  | x :: a, b => by
    rw [List.cons_append, toldP, errP, toldP, toldP_app a b]
    by_cases h : lexE x.2 = 0
    · have hN : ¬ lexE x.2 ≠ 0 := fun h' => h' h
      rw [if_neg hN, if_neg hN, if_neg hN]
      by_cases hw : wordsL x.2 = []
      · rw [if_pos hw, if_pos hw]
      · rw [if_neg hw, if_neg hw]; split <;> simp
    · rw [if_pos h, if_pos h, if_pos h, if_neg h]
theorem errP_app : ∀ a b : List (Nat × List UInt8), errP (a ++ b) = if errP a = 0 then errP b else errP a
  | [], b => by simp [errP]
  | x :: a, b => by
    rw [List.cons_append, errP, errP, errP_app a b]
    by_cases h : lexE x.2 = 0
    · have hN : ¬ lexE x.2 ≠ 0 := fun h' => h' h
      rw [if_neg hN, if_neg hN]
    · rw [if_pos h, if_pos h, if_neg h]
theorem toldP_len : ∀ a : List (Nat × List UInt8), (toldP a).length ≤ a.length
  | [] => Nat.le_refl _
  | x :: a => by
    have := toldP_len a
    rw [toldP]
    split
    · simp
    · split <;> simp only [List.length_cons] <;> omega

/-- The error of the last one that is told. -/
def lastE (ts : List Tx) : Int := match ts.getLast? with | some x => x.er | none => 0
theorem lastE_snoc (ts : List Tx) (x : Tx) : lastE (ts ++ [x]) = x.er := by simp [lastE]
/-- What stands behind the lines pre: all that is told of them; the errors of all but the last one are none. -/
structure ToldBy (pre : List (Nat × List UInt8)) (ts : List Tx) : Prop where
  told : ts.map tell = toldP pre
  err : lastE ts = errP pre
  good : ∀ y ∈ ts.dropLast, y.er = 0

/-- What a round of whatever loop over Lines may lean on. -/
def TxOk (N : Nat) (pre : List Tx) (x : Tx) (W : World) : Prop := (∀ y ∈ pre, y.er = 0) ∧ pre.length < N ∧ Rw W x.A x.ws

theorem good_all {pre : List (Nat × List UInt8)} {ts : List Tx} (h : ToldBy pre ts) (h0 : errP pre = 0) : ∀ y ∈ ts, y.er = 0 := by
  intro y hy
  rcases List.eq_nil_or_concat ts with rfl | ⟨q, x, rfl⟩
  · cases hy
  · rw [List.concat_eq_append] at hy h
    have hl := h.err
    rw [lastE_snoc, h0] at hl
    rcases List.mem_append.1 hy with hy | hy
    · exact h.good y (by simpa using hy)
    · rw [List.mem_singleton.1 hy]; exact hl
theorem ToldBy.nil : ToldBy [] [] := ⟨rfl, rfl, fun _ h => by cases h⟩
theorem ToldBy.skip {pre : List (Nat × List UInt8)} {ts : List Tx} (h : ToldBy pre ts) (h0 : errP pre = 0) (x : Nat × List UInt8) (he : lexE x.2 = 0) (hw : wordsL x.2 = []) : ToldBy (pre ++ [x]) ts ∧ errP (pre ++ [x]) = 0 := by
  have e1 : errP (pre ++ [x]) = 0 := by rw [errP_app, if_pos h0, errP, if_neg (by simpa using he)]; rfl
  refine ⟨⟨?_, by rw [e1, ← h0]; exact h.err, h.good⟩, e1⟩
  rw [toldP_app, if_pos h0, toldP, if_neg (by simpa using he), if_pos hw, toldP, List.append_nil]; exact h.told
theorem ToldBy.put {pre : List (Nat × List UInt8)} {ts : List Tx} (h : ToldBy pre ts) (h0 : errP pre = 0) (x : Nat × List UInt8) (y : Tx) (hn : y.no = x.1) (hw : y.ws = wordsL x.2) (he : y.er = lexE x.2) (hk : lexE x.2 ≠ 0 ∨ wordsL x.2 ≠ []) : ToldBy (pre ++ [x]) (ts ++ [y]) ∧ errP (pre ++ [x]) = y.er := by
  have e1 : errP (pre ++ [x]) = y.er := by
    rw [errP_app, if_pos h0, errP, he]
    by_cases hz : lexE x.2 = 0
    · rw [if_neg (by simpa using hz), hz]; rfl
    · rw [if_pos hz]
  refine ⟨⟨?_, by rw [lastE_snoc, e1], fun z hz => good_all h h0 z (by simpa using hz)⟩, e1⟩
  rw [List.map_append, h.told, toldP_app, if_pos h0]
  congr 1
  rw [toldP]
  by_cases hz : lexE x.2 = 0
  · have hne : wordsL x.2 ≠ [] := by
      rcases hk with hk | hk
      · exact absurd hz hk
      · exact hk
    rw [if_neg (by simpa using hz), if_neg hne]
    show [tell y] = _
    unfold tell
    rw [hn, hw]; rfl
  · rw [if_pos hz]
    show [tell y] = _
    unfold tell
    rw [hn, hw, words_none hz]
theorem ToldBy.few {p : List (Nat × List UInt8)} {ts : List Tx} {s : List UInt8} (h : ToldBy p ts) (hp : p <+: ixF 1 (splitF s)) : ts.length ≤ s.length := by
  obtain ⟨q, hq⟩ := hp
  have h1 : ts.length = (toldP p).length := by rw [← h.told, List.length_map]
  have h2 : (toldP p).length ≤ (toldP (p ++ q)).length := by
    rw [toldP_app]
    split
    · simp
    · exact Nat.le_refl _
  rw [hq, toldP_ix] at h2
  have h3 := told_few (splitF s) 1
  have h4 := split_sizes s
  omega
theorem ToldBy.whole {p a : List (Nat × List UInt8)} {ts : List Tx} (h : ToldBy p ts) (hp : p <+: a) (he : errP p ≠ 0) : ToldBy a ts := by
  obtain ⟨q, rfl⟩ := hp
  refine ⟨?_, ?_, h.good⟩
  · rw [toldP_app, if_neg he]; exact h.told
  · rw [errP_app, if_neg he]; exact h.err
theorem tx_bd {n : Nat} {ws : List (List UInt8)} {l : List UInt8} (hn : n < 1000000) (h : wordsL l = ws) : n < 1000000 ∧ ws.length ≤ 32 := by
  refine ⟨hn, ?_⟩
  rw [← h]
  unfold wordsL
  split
  · rename_i h0
    unfold lexE at h0
    split at h0
    · cases h0
    · split at h0
      · cases h0
      · split at h0
        · cases h0
        · rw [List.length_map]; omega
  · exact Nat.zero_le _
/-- What lies between two rounds over the lines. -/
def LnI (B : Nat) (f : Value) (J : List Tx → World → Prop) (pre : List (Nat × List UInt8)) (W : World) : Prop :=
  ∃ ts : List Tx, ToldBy pre ts ∧ errP pre = 0 ∧ J ts W ∧ Boxed W B 63 f ∧ MaxIs W
def LnX (J : List Tx → World → Prop) (c : Code) (pre : List (Nat × List UInt8)) (W : World) : Prop :=
  c = .ret ∧ ∃ ts : List Tx, ToldBy pre ts ∧ errP pre ≠ 0 ∧ J ts W
theorem max_grown {W W' : World} {row : Option Nat} (h : MaxIs W) (hg : W.grownBy W' row) (hr : some 0 ≠ row) : MaxIs W' := by
  obtain ⟨m, hm⟩ := h
  exact ⟨m, by rw [← hm]; simp only [World.cell?, hg.block _ (lxcell_lt hm) hr]⟩
theorem lnI_own {α : Type} {K B : Nat} {f : Value} {J : List Tx → World → Prop} (h : List α → List (Nat × List UInt8)) (hJ : OwnFrom K J) (hB : 0 < K) : OwnFrom K (fun pre W => LnI B f J (h pre) W) := by
  rintro pre W W' row ⟨ts, h1, h2, h3, h4, h5⟩ hg hr
  refine ⟨ts, h1, h2, hJ _ _ _ _ h3 hg hr, h4.kept hg (fun e => ?_), max_grown h5 hg (fun e => ?_)⟩
  · obtain ⟨_, o, ho, hc⟩ := hr B e.symm
    rw [show W.heap[B]? = _ from h4] at ho
    cases ho; cases hc
  · have := (hr _ e.symm).1; omega
theorem lnX_own {α : Type} {K : Nat} {J : List Tx → World → Prop} (h : List α → List (Nat × List UInt8)) (hJ : OwnFrom K J) (c : Code) : OwnFrom K (fun pre W => LnX J c (h pre) W) := by
  rintro pre W W' row ⟨hc, ts, h1, h2, h3⟩ hg hr
  exact ⟨hc, ts, h1, h2, hJ _ _ _ _ h3 hg hr⟩
theorem keepsFrom_mono {B B' : Nat} {W W' : World} (h : KeepsFrom B W W') (hb : B ≤ B') : KeepsFrom B' W W' := ⟨h.size, fun k o hk => h.same k o (Nat.le_trans hb hk)⟩
end Go.Proofs.YtomiopdmgdidnaaDoor
