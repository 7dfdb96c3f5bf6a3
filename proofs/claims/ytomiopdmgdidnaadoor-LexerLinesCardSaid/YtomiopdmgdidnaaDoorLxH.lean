/- The contract of the law's own told: all lines that are told of a text, and the last error; nothing that was in memory changes. -/
import Derived.Test.YtomiopdmgdidnaaDoorLxU
namespace Go.Proofs.YtomiopdmgdidnaaDoor
open Go.RowKit Go.Shelf
attribute [local go_sem] Oper.semAt_some

theorem lxl_info : (Tryd.prog.info? 38).map (fun i => (i.zero, i.size, i.bytes)) = some (some (.agg #[.int .i64 0, .slice none 0 0]), 2, 32) := by kernel_rfl

/-- The cells of lines. -/
def lcl (ts : List Tx) : List Value := ts.flatMap fun x => [.int .i64 (x.no : Int), .slice x.A x.ws.length x.c]
theorem lcl_len (ts : List Tx) : (lcl ts).length = 2 * ts.length := by
  induction ts with
  | nil => rfl
  | cons x ts ih => simp [lcl] at ih ⊢; omega
theorem lcl_app (a b : List Tx) : lcl (a ++ b) = lcl a ++ lcl b := by simp [lcl]
theorem lcl_one (ts : List Tx) : ∀ u ∈ lcl ts, u.oneCell' = true := by
  intro u hu
  simp only [lcl, List.mem_flatMap] at hu
  obtain ⟨x, _, hx⟩ := hu
  simp at hx
  rcases hx with rfl | rfl <;> rfl
theorem lcl_get {ts : List Tx} {j : Nat} {x : Tx} (h : ts[j]? = some x) : (lcl ts)[2 * j]? = some (.int .i64 (x.no : Int)) ∧ (lcl ts)[2 * j + 1]? = some (.slice x.A x.ws.length x.c) := by
  induction ts generalizing j with
  | nil => simp at h
  | cons y ts ih =>
    cases j with
    | zero => simp at h; subst h; exact ⟨rfl, rfl⟩
    | succ j =>
      have := ih (by simpa using h)
      rw [show 2 * (j + 1) = 2 * j + 1 + 1 by omega]
      exact this

/-- The lines ts lie at the address. -/
def Ls (W : World) (A : Option Addr) (ts : List Told) : Prop :=
  ∀ (j : Nat) (x : Told), ts[j]? = some x → ∃ g o, A = some ⟨g, o, none⟩ ∧ g < W.heap.size ∧ W.cell? ⟨g, o + 2 * j, none⟩ = some (.int .i64 (x.1 : Int)) ∧ ∃ A' c, W.cell? ⟨g, o + (2 * j + 1), none⟩ = some (.slice A' x.2.length c) ∧ Ws W A' x.2
theorem Ls.nil (W : World) (A : Option Addr) : Ls W A [] := fun j x h => by simp at h
theorem Ls.next {W W' : World} {A : Option Addr} {ts : List Told} (h : Ls W A ts) (k : Below W.heap.size W W') : Ls W' A ts := fun j x hx => by
  obtain ⟨g, o, e, hl, h1, A', c, h2, h3⟩ := h j x hx
  exact ⟨g, o, e, Nat.lt_of_lt_of_le hl k.size, by rw [k.cell (p := ⟨g, o + 2 * j, none⟩) hl]; exact h1, A', c, by rw [k.cell (p := ⟨g, o + (2 * j + 1), none⟩) hl]; exact h2, h3.next k⟩

/-- What lies in told's variables between two rounds. -/
structure ToI (g : Nat) (ts : List Tx) (W : World) : Prop where
  r0 : Go.Boxed W g 33 (.slice none 0 0)
  r1 : Go.Boxed W (g + 1) 24 (.int .i64 0)
  r2 : Go.Boxed W (g + 2) 4 (.bool false)
  out : ∃ v, Go.Boxed W (g + 4) 33 v ∧ W.ownsRow (g + 9) 38 2 v ts.length (lcl ts)
  last : Go.Boxed W (g + 5) 24 (.int .i64 (lastE ts))
  rows : ∀ y ∈ ts, Rw W y.A y.ws
theorem ToI.kept {g : Nat} {ts : List Tx} {W W' : World} {row : Option Nat} (h : ToI g ts W) (hg : W.grownBy W' row) (hr : ∀ r, row = some r → ∃ o : Obj, W.heap[r]? = some o ∧ o.isCells = false) : ToI g ts W' := by
  have nb : ∀ {B t v}, Go.Boxed W B t v → some B ≠ row := fun {B t v} hb e => by
    obtain ⟨o, ho, hc⟩ := hr B e.symm
    rw [show W.heap[B]? = _ from hb] at ho; cases ho; cases hc
  refine ⟨h.r0.kept hg (nb h.r0), h.r1.kept hg (nb h.r1), h.r2.kept hg (nb h.r2), ?_, h.last.kept hg (nb h.last), fun y hy => (h.rows y hy).kept hg (fun r e cs fz hb => ?_)⟩
  · obtain ⟨v, hv, ho⟩ := h.out
    refine ⟨v, hv.kept hg (nb hv), ho.kept hg ?_⟩
    rcases ho.2 with ⟨rfl, _⟩ | ⟨q, cap, cur, rfl, _, hq, _⟩
    · exact .inl rfl
    · refine .inr fun e => ?_
      obtain ⟨o, ho, hc⟩ := hr q (by simpa [Value.ownBlock] using e.symm)
      rw [hq] at ho; cases ho; cases hc
  · obtain ⟨o, ho, hc⟩ := hr r e
    rw [hb] at ho; cases ho; cases hc
theorem toI_own {K g : Nat} {β : Type} (f : β → List Tx) : OwnFrom K (fun s W => ToI g (f s) W) := fun _ _ _ _ hs hg hr => hs.kept hg (fun r e => (hr r e).2)
theorem lastE_zero {ts : List Tx} (h : ∀ y ∈ ts, y.er = 0) : lastE ts = 0 := by
  rcases List.eq_nil_or_concat ts with rfl | ⟨q, x, rfl⟩
  · rfl
  · rw [List.concat_eq_append, lastE_snoc]; exact h x (by simp)

theorem lines_all (n Bs n0 : Nat) (hn : n = 4) (s : List UInt8) (hs : s.length ≤ 1000) (w : World) (hB : w.cell? ⟨Bs, 0, none⟩ = some (.string ⟨s.toArray⟩)) (hM : MaxIs w) (hn0 : 0 < n0) (hw : n0 ≤ w.heap.size) :
    SeqAll n Tryd.prog 28 #[.pointer (some ⟨Bs, 0, none⟩)] txV (TxOk s.length) n0 (ToldBy (ixF 1 (splitF s))) w := fun l J W hW hJ hY h0 =>
  lines_in n hn l Bs n0 s hs J hn0 W (Nat.le_trans hw hW.size) hJ hY ((hW.cell (p := ⟨Bs, 0, none⟩) (lxcell_lt hB)).trans hB) (hM.next hW) h0
theorem lines_any (s : List UInt8) (w : World) :
    Calls Tryd.prog 22 #[.string ⟨s.toArray⟩] w fun e w' => e = .returned (.func (.func 28) #[] #[.pointer (some ⟨w.heap.size, 0, none⟩)]) ∧ w' = w.alloc (.cells #[.string ⟨s.toArray⟩] 9) := by
  have hmf : ∀ (fn : Fn) (first cap : Array Value) (w : World), (Instr.makeFunc fn first cap).run Tryd.prog w = .ok (.func fn first cap) w := fun _ _ _ _ => rfl
  go_enter Tryd.func22, Tryd.ntmps22
  go_wp2
  go_ret
  exact ⟨rfl, rfl⟩

theorem box_step {W W1 : World} {o : Obj} (e : W.alloc o = W1) {B : Nat} {t : TypeId} {v : Value} (h : Go.Boxed W B t v) : Go.Boxed W1 B t v := e ▸ h.alloc o
theorem box_new {W W1 : World} {v : Value} {t : TypeId} {k : Nat} (e : W.alloc (.cells #[v] t) = W1) (s : W.heap.size = k) : Go.Boxed W1 k t v ∧ W1.heap.size = k + 1 := by
  subst e s
  exact ⟨Go.Boxed.new W t v, by simp⟩
theorem own2_form {W : World} {v' : Value} {base n k : Nat} {e : TypeId} {xs : List Value} (h : W.ownsRow base e k v' n xs) : ∃ A c, v' = .slice A n c := by
  rcases h.2 with ⟨rfl, rfl⟩ | ⟨g, cap, cur, rfl, _⟩
  · exact ⟨_, _, rfl⟩
  · exact ⟨_, _, rfl⟩
theorem two_new (W : World) (u v : Value) (t : TypeId) : ∀ (j : Nat) (x : Value), [u, v][j]? = some x → (W.alloc (.cells #[u, v] t)).cell? (Addr.add ⟨W.heap.size, 0, none⟩ j) = some x := by
  intro j x hx
  have hh : (W.alloc (.cells #[u, v] t)).heap[W.heap.size]? = some (.cells #[u, v] t (0, 0)) := World.alloc_heap_new W _
  rw [Go.WideShapes.add_plain, Nat.zero_add, cell_of_row _ W.heap.size j _ _ (0, 0) hh]
  rcases j with _ | _ | j
  · simpa using hx
  · simpa using hx
  · simp at hx
/-- A row of lines is no row of texts, and no box. -/
theorem row_block {W : World} {base n k : Nat} {e : TypeId} {v : Value} {xs : List Value} (h : W.ownsRow base e k v n xs) {r : Nat} (hr : v.ownBlock = some r) : base ≤ r ∧ ∃ cs, W.heap[r]? = some (.cells cs e (0, 0)) := by
  rcases h.2 with ⟨rfl, _⟩ | ⟨q, cap, cur, rfl, hb, hq, _⟩
  · cases hr
  · obtain rfl : q = r := by simpa [Value.ownBlock] using hr
    exact ⟨hb, _, hq⟩
/-- Behind 'out = append(out, l)' and 'last = e'. -/
theorem ToI.push {g : Nat} {pre : List Tx} {x : Tx} {W w3 : World} {v v' : Value} {tmp : Obj} (h : ToI g pre W) (hv : Go.Boxed W (g + 4) 33 v) (ho : W.ownsRow (g + 9) 38 2 v pre.length (lcl pre)) (hR : Rw W x.A x.ws) (hsz : g + 9 ≤ W.heap.size)
    (hown : w3.ownsRow (g + 9) 38 2 v' (pre.length + 1) (lcl pre ++ [.int .i64 (x.no : Int), .slice x.A x.ws.length x.c])) (hgrow : (W.alloc tmp).grownBy w3 v.ownBlock) :
    Go.Boxed w3 (g + 4) 33 v ∧ Go.Boxed (w3.setCell ⟨g + 4, 0, none⟩ v') (g + 5) 24 (.int .i64 (lastE pre)) ∧
      ToI g (pre ++ [x]) ((w3.setCell ⟨g + 4, 0, none⟩ v').setCell ⟨g + 5, 0, none⟩ (.int .i64 x.er)) ∧ Kept1 g (g + 8) W ((w3.setCell ⟨g + 4, 0, none⟩ v').setCell ⟨g + 5, 0, none⟩ (.int .i64 x.er)) := by
  obtain ⟨hv1, hv2, _, hk2, hb2⟩ := Go.Boxed.appended (n₀ := g) hv (by decide) (lxown_mono ho (by omega)) (by omega) (by omega) (lxown_mono hown (by omega)) hgrow
  have hr9 : (w3.setCell ⟨g + 4, 0, none⟩ v').ownsRow (g + 9) 38 2 v' (pre.length + 1) (lcl pre ++ [.int .i64 (x.no : Int), .slice x.A x.ws.length x.c]) := hown.kept (grownBy_setCell' w3 (g + 4) v') (.inr (hv1.not_row (by decide) hown).symm)
  have st : ∀ {B t u}, Go.Boxed W B t u → t ≠ 38 → B ≠ g + 4 → Go.Boxed (w3.setCell ⟨g + 4, 0, none⟩ v') B t u := fun {B t u} hb ht hB => ((hb.alloc tmp).kept hgrow (hb.not_row ht ho)).other hB v'
  have hl := st h.last (by decide) (by omega)
  have at8 : (w3.setCell ⟨g + 4, 0, none⟩ v').heap[g + 8]? = W.heap[g + 8]? := by
    rw [Below.heap_setCell _ _ _ _ (by show g + 8 ≠ g + 4; omega), hgrow.block (g + 8) (by simp; omega) (fun e => by have := (row_block ho e.symm).1; omega), Below.heap_alloc _ _ _ (by omega)]
  refine ⟨hv1, hl, ⟨(st h.r0 (by decide) (by omega)).other (by omega) _, (st h.r1 (by decide) (by omega)).other (by omega) _, (st h.r2 (by decide) (by omega)).other (by omega) _, ⟨v', hv2.other (by omega) _, ?_⟩, ?_, ?_⟩, (hk2.trans (KeepsOthers.setCell _ _ _)), hb2.setCell (p := ⟨g + 5, 0, none⟩) (by show g ≤ g + 5; omega) _, ?_⟩
  · rw [List.length_append, lcl_app]
    exact hr9.kept (grownBy_setCell' _ (g + 5) _) (.inr (hl.not_row (by decide) hr9).symm)
  · rw [lastE_snoc]; exact hl.set _
  · intro y hy
    have hRy : Rw W y.A y.ws := by
      rcases List.mem_append.1 hy with hy | hy
      · exact h.rows y hy
      · rw [List.mem_singleton.1 hy]; exact hR
    have h1 := (hRy.kept (World.grownBy_alloc W tmp none) (fun r e => by cases e)).kept hgrow (fun r e cs fz hc => by
      obtain ⟨_, cs2, hc2⟩ := row_block (ho.alloc tmp) e
      rw [hc2] at hc; injection hc with hc; injection hc with _ hc _; revert hc; decide)
    have nb : ∀ {X B t u fz cs}, Go.Boxed X B t u → t ≠ 9 → X.heap[B]? ≠ some (.cells cs 9 fz) := fun {X B t u fz cs} hb ht hc => by
      rw [show X.heap[B]? = _ from hb] at hc; injection hc with hc; injection hc with _ hc _; exact ht hc
    have h2 := h1.kept (grownBy_setCell' w3 (g + 4) v') (fun r e cs fz hc => by cases e; exact nb hv1 (by decide) hc)
    exact h2.kept (grownBy_setCell' _ (g + 5) (.int .i64 x.er)) (fun r e cs fz hc => by cases e; exact nb hl (by decide) hc)
  · rw [Below.heap_setCell _ _ _ _ (by show g + 8 ≠ g + 5; omega), at8]

theorem ls_of_own {W : World} {base n c : Nat} {A : Option Addr} {ts : List Tx} (h : W.ownsRow base 38 2 (.slice A n c) n (lcl ts)) (hR : ∀ y ∈ ts, Rw W y.A y.ws) : Ls W A (ts.map tell) := by
  intro j x hx
  rw [List.getElem?_map] at hx
  obtain ⟨y, hy, rfl⟩ := Option.map_eq_some_iff.1 hx
  obtain ⟨h1, h2⟩ := lcl_get hy
  have hj := (List.getElem?_eq_some_iff.1 hy).1
  have hl := h.1
  rw [lcl_len] at hl
  rcases h.2 with ⟨_, h3⟩ | ⟨q, cap, cur, hv, _, hq, _⟩
  · omega
  · injection hv with e1 e2 e3
    subst e1
    have hc := h.cells (g := q) rfl
    refine ⟨q, 0, rfl, (Array.getElem?_eq_some_iff.1 hq).1, ?_, y.A, y.c, ?_, (hR y (List.mem_of_getElem? hy)).ws⟩
    · have := hc _ _ h1; rwa [Go.WideShapes.add_plain] at this
    · have := hc _ _ h2; rwa [Go.WideShapes.add_plain] at this
/-- Behind the stores into the results. -/
theorem ToI.fin {g : Nat} {ts : List Tx} {W : World} {v : Value} {D : Nat} (h : ToI g ts W) (ho : W.ownsRow (g + 9) 38 2 v ts.length (lcl ts)) (u0 u1 u2 : Value) (o : Obj) (hK : W.heap[D]? = some (.deferred (some [])))
    (X : World) (hX : ((W.setCell ⟨g, 0, none⟩ u0).setCell ⟨g + 1, 0, none⟩ u1).setCell ⟨g + 2, 0, none⟩ u2 = X) :
    X.drew.heap[D]? = some (.deferred (some [])) ∧ Go.Boxed (X.drew.putObj D o) g 33 u0 ∧ Go.Boxed (X.drew.putObj D o) (g + 1) 24 u1 ∧ Go.Boxed (X.drew.putObj D o) (g + 2) 4 u2 ∧ (X.drew.putObj D o).ownsRow (g + 9) 38 2 v ts.length (lcl ts) ∧ ∀ y ∈ ts, Rw (X.drew.putObj D o) y.A y.ws := by
  have ne : ∀ {B t u}, Go.Boxed W B t u → D ≠ B := fun {B t u} hb e => by
    subst e; rw [show W.heap[D]? = _ from hb] at hK; cases hK
  have ko : ∀ {X : World} {B t u} (u'), Go.Boxed X B t u → t ≠ 38 → X.ownsRow (g + 9) 38 2 v ts.length (lcl ts) → (X.setCell ⟨B, 0, none⟩ u').ownsRow (g + 9) 38 2 v ts.length (lcl ts) := fun {X B t u} u' hb ht hr => hr.kept (grownBy_setCell' X B u') (.inr (hb.not_row ht hr).symm)
  have kr : ∀ {X : World} {B t u} (u'), Go.Boxed X B t u → t ≠ 9 → (∀ y ∈ ts, Rw X y.A y.ws) → ∀ y ∈ ts, Rw (X.setCell ⟨B, 0, none⟩ u') y.A y.ws := fun {X B t u} u' hb ht hr y hy => (hr y hy).kept (grownBy_setCell' X B u') (fun r e cs fz hc => by
    cases e; rw [show X.heap[B]? = _ from hb] at hc; injection hc with hc; injection hc with _ hc _; exact ht hc)
  have a1 := h.r1.other (show g + 1 ≠ g by omega) u0
  have a2 := (h.r2.other (show g + 2 ≠ g by omega) u0).other (show g + 2 ≠ g + 1 by omega) u1
  have b0 := ((h.r0.set u0).other (show g ≠ g + 1 by omega) u1).other (show g ≠ g + 2 by omega) u2
  have b1 := (a1.set u1).other (show g + 1 ≠ g + 2 by omega) u2
  have b2 := a2.set u2
  have d0 : (((W.setCell ⟨g, 0, none⟩ u0).setCell ⟨g + 1, 0, none⟩ u1).setCell ⟨g + 2, 0, none⟩ u2).heap[D]? = some (.deferred (some [])) := by
    rw [Below.heap_setCell _ _ _ _ (ne h.r2), Below.heap_setCell _ _ _ _ (ne h.r1), Below.heap_setCell _ _ _ _ (ne h.r0)]; exact hK
  have o3 := ko u2 a2 (by decide) (ko u1 a1 (by decide) (ko u0 h.r0 (by decide) ho))
  have r3 := kr u2 a2 (by decide) (kr u1 a1 (by decide) (kr u0 h.r0 (by decide) h.rows))
  rw [hX] at b0 b1 b2 d0 o3 r3
  have od : X.drew.ownsRow (g + 9) 38 2 v ts.length (lcl ts) := o3
  have rd : ∀ y ∈ ts, Rw X.drew y.A y.ws := r3
  have gp := grownBy_putObj' X.drew D o
  have nD : ∀ {B t u}, Go.Boxed X B t u → some B ≠ some D := fun {B t u} hb e => by
    cases e; rw [show X.heap[D]? = _ from hb] at d0; cases d0
  exact ⟨d0, Go.Boxed.kept (W := X.drew) b0 gp (nD b0), Go.Boxed.kept (W := X.drew) b1 gp (nD b1), Go.Boxed.kept (W := X.drew) b2 gp (nD b2), ownsRow_putObj od o d0 rfl, fun y hy => (rd y hy).kept gp (fun r e cs fz hc => by cases e; rw [show X.drew.heap[D]? = _ from d0] at hc; cases hc)⟩

/-- Lines and the last error are what told gives back. -/
def ToldR (s : List UInt8) (w : World) (e : Ending) (w' : World) : Prop :=
  ∃ A c, e = .returned (.tuple #[.slice A (toldL 1 (splitF s)).length c, .int .i64 (toldE (splitF s)), .bool true]) ∧ Ls w' A (toldL 1 (splitF s)) ∧ Below w.heap.size w w'

theorem fn_nil (f : Nat) (b : Array Value) (W : World) : (binOp .eql 55 (.func (.func f) #[] b) .nilFunc).run Tryd.prog W = .ok (.bool false) W := by kernel_rfl

set_option maxHeartbeats 4000000 in
theorem told_in (s : List UInt8) (w : World) (hs : s.length ≤ 401) (hM : MaxIs w) (n : Nat) (hn : n = 5) : CallsIn Fence.wide n Tryd.prog 15 #[.string ⟨s.toArray⟩] w (ToldR s w) := by
  have h1 : 1 ≤ n := by omega
  refine callsIn_of_wp_marks Tryd.func15 rfl trivial ?_ rfl
  simp only [Tryd.ntmps15, List.size_toArray, List.length_cons, List.length_nil, Nat.reduceAdd, Nat.reduceSub, Array.replicate_succ, Array.replicate_zero, List.push_toArray, List.append_toArray, List.nil_append, List.cons_append]
  have hnf := fn_nil
  gi_wp2_with (first
    | (refine ⟨trivial, ?_⟩; gi_at_call 22; refine (callsIn_wide.2 (lines_any s _)).mono ?_; rintro e w' ⟨rfl, rfl⟩; simp only []))
  simp only [World.size_alloc, Nat.add_assoc, Nat.reduceAdd]
  obtain ⟨g, hg⟩ : ∃ g, w.heap.size = g := ⟨_, rfl⟩
  obtain ⟨w1, e1⟩ : ∃ x, w.alloc (.cells #[.slice none 0 0] 33) = x := ⟨_, rfl⟩
  obtain ⟨w2, e2⟩ : ∃ x, w1.alloc (.cells #[.int .i64 0] 24) = x := ⟨_, rfl⟩
  obtain ⟨w3, e3⟩ : ∃ x, w2.alloc (.cells #[.bool false] 4) = x := ⟨_, rfl⟩
  obtain ⟨w4, e4⟩ : ∃ x, w3.alloc (.cells #[.string ⟨s.toArray⟩] 9) = x := ⟨_, rfl⟩
  obtain ⟨w5, e5⟩ : ∃ x, w4.alloc (.cells #[.slice none 0 0] 33) = x := ⟨_, rfl⟩
  obtain ⟨W0, e6⟩ : ∃ x, w5.alloc (.cells #[.int .i64 0] 24) = x := ⟨_, rfl⟩
  rw [e1, e2, e3, e4, e5, e6, hg]
  obtain ⟨b1, s1⟩ := box_new e1 hg
  obtain ⟨b2, s2⟩ := box_new e2 s1
  obtain ⟨b3, s3⟩ := box_new e3 s2
  obtain ⟨b4, s4⟩ := box_new e4 s3
  obtain ⟨b5, s5⟩ := box_new e5 s4
  obtain ⟨b6, s6⟩ := box_new e6 s5
  have k0 : Below g w W0 := by
    rw [← e6, ← e5, ← e4, ← e3, ← e2, ← e1]
    exact (((((((Below.refl g w).alloc (by omega) _).alloc (by simp; omega) _).alloc (by simp; omega) _).alloc (by simp; omega) _).alloc (by simp; omega) _).alloc (by simp; omega) _)
  have T0 : ToI g [] W0 := ⟨box_step e6 (box_step e5 (box_step e4 (box_step e3 (box_step e2 b1)))), box_step e6 (box_step e5 (box_step e4 (box_step e3 b2))), box_step e6 (box_step e5 (box_step e4 b3)), ⟨_, box_step e6 b5, World.ownsRow_nil _ _ _ _⟩, b6, fun _ h => by cases h⟩
  have cs0 : W0.cell? ⟨g + 3, 0, none⟩ = some (.string ⟨s.toArray⟩) := (box_step e6 (box_step e5 b4)).cell
  have hml := hM.lt
  have m0 : MaxIs W0 := hM.below k0 (by omega)
  clear b1 b2 b3 b4 b5 b6 e1 e2 e3 e4 e5 e6 s1 s2 s3 s4 s5
  have K0 := Lib.hid k0
  have HM := Lib.hid hM
  refine range_all h1 (gf := 28) (lb := #[.pointer (some ⟨g + 3, 0, none⟩)]) rfl (enters_of Tryd.func28 (by kernel_rfl) rfl)
    (lines_all (n - 1) (g + 3) g (by omega) s (by omega) W0 cs0 m0 (by omega) (by omega)) (by omega) (fun _ => rfl)
    (fun ts W => ToI g ts W ∧ Below g w W) ?hI ⟨T0, k0⟩ ?round ?done
  case hI => exact OwnFrom.and (toI_own fun ts => ts) (ownFrom_below (by omega) (by omega))
  case round =>
    rintro l pre x W ⟨hT, hB⟩ ⟨hok, hlen, hR⟩ hlt
    have s7 : W0.heap.size = g + 6 := s6
    rw [s7] at hlt ⊢
    have hlt : g + 8 < W.heap.size := hlt
    have HT := Lib.hid hT
    have HB := Lib.hid hB
    have HOK := Lib.hid hok
    have HR := Lib.hid hR
    clear hT hB hok hR k0 T0 cs0 m0 hM
    simp only [txV]
    gi_wp2
    obtain ⟨q, hq⟩ : ∃ q, W.heap.size = q := ⟨_, rfl⟩
    have hqc : (W.alloc (.cells #[.int .i64 (x.no : Int), .slice x.A x.ws.length x.c] 38)).heap[q]? = some (.cells #[.int .i64 (x.no : Int), .slice x.A x.ws.length x.c] 38 (0, 0)) := by rw [← hq]; exact World.alloc_heap_new W _
    rw [hq]
    refine ⟨⟨KeepsOthers.alloc _ _, (Below.refl _ _).alloc (by omega) _, Below.heap_alloc _ _ _ (by omega)⟩, fun _ W' => ToI g pre W' ∧ Below g w W' ∧ Rw W' x.A x.ws ∧ W'.heap[q]? = some (.cells #[.int .i64 (x.no : Int), .slice x.A x.ws.length x.c] 38 (0, 0)), ?_, ⟨HT.out.kept (World.grownBy_alloc W _ none) (fun r e => by cases e), HB.out.alloc (by have := HB.out.size; omega) _, HR.out.kept (World.grownBy_alloc W _ none) (fun r e => by cases e), hqc⟩, ?_⟩
    · rintro _ X Y row ⟨h1, h2, h3, h4⟩ hg hr
      have nc : ∀ r, row = some r → ∀ cs t fz, X.heap[r]? ≠ some (.cells cs t fz) := fun r e cs t fz hc => by
        obtain ⟨_, o, ho, hn⟩ := hr r e
        rw [hc] at ho; cases ho; cases hn
      exact ⟨h1.kept hg (fun r e => (hr r e).2), h2.grown hg (by have := h2.size; omega) (fun k e => by have := (hr k e).1; omega), h3.kept hg (fun r e cs fz => nc r e cs _ fz), (hg.block q (Array.getElem?_eq_some_iff.1 h4).1 (fun e => nc q e.symm _ _ _ h4)).trans h4⟩
    · rintro W2 ⟨hT2, hB2, hR2, hq2⟩ hlt2
      clear hqc hq hlt HT HB HR
      obtain ⟨v, hv, ho⟩ := hT2.out
      have hlz := hT2.last
      rw [lastE_zero HOK.out] at hlz
      have hlc := hlz.cell
      have hlf := hlz.frozen
      obtain ⟨A, cc, rfl⟩ := own2_form ho
      have hxc := hv.cell
      have hxf := hv.frozen
      have hxl := hv.lt
      have hq0 : W2.cell? ⟨q, 0, none⟩ = some (.int .i64 (x.no : Int)) := by simp [World.cell?, hq2]
      have hq1 : W2.cell? ⟨q, 1, none⟩ = some (.slice x.A x.ws.length x.c) := by simp [World.cell?, hq2]
      have hn4 : ¬ (400 : Int) < (pre.length : Int) := by omega
      have HT2 := Lib.hid hT2
      have HB2 := Lib.hid hB2
      have HR2 := Lib.hid hR2
      have HV := Lib.hid hv
      have HO := Lib.hid ho
      obtain ⟨i0, hi0, hz0, hz1, hz2⟩ := info_parts lxl_info
      clear hT2 hB2 hR2 hv ho hlz hq2
      gi_wp2_with (gi_at_builtin; refine wpListIn_append_own _ rfl _ _ 33 rfl (g + 9) 38 i0 (.agg #[.int .i64 0, .slice none 0 0]) 2 32 Tryd.underlying33 hi0 hz0 hz1 hz2 rfl (by decide) _ _ _ rfl (HO.out.alloc _) ⟨W2.heap.size, 0, none⟩ 1 1 [.int .i64 (x.no : Int), .slice x.A x.ws.length x.c] rfl rfl (two_new W2 _ _ _) (by simp [Value.oneCell']) (by simp only [maxLen]; omega) (by omega) (by simp; omega) ?_
                   intro v' w3 hown hgrow _
                   obtain ⟨g', cap', rfl⟩ := ownsRow_succ hown
                   obtain ⟨hb1, hb2, hT3, hK3⟩ := HT2.out.push HV.out HO.out HR2.out (by omega) hown hgrow
                   have hc1 := hb1.cell
                   have hf1 := hb1.frozen
                   have hc2 := hb2.cell
                   have hf2 := hb2.frozen
                   have HT3 := Lib.hid hT3
                   have HK3 := Lib.hid hK3
                   clear hb1 hb2 hT3 hK3 hown hgrow)
      exact ⟨HK3.out, HT3.out, HB2.out.trans HK3.out.bel⟩
  case done =>
    rintro D ts W hD hS ⟨hT, hB⟩ hK
    rw [s6] at hD
    obtain ⟨v, hv, ho⟩ := hT.out
    obtain ⟨A, cc, rfl⟩ := own2_form ho
    have hxc := hv.cell
    have hlc := hT.last.cell
    have c0 := hT.r0.cell
    have c1 := hT.r1.cell
    have c2 := hT.r2.cell
    have f0 := hT.r0.frozen
    have f1 := hT.r1.frozen
    have f2 := hT.r2.frozen
    have hgl := hT.r0.lt
    have hgl1 := hT.r1.lt
    have hgl2 := hT.r2.lt
    have HT := Lib.hid hT
    have HS := Lib.hid hS
    have HB := Lib.hid hB
    have HO := Lib.hid ho
    clear hT hS hB ho hv k0 T0 cs0 m0 hM
    gi_wp2
    refine wpIn_wide.2 ?_
    go_region
    all_goals gi_wp2
    obtain ⟨hd, p0, p1, p2, po, pr⟩ := HT.out.fin HO.out (.slice A ts.length cc) (.int .i64 (lastE ts)) (.bool true) (.deferred none) hK _ rfl
    have q0 := p0.cell
    have q1 := p1.cell
    have q2 := p2.cell
    refine ⟨by simp, .inl ⟨_, _, rfl, run_takeDeferred hd, ?_⟩⟩
    have BE : Below g W ((((W.setCell ⟨g, 0, none⟩ (.slice A ts.length cc)).setCell ⟨g + 1, 0, none⟩ (.int .i64 (lastE ts))).setCell ⟨g + 2, 0, none⟩ (.bool true)).drew.putObj D (.deferred none)) :=
      (((((Below.refl g W).setCell (p := ⟨g, 0, none⟩) (Nat.le_refl _) _).setCell (p := ⟨g + 1, 0, none⟩) (by show g ≤ g + 1; omega) _).setCell (p := ⟨g + 2, 0, none⟩) (by show g ≤ g + 2; omega) _).drew).grown (grownBy_putObj' _ D _) (by simp; omega) (fun k e => by cases e; omega)
    have PO := Lib.hid po
    have PR := Lib.hid pr
    have HBE := Lib.hid BE
    have e1 : ts.map tell = toldL 1 (splitF s) := by rw [HS.out.told, toldP_ix]
    have e2 : lastE ts = toldE (splitF s) := by rw [HS.out.err, errP_ix]
    refine ⟨.tuple #[.slice A ts.length cc, .int .i64 (lastE ts), .bool true], by simp [results, Tryd.results15, go_sem, q0, q1, q2], ?_⟩
    refine ⟨A, cc, by rw [← e1, ← e2, List.length_map], ?_, ?_⟩
    · rw [← e1]; exact ls_of_own PO.out PR.out
    · rw [hg]; exact HB.out.trans HBE.out
theorem told_is (s : List UInt8) (w : World) (hs : s.length ≤ 401) (hM : MaxIs w) : Calls Tryd.prog 15 #[.string ⟨s.toArray⟩] w (ToldR s w) := callsIn_wide.1 (told_in s w hs hM 5 rfl)
theorem told_any (s : List UInt8) (ts : List Told) (te : Int) (m : Nat) (w : World) (hs : s.length ≤ 401) (hM : MaxIs w) (HV : Hid (toldL 1 (splitF s) = ts ∧ toldE (splitF s) = te ∧ ts.length = m)) :
    Calls Tryd.prog 15 #[.string ⟨s.toArray⟩] w fun e w' => ∃ A c, e = .returned (.tuple #[.slice A m c, .int .i64 te, .bool true]) ∧ Ls w' A ts ∧ Below w.heap.size w w' := by
  obtain ⟨rfl, rfl, rfl⟩ := HV.out
  exact told_is s w hs hM
end Go.Proofs.YtomiopdmgdidnaaDoor
