/- The contract of zone.firstWrong: what is asked of each era, up to the first one that is wrong. -/
import Derived.Test.YtjpppffgebecdaaGreatDoorZnA
import Derived.Shelf.Abstract
namespace Go.Proofs.YtjpppffgebecdaaGreatDoor
open Go Go.RowKit Go.Shelf
attribute [local go_sem] Oper.semAt_some

/-- What is asked of one era: it keeps what lies below n0, and errors' numbers and the loop's own; what holds behind an era, and where it is wrong. -/
def Asks (g : Nat) (lb : Array Value) (n0 : Nat) (es : List EV) (J : Nat → World → Prop) (Jx : Nat → Int → World → Prop) : Prop :=
  ∀ (i : Nat) (e : EV) (W : World), es[i]? = some e → J i W → Calls Tryz.prog g (#[.int .i64 (i : Int), evV e] ++ lb) W fun x W' =>
    ∃ v, x = .returned (.int .i64 v) ∧ ((v = 0 ∧ J (i + 1) W') ∨ (v ≠ 0 ∧ Jx i v W')) ∧ KeepsOthers W W' ∧ Below n0 W W' ∧ KpT (fun t => t == 31 || t == 128) W W'

theorem all_is (A : Option Addr) (m c : Nat) (w : World) : Calls Tryz.prog 85 #[.slice A m c] w fun e w' => e = .returned (.func (.func 109) #[] #[.pointer (some ⟨w.heap.size, 0, none⟩)]) ∧ w' = w.alloc (.cells #[.slice A m c] 22) := by
  have hmf : ∀ (fn : Fn) (first cap : Array Value) (w : World), (Instr.makeFunc fn first cap).run Tryz.prog w = .ok (.func fn first cap) w := fun _ _ _ _ => rfl
  go_enter Tryz.func85, Tryz.ntmps85
  go_wp2
  go_ret
  exact ⟨rfl, rfl⟩
theorem blk_own {β : Type} (B k : Nat) (cs : Array Value) (t : TypeId) (fz : Nat × Nat) (hk : k < B) : OwnFrom B (fun (_ : β) W => W.heap[k]? = some (.cells cs t fz)) := fun _ W W' row h hg hr =>
  (hg.block k (Array.getElem?_eq_some_iff.1 h).1 (fun e => by have := (hr _ e.symm).1; omega)).trans h
theorem zscope_in {c : Code} {n : Nat} {Q : Exit → Act → World → Prop} {a : Act} {w : World} (h : c.wpIn Fence.wide n Tryz.prog (Exit.noGoto Q) a w) : (Code.scope c).wpIn Fence.wide n Tryz.prog Q a w := wpIn_wide.2 (wp_scope_straight (wpIn_wide.1 h))
/-- What is known abides the turn of a block that is no cells, or is an error's number, and lies at or beyond B. -/
def OwnE {β : Type} (B : Nat) (I : β → World → Prop) : Prop :=
  ∀ s W W' row, I s W → W.grownBy W' row → (∀ r, row = some r → B ≤ r ∧ ∃ o : Obj, W.heap[r]? = some o ∧ (o.isCells = false ∨ ∃ cs fz, o = .cells cs 31 fz)) → I s W'
theorem OwnE.from {β : Type} {B : Nat} {I : β → World → Prop} (h : OwnE B I) : OwnFrom B I := fun s W W' row hs hg hr => h s W W' row hs hg (fun r e => ⟨(hr r e).1, by obtain ⟨o, h1, h2⟩ := (hr r e).2; exact ⟨o, h1, .inl h2⟩⟩)
theorem OwnE.below {β : Type} {B : Nat} {I : β → World → Prop} (h : OwnE B I) {s : β} {W W' : World} (hs : I s W) (k : Below W.heap.size W W') : I s W' := h s W W' none hs (zgrown k) (fun r e => by cases e)
set_option maxRecDepth 20000 in
set_option maxHeartbeats 2000000 in
theorem fwrong_in (N : Nat) (hN : 6 ≤ N) (g : Nat) (lb : Array Value) (eg : ∀ args w, (callFunc g args).run Tryz.prog w = .ok (.enter g args) w) (n0 : Nat) (A : Option Addr) (m c : Nat) (es : List EV) (J : Nat → World → Prop) (Jx : Nat → Int → World → Prop) (w : World) (hm : es.length = m) (hm1 : m ≤ 4611686018427387904) (hA : EsAt n0 A es w) (hn0 : n0 ≤ w.heap.size)
    (hJ : OwnE w.heap.size J) (hJx : ∀ i, OwnE w.heap.size (Jx i)) (hask : Asks g lb n0 es J Jx) (h0 : J 0 w) :
    CallsIn Fence.wide N Tryz.prog 61 #[.slice A m c, .func (.func g) #[] lb] w fun e w' => ∃ v, e = .returned (.int .i64 v) ∧ ((v = 0 ∧ J m w') ∨ (v ≠ 0 ∧ ∃ i, i < m ∧ Jx i v w')) ∧ Below n0 w w' := by
  refine callsIn_of_wp_marks Tryz.func61 rfl trivial ?_ rfl
  simp only [Tryz.ntmps61, List.size_toArray, List.length_cons, List.length_nil, Nat.reduceAdd, Nat.reduceSub, Array.replicate_succ, Array.replicate_zero, List.push_toArray, List.append_toArray, List.nil_append, List.cons_append]
  have hmf : ∀ (fn : Fn) (first cap : Array Value) (w : World), (Instr.makeFunc fn first cap).run Tryz.prog w = .ok (.func fn first cap) w := fun _ _ _ _ => rfl
  have HM := Lib.hid hm
  have HK := Lib.hid hask
  have J0 := Lib.hid h0
  have HJ := Lib.hid hJ
  have HX := Lib.hid hJx
  have HA := Lib.hid hA
  clear hm hask h0 hJ hJx hA
  gi_wp2
  refine zscope_in ?_
  gi_wp2
  refine wpIn_label ?_
  gi_wp2
  refine ⟨trivial, fun _ => by omega, ?_⟩
  refine (callsIn_wide.2 (all_is A m c _)).mono ?_
  rintro e w1 ⟨rfl, rfl⟩
  simp only []
  obtain ⟨B, hB⟩ : ∃ B, w.heap.size = B := ⟨_, rfl⟩
  obtain ⟨V, hV⟩ : ∃ V, ((w.alloc (.cells #[.func (.func g) #[] lb] 128)).alloc (.cells #[.int .i64 0] 31)) = V := ⟨_, rfl⟩
  have kV : Below w.heap.size w V := by rw [← hV]; exact ((Below.refl _ w).alloc (Nat.le_refl _) _).alloc (by simp) _
  have sV : V.heap.size = B + 2 := by rw [← hV, ← hB]; simp
  have v3 : V.heap[B]? = some (.cells #[.func (.func g) #[] lb] 128 (0, 0)) := by rw [← hV, ← hB]; exact (Below.heap_alloc _ _ _ (by simp)).trans (World.alloc_heap_new w _)
  have v5 : V.heap[B + 1]? = some (.cells #[.int .i64 0] 31 (0, 0)) := by
    rw [← hV, ← hB]
    have := World.alloc_heap_new (w.alloc (.cells #[.func (.func g) #[] lb] 128)) (.cells #[.int .i64 0] 31)
    rwa [World.size_alloc] at this
  simp only [hV, sV, hB]
  obtain ⟨V1, hV1⟩ : ∃ V1, V.alloc (.cells #[.slice A m c] 22) = V1 := ⟨_, rfl⟩
  have k1 : Below V.heap.size V V1 := by rw [← hV1]; exact (Below.refl _ _).alloc (Nat.le_refl _) _
  have s1 : V1.heap.size = B + 3 := by rw [← hV1]; simp [sV]
  have c1 : V1.cell? ⟨B + 2, 0, none⟩ = some (.slice A m c) := by rw [← hV1, ← sV]; simp
  have u3 := (k1.block B (by omega)).trans v3
  have u5 := (k1.block (B + 1) (by omega)).trans v5
  have kw : Below w.heap.size w V1 := kV.trans (k1.mono kV.size)
  have jV1 : J 0 V1 := HJ.out _ _ _ none J0.out ⟨kw.os, kw.tape, kw.output, kw.size, fun k hk _ => kw.block k hk⟩ (fun r e => by cases e)
  have EA : EsAt n0 A es V1 := HA.out.below (kw.mono (by omega))
  simp only [hV1]
  have BW := Lib.hid (kw.mono (show n0 ≤ w.heap.size by omega))
  clear hV hV1 kV k1 kw v3 v5 J0 HA
  gi_wp2
  refine range_kp (by omega) (gf := 109) (lb := #[.pointer (some ⟨B + 2, 0, none⟩)]) rfl (enters_of Tryz.func109 (by kernel_rfl) rfl)
    (eras_seq (N - 1) (by omega) n0 (B + 2) A m c es V1 HM.out hm1 EA (by omega) c1) (by omega) (fun _ => rfl) (fun _ _ => trivial) (fun _ _ _ _ _ => trivial)
    (fun pre X => (J pre.length X ∧ X.heap[B]? = some (.cells #[.func (.func g) #[] lb] 128 (0, 0)) ∧ X.heap[B + 1]? = some (.cells #[.int .i64 0] 31 (0, 0))) ∧ Below n0 w X)
    (fun c pre X => ((∃ v i, c = .exit 0 ∧ v ≠ 0 ∧ i < m ∧ Jx i v X ∧ X.heap[B + 1]? = some (.cells #[.int .i64 v] 31 (0, 0)))) ∧ Below n0 w X) ?hI ?hIx ⟨⟨jV1, u3, u5⟩, BW.out⟩ ?round ?done ?stop
  case hI =>
    rw [s1]
    exact OwnFrom.and (fun pre W W' row h hg hr => ⟨HJ.out.from pre.length W W' row h.1 hg (fun r e => ⟨by have := (hr r e).1; omega, (hr r e).2⟩), blk_own (β := Unit) (B + 3) B _ _ _ (by omega) () W W' row h.2.1 hg hr, blk_own (β := Unit) (B + 3) (B + 1) _ _ _ (by omega) () W W' row h.2.2 hg hr⟩) (ownFrom_below (by omega) (by omega))
  case hIx =>
    rw [s1]
    exact fun c => OwnFrom.and (fun pre W W' row ⟨v, i, h1, h2, h3, h4, h5⟩ hg hr => ⟨v, i, h1, h2, h3, (HX.out i).from v W W' row h4 hg (fun r e => ⟨by have := (hr r e).1; omega, (hr r e).2⟩), blk_own (β := Unit) (B + 3) (B + 1) _ _ _ (by omega) () W W' row h5 hg hr⟩) (ownFrom_below (by omega) (by omega))
  case round =>
    rintro l pre ⟨i, e⟩ X ⟨⟨hj, h3, h5⟩, hb⟩ hok hsX
    simp only [encZ, evV, cE]
    have bX : Below X.heap.size X (X.alloc (.cells #[.int .i64 e.of, .string ⟨e.rl.toArray⟩, .int .i64 e.sv, .string ⟨e.fm.toArray⟩, .bool e.en, .int .i64 e.uy, .int .i64 e.um, .int .i64 e.dk, .int .i64 e.dw, .int .i64 e.dn, .int .i64 e.sc, .int .i64 e.ck] 54)) := (Below.refl _ X).alloc (Nat.le_refl _) _
    gi_wp2
    refine ⟨⟨KeepsOthers.alloc X _, bX.mono (by omega), trivial⟩, fun _ Y => ((J pre.length Y ∧ Y.heap[B]? = some (.cells #[.func (.func g) #[] lb] 128 (0, 0)) ∧ Y.heap[B + 1]? = some (.cells #[.int .i64 0] 31 (0, 0))) ∧ Below n0 w Y) ∧ Y.heap[X.heap.size]? = some (.cells #[.int .i64 e.of, .string ⟨e.rl.toArray⟩, .int .i64 e.sv, .string ⟨e.fm.toArray⟩, .bool e.en, .int .i64 e.uy, .int .i64 e.um, .int .i64 e.dk, .int .i64 e.dw, .int .i64 e.dn, .int .i64 e.sc, .int .i64 e.ck] 54 (0, 0)), ?_, ?_, ?_⟩
    · rw [s1]
      refine OwnFrom.and (OwnFrom.and (fun _ W W' row h hg hr => ⟨HJ.out.from pre.length W W' row h.1 hg (fun r e => ⟨by have := (hr r e).1; omega, (hr r e).2⟩), blk_own (β := Unit) (B + 3) B _ _ _ (by omega) () W W' row h.2.1 hg hr, blk_own (β := Unit) (B + 3) (B + 1) _ _ _ (by omega) () W W' row h.2.2 hg hr⟩) (ownFrom_below (by omega) (by omega))) (fun s A B row h hg hr => (hg.block _ (Array.getElem?_eq_some_iff.1 h).1 (fun e => by obtain ⟨-, o, ho, hc⟩ := hr _ e.symm; rw [h] at ho; cases ho; cases hc)).trans h)
    · exact ⟨⟨⟨HJ.out.below hj bX, (bX.block B (by omega)).trans h3, (bX.block (B + 1) (by omega)).trans h5⟩, hb.trans (bX.mono (by omega))⟩, heap_alloc_new X _⟩
    · rintro W2 ⟨⟨⟨j2, p3, p5⟩, b2⟩, pe⟩ hs2
      obtain ⟨x0, x1, x2, x3, x4, x5, x6, x7, x8, x9, x10, x11⟩ := cells12 pe
      have y3 := cel1 p3
      have y5 := cel1 p5
      gi_wp2
      have he := hok.2
      have hil := hok.1
      rw [← hil] at he j2
      have him : i < m := by rw [← HM.out]; exact (Array.getElem?_eq_some_iff.1 (by simpa using he : es.toArray[i]? = some e)).1
      refine ⟨trivial, fun _ => by omega, CallsIn.inRound l (callsIn_wide.2 ((HK.out i e W2 he j2).mono ?_))⟩
      rintro e1 W3 ⟨v, rfl, hv, kO, b3, kp⟩
      have q3 := (kp B _ _ _ p3 (by simp)).trans p3
      have q5 := (kp (B + 1) _ _ _ p5 (by simp)).trans p5
      have z5 := cel1 q5
      have f5 := frz (j := 0) q5
      have hset : W3.grownBy (W3.setCell ⟨B + 1, 0, none⟩ (.int .i64 v)) (some (B + 1)) := grownBy_setCell' W3 (B + 1) (.int .i64 v)
      have hq := blk_set (i := 0) q5 (.int .i64 v)
      have hsz := b3.size
      have hEr : ∀ r, some (B + 1) = some r → w.heap.size ≤ r ∧ ∃ o : Obj, W3.heap[r]? = some o ∧ (o.isCells = false ∨ ∃ cs fz, o = .cells cs 31 fz) := fun r e => by
        injection e with e; subst e
        exact ⟨by omega, _, q5, .inr ⟨_, _, rfl⟩⟩
      have kS : KeepsOthers W3 (W3.setCell ⟨B + 1, 0, none⟩ (.int .i64 v)) := KeepsOthers.setCell W3 _ _
      have bS : Below n0 W3 (W3.setCell ⟨B + 1, 0, none⟩ (.int .i64 v)) := (Below.refl n0 W3).grown hset (by omega) (fun j hj => by injection hj with hj; omega)
      have s3 := (hset.block B (by have := (Array.getElem?_eq_some_iff.1 q3).1; exact this) (fun e => by injection e with e; omega)).trans q3
      obtain ⟨W4, hW4⟩ : ∃ W4, W3.setCell ⟨B + 1, 0, none⟩ (.int .i64 v) = W4 := ⟨_, rfl⟩
      have hq' : W4.heap[B + 1]? = some (.cells #[.int .i64 v] 31 (0, 0)) := by rw [← hW4]; simpa using hq
      rcases hv with ⟨rfl, hv⟩ | ⟨hv0, hv⟩
      · have hJ4 := HJ.out _ _ _ _ hv hset hEr
        rw [hW4] at hJ4 s3 kS bS
        have K1 := Lib.hid (kO.trans kS)
        have K2 := Lib.hid (b3.trans bS)
        have IV := Lib.hid (And.intro hJ4 s3)
        clear hv hset hq hJ4 s3 kS bS kO b3 hEr
        have y6 := cel1 hq'
        gi_wp2
        exact ⟨⟨K1.out, K2.out, trivial⟩, ⟨by rw [List.length_append, ← hil]; exact IV.out.1, IV.out.2, hq'⟩, b2.trans K2.out⟩
      · have hJ4 := (HX.out i) _ _ _ _ hv hset hEr
        rw [hW4] at hJ4 s3 kS bS
        have K1 := Lib.hid (kO.trans kS)
        have K2 := Lib.hid (b3.trans bS)
        have IV := Lib.hid hJ4
        clear hv hset hq hJ4 s3 kS bS kO b3 hEr
        have y6 := cel1 hq'
        have hvb : (v != 0) = true := by simpa using hv0
        gi_wp2
        exact ⟨K1.out, ⟨v, _, rfl, hv0, him, IV.out, hq'⟩, b2.trans K2.out⟩
  case done =>
    rintro D xs X hD hS ⟨⟨hj, h3, h5⟩, hb⟩ hdf
    rw [hS] at hj
    have y5 := cel1 h5
    have hl := (Array.getElem?_eq_some_iff.1 hdf).1
    have JF := Lib.hid (HJ.out _ _ _ _ hj (grownBy_putObj' X D (.deferred none)) (fun r e => by injection e with e; subst e; exact ⟨by omega, _, hdf, .inl rfl⟩))
    have BF := Lib.hid (hb.trans ((Below.refl n0 X).grown (grownBy_putObj' X D (.deferred none)) (by omega) (fun j hj => by injection hj with hj; omega)))
    clear hj hb
    gi_wp2
    rw [Exit.noGoto_ret]
    refine ⟨by simp, .inl ⟨D, _, rfl, run_takeDeferred hdf, ?_⟩⟩
    exact ⟨_, results_tmp rfl _ _ _, 0, rfl, .inl ⟨rfl, JF.out⟩, BF.out⟩
  case stop =>
    rintro D cc pre X hD - ⟨⟨v, i, rfl, hv0, him, hx, h5⟩, hb⟩ hdf
    have y5 := cel1 h5
    have hl := (Array.getElem?_eq_some_iff.1 hdf).1
    have JF := Lib.hid ((HX.out i) _ _ _ _ hx (grownBy_putObj' X D (.deferred none)) (fun r e => by injection e with e; subst e; exact ⟨by omega, _, hdf, .inl rfl⟩))
    have BF := Lib.hid (hb.trans ((Below.refl n0 X).grown (grownBy_putObj' X D (.deferred none)) (by omega) (fun j hj => by injection hj with hj; omega)))
    clear hx hb
    gi_wp2
    rw [Exit.noGoto_ret]
    refine ⟨by simp, .inl ⟨D, _, rfl, run_takeDeferred hdf, ?_⟩⟩
    exact ⟨_, results_tmp rfl _ _ _, v, rfl, .inr ⟨hv0, i, him, JF.out⟩, BF.out⟩
end Go.Proofs.YtjpppffgebecdaaGreatDoor
