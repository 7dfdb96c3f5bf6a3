/- slices.Collect over whatever iterator of changes: a list of the call's own. -/
import Derived.Test.YtdmfgechoanmlaaGreatDoorTbA
import Derived.Test.YtdmfgechoanmlaaGreatDoorZpA
import Derived.Test.YtdmfgechoanmlaaGreatDoorZqA
import Derived.Test.YtdmfgechoanmlaaGreatDoorMZS
import Derived.RangeFuncBox
import Derived.OwnWalkIn
namespace Go.Proofs.YtdmfgechoanmlaaGreatDoor
open Go Go.RowKit Go.Shelf
attribute [local go_sem] Oper.semAt_some

theorem cC_len (c : CV) : (cC c).toList.length = 4 := rfl
theorem cC_one (c : CV) : ∀ u ∈ (cC c).toList, u.oneCell' = true := by intro u hu; simp [cC] at hu; rcases hu with rfl | rfl | rfl | rfl <;> rfl
theorem ch_info : (Tryz.prog.info? 71).map (fun i => (i.zero, i.size, i.bytes)) = some (some (cvV ⟨0, 0, false, []⟩), 4, 40) := by kernel_rfl
/-- A change that lies in a block of its own. -/
theorem ch_new (W : World) (x : CV) (t : TypeId) : ∀ j u, (cC x).toList[j]? = some u → (W.alloc (.cells #[.int .i64 x.t, .int .i64 x.of, .bool x.ds, .string ⟨x.ab.toArray⟩] t)).cell? ((⟨W.heap.size, 0, none⟩ : Addr).add j) = some u := by
  intro j u hu
  have h := heap_alloc_new W (.cells #[.int .i64 x.t, .int .i64 x.of, .bool x.ds, .string ⟨x.ab.toArray⟩] t)
  have := cell_of_row _ W.heap.size j _ _ _ h
  rw [add_off, Nat.zero_add, this]
  simpa [cC] using hu
theorem own_base {W : World} {base base' n k : Nat} {e : TypeId} {v : Value} {xs : List Value} (h : W.ownsRow base e k v n xs) (hb : base' ≤ base) : W.ownsRow base' e k v n xs := by
  refine ⟨h.1, ?_⟩
  rcases h.2 with h1 | ⟨g, cap, cur, h1, h2, h3⟩
  · exact .inl h1
  · exact .inr ⟨g, cap, cur, h1, by omega, h3⟩
/-- A change behind an own list: all but longer lists lie as they lay. -/
theorem run_cpush (t ty : TypeId) (i : TypeInfo) (ht : Tryz.prog.underlying t = some (.slice 71)) (hi : Tryz.prog.info? 71 = some i) (hz : i.zero = some (cvV ⟨0, 0, false, []⟩)) (hsize : i.size = 4) (hby : i.bytes = 40)
    (w : World) (base : Nat) (v : Value) (n : Nat) (xs : List Value) (hown : w.ownsRow base 71 4 v n xs) (h0 : n = 0 → v = .slice none 0 0) (hl0 : xs.length = n * 4) (a : Addr) (c : Nat) (news : List Value) (hl : news.length = 4) (hnews : ∀ j u, news[j]? = some u → w.cell? (a.add j) = some u) (h1 : ∀ u ∈ news, u.oneCell' = true)
    (h63 : n ≤ 1000000) (hbase : base ≤ w.heap.size) :
    ∃ v' w', (Builtin.append_ #[t, t] ty #[v, .slice (some a) 1 c]).run Tryz.prog w = .ok v' w' ∧ w'.ownsRow base 71 4 v' (n + 1) (xs ++ news) ∧ w.grownBy w' v.ownBlock ∧ KpC 0 w w' := by
  have gen := fun (_ : Unit) => run_append_own (P := Tryz.prog) w base t ty 71 i _ 4 40 ht hi hz hsize hby rfl (by omega) v n xs hown a 1 c news (by omega) hnews h1 (by simp only [maxLen]; omega) (by omega) hbase
  rcases hown.2 with ⟨rfl, hn⟩ | ⟨g, cap, cur, rfl, hb, hg, hn, hm, hs, hc⟩
  · obtain ⟨v', w', hr, ho, hgr, -⟩ := gen ()
    exact ⟨v', w', hr, ho, hgr, KpC.grown hgr fun j hj => by simp [Value.ownBlock] at hj⟩
  · have hn1 : n ≠ 0 := fun h => by cases h0 h
    by_cases hf : cap < n + 1
    · have holds : ∀ j u, xs[j]? = some u → w.cell? ((⟨g, 0, none⟩ : Addr).add j) = some u := fun j u hj => by
        rw [add_off, Nat.zero_add]
        have hcl := cell_of_row w g j _ _ _ hg
        rw [hcl]
        have : (cur.toList.take (n * 4))[j]? = some u := by rw [hc]; exact hj
        rw [List.getElem?_take] at this
        split at this
        · simpa using this
        · cases this
      obtain ⟨v', w', hr, ho, hgr⟩ := run_append_arg_grows (P := Tryz.prog) w t ty 71 i _ 4 40 ht hi hz hsize hby rfl (by omega) ⟨g, 0, none⟩ n cap xs hl0 holds a 1 c news (by omega) hnews hf (by simp only [maxLen]; omega) (by omega)
      exact ⟨v', w', hr, own_base ho hbase, ⟨hgr.os, hgr.tape, hgr.output, hgr.size, fun j hj _ => hgr.block j hj (by simp)⟩, KpC.grown hgr fun j hj => by cases hj⟩
    · obtain ⟨v', w', hr, ho, hgr, -⟩ := gen ()
      refine ⟨v', w', hr, ho, hgr, KpC.grown hgr fun j hj => .inr ⟨cur, 71, (0, 0), ?_, ?_⟩⟩
      · simp [Value.ownBlock] at hj; subst hj; exact hg
      · unfold uC
        have : (cur.size == 4) = false := by simp; omega
        rw [this]; simp
theorem wpListIn_cpush {F : Fence} {n : Nat} (w : World) {ops : Array Oper} {rest : List Oper} {o : Oper} {a : Act} {Q : Exit → Act → World → Prop}
    (hg : o.guard = none) (s x : Operand) (hop : o.op = Op.call { callee := Callee.builtin Builtin.append, args := #[s, x], argTypes := #[65, 65] })
    (base : Nat) (v : Value) (k : Nat) (xs : List Value) (hs : a.eval s = v) (hown : w.ownsRow base 71 4 v k xs) (h0 : k = 0 → v = .slice none 0 0) (hl0 : xs.length = k * 4) (ad : Addr) (c : Nat) (news : List Value) (hx : a.eval x = .slice (some ad) 1 c) (hn : news.length = 4)
    (hc : ∀ j u, news[j]? = some u → w.cell? (ad.add j) = some u) (h1c : ∀ u ∈ news, u.oneCell' = true) (b1 : k ≤ 1000000) (b3 : base ≤ w.heap.size)
    (hK : ∀ v' w', w'.ownsRow base 71 4 v' (k + 1) (xs ++ news) → w.grownBy w' v.ownBlock → KpC 0 w w' → wpListIn F n Tryz.prog ops Q rest (a.put o.dst v') w') :
    wpListIn F n Tryz.prog ops Q (o :: rest) a w := by
  obtain ⟨i, hi, hz, hsz, hby⟩ := info_parts ch_info
  refine wpListIn_plain hg fun K hK' => ?_
  obtain ⟨v', w', hrun, r1, r2, r3⟩ := run_cpush _ o.type i Tryz.underlying65 hi hz hsz hby w base v k xs hown h0 hl0 ad c news hn hc h1c b1 b3
  unfold Oper.wpIn
  refine ⟨?_, ?_⟩
  · simp [Oper.about, hop, resolve, Target.leads, Sem.run_pure]
  · rw [Oper.semAt_plain F _ _ (by rw [hop]; intro c hc'; cases hc')]
    simp [execOp, hop, resolve, invoke, builtin, hs, hx, hrun, Result.andThen]
    exact hK' _ _ (hK v' w' r1 r2 r3)
theorem holdS {β : Type} (T : TypeId → Bool) (n0 B D : Nat) (t e : TypeId) (size : Nat) (k : β → Nat) (f : β → List Value) (G : β → Value → Prop) (h1 : T t = false) (h2 : T e = false) : OwnS T D (fun s W => ∃ v, Go.Boxed W B t v ∧ W.ownsRow n0 e size v (k s) (f s) ∧ G s v) := by
  rintro s X Y row ⟨v, hv, hr, hG⟩ hg hrow
  have no : ∀ r cs t' fz, row = some r → X.heap[r]? = some (Obj.cells cs t' fz) → T t' = true := fun r cs t' fz e1 e2 => by
    obtain ⟨-, o, ho, hc⟩ := hrow r e1
    rw [e2] at ho
    cases ho
    rcases hc with hc | ⟨cs2, t2, fz2, e3, h3⟩
    · cases hc
    · cases e3; exact h3
  refine ⟨v, hv.kept hg (fun e' => ?_), hr.kept hg ?_, hG⟩
  · have := no B _ _ _ e'.symm hv
    rw [h1] at this; cases this
  · rcases hr.2 with ⟨rfl, -⟩ | ⟨g, cap, cur, rfl, -, hgb, -⟩
    · exact .inl rfl
    · refine .inr fun e' => ?_
      have := no g _ _ _ e'.symm hgb
      rw [h2] at this; cases this
/-- What Collect answers. -/
def CollC (L : List CV) (w : World) (e : Ending) (w' : World) : Prop := ∃ A c, e = .returned (.slice A L.length c) ∧ w'.ownsRow w.heap.size 71 4 (.slice A L.length c) L.length (fcl (fun x => (cC x).toList) L) ∧ Below w.heap.size w w'
set_option maxRecDepth 20000 in
set_option maxHeartbeats 2000000 in
theorem collc_in (N : Nat) (hN : 3 ≤ N) (g : Nat) (lb : Array Value) (L : List CV) (hL : L.length ≤ 1000000) (n0 : Nat) (w : World) (H : ItC (N - 1) g lb L n0 w) :
    CallsIn Fence.wide N Tryz.prog 82 #[.slice none 0 0, .func (.func g) #[] lb] w (CollC L w) := by
  have h1 : 1 ≤ N := by omega
  have hn0 := H.1
  refine callsIn_of_wp_marks Tryz.func82 rfl trivial ?_ rfl
  simp only [Tryz.ntmps82, List.size_toArray, List.length_cons, List.length_nil, Nat.reduceAdd, Nat.reduceSub, Array.replicate_succ, Array.replicate_zero, List.push_toArray, List.append_toArray, List.nil_append, List.cons_append]
  gi_wp2
  have bO := Go.Boxed.new w 65 (.slice none 0 0)
  obtain ⟨w1, hw1⟩ : ∃ w1, (w.alloc (.cells #[.slice none 0 0] 65)) = w1 := ⟨_, rfl⟩
  have hB0 : Below w.heap.size w w1 := by rw [← hw1]; exact (Below.refl _ w).alloc (Nat.le_refl _) _
  have s1 : w1.heap.size = w.heap.size + 1 := by rw [← hw1]; simp
  rw [hw1] at bO
  simp only [hw1]
  have SEQ := (H.next (hB0.mono hn0)).2.2 w1.heap.size w1 (Below.refl _ _) (Nat.le_refl _)
  have eg := H.2.1
  clear H hw1
  refine range_ks h1 (gf := g) (lb := lb) rfl eg SEQ (by omega) (fun _ => rfl) KpC.trans KpC.put
    (fun pre W => (∃ v, Go.Boxed W w.heap.size 65 v ∧ W.ownsRow w.heap.size 71 4 v pre.length (fcl (fun x => (cC x).toList) pre) ∧ (pre.length = 0 → v = .slice none 0 0)) ∧ Below w.heap.size w W)
    (fun _ _ _ => False) ?own (fun _ _ _ _ _ h => h.elim) ⟨⟨_, bO, World.ownsRow_nil _ _ _ _, fun _ => rfl⟩, hB0⟩ ?round ?done (fun _ _ _ _ _ _ h => h.elim)
  case own => exact OwnS.and (holdS tC w.heap.size w.heap.size w1.heap.size 65 71 4 (fun pre : List CV => pre.length) (fun pre => fcl (fun x => (cC x).toList) pre) (fun pre v => pre.length = 0 → v = .slice none 0 0) rfl rfl) (ownS_below (Nat.le_refl _) hB0.size)
  case round =>
    rintro l2 pre x X ⟨⟨v, hv, hro, h0⟩, hB⟩ hOk hsX
    simp only [encC, cvV]
    have hpl : pre.length + 1 ≤ L.length := by have := hOk.length_le; simpa using this
    have bX : RowKit.Below X.heap.size X (X.alloc (.cells #[.int .i64 x.t, .int .i64 x.of, .bool x.ds, .string ⟨x.ab.toArray⟩] 71)) := (Below.refl _ X).alloc (Nat.le_refl _) _
    have HV := Lib.hid hv
    have HR := Lib.hid hro
    have HB := Lib.hid hB
    have hXs := hB.size
    clear hv hro hB hOk
    gi_wp2
    refine ⟨⟨KeepsOthers.alloc X _, bX.mono (by omega), KpC.below bX⟩, fun _ Y => ((∃ v, Go.Boxed Y w.heap.size 65 v ∧ Y.ownsRow w.heap.size 71 4 v pre.length (fcl (fun x => (cC x).toList) pre) ∧ (pre.length = 0 → v = .slice none 0 0)) ∧ Below w.heap.size w Y) ∧ Y.heap[X.heap.size]? = some (.cells #[.int .i64 x.t, .int .i64 x.of, .bool x.ds, .string ⟨x.ab.toArray⟩] 71 (0, 0)),
      OwnFrom.and (fun u A' B' row h hg hr => (OwnS.and (holdS tC w.heap.size w.heap.size w1.heap.size 65 71 4 (fun pre : List CV => pre.length) (fun pre => fcl (fun x => (cC x).toList) pre) (fun pre v => pre.length = 0 → v = .slice none 0 0) rfl rfl) (ownS_below (Nat.le_refl _) hB0.size)).from pre A' B' row h hg hr) (fun s A' B' row h hg hr => (hg.block _ (Array.getElem?_eq_some_iff.1 h).1 (fun e => by obtain ⟨-, o, ho, hc⟩ := hr _ e.symm; rw [h] at ho; cases ho; cases hc)).trans h),
      ⟨⟨⟨v, HV.out.alloc _, HR.out.alloc _, h0⟩, bmk HB.out _⟩, heap_alloc_new X _⟩, ?_⟩
    rintro W2 ⟨⟨⟨v, hv, hro, h0⟩, hB⟩, hF⟩ hs2
    have hc := hv.cell
    obtain ⟨z0, z1, z2, z3⟩ := cel4 hF
    have hl0 : (fcl (fun x => (cC x).toList) pre).length = pre.length * 4 := fcl_len cC_len pre
    have hsn : fcl (fun x => (cC x).toList) (pre ++ [x]) = fcl (fun x => (cC x).toList) pre ++ (cC x).toList := by rw [fcl_app]; simp [fcl]
    have hBs := hB.size
    clear bX HV HR HB hF
    gi_wp2_with (gi_at_builtin; refine wpListIn_cpush _ rfl _ _ rfl w.heap.size _ _ _ rfl (hro.alloc _) h0 hl0 ⟨W2.heap.size, 0, none⟩ 1 (cC x).toList rfl rfl (ch_new W2 x _) (cC_one x) (by omega) (by simp; omega) ?_; intro v' w3 hown' hgrow hkp; obtain ⟨g', cap', rfl⟩ := ownsRow_succ hown'; obtain ⟨hv1, hv2, hr2, hk2, hb2⟩ := hv.appended (by decide) hro hB.size (Nat.le_refl _) hown' hgrow; have hc1 := hv1.cell; have hf1 := hv1.frozen)
    refine ⟨⟨hk2, hb2.mono hn0, ?_⟩, ⟨_, hv2, by rw [List.length_append, List.length_singleton, hsn]; exact hr2, fun h => by simp at h⟩, hB.trans hb2⟩
    exact KpC.trans (KpC.below ((Below.refl _ _).alloc (Nat.le_refl _) _)) (KpC.trans (hkp.mono (Nat.zero_le _)) (KpC.grown (grownBy_setCell' w3 w.heap.size _) fun j hj => .inl (by injection hj with hj; omega)))
  case done =>
    rintro D xs X hD hS ⟨⟨v, hv, hro, h0⟩, hB⟩ hdf
    have hc := hv.cell
    have hS' : xs = L := hS
    subst hS'
    have HR := Lib.hid hro
    have HB := Lib.hid hB
    clear hS hB hv h0
    gi_wp2
    refine ⟨by simp, .inl ⟨_, _, rfl, run_takeDeferred hdf, ?_⟩⟩
    have hr := ownsRow_putObj HR.out (.deferred none) hdf rfl
    obtain ⟨A, c, rfl⟩ : ∃ A c, v = .slice A xs.length c := by
      rcases HR.out.2 with ⟨e, hn⟩ | ⟨g', cap, cur, e, -⟩
      · exact ⟨none, 0, by rw [e, hn]⟩
      · exact ⟨_, _, e⟩
    exact ⟨_, results_tmp rfl _ _ _, A, c, rfl, hr, HB.out.trans ((Below.refl w.heap.size X).grown (grownBy_putObj' X D (.deferred none)) HB.out.size (fun r e => by injection e with e; subst e; omega))⟩
theorem collc_is (g : Nat) (lb : Array Value) (L : List CV) (hL : L.length ≤ 1000000) (n0 N : Nat) (hN : 2 ≤ N) (w : World) (H : ItC N g lb L n0 w) :
    Calls Tryz.prog 62 #[.func (.func g) #[] lb] w (CollC L w) := by
  have CI := Lib.hid (callsIn_wide.1 (collc_in (N + 1) (by omega) g lb L hL n0 w H))
  clear H
  go_enter Tryz.func62, Tryz.ntmps62
  go_wp2_with (go_at_call 82; refine CI.out.mono ?_; rintro e w' ⟨A, c, rfl, h1, h2⟩)
  go_ret
  exact ⟨A, c, rfl, h1, h2⟩
end Go.Proofs.YtdmfgechoanmlaaGreatDoor
