/- The contract of lexer.Words: a line's words, or what is wrong with it; nothing that was in memory changes. -/
import Derived.Test.YtomiopdmgdidnaaDoorLxE
namespace Go.Proofs.YtomiopdmgdidnaaDoor
open Go.RowKit Go.Shelf
attribute [local go_sem] Oper.semAt_some

theorem lxscope {c : Code} {n : Nat} {Q : Exit → Act → World → Prop} {a : Act} {w : World} (h : c.wpIn Fence.wide n Tryd.prog (Exit.noGoto Q) a w) : (Code.scope c).wpIn Fence.wide n Tryd.prog Q a w := wpIn_wide.2 (wp_scope_straight (wpIn_wide.1 h))
theorem lxkeeps {W W1 : World} (k : Below W.heap.size W W1) : KeepsOthers W W1 := ⟨k.size, fun _ _ h _ => (k.block _ (Array.getElem?_eq_some_iff.1 h).1).trans h⟩

/-- The words that are kept of those that came, and the error. -/
def kept (pre : List Wd) : List (List UInt8) := (pre.map (·.1)).take 32
def errOf (pre : List Wd) : Int := if 32 < pre.length then 14 else 0
def allEnd (pre : List Wd) : Bool := pre.all (·.2)
theorem allEnd_snoc (pre : List Wd) (x : Wd) : allEnd (pre ++ [x]) = (allEnd pre && x.2) := by simp [allEnd]
theorem allEnd_any (pre : List Wd) : (pre.any fun p => !p.2) = !allEnd pre := by
  unfold allEnd
  induction pre with
  | nil => rfl
  | cons x pre ih => rw [List.any_cons, List.all_cons, ih, Bool.not_and]
theorem allEnd_pre {l m : List Wd} (h : l <+: m) (ho : allEnd l = false) : allEnd m = false := by
  obtain ⟨q, rfl⟩ := h
  unfold allEnd at ho ⊢
  rw [List.all_append, ho]; rfl
theorem kept_few {pre : List Wd} (x : Wd) (h : pre.length < 32) : kept (pre ++ [x]) = kept pre ++ [x.1] ∧ errOf (pre ++ [x]) = 0 ∧ errOf pre = 0 := by
  refine ⟨?_, ?_, ?_⟩
  · unfold kept
    rw [List.take_of_length_le (by simp; omega), List.take_of_length_le (by simp; omega)]; simp
  · unfold errOf; rw [if_neg (by simp; omega)]
  · unfold errOf; rw [if_neg (by omega)]
theorem kept_many {pre : List Wd} (x : Wd) (h : 32 ≤ pre.length) : kept (pre ++ [x]) = kept pre ∧ errOf (pre ++ [x]) = 14 := by
  refine ⟨?_, ?_⟩
  · unfold kept
    rw [List.map_append, List.take_append_of_le_length (by simp; omega)]
  · unfold errOf; rw [if_pos (by simp; omega)]
theorem kept_len (pre : List Wd) : (kept pre).length = min 32 pre.length := by simp [kept]
theorem lxone_new (W : World) (v : Value) (t : TypeId) : ∀ (j : Nat) (u : Value), [v][j]? = some u → (W.alloc (.cells #[v] t)).cell? (Addr.add ⟨W.heap.size, 0, none⟩ j) = some u := by
  intro j u hu
  rcases j with _ | j
  · obtain rfl : v = u := by simpa using hu
    rw [Go.WideShapes.add_plain]
    exact (Boxed.new W t v).cell
  · simp at hu

set_option maxHeartbeats 2000000 in
theorem words_in2 (s : List UInt8) (w : World) (hs : s.length ≤ 2000) (n : Nat) (hn : n = 5) (ws : List (List UInt8)) (er : Int) (HV : Hid (lexE s = er ∧ wordsL s = ws)) (hbar : s.any barB = false) :
    CallsIn Fence.wide n Tryd.prog 10 #[.string ⟨s.toArray⟩] w (CollT ws er w) := by
  have h1 : 1 ≤ n := by omega
  have CA := Lib.hid (fun W => conAny_is s [10, 0, 13] barB false W (by omega) bars_are (Lib.hid hbar))
  refine callsIn_of_wp_marks Tryd.func10 rfl trivial ?_ rfl
  simp only [Tryd.ntmps10, List.size_toArray, List.length_cons, List.length_nil, Nat.reduceAdd, Nat.reduceSub, Array.replicate_succ, Array.replicate_zero, List.push_toArray, List.append_toArray, List.nil_append, List.cons_append]
  gi_wp2
  refine lxscope ?_
  gi_wp2_with (first
    | (refine ⟨trivial, ?_⟩; gi_at_call 17; refine (callsIn_wide.2 (CA.out _)).mono ?_; rintro e w1 ⟨rfl, k1⟩
       have K1 := Lib.hid k1
       clear k1
       simp only []))
  refine wpIn_label ?_
  gi_wp2_with (refine ⟨trivial, ?_⟩; gi_at_call 18; refine (callsIn_wide.2 (wordsIn_any s _)).mono ?_; rintro e w' ⟨rfl, rfl⟩)
  obtain ⟨i0, hi0, hz0, hz1, hz2⟩ := info_parts lxs_info
  obtain ⟨W0, hW0⟩ : ∃ W0, ((w1.alloc (.cells #[.slice none 0 0] 23)).alloc (.cells #[.int .i64 0] 24)).alloc (.cells #[.string ⟨s.toArray⟩] 9) = W0 := ⟨_, rfl⟩
  have hsz : W0.heap.size = w1.heap.size + 3 := by rw [← hW0]; simp
  have hB0 : Below w1.heap.size w1 W0 := by rw [← hW0]; exact (((Below.refl _ w1).alloc (Nat.le_refl _) _).alloc (by simp) _).alloc (by simp; omega) _
  have hX0 : Boxed W0 w1.heap.size 23 (.slice none 0 0) := by rw [← hW0]; exact ((Boxed.new w1 _ _).alloc _).alloc _
  have hY0 : Boxed W0 (w1.heap.size + 1) 24 (.int .i64 0) := by
    rw [← hW0]
    have := Boxed.new (w1.alloc (.cells #[.slice none 0 0] 23)) 24 (.int .i64 0)
    rw [World.size_alloc] at this
    exact this.alloc _
  have hS0 : W0.cell? ⟨w1.heap.size + 2, 0, none⟩ = some (.string ⟨s.toArray⟩) := by
    rw [← hW0]
    have := (Boxed.new ((w1.alloc (.cells #[.slice none 0 0] 23)).alloc (.cells #[.int .i64 0] 24)) 9 (.string ⟨s.toArray⟩)).cell
    simpa [World.size_alloc] using this
  rw [hW0]
  clear hW0
  refine wpIn_rangeFunc_ownF rfl h1 (gf := 24) (lb := #[.pointer (some ⟨w1.heap.size + 2, 0, none⟩)]) rfl trivial (enters_of Tryd.func24 (by kernel_rfl) rfl)
    (words_stops (fun _ _ => True) (n - 1) (by omega) (w1.heap.size + 2) s hs W0 hS0 (by omega)) (fun _ _ => trivial) (fun _ _ _ _ _ _ _ _ => trivial) (Below.refl _ _) (fun _ => rfl)
    (fun pre W => (allEnd pre = true ∧ (∃ v, Boxed W w1.heap.size 23 v ∧ W.ownsRow w1.heap.size 9 1 v (kept pre).length (tcl (kept pre)) ∧ True) ∧ Boxed W (w1.heap.size + 1) 24 (.int .i64 (errOf pre))) ∧ Below w1.heap.size w1 W)
    (fun c pre W => (c = .exit 0 ∧ allEnd pre = false ∧ Boxed W (w1.heap.size + 1) 24 (.int .i64 12)) ∧ Below w1.heap.size w1 W)
    ?hI ?hIx ⟨⟨rfl, ⟨_, hX0, World.ownsRow_nil _ _ _ _, trivial⟩, hY0⟩, hB0⟩
    (fun x => { tmps := #[.string ⟨s.toArray⟩, undef, .slice none 0 0, .int .i64 0, .pointer (some ⟨w1.heap.size, 0, none⟩), .pointer (some ⟨w1.heap.size + 1, 0, none⟩), .string ⟨x.1.toArray⟩, .bool x.2, .string ⟨s.toArray⟩, .bool false, .string ⟨s.toArray⟩, .func (.func 24) #[] #[.pointer (some ⟨w1.heap.size + 2, 0, none⟩)], .string ⟨x.1.toArray⟩, .bool x.2, undef, undef, undef, undef, undef, undef, undef, undef, undef, undef, undef, undef, undef, undef, undef], defers := [] }) ?assign ?body ?done ?stop
  case hI =>
    exact OwnFrom.and (OwnFrom.and (ownFrom_pure _ _) (OwnFrom.and (Own.from (holdsRow_own w1.heap.size w1.heap.size 23 9 1 (fun pre : List Wd => (kept pre).length) (fun pre => tcl (kept pre)) (fun _ _ => True)) _) (Own.from (boxed_own (w1.heap.size + 1) 24 (fun pre : List Wd => .int .i64 (errOf pre))) _))) (ownFrom_below (Nat.le_refl _) (by omega))
  case hIx =>
    intro c
    exact OwnFrom.and (OwnFrom.and (ownFrom_pure _ _) (OwnFrom.and (ownFrom_pure _ _) (Own.from (boxed_own (w1.heap.size + 1) 24 (fun _ : List Wd => .int .i64 12)) _))) (ownFrom_below (Nat.le_refl _) (by omega))
  case assign =>
    intro l x W K hK
    simp only [wdV]
    gi_wp2
    exact hK
  case body =>
    rintro l pre ⟨word, ends⟩ W ⟨⟨hok, ⟨v, hv, hrow, _⟩, hy⟩, hB⟩ hlen
    have hB2 := hB.size
    have HOK := Lib.hid hok
    have HV2 := Lib.hid hv
    have HR := Lib.hid hrow
    have HY := Lib.hid hy
    have HB := Lib.hid hB
    have hyc := hy.cell
    have hyf := hy.frozen
    have hyl := hy.lt
    clear hok hB
    obtain ⟨A, cc, rfl⟩ := lxown_form hrow
    have hxc := hv.cell
    have hxf := hv.frozen
    have hxl := hv.lt
    cases ends with
    | false =>
      clear hv hrow hy
      gi_wp2
      refine ⟨KeepsOthers.setCell _ _ _, ⟨rfl, by rw [allEnd_snoc]; simp, HY.out.set _⟩, HB.out.setCell (p := ⟨w1.heap.size + 1, 0, none⟩) (by show w1.heap.size ≤ w1.heap.size + 1; omega) _⟩
    | true =>
      by_cases hlt : pre.length < 32
      · obtain ⟨e1, e2, e3⟩ := kept_few (word, true) hlt
        have hkl : (kept pre).length < 32 := by rw [kept_len]; omega
        have hne : (((kept pre).length : Int) == 32) = false := by simp; omega
        have E := Lib.hid (And.intro e1 (And.intro e2 e3))
        clear hv hrow hy e1 e2 e3
        gi_wp2_with (gi_at_builtin; refine wpListIn_append_own _ rfl _ _ 23 rfl w1.heap.size 9 i0 (.string ⟨#[]⟩) 1 16 Tryd.underlying23 hi0 hz0 hz1 hz2 rfl (by decide) _ _ _ rfl (HR.out.alloc _) ⟨W.heap.size, 0, none⟩ 1 1 [.string ⟨word.toArray⟩] rfl rfl (lxone_new W _ 9) (by simp [Value.oneCell']) (by simp only [maxLen]; omega) (by omega) (by simp; omega) ?_; intro v' w2 hown' hgrow _; obtain ⟨g', cap', rfl⟩ := ownsRow_succ hown'; obtain ⟨hv1, hv2, hr2, hk2, hb2⟩ := HV2.out.appended (by decide) HR.out hB2 (Nat.le_refl _) hown' hgrow; have hc1 := hv1.cell; have hf1 := hv1.frozen)
        have hy2 := ((HY.out.alloc (.cells #[.string ⟨word.toArray⟩] 9)).kept hgrow (HY.out.not_row (by decide) HR.out)).other (B' := w1.heap.size) (by omega) (.slice (some ⟨g', 0, none⟩) ((kept pre).length + 1) cap')
        have hr3 : (w2.setCell ⟨w1.heap.size, 0, none⟩ (.slice (some ⟨g', 0, none⟩) ((kept pre).length + 1) cap')).ownsRow w1.heap.size 9 1 (.slice (some ⟨g', 0, none⟩) ((kept pre).length + 1) cap') (kept (pre ++ [(word, true)])).length (tcl (kept (pre ++ [(word, true)]))) := by
          rw [E.out.1, tcl_app, List.length_append]; exact hr2
        exact ⟨hk2, trivial, ⟨by rw [allEnd_snoc, HOK.out]; rfl, ⟨_, hv2, hr3⟩, by rw [E.out.2.1, ← E.out.2.2]; exact hy2⟩, HB.out.trans hb2⟩
      · obtain ⟨e1, e2⟩ := kept_many (word, true) (by omega : 32 ≤ pre.length)
        have hkl : (kept pre).length = 32 := by rw [kept_len]; omega
        have hne : (((kept pre).length : Int) == 32) = true := by simp; omega
        have E := Lib.hid (And.intro e1 e2)
        have hrw := hrow.kept (grownBy_setCell' W (w1.heap.size + 1) (.int .i64 14)) (.inr (hy.not_row (by decide) hrow).symm)
        have HRW := Lib.hid hrw
        clear hv hrow hy e1 e2 hrw
        gi_wp2
        refine ⟨KeepsOthers.setCell _ _ _, trivial, ⟨by rw [allEnd_snoc, HOK.out]; rfl, ⟨_, HV2.out.other (by omega) _, by rw [E.out.1]; exact HRW.out, trivial⟩, by rw [E.out.2]; exact HY.out.set _⟩, HB.out.setCell (p := ⟨w1.heap.size + 1, 0, none⟩) (by show w1.heap.size ≤ w1.heap.size + 1; omega) _⟩
  case done =>
    rintro D xs W hD rfl ⟨⟨hok, ⟨v, hv, hrow, _⟩, hy⟩, hB⟩ hK
    have hok2 : ((wlist s).any fun p => !p.2) = false := by rw [allEnd_any, hok]; rfl
    obtain ⟨A, cc, rfl⟩ := lxown_form hrow
    have hxc := hv.cell
    have hyc := hy.cell
    have HRW := Lib.hid (lxown_mono (ownsRow_putObj hrow (.deferred none) hK rfl) K1.out.size)
    have HB2 := Lib.hid (K1.out.trans ((hB.trans (belowK_b (w := w1) (Nat.le_refl _) W D _ (.deferred none) (by have := hB0.size; omega) hK rfl rfl)).mono K1.out.size))
    by_cases hlt : 32 < (wlist s).length
    · have E : Hid (er = 14 ∧ ws = []) := Lib.hid (by
        have e1 : lexE s = 14 := by unfold lexE; rw [hbar, hok2, if_neg (by decide), if_neg (by decide), if_pos hlt]
        exact ⟨by rw [← HV.out.1, e1], by rw [← HV.out.2, words_none (by rw [e1]; decide)]⟩)
      have e3 : errOf (wlist s) = 14 := by unfold errOf; rw [if_pos hlt]
      rw [e3] at hyc hy
      have hK2 : W.drew.heap[D]? = some (.deferred (some [])) := hK
      have HB3 := Lib.hid (K1.out.trans ((hB.drew.trans (belowK_b (w := w1) (Nat.le_refl _) W.drew D _ (.deferred none) (by have := hB0.size; omega) hK2 rfl rfl)).mono K1.out.size))
      clear hv hrow hok hok2 hB hB0 hX0 hY0 hS0 HRW hlt
      gi_wp2
      refine wpIn_wide.2 ?_
      go_region
      gi_wp2
      refine ⟨by simp, .inl ⟨_, _, rfl, run_takeDeferred hK2, ?_⟩⟩
      refine ⟨_, results_tmp2 rfl _ _ _, ?_⟩
      rw [E.out.1, E.out.2]
      exact CollT.none HB3.out
    · have E : Hid (er = 0 ∧ ws = kept (wlist s)) := Lib.hid (by
        have e1 : lexE s = 0 := by unfold lexE; rw [hbar, hok2, if_neg (by decide), if_neg (by decide), if_neg hlt]
        refine ⟨by rw [← HV.out.1, e1], ?_⟩
        rw [← HV.out.2]
        unfold wordsL kept
        rw [if_pos e1, List.take_of_length_le (by simp; omega)])
      have e3 : errOf (wlist s) = 0 := by unfold errOf; rw [if_neg hlt]
      rw [e3] at hyc hy
      clear hv hrow hok hok2 hB hB0 hX0 hY0 hS0 hlt
      gi_wp2
      refine ⟨by simp, .inl ⟨_, _, rfl, run_takeDeferred hK, ?_⟩⟩
      refine ⟨_, results_tmp2 rfl _ _ _, ?_⟩
      rw [E.out.1, E.out.2]
      exact ⟨A, cc, rfl, HRW.out, HB2.out⟩
  case stop =>
    rintro D c pre W hD hSp ⟨⟨rfl, hok, hy⟩, hB⟩ hK
    have hok2 : ((wlist s).any fun p => !p.2) = true := by rw [allEnd_any, allEnd_pre hSp hok]; rfl
    have hyc := hy.cell
    have E : Hid (er = 12 ∧ ws = []) := Lib.hid (by
      have e1 : lexE s = 12 := by unfold lexE; rw [hbar, hok2, if_neg (by decide), if_pos rfl]
      exact ⟨by rw [← HV.out.1, e1], by rw [← HV.out.2, words_none (by rw [e1]; decide)]⟩)
    have hK2 : W.drew.heap[D]? = some (.deferred (some [])) := hK
    have HB3 := Lib.hid (K1.out.trans ((hB.drew.trans (belowK_b (w := w1) (Nat.le_refl _) W.drew D _ (.deferred none) (by have := hB0.size; omega) hK2 rfl rfl)).mono K1.out.size))
    clear hok hok2 hB hB0 hX0 hY0 hS0 hSp
    gi_wp2
    refine wpIn_wide.2 ?_
    go_region
    gi_wp2
    refine ⟨by simp, .inl ⟨_, _, rfl, run_takeDeferred hK2, ?_⟩⟩
    refine ⟨_, results_tmp2 rfl _ _ _, ?_⟩
    rw [E.out.1, E.out.2]
    exact CollT.none HB3.out

theorem words_is (s : List UInt8) (ws : List (List UInt8)) (er : Int) (w : World) (hs : s.length ≤ 2000) (HV : Hid (lexE s = er ∧ wordsL s = ws)) : Calls Tryd.prog 10 #[.string ⟨s.toArray⟩] w (CollT ws er w) := by
  cases hb : s.any barB
  · exact callsIn_wide.1 (words_in2 s w hs 5 rfl ws er HV hb)
  · have CA := Lib.hid (fun W => conAny_is s [10, 0, 13] barB true W (by omega) bars_are (Lib.hid hb))
    have E : Hid (er = 12 ∧ ws = []) := Lib.hid ⟨by rw [← HV.out.1, (lex_bar hb).1], by rw [← HV.out.2, (lex_bar hb).2]⟩
    clear hb
    go_enter Tryd.func10, Tryd.ntmps10
    go_wp2
    refine wp_scope_straight ?_
    go_wp2_with (first
      | (go_at_call 17; refine (CA.out _).mono ?_; rintro e w1 ⟨rfl, k1⟩
         have K1 := Lib.hid k1
         clear k1
         simp only []))
    go_ret2
    rw [E.out.1, E.out.2]
    exact CollT.none K1.out
end Go.Proofs.YtomiopdmgdidnaaDoor
