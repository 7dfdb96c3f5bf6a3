/- The contract of clock.read: the seconds of a span's text without its sign, or that it is wrong; nothing that was in memory changes. -/
import Derived.Test.YtjafbopmedbhcaaDoorPart
import Derived.Test.YtjafbopmedbhcaaDoorFld
import Derived.WalkMore
namespace Go.Proofs.YtjafbopmedbhcaaDoor
open Go.RowKit Go.Shelf
attribute [local go_sem] Oper.semAt_some

theorem parts_any (s : List UInt8) (w : World) :
    Calls Tryd.prog 50 #[.string ⟨s.toArray⟩] w fun e w' => e = .returned (.func (.func 58) #[] #[.pointer (some ⟨w.heap.size, 0, none⟩)]) ∧ w' = w.alloc (.cells #[.string ⟨s.toArray⟩] 9) := by
  have hmf : ∀ (fn : Fn) (first cap : Array Value) (w : World), (Instr.makeFunc fn first cap).run Tryd.prog w = .ok (.func fn first cap) w := fun _ _ _ _ => rfl
  go_enter Tryd.func50, Tryd.ntmps50
  go_wp2
  go_ret
  exact ⟨rfl, rfl⟩

theorem parts_stops (n : Nat) (hn : 1 ≤ n) (Bs n₀ : Nat) (s : List UInt8) (hs : s.length ≤ 1000) (w : World) (hB : Bs < w.heap.size) (hc : w.cell? ⟨Bs, 0, none⟩ = some (.string ⟨s.toArray⟩)) (hM : MaxAt w) (hn0 : 5 < n₀) :
    SeqStopsK Fence.wide n Tryd.prog 58 #[.pointer (some ⟨Bs, 0, none⟩)] ptV (Below n₀) (fun xs : List Pt => xs.map Subtype.val = ix 0 (pcs [] s)) (fun pre : List Pt => pre.map Subtype.val <+: ix 0 (pcs [] s)) (pcs [] s).length w := fun l J Jx W hW hJ _ hY h0 =>
  part_in Fence.wide rfl n hn l Bs n₀ s hs J Jx hn0 W hJ hY ((hW.cell (p := ⟨Bs, 0, none⟩) hB).trans hc) (hM.next hW) h0

theorem scope_in {c : Code} {n : Nat} {Q : Exit → Act → World → Prop} {a : Act} {w : World} (h : c.wpIn Fence.wide n Tryd.prog (Exit.noGoto Q) a w) : (Code.scope c).wpIn Fence.wide n Tryd.prog Q a w := wpIn_wide.2 (wp_scope_straight (wpIn_wide.1 h))

/-- What the two variables of read hold. -/
structure Two (g : Nat) (a b : Int) (W : World) : Prop where
  x : Go.Boxed W g 3 (.int .i64 a)
  y : Go.Boxed W (g + 1) 24 (.int .i64 b)

theorem Two.next {g : Nat} {a b : Int} {W W1 : World} (h : Two g a b W) (k : Below W.heap.size W W1) : Two g a b W1 := ⟨(k.block g h.x.lt).trans h.x, (k.block (g + 1) h.y.lt).trans h.y⟩
theorem Two.set {g : Nat} {a b : Int} {W : World} (h : Two g a b W) (v : Int) : Two g v b (W.setCell ⟨g, 0, none⟩ (.int .i64 v)) := ⟨h.x.set _, h.y.other (by omega) _⟩
theorem Two.set2 {g : Nat} {a b : Int} {W : World} (h : Two g a b W) (v : Int) : Two g a v (W.setCell ⟨g + 1, 0, none⟩ (.int .i64 v)) := ⟨h.x.other (by omega) _, h.y.set _⟩
theorem keeps_below {W W1 : World} (k : Below W.heap.size W W1) : KeepsOthers W W1 := ⟨k.size, fun _ _ h _ => (k.block _ (Array.getElem?_eq_some_iff.1 h).1).trans h⟩

theorem two_own {β : Type} (g B : Nat) (f h : β → Int) : OwnFrom B (fun s W => Two g (f s) (h s) W) := fun s X Y row hs hg hrow =>
  ⟨Own.from (boxed_own g 3 (fun s => .int .i64 (f s))) B s X Y row hs.x hg hrow, Own.from (boxed_own (g + 1) 24 (fun s => .int .i64 (h s))) B s X Y row hs.y hg hrow⟩

theorem okP_pre {l m : List (Nat × List UInt8)} (h : l <+: m) (ho : okP l = false) : okP m = false := by
  obtain ⟨q, rfl⟩ := h
  simp only [okP, List.all_append] at ho ⊢
  rw [ho]; rfl

set_option maxHeartbeats 2000000 in
theorem read_in (s : List UInt8) (w : World) (hs : s.length ≤ 1000) (hM : MaxAt w) (hF : FldAt w) (n : Nat) (hn : n = 5) (v : Int) (e0 : Int) (HV : Hid ((readOk s = true → v = readV s ∧ e0 = 0) ∧ (readOk s = false → v = 0 ∧ e0 = 12))) :
    CallsIn Fence.wide n Tryd.prog 36 #[.string ⟨s.toArray⟩] w fun e w' => e = .returned (.tuple #[.int .i64 v, .int .i64 e0]) ∧ Below w.heap.size w w' := by
  have h1 : 1 ≤ n := by omega
  refine callsIn_of_wp_marks Tryd.func36 rfl trivial ?_ rfl
  simp only [Tryd.ntmps36, List.size_toArray, List.length_cons, List.length_nil, Nat.reduceAdd, Nat.reduceSub, Array.replicate_succ, Array.replicate_zero, List.push_toArray, List.append_toArray, List.nil_append, List.cons_append]
  gi_wp2
  refine scope_in ?_
  gi_wp2
  refine wpIn_label ?_
  gi_wp2_with (refine ⟨trivial, ?_⟩; gi_at_call 50; refine (callsIn_wide.2 (parts_any s _)).mono ?_; rintro e w' ⟨rfl, rfl⟩)
  obtain ⟨W0, hW0⟩ : ∃ W0, ((w.alloc (.cells #[.int .i64 0] 3)).alloc (.cells #[.int .i64 0] 24)).alloc (.cells #[.string ⟨s.toArray⟩] 9) = W0 := ⟨_, rfl⟩
  have hsz : W0.heap.size = w.heap.size + 3 := by rw [← hW0]; simp
  have hB0 : Below w.heap.size w W0 := by rw [← hW0]; exact (((Below.refl _ w).alloc (Nat.le_refl _) _).alloc (by simp) _).alloc (by simp; omega) _
  have hT0 : Two w.heap.size 0 0 W0 := by
    rw [← hW0]
    refine ⟨((Go.Boxed.new w _ _).alloc _).alloc _, ?_⟩
    have := Go.Boxed.new (w.alloc (.cells #[.int .i64 0] 3)) 24 (.int .i64 0)
    rw [World.size_alloc] at this
    exact this.alloc _
  have hS0 : W0.cell? ⟨w.heap.size + 2, 0, none⟩ = some (.string ⟨s.toArray⟩) := by
    rw [← hW0]
    have := (Go.Boxed.new ((w.alloc (.cells #[.int .i64 0] 3)).alloc (.cells #[.int .i64 0] 24)) 9 (.string ⟨s.toArray⟩)).cell
    simpa [World.size_alloc] using this
  rw [hW0]
  clear hW0
  have hMl := hM.lt
  refine wpIn_rangeFunc_ownF rfl h1 (gf := 58) (lb := #[.pointer (some ⟨w.heap.size + 2, 0, none⟩)]) rfl trivial (enters_of Tryd.func58 (by kernel_rfl) rfl)
    (parts_stops (n - 1) (by omega) (w.heap.size + 2) w.heap.size s hs W0 (by omega) hS0 (hM.next hB0) hMl) belowK_t (belowK_b (by omega)) (Below.refl _ _) (fun _ => rfl)
    (fun pre W => (okP (pre.map Subtype.val) = true ∧ Two w.heap.size (sumP (pre.map Subtype.val)) 0 W) ∧ Below w.heap.size w W)
    (fun c pre W => (c = .exit 0 ∧ okP (pre.map Subtype.val) = false ∧ Two w.heap.size 0 12 W) ∧ Below w.heap.size w W)
    ?hI ?hIx ⟨⟨rfl, hT0⟩, hB0⟩
    (fun x => { tmps := #[.string ⟨s.toArray⟩, undef, .int .i64 0, .int .i64 0, .pointer (some ⟨w.heap.size, 0, none⟩), .pointer (some ⟨w.heap.size + 1, 0, none⟩), .int .i64 x.1.1, .string ⟨x.1.2.toArray⟩, undef, undef, .string ⟨s.toArray⟩, .func (.func 58) #[] #[.pointer (some ⟨w.heap.size + 2, 0, none⟩)], .int .i64 x.1.1, .string ⟨x.1.2.toArray⟩, undef, undef, undef, undef, undef, undef, undef, undef, undef, undef, undef, undef, undef], defers := [] }) ?assign ?body ?done ?stop
  case hI =>
    exact OwnFrom.and (OwnFrom.and (ownFrom_pure _ _) (two_own _ _ _ _)) (ownFrom_below (Nat.le_refl _) (by omega))
  case hIx =>
    intro c
    exact OwnFrom.and (OwnFrom.and (ownFrom_pure _ _) (OwnFrom.and (ownFrom_pure _ _) (two_own _ _ (fun _ => 0) (fun _ => 12)))) (ownFrom_below (Nat.le_refl _) (by omega))
  case assign =>
    intro l x W K hK
    simp only [ptV]
    gi_wp2
    exact hK
  case body =>
    rintro l pre x W ⟨⟨hok, hT⟩, hB⟩ hlen
    have hnb := sumP_bd hok
    rw [List.length_map] at hnb
    have hpl := pcs_len s []
    have hF1 := hF.next hB
    have hn1 : 1 ≤ n - 1 - 1 := by omega
    generalize hS1 : sumP (pre.map Subtype.val) = S1 at hnb hT
    have HT := Lib.hid hT
    have HB := Lib.hid hB
    have HO := Lib.hid (And.intro hok hS1)
    generalize hv : fvI x.1.1 x.1.2 = v1
    clear hT hB hok hS1
    cases ho : fldOk x.1.1 x.1.2 with
    | true =>
      have hv2 : v1 = (fldV x.1.1 x.1.2 : Int) := by rw [← hv]; simp [fvI, ho]
      have hvb := fldV_bd ho
      generalize hf : fldV x.1.1 x.1.2 = f at hv2 hvb
      have HF := Lib.hid hf
      clear hf
      subst hv2
      gi_wp2_with (refine ⟨trivial, ?_⟩; gi_at_call 51; refine (CallsIn.inRound l (callsIn_wide.2 (fld_any x.1.1 x.1.2 _ hF1))).mono ?_; rintro e w' ⟨rfl, k1⟩; rw [ho, hv]
                   have T1 := Lib.hid (HT.out.next k1)
                   have K1 := Lib.hid k1
                   clear k1
                   have hx := T1.out.x.cell
                   have hfx := T1.out.x.frozen
                   have hsx := T1.out.x.lt)
      have e : ((pre ++ [x]).map Subtype.val) = pre.map Subtype.val ++ [x.1] := by simp
      refine ⟨(keeps_below K1.out).trans (KeepsOthers.setCell _ _ _), ?_, ?_⟩
      · exact (K1.out.mono HB.out.size).setCell (p := ⟨w.heap.size, 0, none⟩) (Nat.le_refl _) _
      · show (okP ((pre ++ [x]).map Subtype.val) = true ∧ Two w.heap.size (sumP ((pre ++ [x]).map Subtype.val) : Nat) 0 _) ∧ Below w.heap.size w _
        rw [e]
        refine ⟨⟨by rw [okP_snoc, HO.out.1, ho]; rfl, ?_⟩, (HB.out.trans (K1.out.mono HB.out.size)).setCell (p := ⟨w.heap.size, 0, none⟩) (Nat.le_refl _) _⟩
        rw [sumP_snoc, HO.out.2, HF.out, Int.natCast_add]
        exact T1.out.set _
    | false =>
      have hv2 : v1 = 0 := by rw [← hv]; simp [fvI, ho]
      subst hv2
      gi_wp2_with (refine ⟨trivial, ?_⟩; gi_at_call 51; refine (CallsIn.inRound l (callsIn_wide.2 (fld_any x.1.1 x.1.2 _ hF1))).mono ?_; rintro e w' ⟨rfl, k1⟩; rw [ho, hv]
                   have T1 := Lib.hid (HT.out.next k1)
                   have K1 := Lib.hid k1
                   clear k1
                   have hx := T1.out.x.cell
                   have hfx := T1.out.x.frozen
                   have hsx := T1.out.x.lt
                   have hy := T1.out.y.cell
                   have hfy := T1.out.y.frozen
                   have hsy := T1.out.y.lt)
      have e : ((pre ++ [x]).map Subtype.val) = pre.map Subtype.val ++ [x.1] := by simp
      refine ⟨((keeps_below K1.out).trans (KeepsOthers.setCell _ _ _)).trans (KeepsOthers.setCell _ _ _), ⟨rfl, ?_, (T1.out.set 0).set2 12⟩, ?_⟩
      · rw [e, okP_snoc, ho, Bool.and_false]
      · exact ((HB.out.trans (K1.out.mono HB.out.size)).setCell (p := ⟨w.heap.size, 0, none⟩) (Nat.le_refl _) _).setCell (p := ⟨w.heap.size + 1, 0, none⟩) (by show w.heap.size ≤ w.heap.size + 1; omega) _
  case done =>
    rintro D xs W hD hS ⟨⟨hok, hT⟩, hB⟩ hK
    have hx := hT.x.cell
    have hy := hT.y.cell
    rw [hS] at hok hx hT
    have HE : Hid (v = (sumP (ix 0 (pcs [] s)) : Int) ∧ e0 = 0) := HV.out.1 hok
    generalize hS1 : sumP (ix 0 (pcs [] s)) = S1 at hx HE
    clear hok hT hS hS1
    have hK2 : W.drew.heap[D]? = some (.deferred (some [])) := hK
    gi_wp2
    refine wpIn_wide.2 ?_
    go_region
    gi_wp2
    refine ⟨by simp, .inl ⟨_, _, rfl, run_takeDeferred hK2, ?_⟩⟩
    refine ⟨_, results_tmp2 rfl _ _ _, ?_⟩
    rw [HE.out.1, HE.out.2]
    exact ⟨rfl, (hB.drew).trans (belowK_b (w := w) (Nat.le_refl _) W.drew D _ _ (by omega) hK2 rfl rfl)⟩
  case stop =>
    rintro D c pre W hD hSp ⟨⟨rfl, hok, hT⟩, hB⟩ hK
    have hx := hT.x.cell
    have hy := hT.y.cell
    have HE : Hid (v = 0 ∧ e0 = 12) := HV.out.2 (okP_pre hSp hok)
    clear hok hT hSp
    have hK2 : W.drew.heap[D]? = some (.deferred (some [])) := hK
    gi_wp2
    refine wpIn_wide.2 ?_
    go_region
    gi_wp2
    refine ⟨by simp, .inl ⟨_, _, rfl, run_takeDeferred hK2, ?_⟩⟩
    refine ⟨_, results_tmp2 rfl _ _ _, ?_⟩
    rw [HE.out.1, HE.out.2]
    exact ⟨rfl, (hB.drew).trans (belowK_b (w := w) (Nat.le_refl _) W.drew D _ _ (by omega) hK2 rfl rfl)⟩

theorem read_is (s : List UInt8) (v e0 : Int) (w : World) (hs : s.length ≤ 1000) (hM : MaxAt w) (hF : FldAt w) (HV : Hid ((readOk s = true → v = readV s ∧ e0 = 0) ∧ (readOk s = false → v = 0 ∧ e0 = 12))) :
    Calls Tryd.prog 36 #[.string ⟨s.toArray⟩] w fun e w' => e = .returned (.tuple #[.int .i64 v, .int .i64 e0]) ∧ Below w.heap.size w w' :=
  callsIn_wide.1 (read_in s w hs hM hF 5 rfl v e0 HV)
end Go.Proofs.YtjafbopmedbhcaaDoor
