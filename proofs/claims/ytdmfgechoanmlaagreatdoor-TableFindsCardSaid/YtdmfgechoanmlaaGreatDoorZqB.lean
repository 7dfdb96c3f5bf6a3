/- Firings of no rules: the iterators of fire.turns and of fire.Fired hand nothing on. -/
import Derived.Test.YtdmfgechoanmlaaGreatDoorZqA
namespace Go.Proofs.YtdmfgechoanmlaaGreatDoor
open Go Go.RowKit Go.Sort Go.Shelf
attribute [local go_sem] Oper.semAt_some
attribute [local go_sem] fvV

/-- What turns' iterator reads. -/
structure TnB (B : Nat) (c0 : Nat) (off lo hi : Int) (W : World) : Prop where
  b0 : W.heap[B]? = some (.cells #[.slice none 0 c0] 80 (0, 0))
  b1 : W.heap[B + 1]? = some (.cells #[.int .i64 off] 3 (0, 0))
  b2 : W.heap[B + 2]? = some (.cells #[.int .i64 lo] 3 (0, 0))
  b3 : W.heap[B + 3]? = some (.cells #[.int .i64 hi] 3 (0, 0))
  ah : AhAt W
theorem TnB.next {B c0 : Nat} {off lo hi : Int} {W W' : World} (h : TnB B c0 off lo hi W) (k : Below W.heap.size W W') : TnB B c0 off lo hi W' :=
  ⟨(k.block _ (Array.getElem?_eq_some_iff.1 h.b0).1).trans h.b0, (k.block _ (Array.getElem?_eq_some_iff.1 h.b1).1).trans h.b1, (k.block _ (Array.getElem?_eq_some_iff.1 h.b2).1).trans h.b2, (k.block _ (Array.getElem?_eq_some_iff.1 h.b3).1).trans h.b3, h.ah.next k⟩
theorem four_blocks {W3 w4 : World} {v0 v1 v2 : Value} {t0 t1 t2 : TypeId} (hw4 : (((W3.alloc (.cells #[v0] t0)).alloc (.cells #[v1] t1)).alloc (.cells #[v2] t2)) = w4) :
    Below W3.heap.size W3 w4 ∧ w4.heap.size = W3.heap.size + 3 ∧ w4.heap[W3.heap.size]? = some (.cells #[v0] t0 (0, 0)) ∧ w4.heap[W3.heap.size + 1]? = some (.cells #[v1] t1 (0, 0)) ∧ w4.heap[W3.heap.size + 2]? = some (.cells #[v2] t2 (0, 0)) := by
  refine ⟨by rw [← hw4]; exact ((((Below.refl _ W3).alloc (Nat.le_refl _) _).alloc (by simp) _).alloc (by simp; omega) _), by rw [← hw4]; simp, ?_, ?_, ?_⟩
  · rw [← hw4, Below.heap_alloc _ _ _ (by simp; omega), Below.heap_alloc _ _ _ (by simp)]; exact World.alloc_heap_new W3 _
  · rw [← hw4, Below.heap_alloc _ _ _ (by simp)]
    have := World.alloc_heap_new (W3.alloc (.cells #[v0] t0)) (.cells #[v1] t1)
    rwa [World.size_alloc] at this
  · rw [← hw4]
    have := World.alloc_heap_new ((W3.alloc (.cells #[v0] t0)).alloc (.cells #[v1] t1)) (.cells #[v2] t2)
    rwa [World.size_alloc, World.size_alloc] at this
set_option maxRecDepth 20000 in
set_option maxHeartbeats 1000000 in
theorem turns_none (N : Nat) (hN : 3 ≤ N) (B c0 : Nat) (off lo hi : Int) (hlo : FarS lo) (hhi : FarS hi) (h98 : ySec lo + 1 ≤ 99000) :
    NoIt N 123 #[.pointer (some ⟨B, 0, none⟩), .pointer (some ⟨B + 2, 0, none⟩), .pointer (some ⟨B + 3, 0, none⟩), .pointer (some ⟨B + 1, 0, none⟩)] (TnB B c0 off lo hi) := by
  intro l W hW
  have h1 : 1 ≤ N := by omega
  have AHD := Lib.hid (fun X (h1 : LaidF X) => fahead_is none 0 c0 [] lo X h1 (rows_none none X) rfl (by omega) (by simp) hlo.q h98 hlo.y1)
  have BTW := Lib.hid (fun X => between_is none 0 c0 lo hi X)
  have kY : Below W.heap.size W (W.alloc (.cells #[.func (.yield l) #[] #[]] 197)) := (Below.refl _ W).alloc (Nat.le_refl _) _
  have HB1 := Lib.hid (hW.next kY)
  have K1 := Lib.hid kY
  have c0' := cel1 HB1.out.b0
  have c2' := cel1 HB1.out.b2
  have c3' := cel1 HB1.out.b3
  clear hW kY
  refine callsIn_of_wp_marks Tryz.func123 rfl trivial ?_ rfl
  simp only [Tryz.ntmps123, List.size_toArray, List.length_cons, List.length_nil, Nat.reduceAdd, Nat.reduceSub, Array.replicate_succ, Array.replicate_zero, List.push_toArray, List.append_toArray, List.nil_append, List.cons_append]
  gi_wp2_with (first
    | (refine ⟨trivial, ?_⟩; gi_at_call 94; refine (callsIn_wide.2 (AHD.out _ ⟨HB1.out.ah⟩)).mono ?_; rintro e w2 ⟨f, b, rfl, -, k2⟩
       have k3 := k2.trans (((Below.refl w2.heap.size w2).alloc (Nat.le_refl _) (.cells #[.int .i64 f.nm, .int .i64 f.kd, .int .i64 f.sv, .string ⟨f.lt.toArray⟩] 145)).mono k2.size)
       have HB3 := Lib.hid (HB1.out.next k3)
       have K3 := Lib.hid (bthen K1.out k3)
       clear k2 k3 c0' c2' c3'
       have c0' := cel1 HB3.out.b0
       have c2' := cel1 HB3.out.b2
       have c3' := cel1 HB3.out.b3
       simp only [fvV])
    | (refine ⟨trivial, ?_⟩; gi_at_call 124; refine (callsIn_wide.2 (BTW.out _)).mono ?_; rintro e w4 ⟨rfl, rfl⟩
       simp only []))
  obtain ⟨W3, hW3⟩ : ∃ W3, (w2.alloc (.cells #[.int .i64 f.nm, .int .i64 f.kd, .int .i64 f.sv, .string ⟨f.lt.toArray⟩] 145)) = W3 := ⟨_, rfl⟩
  have sz3 : W3.heap.size = w2.heap.size + 1 := by rw [← hW3]; simp
  obtain ⟨w4, hw4⟩ : ∃ w4, (((W3.alloc (.cells #[.slice none 0 c0] 80)).alloc (.cells #[.int .i64 lo] 3)).alloc (.cells #[.int .i64 hi] 3)) = w4 := ⟨_, rfl⟩
  simp only [hW3, hw4]
  obtain ⟨k4, s4, b40, b41, b42⟩ := four_blocks hw4
  obtain ⟨m2, hm2⟩ : ∃ m, W3.heap.size = m := ⟨_, rfl⟩
  rw [hm2] at s4 b40 b41 b42
  rw [hW3] at HB3 K3
  have BB : BnB m2 c0 lo hi w4 := ⟨b40, b41, b42, HB3.out.ah.next k4⟩
  have KW := Lib.hid (bthen K3.out k4)
  have SEQ := (betw_none (N - 1) (by omega) m2 c0 lo hi hlo hhi).seq (fun X Y h k => h.next k) (fun _ => false) encG 0 (fun _ _ => True) w4 BB
  clear hw4 b40 b41 b42 BB c0' c2' c3' HB1 HB3 K1 K3 k4
  refine range_ks h1 (gf := 142) (lb := #[.pointer (some ⟨m2, 0, none⟩), .pointer (some ⟨m2 + 1, 0, none⟩), .pointer (some ⟨m2 + 2, 0, none⟩)]) (by simp only [← hm2, sz3]; rfl) (enters_of Tryz.func142 (by kernel_rfl) rfl)
    SEQ (Nat.zero_le _) (fun _ => rfl) (fun _ _ => trivial) (fun _ _ _ _ _ => trivial) (fun _ X => Below W.heap.size W X) (fun _ _ _ => False) (ownS_below (Nat.le_refl _) KW.out.size) (fun _ _ _ _ _ h => h.elim) KW.out (fun _ _ _ _ _ h => h.elim) ?done (fun _ _ _ _ _ h => h.elim)
  case done =>
    rintro D xs X hD - hI hdf
    have hsz := KW.out.size
    have JF := Lib.hid (hI.trans ((Below.refl W.heap.size X).grown (grownBy_putObj' X D (.deferred none)) hI.size (fun r e => by injection e with e; subst e; omega)))
    clear hI
    gi_wp2
    refine ⟨by simp, .inl ⟨D, _, rfl, run_takeDeferred hdf, ?_⟩⟩
    exact ⟨_, results_none rfl _ _ _, ⟨_, rfl⟩, JF.out⟩
theorem fbnd_far (t : Int) (w : World) (h1 : -4398046511104 ≤ t) (h2 : t ≤ 4398046511104) : Calls Tryz.prog 97 #[.int .i64 t] w fun e w' => e = .returned (.int .i64 t) ∧ Below w.heap.size w w' := by
  have h1 : max t (-4398046511104) = t := by omega
  have h2 : min t 4398046511104 = t := by omega
  go_enter Tryz.func97, Tryz.ntmps97
  repeat (first | go_values | go_skip | go_guarded | go_step | go_upon | go_back)
  go_ret
  exact ⟨rfl, Below.refl _ w⟩
theorem rclone_nil (n c : Nat) (w : World) : Calls Tryz.prog 87 #[.slice none n c] w fun e w' => e = .returned (.slice none 0 0) ∧ w' = w := by
  have q22 : ∀ (w : World) (a : Option Addr) (n c n' c' : Nat), (binOp .eql 80 (.slice a n c) (.slice none n' c')).run Tryz.prog w = .ok (.bool a.isNone) w := fun w a n c n' c' => Lib.run_eql_slice_nil w _ _ a n c n' c' Tryz.underlying80
  go_enter Tryz.func87, Tryz.ntmps87
  go_wp2
  go_ret
  exact ⟨rfl, rfl⟩
/-- What Fired's iterator reads. -/
structure FnB (B : Nat) (c0 : Nat) (off lo hi : Int) (W : World) : Prop where
  b0 : W.heap[B]? = some (.cells #[.int .i64 off] 3 (0, 0))
  b1 : W.heap[B + 1]? = some (.cells #[.int .i64 lo] 3 (0, 0))
  b2 : W.heap[B + 2]? = some (.cells #[.int .i64 hi] 3 (0, 0))
  b3 : W.heap[B + 3]? = some (.cells #[.slice none 0 c0] 80 (0, 0))
  ah : AhAt W
theorem FnB.next {B c0 : Nat} {off lo hi : Int} {W W' : World} (h : FnB B c0 off lo hi W) (k : Below W.heap.size W W') : FnB B c0 off lo hi W' :=
  ⟨(k.block _ (Array.getElem?_eq_some_iff.1 h.b0).1).trans h.b0, (k.block _ (Array.getElem?_eq_some_iff.1 h.b1).1).trans h.b1, (k.block _ (Array.getElem?_eq_some_iff.1 h.b2).1).trans h.b2, (k.block _ (Array.getElem?_eq_some_iff.1 h.b3).1).trans h.b3, h.ah.next k⟩
set_option maxRecDepth 20000 in
theorem fired_none (off lo hi : Int) (n c : Nat) (w : World) (hA : AhAt w) :
    Calls Tryz.prog 107 #[.slice none n c, .int .i64 off, .int .i64 lo, .int .i64 hi] w fun e w' => ∃ B, e = .returned (.func (.func 128) #[] #[.pointer (some ⟨B + 3, 0, none⟩), .pointer (some ⟨B, 0, none⟩), .pointer (some ⟨B + 1, 0, none⟩), .pointer (some ⟨B + 2, 0, none⟩)]) ∧ FnB B 0 off lo hi w' ∧ Below w.heap.size w w' := by
  have hmf : ∀ (fn : Fn) (first cap : Array Value) (w : World), (Instr.makeFunc fn first cap).run Tryz.prog w = .ok (.func fn first cap) w := fun _ _ _ _ => rfl
  have HA := Lib.hid hA
  have CL := Lib.hid (fun W => rclone_nil n c W)
  clear hA
  go_enter Tryz.func107, Tryz.ntmps107
  repeat (first
    | (go_at_call 87; refine (CL.out _).mono ?_; rintro e w1 ⟨rfl, rfl⟩; simp only [])
    | go_values | go_skip | go_guarded | go_step | go_upon | go_back)
  go_ret
  obtain ⟨w4, hw4⟩ : ∃ w4, ((((w.alloc (.cells #[.int .i64 off] 3)).alloc (.cells #[.int .i64 lo] 3)).alloc (.cells #[.int .i64 hi] 3)).alloc (.cells #[.slice none 0 0] 80)) = w4 := ⟨_, rfl⟩
  obtain ⟨k3, s3, b0, b1, b2⟩ := four_blocks (W3 := w) (w4 := (((w.alloc (.cells #[.int .i64 off] 3)).alloc (.cells #[.int .i64 lo] 3)).alloc (.cells #[.int .i64 hi] 3))) rfl
  have k4 := bmk k3 (.cells #[.slice none 0 0] 80)
  have b3 := heap_alloc_new (((w.alloc (.cells #[.int .i64 off] 3)).alloc (.cells #[.int .i64 lo] 3)).alloc (.cells #[.int .i64 hi] 3)) (.cells #[.slice none 0 0] 80)
  rw [s3] at b3
  refine ⟨w.heap.size, rfl, ⟨(Below.heap_alloc _ _ _ (by omega)).trans b0, (Below.heap_alloc _ _ _ (by omega)).trans b1, (Below.heap_alloc _ _ _ (by omega)).trans b2, b3, HA.out.next k4⟩, k4⟩
set_option maxRecDepth 20000 in
set_option maxHeartbeats 1000000 in
theorem firedit_none (N : Nat) (hN : 4 ≤ N) (B c0 : Nat) (off lo hi : Int) (h1 : -2199023255553 ≤ lo) (h2 : lo ≤ 2199023255552) (h3 : -2199023255553 ≤ hi) (h4 : hi ≤ 2199023255552) :
    NoIt N 128 #[.pointer (some ⟨B + 3, 0, none⟩), .pointer (some ⟨B, 0, none⟩), .pointer (some ⟨B + 1, 0, none⟩), .pointer (some ⟨B + 2, 0, none⟩)] (FnB B c0 off lo hi) := by
  intro l W hW
  have hN1 : 1 ≤ N := by omega
  have BL := Lib.hid (fun X => fbnd_far lo X (by omega) (by omega))
  have BH := Lib.hid (fun X => fbnd_far hi X (by omega) (by omega))
  have TI := Lib.hid (fun X => turns_is none 0 c0 off (lo - 180000 + 1) (hi + 180000 - 1) X)
  have f1 : FarS (lo - 180000 + 1) := FarS.of (by omega) (by omega)
  have f2 : FarS (hi + 180000 - 1) := FarS.of (by omega) (by omega)
  have hy : ySec (lo - 180000 + 1) + 1 ≤ 99000 := by
    have h := ySec_spec (lo - 180000 + 1)
    rcases Int.lt_or_le 98999 (ySec (lo - 180000 + 1)) with h3 | h3
    · have := ny_mono 99000 (ySec (lo - 180000 + 1)) (by omega)
      have e : ny 99000 > 30000000 := by unfold ny; omega
      omega
    · omega
  have wr1 : IntKind.i64.wrap (lo - 180000) = lo - 180000 := IntWalk.i64_in _ (by omega)
  have wr2 : IntKind.i64.wrap (lo - 180000 + 1) = lo - 180000 + 1 := IntWalk.i64_in _ (by omega)
  have wr3 : IntKind.i64.wrap (hi + 180000) = hi + 180000 := IntWalk.i64_in _ (by omega)
  have wr4 : IntKind.i64.wrap (hi + 180000 - 1) = hi + 180000 - 1 := IntWalk.i64_in _ (by omega)
  have kY : Below W.heap.size W (W.alloc (.cells #[.func (.yield l) #[] #[]] 197)) := (Below.refl _ W).alloc (Nat.le_refl _) _
  have HB1 := Lib.hid (hW.next kY)
  have K1 := Lib.hid kY
  have mixed : Tryz.prog.follows .mixedOrders = true := by kernel_rfl
  have d0 := bel_cell (cel1 HB1.out.b0)
  have d1 := bel_cell (cel1 HB1.out.b1)
  have d2 := bel_cell (cel1 HB1.out.b2)
  have d3 := bel_cell (cel1 HB1.out.b3)
  clear hW kY h1 h2 h3 h4
  refine callsIn_of_wp_marks Tryz.func128 rfl trivial ?_ rfl
  simp only [Tryz.ntmps128, List.size_toArray, List.length_cons, List.length_nil, Nat.reduceAdd, Nat.reduceSub, Array.replicate_succ, Array.replicate_zero, List.push_toArray, List.append_toArray, List.nil_append, List.cons_append]
  gi_wp2
  refine wpIn_calm ?_
  refine wpIn_wide.2 ?_
  refine region_tail 10 mixed (by kernel_rfl) ?_
  simp only [List.take_succ_cons, List.take_zero, List.drop_succ_cons, List.drop_zero]
  repeat (quiet_step ((first
    | (go_at_call 97; rename_i y; with_reducible refine (BL.out _).mono ?_; rintro r w6 ⟨rfl, k6⟩; exact ⟨rfl, ⟨w6, y.k.trans (k6.mono y.k.size)⟩, rfl⟩)
    | (go_at_call 97; rename_i y; with_reducible refine (BH.out _).mono ?_; rintro r w6 ⟨rfl, k6⟩; exact ⟨rfl, ⟨w6, y.k.trans (k6.mono y.k.size)⟩, rfl⟩))))
  refine wpQuiet_nil ?_
  rintro w6 ⟨x6, hx6⟩
  have k6 := hx6 ▸ x6.k
  have HB6 := Lib.hid (HB1.out.next k6)
  have K6 := Lib.hid (bthen K1.out k6)
  clear hx6 x6 k6 d0 d1 d2 d3
  repeat (first
    | (go_at_call 98; refine (TI.out _).mono ?_; rintro r w8 ⟨rfl, hw8⟩; simp only [])
    | go_values | go_skip | go_guarded | go_step | go_upon | go_back)
  simp only [calmQ]
  obtain ⟨k3, s3, b0, b1, b2⟩ := four_blocks (W3 := w6) (v0 := .slice none 0 c0) (v1 := .int .i64 off) (v2 := .int .i64 (lo - 180000 + 1)) (t0 := 80) (t1 := 3) (t2 := 3) rfl
  have b3 := heap_alloc_new (((w6.alloc (.cells #[.slice none 0 c0] 80)).alloc (.cells #[.int .i64 off] 3)).alloc (.cells #[.int .i64 (lo - 180000 + 1)] 3)) (.cells #[.int .i64 (hi + 180000 - 1)] 3)
  have k4 := bmk k3 (.cells #[.int .i64 (hi + 180000 - 1)] 3)
  rw [s3] at b3
  have e0 := (Below.heap_alloc _ (.cells #[.int .i64 (hi + 180000 - 1)] 3) _ (by omega)).trans b0
  have e1 := (Below.heap_alloc _ (.cells #[.int .i64 (hi + 180000 - 1)] 3) _ (by omega)).trans b1
  have e2 := (Below.heap_alloc _ (.cells #[.int .i64 (hi + 180000 - 1)] 3) _ (by omega)).trans b2
  rw [← hw8] at k4 b3 e0 e1 e2
  obtain ⟨m2, hm2⟩ : ∃ m, w6.heap.size = m := ⟨_, rfl⟩
  rw [hm2] at b3 e0 e1 e2
  simp only [hm2]
  have TB : TnB m2 c0 off (lo - 180000 + 1) (hi + 180000 - 1) w8 := ⟨e0, e1, e2, b3, HB6.out.ah.next k4⟩
  have KW := Lib.hid (bthen K6.out k4)
  have SEQ := (turns_none (N - 1) (by omega) m2 c0 off _ _ f1 f2 hy).seq (fun X Y h k => h.next k) (fun _ => false) encT 0 (fun _ _ => True) w8 TB
  clear hw8 b0 b1 b2 b3 e0 e1 e2 TB k3 k4 s3 HB1 K1 HB6 K6 BL BH TI
  gi_wp2
  refine range_ks hN1 (gf := 123) (lb := #[.pointer (some ⟨m2, 0, none⟩), .pointer (some ⟨m2 + 2, 0, none⟩), .pointer (some ⟨m2 + 3, 0, none⟩), .pointer (some ⟨m2 + 1, 0, none⟩)]) rfl (enters_of Tryz.func123 (by kernel_rfl) rfl)
    SEQ (Nat.zero_le _) (fun _ => rfl) (fun _ _ => trivial) (fun _ _ _ _ _ => trivial) (fun _ X => Below W.heap.size W X) (fun _ _ _ => False) (ownS_below (Nat.le_refl _) KW.out.size) (fun _ _ _ _ _ h => h.elim) KW.out (fun _ _ _ _ _ h => h.elim) ?done (fun _ _ _ _ _ h => h.elim)
  case done =>
    rintro D xs X hD - hI hdf
    have hsz := KW.out.size
    have JF := Lib.hid (hI.trans ((Below.refl W.heap.size X).grown (grownBy_putObj' X D (.deferred none)) hI.size (fun r e => by injection e with e; subst e; omega)))
    clear hI
    gi_wp2
    refine ⟨by simp, .inl ⟨D, _, rfl, run_takeDeferred hdf, ?_⟩⟩
    exact ⟨_, results_none rfl _ _ _, ⟨_, rfl⟩, JF.out⟩
end Go.Proofs.YtdmfgechoanmlaaGreatDoor
