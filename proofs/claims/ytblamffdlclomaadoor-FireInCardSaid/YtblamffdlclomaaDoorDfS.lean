/- The contracts of dayform.dates and search: the first date, from one on, each one a step further, that a day of a month is, or that none has a year; nothing that was in memory changes. -/
import Derived.Test.YtblamffdlclomaaDoorDfG
import Derived.Shelf.Abstract
namespace Go.Proofs.YtblamffdlclomaaDoor
open Go.RowKit Go.Shelf
attribute [local go_sem] Oper.semAt_some

theorem fscope_in {c : Code} {n : Nat} {Q : Exit → Act → World → Prop} {a : Act} {w : World} (h : c.wpIn Fence.wide n Tryd.prog (Exit.noGoto Q) a w) : (Code.scope c).wpIn Fence.wide n Tryd.prog Q a w := wpIn_wide.2 (wp_scope_straight (wpIn_wide.1 h))
/-- The function that dates answers: it knows the first date, and the step. -/
def MadeD (y m d st : Int) (w : World) (e : Ending) (w' : World) : Prop := ∃ Bf Bs : Nat, e = .returned (.func (.func 48) #[] #[.pointer (some ⟨Bf, 0, none⟩), .pointer (some ⟨Bs, 0, none⟩)]) ∧
  (w'.cell? ⟨Bf, 0, none⟩ = some (.int .i64 y) ∧ w'.cell? ⟨Bf, 1, none⟩ = some (.int .i64 m) ∧ w'.cell? ⟨Bf, 2, none⟩ = some (.int .i64 d) ∧ w'.cell? ⟨Bs, 0, none⟩ = some (.int .i64 st)) ∧ Below w.heap.size w w'
theorem ddates_is (y m d st : Int) (w : World) : Calls Tryd.prog 42 #[.agg #[.int .i64 y, .int .i64 m, .int .i64 d], .int .i64 st] w (MadeD y m d st w) := by
  have hmf : ∀ (fn : Fn) (first cap : Array Value) (w : World), (Instr.makeFunc fn first cap).run Tryd.prog w = .ok (.func fn first cap) w := fun _ _ _ _ => rfl
  go_enter Tryd.func42, Tryd.ntmps42
  go_wp2
  go_ret
  exact ⟨w.heap.size, w.heap.size + 1, rfl, ⟨by simp, by simp, by simp, by simp⟩, ((Below.refl _ _).alloc (Nat.le_refl _) _).alloc (by simp) _⟩

/-- The date that is meant, or that it has no year. -/
def SomeHit (h : Int) (w : World) (e : Ending) (w' : World) : Prop := Below w.heap.size w w' ∧
  ((∃ y m d : Int, okD y m d ∧ dayN y m d = h ∧ e = .returned (.tuple #[.agg #[.int .i64 y, .int .i64 m, .int .i64 d], .int .i64 0])) ∨ (¬ inR h ∧ e = .returned (.tuple #[.agg #[.int .i64 0, .int .i64 0, .int .i64 0], .int .i64 10])))

/-- What search's variables hold: the day, where the date is laid, what is found, and the error. -/
structure SrchV (w : World) (S R F E : Nat) (k wk n y m d e0 : Int) (W : World) : Prop where
  bel : Below w.heap.size w W
  dy : W.heap[S]? = some (.cells #[.int .i64 k, .int .i64 wk, .int .i64 n] 40 (0, 0))
  rs : W.heap[R]? = some (.cells #[.int .i64 0, .int .i64 0, .int .i64 0] 55 (0, 0))
  fd : W.heap[F]? = some (.cells #[.int .i64 y, .int .i64 m, .int .i64 d] 55 (0, 0))
  er : W.heap[E]? = some (.cells #[.int .i64 e0] 26 (0, 0))
theorem SrchV.next {w : World} {S R F E : Nat} {k wk n y m d e0 : Int} {W X : World} {B : Nat} (h : SrchV w S R F E k wk n y m d e0 W) (k' : Below B W X) (h0 : w.heap.size ≤ B) (h1 : S < B) (h2 : R < B) (h3 : F < B) (h4 : E < B) : SrchV w S R F E k wk n y m d e0 X :=
  ⟨h.bel.trans (k'.mono h0), (k'.block _ h1).trans h.dy, (k'.block _ h2).trans h.rs, (k'.block _ h3).trans h.fd, (k'.block _ h4).trans h.er⟩

theorem alloc_kept {W : World} {j : Nat} {x : Obj} (h : W.heap[j]? = some x) (o : Obj) : (W.alloc o).heap[j]? = some x := (Below.heap_alloc W o j (Array.getElem?_eq_some_iff.1 h).1).trans h

theorem SrchV.found {w : World} {S R F E : Nat} {k wk n y m d e0 : Int} {W : World} (h : SrchV w S R F E k wk n y m d e0 W) (hF : w.heap.size ≤ F) (hE : w.heap.size ≤ E) (n1 : S ≠ F) (n2 : S ≠ E) (n3 : R ≠ F) (n4 : R ≠ E) (n5 : F ≠ E) (x1 x2 x3 x4 : Int) :
    SrchV w S R F E k wk n x1 x2 x3 x4 ((((W.setCell ⟨F, 0, none⟩ (.int .i64 x1)).setCell ⟨F, 1, none⟩ (.int .i64 x2)).setCell ⟨F, 2, none⟩ (.int .i64 x3)).setCell ⟨E, 0, none⟩ (.int .i64 x4)) := by
  have o3 : ∀ j, j ≠ F → (((W.setCell ⟨F, 0, none⟩ (.int .i64 x1)).setCell ⟨F, 1, none⟩ (.int .i64 x2)).setCell ⟨F, 2, none⟩ (.int .i64 x3)).heap[j]? = W.heap[j]? := fun j hj =>
    ((Below.heap_setCell _ _ _ j (by show j ≠ F; exact hj)).trans (Below.heap_setCell _ _ _ j (by show j ≠ F; exact hj))).trans (Below.heap_setCell _ _ _ j (by show j ≠ F; exact hj))
  have o4 : ∀ (X : World) (j : Nat), j ≠ E → (X.setCell ⟨E, 0, none⟩ (.int .i64 x4)).heap[j]? = X.heap[j]? := fun X j hj => Below.heap_setCell _ _ _ j (by show j ≠ E; exact hj)
  exact ⟨(h.bel.trans (below_three hF _ _ _)).setCell (p := ⟨E, 0, none⟩) hE _, ((o4 _ _ n2).trans (o3 _ n1)).trans h.dy, ((o4 _ _ n4).trans (o3 _ n3)).trans h.rs, (o4 _ _ n5).trans (set_three h.fd), by simpa using tset (i := 0) ((o3 _ (Ne.symm n5)).trans h.er) (.int .i64 x4)⟩

/-- Behind the loop: what is handed back lies where it was stored, and the block for deferred calls is shut. -/
theorem fin_row {W X : World} {R D : Nat} {a b c x y z : Int} {t : TypeId} {o : Obj} (hr : W.heap[R]? = some (.cells #[.int .i64 a, .int .i64 b, .int .i64 c] t (0, 0))) (hd : W.heap[D]? = some o) (ho : o.isCells = false)
    (hX : ((W.setCell ⟨R, 0, none⟩ (.int .i64 x)).setCell ⟨R, 1, none⟩ (.int .i64 y)).setCell ⟨R, 2, none⟩ (.int .i64 z) = X) :
    X.drew.heap[D]? = some o ∧ (∀ o' : Obj, (X.drew.putObj D o').heap[R]? = some (.cells #[.int .i64 x, .int .i64 y, .int .i64 z] t (0, 0))) ∧ ∀ (B : Nat) (o' : Obj), B ≤ R → B ≤ D → Below B W (X.drew.putObj D o') := by
  have hne : D ≠ R := fun e => by
    subst e
    rw [hr] at hd
    cases hd
    cases ho
  have o3 : X.heap[D]? = W.heap[D]? := by
    rw [← hX]
    exact ((Below.heap_setCell _ _ _ D (by show D ≠ R; exact hne)).trans (Below.heap_setCell _ _ _ D (by show D ≠ R; exact hne))).trans (Below.heap_setCell _ _ _ D (by show D ≠ R; exact hne))
  have s3 : X.heap[R]? = some (.cells #[.int .i64 x, .int .i64 y, .int .i64 z] t (0, 0)) := by rw [← hX]; exact set_three hr
  have kb : ∀ B, B ≤ R → Below B W X := fun B hB => by rw [← hX]; exact below_three hB x y z
  have hl := (Array.getElem?_eq_some_iff.1 hd).1
  clear hX
  have e : X.drew.heap = X.heap := rfl
  refine ⟨by rw [e]; exact o3.trans hd, fun o' => (World.putObj_heap_other (Ne.symm hne)).trans (by rw [e]; exact s3), fun B o' h1 h2 => ?_⟩
  have k := kb B h1
  have ks := k.size
  exact (k.drew).grown (grownBy_putObj' X.drew D o') (by rw [e]; omega) (fun k e => by cases e; omega)

theorem hit_row {k wk a st : Int} {xs : List Dx} (hk : k ≠ 0) (h0 : 0 ≤ wk) (h6 : wk ≤ 6) (hs : st = if k = 2 then 1 else -1) (hr : RowD a st xs) (hu : ∀ z ∈ xs, wkD (dD z) ≠ wk) : ∀ j : Nat, j ≤ xs.length → hitD k wk (a + st * (j : Int)) = hitD k wk a
  | 0, _ => by simp
  | j + 1, hj => by
    obtain ⟨z, hz⟩ : ∃ z, xs[j]? = some z := ⟨_, List.getElem?_eq_getElem (by omega)⟩
    have hd := hr j z hz
    have hn := hit_next (a := a + st * (j : Int)) (wk := wk) hk h0 h6 hs (by rw [← hd]; exact hu z (List.mem_of_getElem? hz))
    rw [step_sum] at hn
    rw [hn, hit_row hk h0 h6 hs hr hu j (by omega)]
/-- The loop's end: none has a year. -/
theorem hit_done {k wk a st : Int} {xs : List Dx} (hk : k ≠ 0) (h0 : 0 ≤ wk) (h6 : wk ≤ 6) (hs : st = if k = 2 then 1 else -1) (ha : inR a) (hr : RowD a st xs) (hu : ∀ z ∈ xs, wkD (dD z) ≠ wk) (ho : ¬ inR (a + st * (xs.length : Int))) : ¬ inR (hitD k wk a) := by
  rw [← hit_row hk h0 h6 hs hr hu xs.length (Nat.le_refl _)]
  unfold hitD
  rw [if_neg hk]
  unfold inR at ho ha ⊢
  by_cases h2 : k = 2
  · rw [if_pos h2] at hs
    subst hs
    have := up_spec (a + 1 * (xs.length : Int)) wk h0 h6
    rw [if_pos h2]
    omega
  · rw [if_neg h2] at hs
    subst hs
    have := dn_spec (a + -1 * (xs.length : Int)) wk h0 h6
    rw [if_neg h2]
    omega
/-- A round that leaves: its date is the one. -/
theorem hit_stop {k wk a st : Int} {q : List Dx} {z : Dx} (h0 : 0 ≤ wk) (h6 : wk ≤ 6) (hs : k ≠ 0 → st = if k = 2 then 1 else -1) (hr : RowD a st (q ++ [z])) (hu : ∀ u ∈ q, k ≠ 0 ∧ wkD (dD u) ≠ wk) (hz : k = 0 ∨ wkD (dD z) = wk) : dD z = hitD k wk a := by
  have hd := hr q.length z (by simp)
  by_cases hk : k = 0
  · subst hk
    cases q with
    | nil => rw [hd]; simp [hitD]
    | cons u r => exact absurd rfl (hu u (by simp)).1
  · have hz' := hz.resolve_left hk
    have hr' : RowD a st q := fun i u hi => hr i u (by rw [List.getElem?_append_left (List.getElem?_eq_some_iff.1 hi).1]; exact hi)
    have := hit_row hk h0 h6 (hs hk) hr' (fun u hu' => (hu u hu').2) q.length (Nat.le_refl _)
    rw [← this, ← hd]
    exact (hit_same hz').symm

/-- What is known between two rounds of search. -/
def SrI (w : World) (S R F E : Nat) (k wk n : Int) (pre : List Dx) (W : World) : Prop := (∀ z ∈ pre, k ≠ 0 ∧ wkD (dD z) ≠ wk) ∧ SrchV w S R F E k wk n 0 0 0 10 W
/-- What is known where a round has left the loop. -/
def SrX (w : World) (S R F E : Nat) (k wk n : Int) (id : Nat) (c : Code) (pre : List Dx) (W : World) : Prop := c = .exit id ∧ ∃ (q : List Dx) (z : Dx), pre = q ++ [z] ∧ (∀ u ∈ q, k ≠ 0 ∧ wkD (dD u) ≠ wk) ∧ (k = 0 ∨ wkD (dD z) = wk) ∧ SrchV w S R F E k wk n z.1.1 z.1.2.1 z.1.2.2 0 W

set_option maxHeartbeats 4000000 in
theorem dsearch_in (k wk n y m d st : Int) (w : World) (hk : k = 0 ∨ k = 1 ∨ k = 2 ∨ k = 3) (h0 : 0 ≤ wk) (h6 : wk ≤ 6) (hs0 : st = 1 ∨ st = -1) (hst : k ≠ 0 → st = if k = 2 then 1 else -1) (hok : okD y m d) (hA : AhAt w) (N : Nat) (hN : N = 5) :
    CallsIn Fence.wide N Tryd.prog 31 #[.agg #[.int .i64 k, .int .i64 wk, .int .i64 n], .agg #[.int .i64 y, .int .i64 m, .int .i64 d], .int .i64 st] w (SomeHit (hitD k wk (dayN y m d)) w) := by
  have h1 : 1 ≤ N := by omega
  have HA := Lib.hid hA
  have HO := Lib.hid hok
  have HS := Lib.hid hst
  clear hA hok hst
  refine callsIn_of_wp_marks Tryd.func31 rfl trivial ?_ rfl
  simp only [Tryd.ntmps31, List.size_toArray, List.length_cons, List.length_nil, Nat.reduceAdd, Nat.reduceSub, Array.replicate_succ, Array.replicate_zero, List.push_toArray, List.append_toArray, List.nil_append, List.cons_append]
  gi_wp2
  refine fscope_in ?_
  gi_wp2
  refine wpIn_label ?_
  obtain ⟨W0, hW0⟩ : ∃ W0, ((((w.alloc (.cells #[.int .i64 k, .int .i64 wk, .int .i64 n] 40)).alloc (.cells #[.int .i64 y, .int .i64 m, .int .i64 d] 55)).alloc (.cells #[.int .i64 0, .int .i64 0, .int .i64 0] 55)).alloc (.cells #[.int .i64 0, .int .i64 0, .int .i64 0] 55)).alloc (.cells #[.int .i64 10] 26) = W0 := ⟨_, rfl⟩
  have hsz : W0.heap.size = w.heap.size + 1 + 1 + 1 + 1 + 1 := by rw [← hW0]; simp
  have b0 := alloc_kept (alloc_kept (alloc_kept (alloc_kept (heap_alloc_new w (.cells #[.int .i64 k, .int .i64 wk, .int .i64 n] 40)) (.cells #[.int .i64 y, .int .i64 m, .int .i64 d] 55)) (.cells #[.int .i64 0, .int .i64 0, .int .i64 0] 55)) (.cells #[.int .i64 0, .int .i64 0, .int .i64 0] 55)) (.cells #[.int .i64 10] 26)
  have b1 := alloc_kept (alloc_kept (alloc_kept (heap_alloc_new (w.alloc (.cells #[.int .i64 k, .int .i64 wk, .int .i64 n] 40)) (.cells #[.int .i64 y, .int .i64 m, .int .i64 d] 55)) (.cells #[.int .i64 0, .int .i64 0, .int .i64 0] 55)) (.cells #[.int .i64 0, .int .i64 0, .int .i64 0] 55)) (.cells #[.int .i64 10] 26)
  have b2 := alloc_kept (alloc_kept (heap_alloc_new ((w.alloc (.cells #[.int .i64 k, .int .i64 wk, .int .i64 n] 40)).alloc (.cells #[.int .i64 y, .int .i64 m, .int .i64 d] 55)) (.cells #[.int .i64 0, .int .i64 0, .int .i64 0] 55)) (.cells #[.int .i64 0, .int .i64 0, .int .i64 0] 55)) (.cells #[.int .i64 10] 26)
  have b3 := alloc_kept (heap_alloc_new (((w.alloc (.cells #[.int .i64 k, .int .i64 wk, .int .i64 n] 40)).alloc (.cells #[.int .i64 y, .int .i64 m, .int .i64 d] 55)).alloc (.cells #[.int .i64 0, .int .i64 0, .int .i64 0] 55)) (.cells #[.int .i64 0, .int .i64 0, .int .i64 0] 55)) (.cells #[.int .i64 10] 26)
  have b4 := heap_alloc_new ((((w.alloc (.cells #[.int .i64 k, .int .i64 wk, .int .i64 n] 40)).alloc (.cells #[.int .i64 y, .int .i64 m, .int .i64 d] 55)).alloc (.cells #[.int .i64 0, .int .i64 0, .int .i64 0] 55)).alloc (.cells #[.int .i64 0, .int .i64 0, .int .i64 0] 55)) (.cells #[.int .i64 10] 26)
  simp only [World.size_alloc, hW0] at b0 b1 b2 b3 b4
  have V0 : SrchV w w.heap.size (w.heap.size + 1 + 1) (w.heap.size + 1 + 1 + 1) (w.heap.size + 1 + 1 + 1 + 1) k wk n 0 0 0 10 W0 :=
    ⟨by rw [← hW0]; exact (((((Below.refl _ w).alloc (Nat.le_refl _) _).alloc (by simp) _).alloc (by simp; omega) _).alloc (by simp; omega) _).alloc (by simp; omega) _, b0, b2, b3, b4⟩
  obtain ⟨hc0, hc1, hc2, _⟩ := three_at b1
  clear b0 b1 b2 b3 b4
  have HV0 := Lib.hid V0
  have HZ := Lib.hid hsz
  try simp only [hW0]
  clear V0 hsz hW0
  gi_wp2_with (first
    | (refine ⟨trivial, ?_⟩; gi_at_call 42; refine (callsIn_wide.2 (ddates_is y m d st _)).mono ?_; rintro e w1 ⟨Bf, Bs, rfl, ⟨f0, f1, f2, f3⟩, k1⟩))
  have hw1 := k1.size
  rw [HZ.out] at hw1
  have HV1 := Lib.hid (HV0.out.next k1 (by rw [HZ.out]; omega) (by rw [HZ.out]; omega) (by rw [HZ.out]; omega) (by rw [HZ.out]; omega) (by rw [HZ.out]; omega))
  have A1 := Lib.hid ((HA.out.next HV0.out.bel).next k1)
  have FF := Lib.hid (And.intro f0 (And.intro f1 (And.intro f2 f3)))
  clear k1 hc0 hc1 hc2 f0 f1 f2 f3
  have under : ∀ (I : List Dx → World → Prop), True := fun _ => trivial
  refine range_own h1 (gf := 48) (lb := #[.pointer (some ⟨Bf, 0, none⟩), .pointer (some ⟨Bs, 0, none⟩)]) rfl (enters_of Tryd.func48 (by kernel_rfl) rfl)
    (dates_own (N - 1) (by omega) Bf Bs y m d st w1 HO.out hs0 A1.out FF.out.1 FF.out.2.1 FF.out.2.2.1 FF.out.2.2.2) (Nat.le_refl _) (fun _ => rfl)
    (SrI w w.heap.size (w.heap.size + 1 + 1) (w.heap.size + 1 + 1 + 1) (w.heap.size + 1 + 1 + 1 + 1) k wk n)
    (SrX w w.heap.size (w.heap.size + 1 + 1) (w.heap.size + 1 + 1 + 1) (w.heap.size + 1 + 1 + 1 + 1) k wk n 0)
    ?hI ?hIx ⟨fun z hz => by simp at hz, HV1.out⟩ ?round ?done ?stop
  case hI =>
    rintro pre X Y ⟨h, hv⟩ kb
    exact ⟨h, hv.next kb (by omega) (by omega) (by omega) (by omega) (by omega)⟩
  case hIx =>
    rintro c pre X Y ⟨hc, q, z, e, hu, hz, hv⟩ kb
    exact ⟨hc, q, z, e, hu, hz, hv.next kb (by omega) (by omega) (by omega) (by omega) (by omega)⟩
  case round =>
    rintro l pre ⟨⟨y1, m1, d1⟩, hx⟩ W ⟨hun, hv⟩ hOk hsW
    have HU := Lib.hid hun
    have HV := Lib.hid hv
    obtain ⟨wv, hwv⟩ : ∃ wv, wkD (dD ⟨(y1, m1, d1), hx⟩) = wv := ⟨_, rfl⟩
    have HW := Lib.hid hwv
    clear hun hv hOk
    simp only [dxV]
    rw [hwv]
    clear hwv
    gi_wp2
    refine ⟨(KeptO.refl _ _).alloc _, (Below.refl _ _).alloc (by omega) _, fun X => SrchV w w.heap.size (w.heap.size + 1 + 1) (w.heap.size + 1 + 1 + 1) (w.heap.size + 1 + 1 + 1 + 1) k wk n 0 0 0 10 X ∧ X.heap[W.heap.size]? = some (.cells #[.int .i64 y1, .int .i64 m1, .int .i64 d1] 55 (0, 0)), ?_, ⟨HV.out.next (Below.refl W.heap.size W |>.alloc (Nat.le_refl _) _) (by omega) (by omega) (by omega) (by omega) (by omega), heap_alloc_new W _⟩, ?_⟩
    · rintro X r ⟨hv, hb⟩
      have hlt := (Array.getElem?_eq_some_iff.1 hb).1
      refine ⟨hv.next (B := w1.heap.size) ((Below.refl _ X).grown (grownBy_putObj' X (w1.heap.size + 1) _) (by omega) (fun j hj => by cases hj; omega)) (by omega) (by omega) (by omega) (by omega) (by omega), (World.putObj_heap_other (by omega)).trans hb⟩
    · rintro W2 ⟨hv, hb⟩
      obtain ⟨p0, p1, p2, _, _, _, pl⟩ := three_at hb
      obtain ⟨q0, q1, q2, _, _, _, ql⟩ := three_at hv.dy
      obtain ⟨r0, r1, r2, s0, s1, s2, rl⟩ := three_at hv.fd
      have t0 : W2.cell? ⟨w.heap.size + 1 + 1 + 1 + 1, 0, none⟩ = some (.int .i64 10) := cell_of_row W2 _ 0 _ _ (0, 0) hv.er
      have u0 : W2.frozen? ⟨w.heap.size + 1 + 1 + 1 + 1, 0, none⟩ = false := by simp [World.frozen?, hv.er]
      have V2 := Lib.hid hv
      clear hv hb
      by_cases hm : k ≠ 0 ∧ wv ≠ wk
      · have hne : (wv == wk) = false := by simpa using hm.2
        have hne2 : (wv != wk) = true := by simpa using hm.2
        have HM := Lib.hid hm
        have hk' : k = 1 ∨ k = 2 ∨ k = 3 := by omega
        clear hm hk
        rcases hk' with rfl | rfl | rfl
        all_goals
          gi_wp2
          exact ⟨KeptO.refl _ _, Below.refl _ _, fun z hz => (List.mem_append.1 hz).elim (fun h => HU.out z h) (fun h => by
            obtain rfl := List.mem_singleton.1 h
            exact ⟨HM.out.1, by rw [HW.out]; exact HM.out.2⟩), V2.out⟩
      · have hm' : k = 0 ∨ wv = wk := by omega
        have HZ' : Hid (k = 0 ∨ wkD (dD ⟨(y1, m1, d1), hx⟩) = wk) := Lib.hid (by rw [HW.out]; exact hm')
        have fin : ∀ W3 : World, W3 = (((W2.setCell ⟨w.heap.size + 1 + 1 + 1, 0, none⟩ (.int .i64 y1)).setCell ⟨w.heap.size + 1 + 1 + 1, 1, none⟩ (.int .i64 m1)).setCell ⟨w.heap.size + 1 + 1 + 1, 2, none⟩ (.int .i64 d1)).setCell ⟨w.heap.size + 1 + 1 + 1 + 1, 0, none⟩ (.int .i64 0) →
            KeptO w1.heap.size W2 W3 ∧ SrX w w.heap.size (w.heap.size + 1 + 1) (w.heap.size + 1 + 1 + 1) (w.heap.size + 1 + 1 + 1 + 1) k wk n 0 (.exit 0) (pre ++ [⟨(y1, m1, d1), hx⟩]) W3 := by
          rintro W3 rfl
          refine ⟨((((KeptO.refl _ _).setCell (.inl (by omega)) _ _).setCell (.inl (by omega)) _ _).setCell (.inl (by omega)) _ _).setCell (.inl (by omega)) _ _, rfl, pre, ⟨(y1, m1, d1), hx⟩, rfl, HU.out, HZ'.out, ?_⟩
          exact V2.out.found (by omega) (by omega) (by omega) (by omega) (by omega) (by omega) (by omega) _ _ _ _
        have FIN := Lib.hid fin
        clear fin hm HZ'
        by_cases hk0 : k = 0
        · subst hk0
          clear hk hm'
          gi_wp2
          exact FIN.out _ rfl
        · obtain rfl : wv = wk := hm'.resolve_left hk0
          have hk' : k = 1 ∨ k = 2 ∨ k = 3 := by omega
          clear hk hm' hk0
          rcases hk' with rfl | rfl | rfl
          all_goals
            gi_wp2
            exact FIN.out _ rfl
  case done =>
    rintro D xs W hD ⟨hrow, hno⟩ ⟨hu, hv⟩ hdf
    have NO : Hid (¬ inR (hitD k wk (dayN y m d))) := Lib.hid (by
      by_cases hk0 : k = 0
      · exfalso
        cases xs with
        | nil => exact hno (by rw [List.length_nil]; show inR (_ + st * 0); rw [Int.mul_zero, Int.add_zero]; exact day_bd HO.out)
        | cons u r => exact (hu u (by simp)).1 hk0
      · exact hit_done hk0 h0 h6 (HS.out hk0) (day_bd HO.out) hrow (fun z hz => (hu z hz).2) hno)
    obtain ⟨p0, p1, p2, _, _, _, pl⟩ := three_at hv.fd
    obtain ⟨r0, r1, r2, s0, s1, s2, rl⟩ := three_at hv.rs
    have t0 : W.cell? ⟨w.heap.size + 1 + 1 + 1 + 1, 0, none⟩ = some (.int .i64 10) := cell_of_row W _ 0 _ _ (0, 0) hv.er
    have HV := Lib.hid hv
    have HDF := Lib.hid hdf
    clear hrow hno hu hv hdf hk
    gi_wp2
    refine wpIn_wide.2 ?_
    go_region
    all_goals gi_wp2
    obtain ⟨X, hX⟩ : ∃ X, ((W.setCell ⟨w.heap.size + 1 + 1, 0, none⟩ (.int .i64 0)).setCell ⟨w.heap.size + 1 + 1, 1, none⟩ (.int .i64 0)).setCell ⟨w.heap.size + 1 + 1, 2, none⟩ (.int .i64 0) = X := ⟨_, rfl⟩
    rw [hX]
    obtain ⟨hd, hr, hbe⟩ := fin_row HV.out.rs HDF.out rfl hX
    clear hX
    obtain ⟨z0, z1, z2, _⟩ := three_at (hr (.deferred none))
    have BE := Lib.hid (hbe w.heap.size (.deferred none) (by omega) (by omega))
    refine ⟨by simp, .inl ⟨_, _, rfl, run_takeDeferred hd, ?_⟩⟩
    exact ⟨.tuple #[.agg #[.int .i64 0, .int .i64 0, .int .i64 0], .int .i64 10], by simp [results, Tryd.results31, go_sem, z0, z1, z2], HV.out.bel.trans BE.out, .inr ⟨NO.out, rfl⟩⟩
  case stop =>
    rintro D c pre W hD hrow ⟨rfl, q, ⟨⟨y1, m1, d1⟩, hx⟩, rfl, hu, hz, hv⟩ hdf
    have hh := hit_stop h0 h6 HS.out hrow hu hz
    change dayN y1 m1 d1 = _ at hh
    have YES := Lib.hid (And.intro hx hh)
    change SrchV w w.heap.size (w.heap.size + 1 + 1) (w.heap.size + 1 + 1 + 1) (w.heap.size + 1 + 1 + 1 + 1) k wk n y1 m1 d1 0 W at hv
    obtain ⟨p0, p1, p2, _, _, _, pl⟩ := three_at hv.fd
    obtain ⟨r0, r1, r2, s0, s1, s2, rl⟩ := three_at hv.rs
    have t0 : W.cell? ⟨w.heap.size + 1 + 1 + 1 + 1, 0, none⟩ = some (.int .i64 0) := cell_of_row W _ 0 _ _ (0, 0) hv.er
    have HV := Lib.hid hv
    have HDF := Lib.hid hdf
    clear hrow hu hv hdf hk hz hx hh
    gi_wp2
    refine wpIn_wide.2 ?_
    go_region
    all_goals gi_wp2
    obtain ⟨X, hX⟩ : ∃ X, ((W.setCell ⟨w.heap.size + 1 + 1, 0, none⟩ (.int .i64 y1)).setCell ⟨w.heap.size + 1 + 1, 1, none⟩ (.int .i64 m1)).setCell ⟨w.heap.size + 1 + 1, 2, none⟩ (.int .i64 d1) = X := ⟨_, rfl⟩
    rw [hX]
    obtain ⟨hd, hr, hbe⟩ := fin_row HV.out.rs HDF.out rfl hX
    clear hX
    obtain ⟨z0, z1, z2, _⟩ := three_at (hr (.deferred none))
    have BE := Lib.hid (hbe w.heap.size (.deferred none) (by omega) (by omega))
    refine ⟨by simp, .inl ⟨_, _, rfl, run_takeDeferred hd, ?_⟩⟩
    exact ⟨.tuple #[.agg #[.int .i64 y1, .int .i64 m1, .int .i64 d1], .int .i64 0], by simp [results, Tryd.results31, go_sem, z0, z1, z2], HV.out.bel.trans BE.out, .inl ⟨y1, m1, d1, YES.out.1, YES.out.2, rfl⟩⟩
/-- search. -/
theorem dsearch_is (k wk n y m d st : Int) (w : World) (hk : k = 0 ∨ k = 1 ∨ k = 2 ∨ k = 3) (h0 : 0 ≤ wk) (h6 : wk ≤ 6) (hs0 : st = 1 ∨ st = -1) (hst : k ≠ 0 → st = if k = 2 then 1 else -1) (hok : okD y m d) (hA : AhAt w) :
    Calls Tryd.prog 31 #[.agg #[.int .i64 k, .int .i64 wk, .int .i64 n], .agg #[.int .i64 y, .int .i64 m, .int .i64 d], .int .i64 st] w (SomeHit (hitD k wk (dayN y m d)) w) :=
  callsIn_wide.1 (dsearch_in k wk n y m d st w hk h0 h6 hs0 hst hok hA 5 rfl)
end Go.Proofs.YtblamffdlclomaaDoor
