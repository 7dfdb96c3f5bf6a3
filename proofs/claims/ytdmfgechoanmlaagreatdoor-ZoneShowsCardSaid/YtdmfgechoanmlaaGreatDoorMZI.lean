/- Seconds of firings: those of a rule rise year by year, and are less than two weeks beyond their years: plain facts; no program is named.
The last firing below a second: what is known while rules are gone through, the last one first: plain facts; no program is named.
The contracts of fire.yearOf of a second of the calendar, and of the closures of Ahead and nearest. -/
import Derived.Test.YtdmfgechoanmlaaGreatDoorMZH
import Derived.Test.YtdmfgechoanmlaaGreatDoorMZF
namespace Go.Proofs.YtdmfgechoanmlaaGreatDoor
open Go Go.RowKit

theorem atD_bd {k wk n y m : Int} (hd : dfD k wk n) (h1 : 1 ≤ m) (h2 : m ≤ 12) (hn : n ≤ dim y m) : ny y ≤ atD k n y m ∧ atD k n y m ≤ ny y + 365 := by
  have c0 := cum_bd y m
  have c1 := cum_bd y (m + 1)
  have c2 := cum_succ y m
  have c3 := dim_bd y m h1 h2
  unfold atD dayN
  unfold dfD at hd
  split <;> omega
theorem hitD_bd {k wk a : Int} : a - 6 ≤ hitD k wk a ∧ hitD k wk a ≤ a + 6 := by
  unfold hitD upD dnD
  split
  · omega
  · split <;> omega
theorem frF_bd {r : RV} {y : Int} (hr : okR r) (hf : frY r y) : (ny y - 13) * 86400 < (frF r y).nm ∧ (frF r y).nm < (ny y + 378) * 86400 := by
  obtain ⟨hd, h1, h2, h3, h4⟩ := hr
  have ha := atD_bd hd h1 h2 hf.2.2
  have hh := hitD_bd (k := r.dk) (wk := r.dw) (a := atD r.dk r.dn y r.mo)
  show (ny y - 13) * 86400 < hitD r.dk r.dw (atD r.dk r.dn y r.mo) * 86400 + r.sc ∧ hitD r.dk r.dw (atD r.dk r.dn y r.mo) * 86400 + r.sc < (ny y + 378) * 86400
  omega
theorem cum_two (y : Int) (m : Int) : ah m ≤ cum y m ∧ cum y m ≤ ah m + 1 := by
  have := lp_01 y
  unfold cum
  split <;> omega
theorem frF_rise {r : RV} {y z : Int} (hr : okR r) (h : y < z) : (frF r y).nm + 340 * 86400 < (frF r z).nm := by
  obtain ⟨hd, h1, h2, h3, h4⟩ := hr
  have a1 := hitD_bd (k := r.dk) (wk := r.dw) (a := atD r.dk r.dn y r.mo)
  have a2 := hitD_bd (k := r.dk) (wk := r.dw) (a := atD r.dk r.dn z r.mo)
  have n1 := ny_mono y z (by omega)
  have c1 := cum_two y r.mo
  have c2 := cum_two z r.mo
  have c3 := cum_two y (r.mo + 1)
  have c4 := cum_two z (r.mo + 1)
  have d1 := cum_succ y r.mo
  have d2 := cum_succ z r.mo
  have e : atD r.dk r.dn y r.mo + 363 ≤ atD r.dk r.dn z r.mo := by
    unfold atD dayN
    split <;> omega
  show hitD r.dk r.dw (atD r.dk r.dn y r.mo) * 86400 + r.sc + 340 * 86400 < hitD r.dk r.dw (atD r.dk r.dn z r.mo) * 86400 + r.sc
  omega
/-- The year of a second. -/
def ySec (s : Int) : Int := yo (s / 86400)
theorem ySec_spec (s : Int) : ny (ySec s) * 86400 ≤ s ∧ s < ny (ySec s + 1) * 86400 := by
  have := yo_spec (s / 86400)
  unfold ySec
  omega
theorem ny_lt {a b : Int} (h : ny a < ny b) : a < b := by
  rcases Int.lt_or_le a b with h1 | h1
  · exact h1
  · have := ny_mono b a h1; omega
/-- What fires below a second is of no later year than the one behind it. -/
theorem frF_low {r : RV} {y s : Int} (hr : okR r) (hf : frY r y) (h : (frF r y).nm < s) : y ≤ ySec s + 1 := by
  have h1 := (frF_bd hr hf).1
  have h2 := (ySec_spec s).2
  have h3 := ny_mono (ySec s + 1) (ySec s + 2) (by omega)
  have h4 : ny y < ny (ySec s + 2) := by omega
  have := ny_lt h4
  omega
theorem frF_high {r : RV} {y s : Int} (hr : okR r) (hf : frY r y) (h : s ≤ (frF r y).nm) : ySec s - 1 ≤ y := by
  have h1 := (frF_bd hr hf).2
  have h2 := (ySec_spec s).1
  have h3 := ny_mono (ySec s - 1) (ySec s) (by omega)
  have h5 := ny_mono y (y + 1) (by omega)
  have h4 : ny (ySec s - 1) < ny (y + 1) := by omega
  have := ny_lt h4
  omega
/-- Two years apart: the later one fires later. -/
theorem frF_two {r q : RV} {y z : Int} (hr : okR r) (hq : okR q) (hy : frY r y) (hz : frY q z) (h : y + 2 ≤ z) : (frF r y).nm < (frF q z).nm := by
  have h1 := (frF_bd hr hy).2
  have h2 := (frF_bd hq hz).1
  have h3 := ny_mono y z (by omega)
  omega
end Go.Proofs.YtdmfgechoanmlaaGreatDoor

namespace Go.Proofs.YtdmfgechoanmlaaGreatDoor
open Go Go.RowKit

/-- A firing of some rule, in whatever year. -/
def FirOf (rs : List RV) (f : FV) : Prop := ∃ r ∈ rs, ∃ y, frY r y ∧ f = frF r y
/-- What Ahead answers. -/
def AheadIs (rs : List RV) (s : Int) (f : FV) (b : Bool) : Prop :=
  (b = true ∧ FirOf rs f ∧ f.nm < s ∧ ∀ g, FirOf rs g → g.nm < s → g.nm ≤ f.nm) ∨ (b = false ∧ f = noF ∧ ∀ g, FirOf rs g → s ≤ g.nm)
/-- What is known behind some rules: the best firing, its year, and whether there is one. -/
def NrSt (rs : List RV) (s : Int) (f : FV) (y : Int) (b : Bool) : Prop :=
  (b = true ∧ (∃ r ∈ rs, frY r y ∧ f = frF r y) ∧ f.nm < s ∧ ∀ g, FirOf rs g → g.nm < s → g.nm ≤ f.nm) ∨ (b = false ∧ f = noF ∧ y = 0 ∧ ∀ g, FirOf rs g → s ≤ g.nm)
theorem NrSt.ahead {rs : List RV} {s y : Int} {f : FV} {b : Bool} (h : NrSt rs s f y b) : AheadIs rs s f b := by
  rcases h with ⟨rfl, ⟨r, hr, hy, e⟩, h2, h3⟩ | ⟨rfl, h1, -, h3⟩
  · exact .inl ⟨rfl, ⟨r, hr, y, hy, e⟩, h2, h3⟩
  · exact .inr ⟨rfl, h1, h3⟩
theorem NrSt.nil (s : Int) : NrSt [] s noF 0 false := .inr ⟨rfl, rfl, rfl, fun g ⟨r, hr, _⟩ => by cases hr⟩
theorem fir_cons {r : RV} {rs : List RV} {g : FV} (h : FirOf (r :: rs) g) : (∃ y, frY r y ∧ g = frF r y) ∨ FirOf rs g := by
  obtain ⟨q, hq, y, hy, e⟩ := h
  rcases List.mem_cons.1 hq with rfl | hq
  · exact .inl ⟨y, hy, e⟩
  · exact .inr ⟨q, hq, y, hy, e⟩
theorem FirOf.more {r : RV} {rs : List RV} {g : FV} (h : FirOf rs g) : FirOf (r :: rs) g := by
  obtain ⟨q, hq, y, hy, e⟩ := h
  exact ⟨q, List.mem_cons_of_mem _ hq, y, hy, e⟩
/-- A rule none of whose firings is below the second, or better. -/
theorem NrSt.skip {r : RV} {rs : List RV} {s y : Int} {f : FV} {b : Bool} (h : NrSt rs s f y b) (hs : ∀ z, frY r z → (frF r z).nm < s → b = true ∧ (frF r z).nm ≤ f.nm) : NrSt (r :: rs) s f y b := by
  rcases h with ⟨rfl, ⟨q, hq, hy, e⟩, h2, h3⟩ | ⟨rfl, h1, h2, h3⟩
  · refine .inl ⟨rfl, ⟨q, List.mem_cons_of_mem _ hq, hy, e⟩, h2, fun g hg hl => ?_⟩
    rcases fir_cons hg with ⟨z, hz, rfl⟩ | hg
    · exact (hs z hz hl).2
    · exact h3 g hg hl
  · refine .inr ⟨rfl, h1, h2, fun g hg => ?_⟩
    rcases fir_cons hg with ⟨z, hz, rfl⟩ | hg
    · by_cases hl : (frF r z).nm < s
      · exact absurd (hs z hz hl).1 (by simp)
      · omega
    · exact h3 g hg
/-- A rule whose last firing below the second is better. -/
theorem NrSt.take {r : RV} {rs : List RV} {s y z : Int} {f : FV} {b : Bool} (h : NrSt rs s f y b) (hz : frY r z) (hl : (frF r z).nm < s) (hb : b = true → f.nm < (frF r z).nm) (hm : ∀ x, frY r x → (frF r x).nm < s → (frF r x).nm ≤ (frF r z).nm) : NrSt (r :: rs) s (frF r z) z true := by
  refine .inl ⟨rfl, ⟨r, List.mem_cons_self .., hz, rfl⟩, hl, fun g hg hgl => ?_⟩
  rcases fir_cons hg with ⟨x, hx, rfl⟩ | hg
  · exact hm x hx hgl
  · rcases h with ⟨rfl, -, h2, h3⟩ | ⟨rfl, -, -, h3⟩
    · have := hb rfl; have := h3 g hg hgl; omega
    · have := h3 g hg; omega
/-- The years of a rule's that are asked for, downwards: T is the first one, F the last one. -/
structure DnY (r : RV) (Y T F : Int) : Prop where
  t : min (min Y r.tl) 100000 = T
  f : max (max (-100000) r.fr) (-100000) = F
theorem DnY.in {r : RV} {Y T F z : Int} (h : DnY r Y T F) (hf : frY r z) (h0 : -100000 ≤ r.fr) (hY : Y ≤ 99000) (hz : z ≤ Y) : F ≤ z ∧ z ≤ T := by
  have h1 := h.t
  have h2 := h.f
  have h3 := hf.1
  have h4 := hf.2.1
  omega
/-- No year is left. -/
theorem dn_none {r : RV} {rs : List RV} {s T F y : Int} {f : FV} {b : Bool} (hok : okR r) (D : DnY r (ySec s + 1) T F) (h0 : -100000 ≤ r.fr) (hY : ySec s + 1 ≤ 99000) (h : NrSt rs s f y b) (hT : T < F) : NrSt (r :: rs) s f y b :=
  h.skip fun z hz hl => by have := D.in hz h0 hY (frF_low hok hz hl); omega
/-- None is as late. -/
theorem dn_far {r : RV} {rs : List RV} {s T F y : Int} {f : FV} {b : Bool} (hok : okR r) (hoks : ∀ q ∈ rs, okR q) (D : DnY r (ySec s + 1) T F) (h0 : -100000 ≤ r.fr) (hY : ySec s + 1 ≤ 99000) (h : NrSt rs s f y b) (hb : b = true) (hT : T + 2 ≤ y) : NrSt (r :: rs) s f y b := by
  refine h.skip fun z hz hl => ⟨hb, ?_⟩
  have hz2 := (D.in hz h0 hY (frF_low hok hz hl)).2
  rcases h with ⟨-, ⟨q, hq, hy, rfl⟩, -, -⟩ | ⟨h1, -⟩
  · exact Int.le_of_lt (frF_two hok (hoks q hq) hz hy (by omega))
  · rw [hb] at h1; cases h1
/-- None is below the second. -/
theorem dn_all {r : RV} {rs : List RV} {s T F y : Int} {f : FV} {b : Bool} (hok : okR r) (D : DnY r (ySec s + 1) T F) (h0 : -100000 ≤ r.fr) (hY : ySec s + 1 ≤ 99000) (h : NrSt rs s f y b) (hp : ∀ x ∈ frB r T (T + 1 - F).toNat, s ≤ x.2.nm) : NrSt (r :: rs) s f y b :=
  h.skip fun z hz hl => by
    have hi := D.in hz h0 hY (frF_low hok hz hl)
    have h5 : s ≤ (frF r z).nm := hp _ (frB_in (r := r) (T := T) (n := (T + 1 - F).toNat) (y := z) (by omega) hi.2 hz)
    omega
/-- The first one that is. -/
theorem dn_one {r : RV} {s T F z : Int} {f : FV} {pre : List (Int × FV)} (hok : okR r) (D : DnY r (ySec s + 1) T F) (h0 : -100000 ≤ r.fr) (hY : ySec s + 1 ≤ 99000) (hx : pre ++ [(z, f)] <+: frB r T (T + 1 - F).toNat) (hp : ∀ x ∈ pre, s ≤ x.2.nm) :
    frY r z ∧ f = frF r z ∧ ∀ x, frY r x → (frF r x).nm < s → (frF r x).nm ≤ f.nm := by
  obtain ⟨post, hpost⟩ := hx
  have hm := frB_mem (r := r) (T := T) (n := (T + 1 - F).toNat) (x := (z, f)) (by rw [← hpost]; simp)
  obtain ⟨-, -, hz, hf⟩ := hm
  simp only at hz hf
  subst hf
  refine ⟨hz, rfl, fun x hx hl => ?_⟩
  have hi := D.in hx h0 hY (frF_low hok hx hl)
  have hin := frB_in (r := r) (T := T) (n := (T + 1 - F).toNat) (y := x) (by omega) hi.2 hx
  have hfall := frB_falls r T (T + 1 - F).toNat
  rw [← hpost] at hin hfall
  rcases Int.lt_trichotomy x z with h | rfl | h
  · exact Int.le_of_lt (by have := frF_rise hok h; omega)
  · exact Int.le_refl _
  · rcases List.mem_append.1 hin with hin | hin
    · rcases List.mem_append.1 hin with hin | hin
      · have := hp _ hin; simp only at this; omega
      · simp at hin; omega
    · have := (List.pairwise_append.1 hfall).2.2 (z, frF r z) (by simp) _ hin
      simp only at this; omega
end Go.Proofs.YtdmfgechoanmlaaGreatDoor

namespace Go.Proofs.YtdmfgechoanmlaaGreatDoor
open Go Go.RowKit
attribute [local go_sem] Oper.semAt_some

/-- Seconds of the calendar. -/
def inS (s : Int) : Prop := -37243778 ≤ s / 86400 ∧ s / 86400 ≤ 35805087
theorem yo_of {y m d q : Int} (h : okD y m d) (hd : dayN y m d = q) : yo q = y := by
  have h1 := yo_spec q
  have c0 := cum_bd y m
  have c1 := cum_mono y (m + 1) 13 (by have := h.2.2.1; omega) (by have := h.2.2.2.1; omega) (by omega)
  have c2 := cum_succ y m
  have c3 := cum_13 y
  have c4 := ny_succ y
  have c5 := h.2.2.2.2.1
  have c6 := h.2.2.2.2.2
  unfold dayN at hd
  have a1 : ny y ≤ q := by omega
  have a2 : q < ny (y + 1) := by omega
  have b1 := ny_lt (a := yo q) (b := y + 1) (by omega)
  have b2 := ny_lt (a := y) (b := yo q + 1) (by omega)
  omega
theorem yearOf_is (s y : Int) (w : World) (ht : AhAt w) (h1 : inS s) (hy : ySec s = y) : Calls Tryz.prog 120 #[.int .i64 s] w fun e w' => e = .returned (.int .i64 y) ∧ Below w.heap.size w w' := by
  have SP := Lib.hid (Split_yes s (s / 86400) (s % 86400) w ht (by unfold inS at h1; omega) (by unfold inS at h1; omega) rfl rfl h1.1 h1.2)
  have HY := Lib.hid hy
  clear ht h1 hy
  go_enter Tryz.func120, Tryz.ntmps120
  go_wp2_with (first
    | (go_at_call 140; refine SP.out.mono ?_; rintro e w1 ⟨y', m, d, ho, hd, rfl, k1⟩
       have E := Lib.hid ((yo_of ho hd).symm.trans HY.out)
       have X := Lib.hid (BlkN.make k1 #[.int .i64 y', .int .i64 m, .int .i64 d] 167)
       clear ho hd k1
       obtain ⟨c0, c1, c2⟩ := cel3 X.out.blk
       simp only []))
  go_ret
  exact ⟨by rw [← E.out]; rfl, X.out.bel⟩
theorem fits_is (f : FV) (B : Nat) (s : Int) (v : Bool) (w : World) (hB : w.cell? ⟨B, 0, none⟩ = some (.int .i64 s)) (hv : decide (f.nm < s) = v) : Calls Tryz.prog 121 #[fvV f, .pointer (some ⟨B, 0, none⟩)] w fun e w' => e = .returned (.bool v) ∧ Below w.heap.size w w' := by
  have X := Lib.hid (BlkN.make (Below.refl w.heap.size w) (cF f).toArray 145)
  have b0 : (w.alloc (.cells (cF f).toArray 145)).cell? ⟨B, 0, none⟩ = some (.int .i64 s) := (((Below.refl w.heap.size w).alloc (Nat.le_refl _) _).cell (p := ⟨B, 0, none⟩) (cell_lt hB)).trans hB
  obtain ⟨x0, x1, x2, x3⟩ := cel4 X.out.blk
  obtain ⟨nm, kd, sv, lt⟩ := f
  unfold fvV at *
  unfold cF at *
  simp only at *
  rcases Int.lt_or_le nm s with h | h
  · obtain rfl : v = true := by rw [← hv]; simpa using h
    clear hv
    go_enter Tryz.func121, Tryz.ntmps121
    repeat (first | go_values | go_skip | go_guarded | go_step | go_upon | go_back)
    go_ret
    exact ⟨rfl, X.out.bel⟩
  · obtain rfl : v = false := by rw [← hv]; simpa using h
    have h' : ¬ nm < s := by omega
    clear hv
    go_enter Tryz.func121, Tryz.ntmps121
    repeat (first | go_values | go_skip | go_guarded | go_step | go_upon | go_back)
    go_ret
    exact ⟨rfl, X.out.bel⟩
/-- Whether a firing is better than the best one, downwards. -/
theorem better_is (f g : FV) (b v : Bool) (B1 B2 B3 : Nat) (w : World) (h1 : w.cell? ⟨B1, 0, none⟩ = some (.bool b)) (h2 : w.cell? ⟨B2, 2, none⟩ = some (.int .i64 (-1))) (h3 : w.cell? ⟨B3, 0, none⟩ = some (.int .i64 g.nm)) (hv : (!b || decide (g.nm < f.nm)) = v)
    (hf : -4611686018427387904 ≤ f.nm ∧ f.nm ≤ 4611686018427387904) (hg : -4611686018427387904 ≤ g.nm ∧ g.nm ≤ 4611686018427387904) :
    Calls Tryz.prog 136 #[fvV f, .pointer (some ⟨B1, 0, none⟩), .pointer (some ⟨B2, 0, none⟩), .pointer (some ⟨B3, 0, none⟩)] w fun e w' => e = .returned (.bool v) ∧ Below w.heap.size w w' := by
  have X := Lib.hid (BlkN.make (Below.refl w.heap.size w) (cF f).toArray 145)
  have k0 : Below w.heap.size w (w.alloc (.cells (cF f).toArray 145)) := (Below.refl w.heap.size w).alloc (Nat.le_refl _) _
  have b1 := (k0.cell (p := ⟨B1, 0, none⟩) (cell_lt h1)).trans h1
  have b2 := (k0.cell (p := ⟨B2, 2, none⟩) (cell_lt h2)).trans h2
  have b3 := (k0.cell (p := ⟨B3, 0, none⟩) (cell_lt h3)).trans h3
  clear h1 h2 h3 k0
  obtain ⟨x0, x1, x2, x3⟩ := cel4 X.out.blk
  obtain ⟨nm, kd, sv, lt⟩ := f
  unfold fvV at *
  unfold cF at *
  simp only at *
  have m1 : IntKind.i64.wrap (-1 * nm) = -nm := by rw [IntWalk.i64_in _ (by omega)]; omega
  have m2 : IntKind.i64.wrap (-1 * g.nm) = -g.nm := by rw [IntWalk.i64_in _ (by omega)]; omega
  cases b with
  | false =>
    obtain rfl : v = true := by rw [← hv]; rfl
    clear hv
    go_enter Tryz.func136, Tryz.ntmps136
    repeat (first | go_values | go_skip | go_guarded | go_step | go_upon | go_back)
    go_ret
    exact ⟨rfl, X.out.bel⟩
  | true =>
    rcases Int.lt_or_le g.nm nm with h | h
    · obtain rfl : v = true := by rw [← hv]; simpa using h
      have h' : -nm < -g.nm := by omega
      clear hv
      go_enter Tryz.func136, Tryz.ntmps136
      repeat (first | go_values | go_skip | go_guarded | go_step | go_upon | go_back)
      go_ret
      exact ⟨rfl, X.out.bel⟩
    · obtain rfl : v = false := by rw [← hv]; simpa using h
      have h' : ¬ -nm < -g.nm := by omega
      clear hv
      go_enter Tryz.func136, Tryz.ntmps136
      repeat (first | go_values | go_skip | go_guarded | go_step | go_upon | go_back)
      go_ret
      exact ⟨rfl, X.out.bel⟩
end Go.Proofs.YtdmfgechoanmlaaGreatDoor
