/- The contracts of fire.Instant, and of turns: which variables its iterator has; plain facts on firings with their instants.
The last firing no later than an instant: plain facts; no program is named. -/
import Derived.Test.YtdmfgechoanmlaaGreatDoorZmA
import Derived.Test.YtdmfgechoanmlaaGreatDoorMZO
namespace Go.Proofs.YtdmfgechoanmlaaGreatDoor
open Go Go.RowKit Go.Sort
attribute [local go_sem] Oper.semAt_some
attribute [local go_sem] fvV

/-- A round's contract goes into a round of another loop, at whatever depth. -/
theorem yield_inner {P : Program} {m m' l l' : Nat} {args : Array Value} {W : World} {R : Ending → World → Prop} (h : YieldAt Fence.wide m P l args W R) : YieldAt (Fence.wide.inRound l') m' P l args W R := by
  obtain ⟨fn, tmps, assign, body, hy, hR⟩ := h
  exact ⟨fn, tmps, assign, body, hy, hR.1, fun c cs _ => hR.2 c cs (room_wide _)⟩
theorem finst_is (f : FV) (off sv v : Int) (w : World) (hf : -4611686018427387904 ≤ f.nm ∧ f.nm ≤ 4611686018427387904) (ho : -1000000 ≤ off ∧ off ≤ 1000000) (hs : -1000000 ≤ sv ∧ sv ≤ 1000000) (hv : inF f off sv = v) :
    Calls Tryz.prog 75 #[fvV f, .int .i64 off, .int .i64 sv] w fun e w' => e = .returned (.int .i64 v) ∧ Below w.heap.size w w' := by
  have X := Lib.hid (BlkN.make (Below.refl w.heap.size w) (cF f).toArray 145)
  obtain ⟨x0, x1, x2, x3⟩ := cel4 X.out.blk
  obtain ⟨nm, kd, sf, lt⟩ := f
  unfold inF at hv
  unfold fvV at *
  unfold cF at *
  simp only at *
  have w1 : IntKind.i64.wrap (nm - off) = nm - off := IntWalk.i64_in _ (by omega)
  have w2 : IntKind.i64.wrap (nm - off - sv) = nm - off - sv := IntWalk.i64_in _ (by omega)
  by_cases h0 : kd = 0
  · rw [if_pos h0] at hv
    have h0b : (kd == 0) = true := by simpa using h0
    subst hv
    go_enter Tryz.func75, Tryz.ntmps75
    repeat (first | go_values | go_skip | go_guarded | go_step | go_upon | go_back)
    go_ret
    exact ⟨rfl, (Below.refl _ w).alloc (Nat.le_refl _) _⟩
  · have h0b : (kd == 0) = false := by simpa using h0
    rw [if_neg h0] at hv
    by_cases h1 : kd = 1
    · rw [if_pos h1] at hv
      have h1b : (kd == 1) = true := by simpa using h1
      subst hv
      go_enter Tryz.func75, Tryz.ntmps75
      repeat (first | go_values | go_skip | go_guarded | go_step | go_upon | go_back)
      go_ret
      exact ⟨rfl, (Below.refl _ w).alloc (Nat.le_refl _) _⟩
    · have h1b : (kd == 1) = false := by simpa using h1
      rw [if_neg h1] at hv
      subst hv
      go_enter Tryz.func75, Tryz.ntmps75
      repeat (first | go_values | go_skip | go_guarded | go_step | go_upon | go_back)
      go_ret
      exact ⟨rfl, (Below.refl _ w).alloc (Nat.le_refl _) _⟩
theorem turns_is (A0 : Option Addr) (n c0 : Nat) (off lo hi : Int) (w : World) :
    Calls Tryz.prog 98 #[.slice A0 n c0, .int .i64 off, .int .i64 lo, .int .i64 hi] w fun e w' => e = .returned (.func (.func 123) #[] #[.pointer (some ⟨w.heap.size, 0, none⟩), .pointer (some ⟨w.heap.size + 1 + 1, 0, none⟩), .pointer (some ⟨w.heap.size + 1 + 1 + 1, 0, none⟩), .pointer (some ⟨w.heap.size + 1, 0, none⟩)]) ∧
      w' = (((w.alloc (.cells #[.slice A0 n c0] 80)).alloc (.cells #[.int .i64 off] 3)).alloc (.cells #[.int .i64 lo] 3)).alloc (.cells #[.int .i64 hi] 3) := by
  have hmf : ∀ (fn : Fn) (first cap : Array Value) (w : World), (Instr.makeFunc fn first cap).run Tryz.prog w = .ok (.func fn first cap) w := fun _ _ _ _ => rfl
  go_enter Tryz.func98, Tryz.ntmps98
  go_wp2
  go_ret
  exact ⟨rfl, rfl⟩
/-- Firings, each with its instant. -/
def trF (off : Int) : Int → List FV → List (Int × FV)
  | _, [] => []
  | sv, f :: l => (inF f off sv, f) :: trF off f.sv l
theorem trF_app (off : Int) : ∀ (A B : List FV) (sv : Int), trF off sv (A ++ B) = trF off sv A ++ trF off (lastS sv A) B
  | [], _, _ => rfl
  | f :: A, B, sv => by rw [List.cons_append, trF, trF, trF_app off A B, lastS_cons]; rfl
theorem trF_pre (off sv : Int) {A B : List FV} (h : A <+: B) : trF off sv A <+: trF off sv B := by
  obtain ⟨C, rfl⟩ := h
  rw [trF_app]
  exact List.prefix_append _ _
theorem trF_snoc (off sv : Int) (A : List FV) (f : FV) : trF off sv (A ++ [f]) = trF off sv A ++ [(inF f off (lastS sv A), f)] := by rw [trF_app]; rfl
theorem lastS_snoc (sv : Int) (A : List FV) (f : FV) : lastS sv (A ++ [f]) = f.sv := by unfold lastS; rw [List.getLast?_concat]
def encT (x : Int × FV) : Array Value := #[.int .i64 x.1, fvV x.2]
/-- What the iterator reads. -/
structure TuB (n0 m1 B : Nat) (A0 : Option Addr) (n c0 : Nat) (rs : List RV) (off lo hi : Int) (W : World) : Prop where
  rl : RlAt n0 A0 rs W
  b0 : W.heap[B]? = some (.cells #[.slice A0 n c0] 80 (0, 0))
  b1 : W.heap[B + 1]? = some (.cells #[.int .i64 off] 3 (0, 0))
  b2 : W.heap[B + 2]? = some (.cells #[.int .i64 lo] 3 (0, 0))
  b3 : W.heap[B + 3]? = some (.cells #[.int .i64 hi] 3 (0, 0))
  ah : AhAt W
  hg : 2 < n0
  hm : m1 ≤ B
theorem TuB.keep {n0 m1 B : Nat} {A0 : Option Addr} {n c0 : Nat} {rs : List RV} {off lo hi : Int} {W W' : World} (h : TuB n0 m1 B A0 n c0 rs off lo hi W) (k : Below n0 W W') (kp : KpHi m1 W W') : TuB n0 m1 B A0 n c0 rs off lo hi W' :=
  ⟨h.rl.below k, (kp B _ _ _ h.hm h.b0).trans h.b0, (kp (B + 1) _ _ _ (by have := h.hm; omega) h.b1).trans h.b1, (kp (B + 2) _ _ _ (by have := h.hm; omega) h.b2).trans h.b2, (kp (B + 3) _ _ _ (by have := h.hm; omega) h.b3).trans h.b3, h.ah.below k h.hg, h.hg, h.hm⟩
theorem TuB.next {n0 m1 B : Nat} {A0 : Option Addr} {n c0 : Nat} {rs : List RV} {off lo hi : Int} {W W' : World} (h : TuB n0 m1 B A0 n c0 rs off lo hi W) (hn : n0 ≤ W.heap.size) (k : Below W.heap.size W W') : TuB n0 m1 B A0 n c0 rs off lo hi W' := h.keep (k.mono hn) (KpHi.below k)
theorem TuB.size {n0 m1 B : Nat} {A0 : Option Addr} {n c0 : Nat} {rs : List RV} {off lo hi : Int} {W : World} (h : TuB n0 m1 B A0 n c0 rs off lo hi W) : B + 4 ≤ W.heap.size := (Array.getElem?_eq_some_iff.1 h.b3).1
end Go.Proofs.YtdmfgechoanmlaaGreatDoor

namespace Go.Proofs.YtdmfgechoanmlaaGreatDoor
open Go Go.RowKit Go.Sort

theorem ySec_ge {s k : Int} (h : ny k * 86400 ≤ s) : k ≤ ySec s := by
  have h2 := (ySec_spec s).2
  rcases Int.lt_or_le (ySec s) k with h3 | h3
  · have := ny_mono (ySec s + 1) k (by omega)
    omega
  · exact h3
theorem ySec_lt {s k : Int} (h : s < ny k * 86400) : ySec s < k := by
  have h2 := (ySec_spec s).1
  rcases Int.lt_or_le (ySec s) k with h3 | h3
  · exact h3
  · have := ny_mono k (ySec s) h3
    omega
/-- An instant from 1895 to 2095. -/
def NrT (t : Int) : Prop := -2366841600 < t ∧ t < 3944678400
theorem nrT_y {t d : Int} (h : NrT t) (h1 : -180000 ≤ d) (h2 : d ≤ 180000) : inS (t + d) ∧ 1892 ≤ ySec (t + d) ∧ ySec (t + d) + 1 ≤ 2110 := by
  obtain ⟨h3, h4⟩ := h
  have e1 : ny 1892 = -28489 := by decide
  have e2 : ny 2100 = 47482 := by decide
  have h5 := ySec_ge (s := t + d) (k := 1892) (by omega)
  have h6 := ySec_lt (s := t + d) (k := 2100) (by omega)
  refine ⟨?_, h5, by omega⟩
  unfold inS; omega
theorem row_bd {rs : List RV} (hok : ∀ r ∈ rs, okR r ∧ 1900 ≤ r.fr) {f : FV} (hf : f ∈ rowF rs) : -3000000000 ≤ f.nm ∧ f.nm < 5000000000 := by
  obtain ⟨r, hr, y, h1, h2, h3, rfl⟩ := row_mem.1 hf
  have h4 := frF_bd (hok r hr).1 h3
  have e1 : ny 1890 = -29219 := by decide
  have e2 : ny 2110 = 51134 := by decide
  have := ny_mono 1890 y h1
  have := ny_mono y 2110 h2
  omega
/-- A firing that is there, or none. -/
def FbIs (o : Option FV) (f : FV) (b : Bool) : Prop := (b = true ∧ o = some f) ∨ (b = false ∧ o = none ∧ f = noF)
theorem FbIs.of {rs : List RV} {s m : Int} {f : FV} {b : Bool} (hok : ∀ r ∈ rs, okR r ∧ 1900 ≤ r.fr) (hL : Ris (rowF rs)) (hs : ySec s + 1 ≤ 2110) (h : AheadIs rs s f b) (hm : ∀ f ∈ rowF rs, m ≤ f.nm) : FbIs (lastO none (win (rowF rs) m s)) f b ∧ lastS 0 (win (rowF rs) m s) = f.sv := by
  obtain ⟨h1, h2⟩ := ahead_row hok hL hs h hm
  refine ⟨?_, h2⟩
  rcases h with ⟨rfl, -⟩ | ⟨rfl, h3, -⟩
  · exact .inl ⟨rfl, h1⟩
  · exact .inr ⟨rfl, h1, h3⟩
/-- No firing is near. -/
theorem lat_far {rs : List RV} {off t : Int} {f : FV} {b : Bool} (hok : ∀ r ∈ rs, okR r ∧ 1900 ≤ r.fr) (hL : Apt (rowF rs)) (h1 : -90000 < off) (h2 : off < 90000) (ht : NrT t) (h : AheadIs rs (t + 180000) f b) (hb : b = false ∨ f.nm ≤ t - 180000) : FbIs (latF off t 0 none (rowF rs)) f b := by
  have h3 := nrT_y ht (d := -180000) (by omega) (by omega)
  have hw : win (rowF rs) (t - 180000 + 1) (t + 180000) = [] := by
    cases hw : win (rowF rs) (t - 180000 + 1) (t + 180000) with
    | nil => rfl
    | cons g l =>
      have hg : g ∈ win (rowF rs) (t - 180000 + 1) (t + 180000) := by rw [hw]; simp
      obtain ⟨h4, h5, h6⟩ := win_mem.1 hg
      obtain ⟨r, hr, y, -, -, hy, e⟩ := row_mem.1 h4
      have hF : FirOf rs g := ⟨r, hr, y, hy, e⟩
      rcases h with ⟨rfl, -, -, h7⟩ | ⟨rfl, -, h7⟩
      · have := h7 g hF h6
        rcases hb with hb | hb
        · cases hb
        · omega
      · have := h7 g hF; omega
  have hA : AheadIs rs (t - 180000 + 1) f b := by
    rcases h with ⟨rfl, h4, h5, h6⟩ | ⟨rfl, h4, h5⟩
    · exact .inl ⟨rfl, h4, by rcases hb with hb | hb; cases hb; omega, fun g hg hl => h6 g hg (by omega)⟩
    · exact .inr ⟨rfl, h4, fun g hg => by have := h5 g hg; omega⟩
  have h5 := nrT_y ht (d := -179999) (by omega) (by omega)
  rw [show t + -179999 = t - 180000 + 1 by omega] at h5
  have h4 := (FbIs.of (m := -3000000000) hok hL.ris h5.2.2 hA (fun f hf => (row_bd hok hf).1)).1
  rw [lat_row hL h1 h2 (t - 180000 + 1) (t + 180000) (by omega) (by omega) (by omega) (m := -3000000000) (M := 5000000000) (fun f hf => row_bd hok hf) (by have := ht.1; omega) (by have := ht.2; omega), hw]
  exact h4
/-- The last one of a row no later than t. -/
def stO (t : Int) (o : Option FV) (l : List (Int × FV)) : Option FV := l.foldl (fun o x => if x.1 ≤ t then some x.2 else o) o
theorem stO_snoc (t : Int) (o : Option FV) (l : List (Int × FV)) (x : Int × FV) : stO t o (l ++ [x]) = if x.1 ≤ t then some x.2 else stO t o l := by simp [stO]
theorem stO_tr (t off : Int) : ∀ (l : List FV) (sv : Int) (o : Option FV), stO t o (trF off sv l) = latF off t sv o l
  | [], _, _ => rfl
  | f :: l, sv, o => by rw [trF, latF, ← stO_tr t off l]; rfl
theorem FbIs.step {t : Int} {o : Option FV} {l : List (Int × FV)} {at' : Int} {g f : FV} {b : Bool} (h : FbIs (stO t o l) f b) : (at' ≤ t → FbIs (stO t o (l ++ [(at', g)])) g true) ∧ (¬ at' ≤ t → FbIs (stO t o (l ++ [(at', g)])) f b) := by
  rw [stO_snoc]
  exact ⟨fun k => by rw [if_pos k]; exact .inl ⟨rfl, rfl⟩, fun k => by rw [if_neg k]; exact h⟩
theorem lat_near {rs : List RV} {off t : Int} {f : FV} {b : Bool} (hok : ∀ r ∈ rs, okR r ∧ 1900 ≤ r.fr) (hL : Apt (rowF rs)) (h1 : -90000 < off) (h2 : off < 90000) (ht : NrT t) (h : AheadIs rs (t - 180000 + 1) f b) :
    ∃ o, FbIs o f b ∧ stO t o (trF off f.sv (win (rowF rs) (t - 180000 + 1) (t + 180000 - 1 + 1))) = latF off t 0 none (rowF rs) := by
  have h5 := nrT_y ht (d := -179999) (by omega) (by omega)
  rw [show t + -179999 = t - 180000 + 1 by omega] at h5
  have h4 := FbIs.of (m := -3000000000) hok hL.ris h5.2.2 h (fun f hf => (row_bd hok hf).1)
  refine ⟨_, h4.1, ?_⟩
  rw [stO_tr, lat_row hL h1 h2 (t - 180000 + 1) (t + 180000) (by omega) (by omega) (by omega) (m := -3000000000) (M := 5000000000) (fun f hf => row_bd hok hf) (by have := ht.1; omega) (by have := ht.2; omega), h4.2]
  rw [show t + 180000 - 1 + 1 = t + 180000 by omega]
theorem ahead_sv {rs : List RV} {s : Int} {f g : FV} {b c : Bool} (hok : ∀ r ∈ rs, okR r ∧ 1900 ≤ r.fr) (hL : Apt (rowF rs)) (hs : ySec s + 1 ≤ 2110) (h : AheadIs rs s f b) (k : AheadIs rs s g c) : g.sv = f.sv := by
  have h1 := (ahead_row (m := -3000000000) hok hL.ris hs h (fun f hf => (row_bd hok hf).1)).2
  have h2 := (ahead_row (m := -3000000000) hok hL.ris hs k (fun f hf => (row_bd hok hf).1)).2
  rw [← h1, ← h2]
theorem ahead_svb {rs : List RV} {s : Int} {f : FV} {b : Bool} (hok : ∀ r ∈ rs, okR r ∧ 1900 ≤ r.fr) (hL : Apt (rowF rs)) (hs : ySec s + 1 ≤ 2110) (h : AheadIs rs s f b) : -90000 < f.sv ∧ f.sv < 90000 := by
  rw [← (ahead_row (m := -3000000000) hok hL.ris hs h (fun f hf => (row_bd hok hf).1)).2]
  exact lastS_bd (fun g hg => hL.1 g (win_mem.1 hg).1) (by omega) (by omega)
end Go.Proofs.YtdmfgechoanmlaaGreatDoor
