/- Rows of changes that lie somewhere: whether two are one, whether instants rise, which one is the last up to an instant.
Whether instants rise, and which change is the last one up to an instant: the law's own, and the table's.
table.Cut: what is cut out lies in a list of the call's own. -/
import Derived.Test.YtdmfgechoanmlaaGreatDoorTbB
import Derived.Test.YtdmfgechoanmlaaGreatDoorMZE
import Derived.LoopNIn
import Derived.LoopIn
import Derived.WalkMore
namespace Go.Proofs.YtdmfgechoanmlaaGreatDoor
open Go Go.RowKit Go.Shelf
attribute [local go_sem] Oper.semAt_some

theorem cc_cells {A : Option Addr} {l : List CV} {w : World} {i : Nat} {x : CV} (h : RowsAt 4 cC A l w) (hx : l[i]? = some x) : ∃ L off, A = some ⟨L, off, none⟩ ∧ L < w.heap.size ∧
    w.cell? ⟨L, off + i * 4, none⟩ = some (.int .i64 x.t) ∧ w.cell? ⟨L, off + i * 4 + 1, none⟩ = some (.int .i64 x.of) ∧ w.cell? ⟨L, off + i * 4 + 2, none⟩ = some (.bool x.ds) ∧ w.cell? ⟨L, off + i * 4 + 3, none⟩ = some (.string ⟨x.ab.toArray⟩) := by
  obtain ⟨L, off, e, hl, hc⟩ := h i x hx
  exact ⟨L, off, e, hl, hc 0 _ (by omega) rfl, hc 1 _ (by omega) rfl, hc 2 _ (by omega) rfl, hc 3 _ (by omega) rfl⟩
theorem own_c {ss : List CV} {w2 : World} {b c n : Nat} {A : Option Addr} (h : w2.ownsRow b 71 4 (.slice A n c) n (fcl (fun y => (cC y).toList) ss)) (hn : ss.length = n) : RowsAt 4 cC A ss w2 := by
  rcases h.2 with ⟨h0, h1⟩ | ⟨g, cap, cur, h0, hg, hb, -⟩
  · cases h0
    have : ss = [] := List.length_eq_zero_iff.1 (by omega)
    subst this
    exact rows_none _ _
  · cases h0
    exact (gown cC_len h).1
theorem one_c {W : World} {g : Nat} {x : CV} {t : TypeId} (h : W.heap[g]? = some (.cells (cC x) t (0, 0))) : RowsAt 4 cC (some ⟨g, 0, none⟩) [x] W := fun i e he => by
  have hi := (List.getElem?_eq_some_iff.1 he).1
  simp at hi
  subst hi
  simp at he
  subst he
  refine ⟨g, 0, rfl, (Array.getElem?_eq_some_iff.1 h).1, fun j v hj hv => ?_⟩
  rw [show 0 + 0 * 4 + j = j by omega, cell_of_row W g j _ _ _ h]; exact hv
theorem take_same {α : Type} {xs ys : List α} {i : Nat} {x y : α} (hx : xs[i]? = some x) (hy : ys[i]? = some y) (h : xs.take i = ys.take i) (e : x = y) : xs.take (i + 1) = ys.take (i + 1) := by
  obtain ⟨h1, h2⟩ := List.getElem?_eq_some_iff.1 hx
  obtain ⟨h3, h4⟩ := List.getElem?_eq_some_iff.1 hy
  rw [List.take_succ_eq_append_getElem h1, List.take_succ_eq_append_getElem h3, h2, h4, h, e]
set_option maxRecDepth 20000 in
set_option maxHeartbeats 1000000 in
theorem tsame_is (A B : Option Addr) (n m c c' : Nat) (xs ys : List CV) (v : Bool) (w : World) (hA : RowsAt 4 cC A xs w) (hB : RowsAt 4 cC B ys w) (hn : xs.length = n) (hm : ys.length = m) (h1 : n ≤ 1000000) (h2 : m ≤ 1000000) (hv : v = decide (xs = ys)) :
    Calls Tryz.prog 24 #[.slice A n c, .slice B m c'] w fun e w' => e = .returned (.bool v) ∧ Below w.heap.size w w' := by
  have AA := Lib.hid hA
  have BB := Lib.hid hB
  have HN := Lib.hid hn
  have HM := Lib.hid hm
  clear hA hB hn hm
  by_cases hz : n = m
  · subst hz
    have HV := Lib.hid hv
    clear hv
    go_enter Tryz.func24, Tryz.ntmps24
    repeat (first | go_values | go_skip | go_guarded | go_step | go_upon | go_back)
    go_loopw [5] (fun u wr => ∃ i : Nat, u = .int .i64 i ∧ i ≤ n ∧ xs.take i = ys.take i ∧ Below w.heap.size w wr) (fun u _ => n - (intOf u).toNat)
    case atStart => exact ⟨0, rfl, by omega, rfl, Below.refl _ _⟩
    case round =>
      obtain ⟨i, rfl, hi, ht, hk⟩ := hrel
      have HK := Lib.hid hk
      have HT := Lib.hid ht
      clear hk ht
      by_cases hlt : i < n
      · have hlt' : (i : Int) < (n : Int) := by omega
        obtain ⟨x, hx⟩ : ∃ x, xs[i]? = some x := ⟨_, List.getElem?_eq_getElem (by rw [HN.out]; exact hlt)⟩
        obtain ⟨y, hy⟩ : ∃ y, ys[i]? = some y := ⟨_, List.getElem?_eq_getElem (by rw [HM.out]; exact hlt)⟩
        obtain ⟨L, off, rfl, hL, x0, x1, x2, x3⟩ := cc_cells (AA.out.next HK.out) hx
        obtain ⟨L', off', rfl, hL', y0, y1, y2, y3⟩ := cc_cells (BB.out.next HK.out) hy
        have HX := Lib.hid hx
        have HY := Lib.hid hy
        obtain ⟨xt, xo, xd, xa⟩ := x
        obtain ⟨yt, yo, yd, ya⟩ := y
        simp only at x0 x1 x2 x3 y0 y1 y2 y3
        have NE : Hid (((⟨xt, xo, xd, xa⟩ : CV) ≠ ⟨yt, yo, yd, ya⟩) → v = false) := Lib.hid (fun h => by
          rw [HV.out]
          refine decide_eq_false fun e => h ?_
          subst e
          have := HX.out.symm.trans HY.out
          injection this)
        clear hx hy
        by_cases e0 : xt = yt
        · subst e0
          by_cases e1 : xo = yo
          · subst e1
            by_cases e2 : xd = yd
            · subst e2
              by_cases e3 : xa = ya
              · subst e3
                repeat (first | go_values | go_skip | go_guarded | go_step | go_upon | go_back)
                go_region
                all_goals
                  repeat (first | go_values | go_skip | go_guarded | go_step | go_upon | go_back)
                  go_roundw
                  case rel => exact ⟨i + 1, rfl, by omega, take_same HX.out HY.out HT.out rfl, HK.out.drew⟩
                  case measure => simp [intOf]; omega
              · have e3' : ¬ (xa.toArray = ya.toArray) := fun h => e3 (by simpa using h)
                have hv := NE.out (fun h => by injection h with h1 h2 h3 h4; exact e3 h4)
                subst hv
                repeat (first | go_values | go_skip | go_guarded | go_step | go_upon | go_back)
                go_region
                all_goals
                  repeat (first | go_values | go_skip | go_guarded | go_step | go_upon | go_back)
                  go_ret
                  exact ⟨rfl, HK.out.drew⟩
            · have hv := NE.out (fun h => by injection h with h1 h2 h3 h4; exact e2 h3)
              subst hv
              repeat (first | go_values | go_skip | go_guarded | go_step | go_upon | go_back)
              go_region
              all_goals
                repeat (first | go_values | go_skip | go_guarded | go_step | go_upon | go_back)
                go_ret
                exact ⟨rfl, HK.out.drew⟩
          · have hv := NE.out (fun h => by injection h with h1 h2 h3 h4; exact e1 h2)
            subst hv
            repeat (first | go_values | go_skip | go_guarded | go_step | go_upon | go_back)
            go_region
            all_goals
              repeat (first | go_values | go_skip | go_guarded | go_step | go_upon | go_back)
              go_ret
              exact ⟨rfl, HK.out.drew⟩
        · have hv := NE.out (fun h => by injection h with h1 h2 h3 h4; exact e0 h1)
          subst hv
          repeat (first | go_values | go_skip | go_guarded | go_step | go_upon | go_back)
          go_region
          all_goals
            repeat (first | go_values | go_skip | go_guarded | go_step | go_upon | go_back)
            go_ret
            exact ⟨rfl, HK.out.drew⟩
      · obtain rfl : i = n := by omega
        have hlt' : ¬ ((i : Nat) : Int) < (i : Int) := by omega
        have hv : v = true := by
          rw [HV.out]
          have := HT.out
          rw [List.take_of_length_le (by rw [HN.out]; omega), List.take_of_length_le (by rw [HM.out]; omega)] at this
          exact decide_eq_true this
        subst hv
        repeat (first | go_values | go_skip | go_guarded | go_step | go_upon | go_back)
        go_ret
        exact ⟨rfl, HK.out⟩
  · have hz' : ¬ (n : Int) = (m : Int) := by omega
    have hv' : v = false := by rw [hv]; exact decide_eq_false fun e => hz (by rw [← HN.out, ← HM.out, e])
    subst hv'
    clear hv
    go_enter Tryz.func24, Tryz.ntmps24
    repeat (first | go_values | go_skip | go_guarded | go_step | go_upon | go_back)
    go_ret
    exact ⟨rfl, Below.refl _ _⟩
end Go.Proofs.YtdmfgechoanmlaaGreatDoor

namespace Go.Proofs.YtdmfgechoanmlaaGreatDoor
open Go Go.RowKit Go.Shelf
attribute [local go_sem] Oper.semAt_some

theorem ris_of : ∀ {l : List CV}, (∀ i a b, l[i]? = some a → l[i + 1]? = some b → a.t < b.t) → RisC l
  | [], _ => List.Pairwise.nil
  | [x], _ => by unfold RisC; simp
  | x :: y :: l, h => by
    have ih : RisC (y :: l) := ris_of fun i a b h1 h2 => h (i + 1) a b (by simpa using h1) (by simpa using h2)
    refine List.pairwise_cons.2 ⟨fun z hz => ?_, ih⟩
    have h0 := h 0 x y rfl rfl
    rcases List.mem_cons.1 hz with rfl | hz
    · exact h0
    · have := (List.pairwise_cons.1 ih).1 z hz
      omega
theorem ris_at {l : List CV} (h : RisC l) {i j : Nat} {a b : CV} (h1 : l[i]? = some a) (h2 : l[j]? = some b) (hij : i < j) : a.t < b.t := by
  obtain ⟨i1, i2⟩ := List.getElem?_eq_some_iff.1 h1
  obtain ⟨j1, j2⟩ := List.getElem?_eq_some_iff.1 h2
  rw [← i2, ← j2]
  exact List.pairwise_iff_getElem.1 h i j i1 j1 hij
instance (l : List CV) : Decidable (RisC l) := by unfold RisC; infer_instance
set_option maxRecDepth 20000 in
set_option maxHeartbeats 1000000 in
theorem rise_is (A : Option Addr) (n c : Nat) (xs : List CV) (v : Bool) (w : World) (hA : RowsAt 4 cC A xs w) (hn : xs.length = n) (h1 : n ≤ 1000000) (hv : v = decide (RisC xs)) :
    Calls Tryz.prog 18 #[.slice A n c] w fun e w' => e = .returned (.bool v) ∧ Below w.heap.size w w' := by
  have AA := Lib.hid hA
  have HN := Lib.hid hn
  have HV := Lib.hid hv
  clear hA hn hv
  go_enter Tryz.func18, Tryz.ntmps18
  repeat (first | go_values | go_skip | go_guarded | go_step | go_upon | go_back)
  go_loopw [3] (fun u wr => ∃ i : Nat, u = .int .i64 ((i + 1 : Nat) : Int) ∧ i ≤ n ∧ (∀ j a b, j < i → xs[j]? = some a → xs[j + 1]? = some b → a.t < b.t) ∧ Below w.heap.size w wr) (fun u _ => n + 1 - (intOf u).toNat)
  case atStart => exact ⟨0, rfl, by omega, fun j a b h => by omega, Below.refl _ _⟩
  case round =>
    obtain ⟨i, rfl, hi, ht, hk⟩ := hrel
    have HK := Lib.hid hk
    have HT := Lib.hid ht
    clear hk ht
    by_cases hlt : i + 1 < n
    · have hlt' : ((i + 1 : Nat) : Int) < (n : Int) := by omega
      have hsub : IntKind.i64.wrap (((i + 1 : Nat) : Int) - 1) = (i : Int) := by rw [IntWalk.i64_in _ (by omega)]; omega
      obtain ⟨x, hx⟩ : ∃ x, xs[i]? = some x := ⟨_, List.getElem?_eq_getElem (by rw [HN.out]; omega)⟩
      obtain ⟨y, hy⟩ : ∃ y, xs[i + 1]? = some y := ⟨_, List.getElem?_eq_getElem (by rw [HN.out]; omega)⟩
      obtain ⟨L, off, rfl, hL, x0, x1, x2, x3⟩ := cc_cells (AA.out.next HK.out) hx
      obtain ⟨L', off', e', hL', y0, y1, y2, y3⟩ := cc_cells (AA.out.next HK.out) hy
      cases e'
      have HX := Lib.hid hx
      have HY := Lib.hid hy
      clear hx hy
      by_cases hle : y.t ≤ x.t
      · have hv : v = false := by rw [HV.out]; exact decide_eq_false fun h => (by have := ris_at h HX.out HY.out (by omega); omega)
        subst hv
        repeat (first | go_values | go_skip | go_guarded | go_step | go_upon | go_back)
        go_region
        all_goals
          repeat (first | go_values | go_skip | go_guarded | go_step | go_upon | go_back)
          go_ret
          exact ⟨rfl, HK.out.drew⟩
      · repeat (first | go_values | go_skip | go_guarded | go_step | go_upon | go_back)
        go_region
        all_goals
          repeat (first | go_values | go_skip | go_guarded | go_step | go_upon | go_back)
          go_roundw
          case rel =>
            refine ⟨i + 1, by simp, by omega, fun j a b hj h2 h3 => ?_, HK.out.drew⟩
            by_cases hji : j = i
            · subst hji
              have e1 := HX.out.symm.trans h2
              have e2 := HY.out.symm.trans h3
              injection e1 with e1
              injection e2 with e2
              rw [← e1, ← e2]; omega
            · exact HT.out j a b (by omega) h2 h3
          case measure => simp [intOf]; omega
    · have hlt' : ¬ ((i + 1 : Nat) : Int) < (n : Int) := by omega
      have hv : v = true := by
        rw [HV.out]
        exact decide_eq_true (ris_of fun j a b h2 h3 => HT.out j a b (by have := (List.getElem?_eq_some_iff.1 h3).1; have := HN.out; omega) h2 h3)
      subst hv
      repeat (first | go_values | go_skip | go_guarded | go_step | go_upon | go_back)
      go_ret
      exact ⟨rfl, HK.out⟩
set_option maxHeartbeats 1000000 in
theorem rlast_is' (A : Option Addr) (n c : Nat) (xs : List CV) (t : Int) (w : World) (hA : RowsAt 4 cC A xs w) (hn : xs.length = n) (h1 : n ≤ 1000000) :
    Calls Tryz.prog 20 #[.slice A n c, .int .i64 t] w fun e w' => e = .returned (.int .i64 (lasN xs t n)) ∧ Below w.heap.size w w' := by
  have AA := Lib.hid hA
  have HN := Lib.hid hn
  clear hA hn
  go_enter Tryz.func20, Tryz.ntmps20
  repeat (first | go_values | go_skip | go_guarded | go_step | go_upon | go_back)
  go_loopw [5, 6] (fun v u wr => ∃ i : Nat, u = .int .i64 (i : Int) ∧ i ≤ n ∧ v = .int .i64 (lasN xs t i) ∧ Below w.heap.size w wr) (fun _ u _ => n - (intOf u).toNat)
  case atStart => exact ⟨0, rfl, by omega, rfl, Below.refl _ _⟩
  case round =>
    obtain ⟨i, rfl, hi, rfl, hk⟩ := hrel
    have HK := Lib.hid hk
    clear hk
    by_cases hlt : i < n
    · have hlt' : (i : Int) < (n : Int) := by omega
      obtain ⟨x, hx⟩ : ∃ x, xs[i]? = some x := ⟨_, List.getElem?_eq_getElem (by rw [HN.out]; omega)⟩
      obtain ⟨L, off, rfl, hL, x0, x1, x2, x3⟩ := cc_cells (AA.out.next HK.out) hx
      by_cases hle : x.t ≤ t
      · have E := Lib.hid (lasN_yes hx hle)
        clear hx
        repeat (first | go_values | go_skip | go_guarded | go_step | go_upon | go_back)
        go_roundw
        case rel => exact ⟨i + 1, rfl, by omega, by rw [E.out], HK.out⟩
        case measure => simp [intOf]; omega
      · have E := Lib.hid (lasN_no hx hle)
        clear hx
        repeat (first | go_values | go_skip | go_guarded | go_step | go_upon | go_back)
        go_roundw
        case rel => exact ⟨i + 1, rfl, by omega, by rw [E.out], HK.out⟩
        case measure => simp [intOf]; omega
    · obtain rfl : i = n := by omega
      have hlt' : ¬ ((i : Nat) : Int) < (i : Int) := by omega
      repeat (first | go_values | go_skip | go_guarded | go_step | go_upon | go_back)
      go_ret
      exact ⟨rfl, HK.out⟩
/-- Is a change not behind an instant? -/
theorem upto_is (x : CV) (t : Int) (B : Nat) (w : World) (hB : w.cell? ⟨B, 0, none⟩ = some (.int .i64 t)) :
    Calls Tryz.prog 42 #[.agg #[.int .i64 x.t, .int .i64 x.of, .bool x.ds, .string ⟨x.ab.toArray⟩], .pointer (some ⟨B, 0, none⟩)] w fun e w' => e = .returned (.bool (decide (x.t ≤ t))) ∧ Below w.heap.size w w' := by
  have X := Lib.hid (BlkN.make (Below.refl w.heap.size w) #[.int .i64 x.t, .int .i64 x.of, .bool x.ds, .string ⟨x.ab.toArray⟩] 71)
  have hl : B < w.heap.size := cell_lt hB
  have c0 := (X.out.bel.cell (p := ⟨B, 0, none⟩) hl).trans hB
  obtain ⟨x0, x1, x2, x3⟩ := cel4 X.out.blk
  clear hB
  go_enter Tryz.func42, Tryz.ntmps42
  repeat (first | go_values | go_skip | go_guarded | go_step | go_upon | go_back)
  go_ret
  exact ⟨rfl, X.out.bel⟩
set_option maxHeartbeats 1000000 in
theorem tlast_is (A : Option Addr) (n c : Nat) (xs : List CV) (t : Int) (B : Nat) (w : World) (hA : RowsAt 4 cC A xs w) (hn : xs.length = n) (h1 : n ≤ 1000000) (hB : w.cell? ⟨B, 0, none⟩ = some (.int .i64 t)) :
    Calls Tryz.prog 41 #[.slice A n c, .func (.func 42) #[] #[.pointer (some ⟨B, 0, none⟩)]] w fun e w' => e = .returned (.int .i64 (lasN xs t n)) ∧ Below w.heap.size w w' := by
  have AA := Lib.hid hA
  have HN := Lib.hid hn
  have BB := Lib.hid hB
  have hl : B < w.heap.size := cell_lt hB
  have UP := Lib.hid (fun x W (k : Below w.heap.size w W) => upto_is x t B W ((k.cell (p := ⟨B, 0, none⟩) hl).trans hB))
  clear hA hn hB
  have hs : IntKind.i64.wrap ((n : Int) - 1) = (n : Int) - 1 := IntWalk.i64_in _ (by omega)
  go_enter Tryz.func41, Tryz.ntmps41
  repeat (first | go_values | go_skip | go_guarded | go_step | go_upon | go_back)
  go_loopw [5] (fun u wr => ∃ k : Nat, u = .int .i64 ((k : Int) - 1) ∧ k ≤ n ∧ lasN xs t n = lasN xs t k ∧ Below w.heap.size w wr) (fun u _ => (intOf u + 1).toNat)
  case atStart => exact ⟨n, rfl, by omega, rfl, Below.refl _ _⟩
  case round =>
    obtain ⟨k, rfl, hi, hq, hk⟩ := hrel
    have HK := Lib.hid hk
    have HQ := Lib.hid hq
    clear hk hq
    cases k with
    | zero =>
      have hge : ¬ ((0 : Nat) : Int) - 1 ≥ 0 := by omega
      repeat (first | go_values | go_skip | go_guarded | go_step | go_upon | go_back)
      go_ret
      exact ⟨by rw [HQ.out]; rfl, HK.out⟩
    | succ k =>
      have e0 : ((k + 1 : Nat) : Int) - 1 = (k : Int) := by omega
      simp only [e0]
      have hge : (k : Int) ≥ 0 := by omega
      have hs1 : IntKind.i64.wrap ((k : Int) - 1) = (k : Int) - 1 := IntWalk.i64_in _ (by omega)
      have hkn : (k : Int) < (n : Int) := by omega
      obtain ⟨x, hx⟩ : ∃ x, xs[k]? = some x := ⟨_, List.getElem?_eq_getElem (by rw [HN.out]; omega)⟩
      obtain ⟨L, off, rfl, hL, x0, x1, x2, x3⟩ := cc_cells (AA.out.next HK.out) hx
      by_cases hle : x.t ≤ t
      · have E := Lib.hid (lasN_yes hx hle)
        clear hx
        repeat (first
          | (go_at_call 42; refine (UP.out x _ HK.out).mono ?_; rintro e w1 ⟨rfl, k1⟩; have K1 := Lib.hid (bthen HK.out k1); clear k1; simp only [])
          | go_values | go_skip | go_guarded | go_step | go_upon | go_back)
        go_ret
        exact ⟨by rw [HQ.out, E.out]; rfl, K1.out⟩
      · have E := Lib.hid (lasN_no hx hle)
        clear hx
        repeat (first
          | (go_at_call 42; refine (UP.out x _ HK.out).mono ?_; rintro e w1 ⟨rfl, k1⟩; have K1 := Lib.hid (bthen HK.out k1); clear k1; simp only [])
          | go_values | go_skip | go_guarded | go_step | go_upon | go_back)
        go_roundw
        case rel => exact ⟨k, rfl, by omega, by rw [HQ.out, E.out], K1.out⟩
        case measure => simp [intOf] <;> omega
/-- What a table shows. -/
def atC : Option CV → Value
  | none => .tuple #[.agg #[.int .i64 0, .bool false, .string ⟨#[]⟩], .int .i64 16]
  | some x => .tuple #[.agg #[.int .i64 x.of, .bool x.ds, .string ⟨x.ab.toArray⟩], .int .i64 0]
set_option maxHeartbeats 1000000 in
theorem tat_is (A : Option Addr) (n c : Nat) (xs : List CV) (t : Int) (w : World) (hA : RowsAt 4 cC A xs w) (hn : xs.length = n) (h1 : n ≤ 1000000) :
    Calls Tryz.prog 21 #[.slice A n c, .int .i64 t] w fun e w' => e = .returned (atC (lasO xs t)) ∧ Below w.heap.size w w' := by
  have hmf : ∀ (fn : Fn) (first cap : Array Value) (w : World), (Instr.makeFunc fn first cap).run Tryz.prog w = .ok (.func fn first cap) w := fun _ _ _ _ => rfl
  have T0 := Lib.hid ((BlkN.make (Below.refl w.heap.size w) #[.int .i64 t] 3).more (.cells #[.int .i64 0, .bool false, .string ⟨#[]⟩] 41))
  have L0 := Lib.hid (BlkN.two w (.cells #[.int .i64 t] 3) #[.int .i64 0, .bool false, .string ⟨#[]⟩] 41)
  have TL := Lib.hid (fun W (k : Below w.heap.size w W) (hB : W.cell? ⟨w.heap.size, 0, none⟩ = some (.int .i64 t)) => tlast_is A n c xs t w.heap.size W (hA.next k) hn h1 hB)
  have AA := Lib.hid hA
  have HN := Lib.hid hn
  clear hA hn
  by_cases hz : lasN xs t n < 0
  · have HO : Hid (lasO xs t = none) := Lib.hid (lasO_none (by rw [HN.out]; exact hz))
    generalize lasN xs t n = p at *
    rw [HO.out]
    go_enter Tryz.func21, Tryz.ntmps21
    repeat (first
      | (go_at_call 41; refine (TL.out _ T0.out.bel (cel1 T0.out.blk)).mono ?_; rintro e w1 ⟨rfl, k1⟩; have L1 := Lib.hid (L0.out.next k1); clear k1; obtain ⟨z0, z1, z2⟩ := cel3 L1.out.blk; have f0 := frz (j := 0) L1.out.blk; have f1 := frz (j := 1) L1.out.blk; have f2 := frz (j := 2) L1.out.blk; simp only [])
      | go_values | go_skip | go_guarded | go_step | go_upon | go_back)
    refine (L1.out.set3).ret fun W' B => ?_
    obtain ⟨c0, c1, c2⟩ := cel3 B.blk
    exact bodyPost_ret (by simp [results, Tryz.results21, go_sem, c0, c1, c2, atC]) rfl ⟨rfl, B.bel⟩
  · obtain ⟨k, x, hk, hkl, hx, ho⟩ := lasO_some (l := xs) (t := t) (by rw [HN.out]; exact hz)
    have HO := Lib.hid ho
    have HX := Lib.hid hx
    rw [HN.out] at hk hkl
    rw [hk] at hz TL
    have hkn : (k : Int) < (n : Int) := by omega
    have hk0 : (0 : Int) ≤ (k : Int) := by omega
    clear hk hx ho
    rw [HO.out]
    go_enter Tryz.func21, Tryz.ntmps21
    repeat (first
      | (go_at_call 41; refine (TL.out _ T0.out.bel (cel1 T0.out.blk)).mono ?_; rintro e w1 ⟨rfl, k1⟩; have L1 := Lib.hid (L0.out.next k1); clear k1; obtain ⟨z0, z1, z2⟩ := cel3 L1.out.blk; have f0 := frz (j := 0) L1.out.blk; have f1 := frz (j := 1) L1.out.blk; have f2 := frz (j := 2) L1.out.blk; obtain ⟨L, off, rfl, hL, x0, x1, x2, x3⟩ := cc_cells (AA.out.next L1.out.bel) HX.out; simp only [])
      | go_values | go_skip | go_guarded | go_step | go_upon | go_back)
    refine (L1.out.set3).ret fun W' B => ?_
    obtain ⟨c0, c1, c2⟩ := cel3 B.blk
    exact bodyPost_ret (by simp [results, Tryz.results21, go_sem, c0, c1, c2, atC]) rfl ⟨rfl, B.bel⟩
end Go.Proofs.YtdmfgechoanmlaaGreatDoor

namespace Go.Proofs.YtdmfgechoanmlaaGreatDoor
open Go Go.RowKit Go.Shelf
attribute [local go_sem] Oper.semAt_some

def OwnV (b : Nat) (v : Value) (L : List CV) (W : World) : Prop := W.ownsRow b 71 4 v L.length (fcl (fun x => (cC x).toList) L) ∧ (L.length = 0 → v = .slice none 0 0)
theorem OwnV.slice {b : Nat} {v : Value} {L : List CV} {W : World} (h : OwnV b v L W) : ∃ A c, v = .slice A L.length c := by
  rcases h.1.2 with ⟨e, hn⟩ | ⟨g', cap, cur, e, -⟩
  · exact ⟨none, 0, by rw [e, hn]⟩
  · exact ⟨_, _, e⟩
theorem OwnV.alloc {b : Nat} {v : Value} {L : List CV} {W : World} (h : OwnV b v L W) (o : Obj) : OwnV b v L (W.alloc o) := ⟨h.1.alloc _, h.2⟩
theorem own_below {W W' : World} {b k n : Nat} {e : TypeId} {v : Value} {xs : List Value} (h : W.ownsRow b e k v n xs) (hg : W.grownBy W' v.ownBlock) (hb : b ≤ W.heap.size) : Below b W W' := by
  refine (Below.refl b W).grown hg hb fun j hj => ?_
  rcases h.2 with ⟨rfl, -⟩ | ⟨g, cap, cur, rfl, h1, -⟩
  · simp [Value.ownBlock] at hj
  · simp [Value.ownBlock] at hj; omega
theorem fil_yes {l : List CV} {p : CV → Bool} {i : Nat} {x : CV} (hx : l[i]? = some x) (h : p x = true) : (l.take (i + 1)).filter p = (l.take i).filter p ++ [x] := by
  obtain ⟨h1, h2⟩ := List.getElem?_eq_some_iff.1 hx
  rw [List.take_succ_eq_append_getElem h1, h2, List.filter_append, List.filter_cons_of_pos h, List.filter_nil]
theorem fil_no {l : List CV} {p : CV → Bool} {i : Nat} {x : CV} (hx : l[i]? = some x) (h : p x = false) : (l.take (i + 1)).filter p = (l.take i).filter p := by
  obtain ⟨h1, h2⟩ := List.getElem?_eq_some_iff.1 hx
  rw [List.take_succ_eq_append_getElem h1, h2, List.filter_append, List.filter_cons_of_neg (by rw [h]; simp), List.filter_nil, List.append_nil]
theorem fcl_snoc (L : List CV) (x : CV) : fcl (fun x => (cC x).toList) (L ++ [x]) = fcl (fun x => (cC x).toList) L ++ (cC x).toList := by rw [fcl_app]; simp [fcl]
theorem OwnV.push {b : Nat} {v : Value} {L : List CV} {W : World} {x : CV} (h : W.ownsRow b 71 4 v (L.length + 1) (fcl (fun x => (cC x).toList) L ++ (cC x).toList)) : OwnV b v (L ++ [x]) W :=
  ⟨by rw [List.length_append, List.length_singleton, fcl_snoc]; exact h, fun h => by simp at h⟩
theorem wpListIn_tpush {F : Fence} {n : Nat} (w : World) {ops : Array Oper} {rest : List Oper} {o : Oper} {a : Act} {Q : Exit → Act → World → Prop}
    (hg : o.guard = none) (s x : Operand) (hop : o.op = Op.call { callee := Callee.builtin Builtin.append, args := #[s, x], argTypes := #[67, 67] })
    (base : Nat) (v : Value) (k : Nat) (xs : List Value) (hs : a.eval s = v) (hown : w.ownsRow base 71 4 v k xs) (h0 : k = 0 → v = .slice none 0 0) (hl0 : xs.length = k * 4) (ad : Addr) (c : Nat) (news : List Value) (hx : a.eval x = .slice (some ad) 1 c) (hn : news.length = 4)
    (hc : ∀ j u, news[j]? = some u → w.cell? (ad.add j) = some u) (h1c : ∀ u ∈ news, u.oneCell' = true) (b1 : k ≤ 1000000) (b3 : base ≤ w.heap.size)
    (hK : ∀ v' w', w'.ownsRow base 71 4 v' (k + 1) (xs ++ news) → w.grownBy w' v.ownBlock → KpC 0 w w' → wpListIn F n Tryz.prog ops Q rest (a.put o.dst v') w') :
    wpListIn F n Tryz.prog ops Q (o :: rest) a w := by
  obtain ⟨i, hi, hz, hsz, hby⟩ := info_parts ch_info
  refine wpListIn_plain hg fun K hK' => ?_
  obtain ⟨v', w', hrun, r1, r2, r3⟩ := run_cpush _ o.type i Tryz.underlying67 hi hz hsz hby w base v k xs hown h0 hl0 ad c news hn hc h1c b1 b3
  unfold Oper.wpIn
  refine ⟨?_, ?_⟩
  · simp [Oper.about, hop, resolve, Target.leads, Sem.run_pure]
  · rw [Oper.semAt_plain F _ _ (by rw [hop]; intro c hc'; cases hc')]
    simp [execOp, hop, resolve, invoke, builtin, hs, hx, hrun, Result.andThen]
    exact hK' _ _ (hK v' w' r1 r2 r3)
/-- What Cut answers. -/
def CutC (L : List CV) (w : World) (e : Ending) (w' : World) : Prop := ∃ A c, e = .returned (.slice A L.length c) ∧ w'.ownsRow w.heap.size 71 4 (.slice A L.length c) L.length (fcl (fun x => (cC x).toList) L) ∧ Below w.heap.size w w'
set_option maxRecDepth 20000 in
set_option maxHeartbeats 2000000 in
theorem tcut_in (N : Nat) (hN : 1 ≤ N) (A : Option Addr) (n c : Nat) (xs : List CV) (a b : Int) (w : World) (hA : RowsAt 4 cC A xs w) (hn : xs.length = n) (h1 : n ≤ 1000) :
    CallsIn Fence.wide N Tryz.prog 25 #[.slice A n c, .int .i64 a, .int .i64 b] w (CutC (cutC xs a b) w) := by
  have AT := Lib.hid (fun W (k : Below w.heap.size w W) => tat_is A n c xs a W (hA.next k) hn (by omega))
  have AA := Lib.hid hA
  have HN := Lib.hid hn
  clear hA hn
  obtain ⟨p, hp⟩ : ∃ p : CV → Bool, (fun x : CV => decide (a < x.t ∧ x.t ≤ b)) = p := ⟨_, rfl⟩
  have HP := Lib.hid (fun x : CV => congrFun hp x)
  have CU : cutC xs a b = ((lasO xs a).toList.map fun c => ⟨a, c.of, c.ds, c.ab⟩) ++ xs.filter p := by unfold cutC; rw [← hp]
  have P2 := Lib.hid hp
  rw [CU]
  clear CU hp
  obtain ⟨o, ho⟩ : ∃ o, lasO xs a = o := ⟨_, rfl⟩
  rw [ho] at AT ⊢
  clear ho
  obtain ⟨hd, hhd⟩ : ∃ hd : List CV, (o.toList.map fun c => (⟨a, c.of, c.ds, c.ab⟩ : CV)) = hd := ⟨_, rfl⟩
  rw [hhd]
  have HH : Hid (hd.length ≤ 1) := Lib.hid (by rw [← hhd]; cases o <;> simp)
  refine callsIn_of_wp Tryz.func25 rfl trivial ?_ rfl
  simp only [Tryz.ntmps25, List.size_toArray, List.length_cons, List.length_nil, Nat.reduceAdd, Nat.reduceSub, Array.replicate_succ, Array.replicate_zero, List.push_toArray, List.append_toArray, List.nil_append, List.cons_append]
  cases o with
  | none =>
    have HE : Hid ([] = hd) := Lib.hid hhd
    clear hhd
    gi_wp2_with (refine ⟨trivial, ?_⟩; gi_at_call 21; refine (callsIn_wide.2 (AT.out _ (Below.refl _ _))).mono ?_; rintro e w1 ⟨rfl, k1⟩; have K1 := Lib.hid k1; clear k1; simp only [atC])
    have O0 : Hid (OwnV w.heap.size (.slice none 0 0) hd (w1.alloc (.cells #[.int .i64 0, .bool false, .string ⟨#[]⟩] 41))) := Lib.hid (by rw [← HE.out]; exact ⟨World.ownsRow_nil _ _ _ _, fun _ => rfl⟩)
    have K0 : Hid (Below w.heap.size w (w1.alloc (.cells #[.int .i64 0, .bool false, .string ⟨#[]⟩] 41))) := Lib.hid (bmk K1.out _)
    gi_loopw [7, 28] (fun v u wr => ∃ i : Nat, u = .int .i64 (i : Int) ∧ i ≤ n ∧ OwnV w.heap.size v (hd ++ (xs.take i).filter p) wr ∧ Below w.heap.size w wr) (fun _ u _ => n - (intOf u).toNat)
    case atStart => exact ⟨0, rfl, by omega, by rw [List.take_zero, List.filter_nil, List.append_nil]; exact O0.out, K0.out⟩
    case round =>
      rename_i v _
      obtain ⟨i, rfl, hi, ho, hk⟩ := hrel
      have HK := Lib.hid hk
      have HO := Lib.hid ho
      have hks := hk.size
      clear hk ho O0 K0
      by_cases hlt : i < n
      · have hlt' : (i : Int) < (n : Int) := by omega
        obtain ⟨x, hx⟩ : ∃ x, xs[i]? = some x := ⟨_, List.getElem?_eq_getElem (by rw [HN.out]; omega)⟩
        obtain ⟨L, off, rfl, hL, x0, x1, x2, x3⟩ := cc_cells (AA.out.next HK.out) hx
        have HX := Lib.hid hx
        have bX : RowKit.Below wr.heap.size wr (wr.alloc (.cells #[.int .i64 x.t, .int .i64 x.of, .bool x.ds, .string ⟨x.ab.toArray⟩] 71)) := (Below.refl _ wr).alloc (Nat.le_refl _) _
        have B1 := Lib.hid (bthen HK.out bX)
        have hlen : (hd ++ (xs.take i).filter p).length ≤ 2000 := by
          rw [List.length_append]
          have e1 := List.length_filter_le p (xs.take i)
          have e2 := List.length_take_le i xs
          have e3 := HH.out
          omega
        have HL := Lib.hid hlen
        clear hx bX hlen
        by_cases g1 : x.t > a
        · by_cases g2 : x.t ≤ b
          · have FY := Lib.hid (fil_yes (p := p) HX.out (by rw [← HP.out x]; exact decide_eq_true ⟨g1, g2⟩))
            gi_wp2_with (gi_at_builtin; refine wpListIn_tpush _ rfl _ _ rfl w.heap.size _ _ _ rfl ((HO.out.1.alloc _).alloc _) HO.out.2 (fcl_len cC_len _) ⟨wr.heap.size + 1, 0, none⟩ 1 (cC x).toList rfl rfl (by have := ch_new (wr.alloc (.cells #[.int .i64 x.t, .int .i64 x.of, .bool x.ds, .string ⟨x.ab.toArray⟩] 71)) x 71; rwa [World.size_alloc] at this) (cC_one x) (by have := HL.out; omega) (by simp; omega) ?_; intro v' w3 hown' hgrow hkp; have OW := Lib.hid (OwnV.push hown'); have K3 := Lib.hid ((bmk B1.out _).trans (own_below ((HO.out.1.alloc _).alloc _) hgrow (by simp; omega))); clear hown' hgrow hkp; simp only [])
            go_roundw
            case rel => exact ⟨i + 1, rfl, by omega, by rw [FY.out, ← List.append_assoc]; exact OW.out, K3.out⟩
            case measure => simp [intOf]; omega
          · have FN := Lib.hid (fil_no (p := p) HX.out (by rw [← HP.out x]; exact decide_eq_false fun h => g2 h.2))
            gi_wp2
            go_roundw
            case rel => exact ⟨i + 1, rfl, by omega, by rw [FN.out]; exact HO.out.alloc _, B1.out⟩
            case measure => simp [intOf]; omega
        · have FN := Lib.hid (fil_no (p := p) HX.out (by rw [← HP.out x]; exact decide_eq_false fun h => g1 h.1))
          gi_wp2
          go_roundw
          case rel => exact ⟨i + 1, rfl, by omega, by rw [FN.out]; exact HO.out.alloc _, B1.out⟩
          case measure => simp [intOf]; omega
      · obtain rfl : i = n := by omega
        have hlt' : ¬ ((i : Nat) : Int) < (i : Int) := by omega
        have TK : xs.take i = xs := List.take_of_length_le (by rw [HN.out]; omega)
        rw [TK] at HO
        obtain ⟨A', c', rfl⟩ := HO.out.slice
        gi_wp2
        exact bodyPost_ret (results_tmp rfl _ _ _) rfl ⟨A', c', by rw [List.length_append]; rfl, HO.out.1, HK.out⟩
  | some y =>
    have HE : Hid ([(⟨a, y.of, y.ds, y.ab⟩ : CV)] = hd) := Lib.hid hhd
    clear hhd
    gi_wp2_with (first
      | (refine ⟨trivial, ?_⟩; gi_at_call 21; refine (callsIn_wide.2 (AT.out _ (Below.refl _ _))).mono ?_; rintro e w1 ⟨rfl, k1⟩; have K1 := Lib.hid k1; have hs1 := k1.size; clear k1; simp only [atC])
      | (gi_at_builtin; refine wpListIn_tpush _ rfl _ _ rfl w.heap.size _ _ [] rfl (World.ownsRow_nil _ _ _ _) (fun _ => rfl) rfl ⟨w1.heap.size + 1, 0, none⟩ 1 (cC ⟨a, y.of, y.ds, y.ab⟩).toList rfl rfl (by have := ch_new (w1.alloc (.cells #[.int .i64 y.of, .bool y.ds, .string ⟨y.ab.toArray⟩] 41)) ⟨a, y.of, y.ds, y.ab⟩ 71; rwa [World.size_alloc] at this) (cC_one _) (by omega) (by simp; omega) ?_; intro v' w3 hown' hgrow hkp; have O0 : Hid (OwnV w.heap.size v' hd w3) := Lib.hid (by rw [← HE.out]; exact OwnV.push (L := []) hown'); have K0 : Hid (Below w.heap.size w w3) := Lib.hid ((bmk (bmk K1.out _) _).trans (own_below (World.ownsRow_nil _ w.heap.size 71 4) hgrow (by simp; omega))); clear hown' hgrow hkp; simp only []))
    gi_loopw [7, 28] (fun v u wr => ∃ i : Nat, u = .int .i64 (i : Int) ∧ i ≤ n ∧ OwnV w.heap.size v (hd ++ (xs.take i).filter p) wr ∧ Below w.heap.size w wr) (fun _ u _ => n - (intOf u).toNat)
    case atStart => exact ⟨0, rfl, by omega, by rw [List.take_zero, List.filter_nil, List.append_nil]; exact O0.out, K0.out⟩
    case round =>
      rename_i v _
      obtain ⟨i, rfl, hi, ho, hk⟩ := hrel
      have HK := Lib.hid hk
      have HO := Lib.hid ho
      have hks := hk.size
      clear hk ho O0 K0
      by_cases hlt : i < n
      · have hlt' : (i : Int) < (n : Int) := by omega
        obtain ⟨x, hx⟩ : ∃ x, xs[i]? = some x := ⟨_, List.getElem?_eq_getElem (by rw [HN.out]; omega)⟩
        obtain ⟨L, off, rfl, hL, x0, x1, x2, x3⟩ := cc_cells (AA.out.next HK.out) hx
        have HX := Lib.hid hx
        have bX : RowKit.Below wr.heap.size wr (wr.alloc (.cells #[.int .i64 x.t, .int .i64 x.of, .bool x.ds, .string ⟨x.ab.toArray⟩] 71)) := (Below.refl _ wr).alloc (Nat.le_refl _) _
        have B1 := Lib.hid (bthen HK.out bX)
        have hlen : (hd ++ (xs.take i).filter p).length ≤ 2000 := by
          rw [List.length_append]
          have e1 := List.length_filter_le p (xs.take i)
          have e2 := List.length_take_le i xs
          have e3 := HH.out
          omega
        have HL := Lib.hid hlen
        clear hx bX hlen
        by_cases g1 : x.t > a
        · by_cases g2 : x.t ≤ b
          · have FY := Lib.hid (fil_yes (p := p) HX.out (by rw [← HP.out x]; exact decide_eq_true ⟨g1, g2⟩))
            gi_wp2_with (gi_at_builtin; refine wpListIn_tpush _ rfl _ _ rfl w.heap.size _ _ _ rfl ((HO.out.1.alloc _).alloc _) HO.out.2 (fcl_len cC_len _) ⟨wr.heap.size + 1, 0, none⟩ 1 (cC x).toList rfl rfl (by have := ch_new (wr.alloc (.cells #[.int .i64 x.t, .int .i64 x.of, .bool x.ds, .string ⟨x.ab.toArray⟩] 71)) x 71; rwa [World.size_alloc] at this) (cC_one x) (by have := HL.out; omega) (by simp; omega) ?_; intro v' w3 hown' hgrow hkp; have OW := Lib.hid (OwnV.push hown'); have K3 := Lib.hid ((bmk B1.out _).trans (own_below ((HO.out.1.alloc _).alloc _) hgrow (by simp; omega))); clear hown' hgrow hkp; simp only [])
            go_roundw
            case rel => exact ⟨i + 1, rfl, by omega, by rw [FY.out, ← List.append_assoc]; exact OW.out, K3.out⟩
            case measure => simp [intOf]; omega
          · have FN := Lib.hid (fil_no (p := p) HX.out (by rw [← HP.out x]; exact decide_eq_false fun h => g2 h.2))
            gi_wp2
            go_roundw
            case rel => exact ⟨i + 1, rfl, by omega, by rw [FN.out]; exact HO.out.alloc _, B1.out⟩
            case measure => simp [intOf]; omega
        · have FN := Lib.hid (fil_no (p := p) HX.out (by rw [← HP.out x]; exact decide_eq_false fun h => g1 h.1))
          gi_wp2
          go_roundw
          case rel => exact ⟨i + 1, rfl, by omega, by rw [FN.out]; exact HO.out.alloc _, B1.out⟩
          case measure => simp [intOf]; omega
      · obtain rfl : i = n := by omega
        have hlt' : ¬ ((i : Nat) : Int) < (i : Int) := by omega
        have TK : xs.take i = xs := List.take_of_length_le (by rw [HN.out]; omega)
        rw [TK] at HO
        obtain ⟨A', c', rfl⟩ := HO.out.slice
        gi_wp2
        exact bodyPost_ret (results_tmp rfl _ _ _) rfl ⟨A', c', by rw [List.length_append]; rfl, HO.out.1, HK.out⟩
theorem tcut_is (A : Option Addr) (n c : Nat) (xs : List CV) (a b : Int) (w : World) (hA : RowsAt 4 cC A xs w) (hn : xs.length = n) (h1 : n ≤ 1000) :
    Calls Tryz.prog 25 #[.slice A n c, .int .i64 a, .int .i64 b] w (CutC (cutC xs a b) w) :=
  callsIn_wide.1 (tcut_in 3 (by omega) A n c xs a b w hA hn h1)
end Go.Proofs.YtdmfgechoanmlaaGreatDoor
