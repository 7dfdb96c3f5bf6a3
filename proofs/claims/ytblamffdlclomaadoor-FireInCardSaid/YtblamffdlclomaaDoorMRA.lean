/- Arrays of numbers compare equal exactly when their lists of numbers are equal, whatever the program; no number of 64 bits is left out.
The contracts of the document's answer's leap, Long, week and Days; nothing that was in memory changes.
The contract of the document's answer's Day: the day that a day of a month is, or that there is none; nothing that was in memory changes.
The contract of the document's answer's put: a firing into a row, behind all that are no later; nothing that was in memory changes.
The contract of the document's answer's put: a firing into no row.
The contract of the document's answer's All: all firings of rules in some years, in order; nothing that was in memory changes. -/
import Derived.Laws.StructEq
import Derived.Below
import Derived.Test.YtblamffdlclomaaDoorBlN
import Derived.Test.YtblamffdlclomaaDoorRefB
import Derived.Test.YtblamffdlclomaaDoorDfp
import Derived.Deep.QuietTactic
import Derived.BigQuiet
import Derived.Test.YtblamffdlclomaaDoorFrC
import Derived.Test.YtblamffdlclomaaDoorSoH
import Derived.Test.YtblamffdlclomaaDoorRvD
import Derived.Laws.AppendOwnNone
import Derived.Test.YtblamffdlclomaaDoorFrW
import Derived.Lib.MinMax
namespace Go.Proofs.YtblamffdlclomaaDoor
open Go.RowKit

def cellI (n : Int) : Value := .int .i64 n

section
variable {P : Program} (w : World)

theorem all_eq_ints : ∀ (xs ys : List Int), xs.length = ys.length → ((List.range xs.length).all fun i => xs.getD i 0 == ys.getD i 0) = (xs == ys)
  | [], [], _ => rfl
  | x :: xs, y :: ys, h => by
    have ih := all_eq_ints xs ys (by simpa using h)
    rw [List.length_cons, List.range_succ_eq_map, List.all_cons, List.all_map]
    simp only [List.getD_cons_zero, Function.comp_def, List.getD_cons_succ, ih]
    simp [List.cons_beq_cons]
  | [], _ :: _, h => by simp at h
  | _ :: _, [], h => by simp at h

theorem equalIn_ints (d : Nat) (t e : TypeId) (n : Nat) (ht : P.underlying t = some (.array n e)) (he : P.underlying e = some (.int .i64)) (hsz : ∀ w, (sizeOf e).run P w = .ok 1 w)
    (xs ys : List Int) (hx : xs.length = n) (hy : ys.length = n) :
    (Op.equalIn (d + 2) t (.agg (xs.map cellI).toArray) (.agg (ys.map cellI).toArray)).run P w = .ok (xs == ys) w := by
  rw [← all_eq_ints xs ys (hx.trans hy.symm), hx, List.range_eq_range', Op.equalIn]
  simp only [Sem.run_bind, run_underlying ht, Result.andThen_ok, hsz, Std.Legacy.Range.forIn_eq_forIn_range', Std.Legacy.Range.size, Nat.sub_zero, Nat.add_sub_cancel, Nat.div_one]
  have hl : ∀ i ∈ List.range' 0 n 1, i < n := fun i hi => by simpa using (List.mem_range'_1.1 hi).2
  generalize List.range' 0 n 1 = l at hl ⊢
  induction l with
  | nil => simp
  | cons i l ih =>
    have hi : i < n := hl i (by simp)
    have px : (part e (xs.map cellI).toArray (i * 1)).run P w = .ok (cellI (xs.getD i 0)) w := by
      simp [part, isAgg, run_underlying he, List.getD, List.getElem?_eq_getElem (show i < xs.length by omega)]
    have py : (part e (ys.map cellI).toArray (i * 1)).run P w = .ok (cellI (ys.getD i 0)) w := by
      simp [part, isAgg, run_underlying he, List.getD, List.getElem?_eq_getElem (show i < ys.length by omega)]
    have pe : (Op.equalIn (d + 1) e (cellI (xs.getD i 0)) (cellI (ys.getD i 0))).run P w = .ok (xs.getD i 0 == ys.getD i 0) w := by
      rw [cellI, cellI, run_equalIn_int w d e .i64 .i64 _ _ he]
    simp only [List.forIn_cons, Sem.run_bind, px, py, pe, Result.andThen_ok, List.all_cons]
    cases hb : (xs.getD i 0 == ys.getD i 0)
    · simp
    · simp only [Bool.not_true, Bool.false_eq_true, if_false, Sem.run_pure, Result.andThen_ok, Bool.true_and]
      exact ih fun j hj => hl j (by simp [hj])

theorem eql_ints (t e : TypeId) (n : Nat) (ht : P.underlying t = some (.array n e)) (he : P.underlying e = some (.int .i64)) (hsz : ∀ w, (sizeOf e).run P w = .ok 1 w)
    (xs ys : List Int) (hx : xs.length = n) (hy : ys.length = n) :
    (binOp .eql t (.agg (xs.map cellI).toArray) (.agg (ys.map cellI).toArray)).run P w = .ok (.bool (xs == ys)) w := by
  rw [run_eql_struct, equalIn_ints w 9998 t e n ht he hsz xs ys hx hy]
  rfl

theorem neq_ints (t e : TypeId) (n : Nat) (ht : P.underlying t = some (.array n e)) (he : P.underlying e = some (.int .i64)) (hsz : ∀ w, (sizeOf e).run P w = .ok 1 w)
    (xs ys : List Int) (hx : xs.length = n) (hy : ys.length = n) :
    (binOp .neq t (.agg (xs.map cellI).toArray) (.agg (ys.map cellI).toArray)).run P w = .ok (.bool (!(xs == ys))) w := by
  rw [run_neq_struct, equalIn_ints w 9998 t e n ht he hsz xs ys hx hy]
  rfl

end

theorem bcell {W w1 : World} (hb : Below W.heap.size W w1) : (∀ b o, b < W.heap.size → w1.cell? ⟨b, o, none⟩ = W.cell? ⟨b, o, none⟩) ∧ (∀ b o, b < W.heap.size → w1.frozen? ⟨b, o, none⟩ = W.frozen? ⟨b, o, none⟩) :=
  ⟨fun b o h => hb.cell (p := ⟨b, o, none⟩) h, fun b o h => hb.frozen (p := ⟨b, o, none⟩) h⟩

theorem below_after {B : Nat} {a w1 w2 : World} (h : Below B a w1) (hb : Below w1.heap.size w1 w2) (hB : B ≤ w1.heap.size) : Below B a w2 := h.trans (hb.mono hB)
end Go.Proofs.YtblamffdlclomaaDoor

namespace Go.Proofs.YtblamffdlclomaaDoor
open Go Go.RowKit

theorem xleap_any (y : Int) (w : World) :
    Calls Tryd.prog 39 #[.int .i64 y] w fun e w' => e = .returned (.bool (lpB y)) ∧ w = w' := by
  rcases leap_cases y with ⟨h, h1, h2⟩ | ⟨h, h1, h2, h3⟩ | ⟨h, h1, h2, h3⟩ | ⟨h, h1, h3⟩
  all_goals
    have H := Lib.hid h
    clear h
    go_enter Tryd.func39, Tryd.ntmps39
    go_wp2
    go_ret
    rw [H.out]
    exact ⟨rfl, rfl⟩

theorem wk_t (a : Int) : ∃ t : Int, (a + 4).tmod 7 = t ∧ -6 ≤ t ∧ t ≤ 6 ∧ (t + 7).tmod 7 = wkD a := by
  refine ⟨_, rfl, ?_, ?_, ?_⟩
  · rw [Int.tmod_eq_emod]; split <;> omega
  · rw [Int.tmod_eq_emod]; split <;> omega
  · have h : (a + 4).tmod 7 = (a + 4) % 7 ∨ (a + 4).tmod 7 = (a + 4) % 7 - 7 ∧ (a + 4) % 7 ≠ 0 := by
      rw [Int.tmod_eq_emod]
      split
      · exact .inl (by omega)
      · exact .inr ⟨rfl, by omega⟩
    rw [Int.tmod_eq_emod_of_nonneg (by omega)]
    unfold wkD
    omega
theorem xweek_any (a : Int) (w : World) (h1 : -50000000 ≤ a) (h2 : a ≤ 50000000) :
    Calls Tryd.prog 28 #[.int .i64 a] w fun e w' => e = .returned (.int .i64 (wkD a)) ∧ w = w' := by
  obtain ⟨t, t1, t2, t3, t4⟩ := wk_t a
  go_enter Tryd.func28, Tryd.ntmps28
  go_wp2
  go_ret
  exact ⟨rfl, rfl⟩

set_option maxHeartbeats 1600000 in
theorem xlong_is (y m : Int) (w : World) (h1 : 1 ≤ m) (h2 : m ≤ 12) :
    Calls Tryd.prog 27 #[.int .i64 y, .int .i64 m] w fun e w' => e = .returned (.int .i64 (dim y m)) ∧ Below w.heap.size w w' := by
  rw [← rdim_dim y m h1 h2]
  have X := Lib.hid (BlkN.make (Below.refl w.heap.size w) #[.int .i64 31, .int .i64 28, .int .i64 31, .int .i64 30, .int .i64 31, .int .i64 30, .int .i64 31, .int .i64 31, .int .i64 30, .int .i64 31, .int .i64 30, .int .i64 31] 3)
  have c0 := X.out.cell 0
  have c1 := X.out.cell 1
  have c2 := X.out.cell 2
  have c3 := X.out.cell 3
  have c4 := X.out.cell 4
  have c5 := X.out.cell 5
  have c6 := X.out.cell 6
  have c7 := X.out.cell 7
  have c8 := X.out.cell 8
  have c9 := X.out.cell 9
  have c10 := X.out.cell 10
  have c11 := X.out.cell 11
  obtain rfl | rfl | rfl | rfl | rfl | rfl | rfl | rfl | rfl | rfl | rfl | rfl : m = 1 ∨ m = 2 ∨ m = 3 ∨ m = 4 ∨ m = 5 ∨ m = 6 ∨ m = 7 ∨ m = 8 ∨ m = 9 ∨ m = 10 ∨ m = 11 ∨ m = 12 := by omega
  rotate_left
  · cases hl : lpB y
    all_goals
      have HR : Hid (rdim y 2 = if lpB y then 29 else 28) := rfl
      go_enter Tryd.func27, Tryd.ntmps27
      go_wp2_with (go_at_call 39; refine (xleap_any _ _).mono ?_; rintro e w' ⟨rfl, rfl⟩)
      go_ret
      rw [HR.out, hl]
      exact ⟨rfl, X.out.bel⟩
  all_goals
    go_enter Tryd.func27, Tryd.ntmps27
    go_wp2
    go_ret
    exact ⟨rfl, X.out.bel⟩

theorem ny_70 : ny 1970 = 0 := by decide
set_option maxHeartbeats 1600000 in
theorem xdays_is (y m : Int) (w : World) (hy1 : -90000 ≤ y) (hy2 : y ≤ 90000) (h1 : 1 ≤ m) (h2 : m ≤ 12) :
    Calls Tryd.prog 26 #[.int .i64 y, .int .i64 m] w fun e w' => e = .returned (.int .i64 (ny y + cum y m)) ∧ Below w.heap.size w w' := by
  have C1 := Lib.hid (cum_1 y)
  have N7 := Lib.hid ny_70
  have ynb := ny_bd y (by omega) (by omega)
  go_enter Tryd.func26, Tryd.ntmps26
  go_wp2
  go_loop [5, 6] (fun n t => ∃ a : Int, 1970 ≤ a ∧ (a ≤ y ∨ a = 1970) ∧ t = .int .i64 a ∧ n = .int .i64 (ny a)) (fun _ t => (y - intOf t).toNat)
  case atStart => exact ⟨1970, by omega, by omega, rfl, by rw [N7.out]⟩
  case round =>
    obtain ⟨a, a1, a2, rfl, rfl⟩ := hrel
    have nb := ny_bd a (by omega) (by omega)
    by_cases hc : a < y
    · have HS := Lib.hid (ny_succ a)
      cases hl : lpB a
      · have l0 := Lib.hid (lpB_no hl)
        go_wp2_with (go_at_call 39; refine (xleap_any _ _).mono ?_; rintro e w' ⟨rfl, rfl⟩; rw [hl])
        go_round
        case rel => exact ⟨a + 1, by omega, by omega, rfl, by rw [HS.out, l0.out]; exact congrArg _ (by omega)⟩
        case measure => simp [intOf]; omega
      · have l0 := Lib.hid (lpB_yes hl)
        go_wp2_with (go_at_call 39; refine (xleap_any _ _).mono ?_; rintro e w' ⟨rfl, rfl⟩; rw [hl])
        go_round
        case rel => exact ⟨a + 1, by omega, by omega, rfl, by rw [HS.out, l0.out]⟩
        case measure => simp [intOf]; omega
    · go_wp2
      go_loop [5, 7] (fun n t => ∃ b c : Int, y ≤ b ∧ (b = y ∨ b ≤ 1970) ∧ ((1970 ≤ b ∧ c = ny y) ∨ (b ≤ 1970 ∧ c = ny y - ny b)) ∧ t = .int .i64 b ∧ n = .int .i64 c) (fun _ t => (1970 - intOf t).toNat)
      case atStart => exact ⟨y, ny a, by omega, .inl rfl, by
        have := N7.out
        by_cases h : 1970 ≤ y
        · obtain rfl : a = y := by omega
          exact .inl ⟨h, rfl⟩
        · obtain rfl : a = 1970 := by omega
          exact .inr ⟨by omega, by omega⟩, rfl, rfl⟩
      case round =>
        clear hc a1 a2 nb
        obtain ⟨b, c, b1, b2, b3, rfl, rfl⟩ := hrel
        have nb := ny_bd b (by omega) (by omega)
        by_cases hc : b < 1970
        · have HS := Lib.hid (ny_succ b)
          have hcc : c = ny y - ny b := by omega
          have C := Lib.hid hcc
          have cb : -90000000 ≤ c ∧ c ≤ 90000000 := by omega
          clear hcc b3
          cases hl : lpB b
          · have l0 := Lib.hid (lpB_no hl)
            go_wp2_with (go_at_call 39; refine (xleap_any _ _).mono ?_; rintro e w' ⟨rfl, rfl⟩; rw [hl])
            go_round
            case rel => exact ⟨b + 1, c - 365, by omega, by omega, .inr ⟨by omega, by have := C.out; have := HS.out; have := l0.out; omega⟩, rfl, rfl⟩
            case measure => simp [intOf]; omega
          · have l0 := Lib.hid (lpB_yes hl)
            go_wp2_with (go_at_call 39; refine (xleap_any _ _).mono ?_; rintro e w' ⟨rfl, rfl⟩; rw [hl])
            go_round
            case rel => exact ⟨b + 1, c - 365 - 1, by omega, by omega, .inr ⟨by omega, by have := C.out; have := HS.out; have := l0.out; omega⟩, rfl, rfl⟩
            case measure => simp [intOf]; omega
        · have hcc : c = ny y := by
            rcases b3 with ⟨_, h⟩ | ⟨h0, h⟩
            · exact h
            · obtain rfl : b = 1970 := by omega
              have := N7.out
              omega
          subst hcc
          clear b3 nb
          go_wp2
          go_loopw [5, 8] (fun n t wr => ∃ k : Int, 1 ≤ k ∧ k ≤ m ∧ t = .int .i64 k ∧ n = .int .i64 (ny y + cum y k) ∧ Below w.heap.size w wr) (fun _ t _ => (m - intOf t).toNat)
          case atStart => exact ⟨1, by omega, by omega, rfl, by rw [C1.out, Int.add_zero], Below.refl _ _⟩
          case round =>
            obtain ⟨k, k1, k2, rfl, rfl, kb⟩ := hrel
            have KB := Lib.hid kb
            clear kb
            have cb := cum_bd y k
            by_cases hc2 : k < m
            · have HS := Lib.hid (cum_succ y k)
              have db := dim_bd y k k1 (by omega)
              go_wp2_with (go_at_call 27; refine (xlong_is _ _ _ k1 (by omega)).mono ?_; rintro e w' ⟨rfl, kl⟩)
              go_round
              case rel => exact ⟨k + 1, by omega, by omega, rfl, by rw [HS.out, Int.add_assoc], bthen KB.out kl⟩
              case measure => simp [intOf]; omega
            · obtain rfl : k = m := by omega
              go_wp2
              go_ret
              exact ⟨rfl, KB.out⟩
end Go.Proofs.YtblamffdlclomaaDoor

namespace Go.Proofs.YtblamffdlclomaaDoor
open Go Go.RowKit

theorem BlkN.drewN {w W : World} {g : Nat} {C : Array Value} {t : TypeId} (h : BlkN w g C t W) (n : Nat) : BlkN w g C t (W.drewN n) := ⟨below_drewN h.bel n, h.ge, h.blk⟩
theorem xweek_quiet (a : Int) (w : World) (h1 : -50000000 ≤ a) (h2 : a ≤ 50000000) : Calls Tryd.prog 28 #[.int .i64 a] w fun e w' => e = .returned (.int .i64 (wkD a)) ∧ w' = w := (xweek_any a w h1 h2).mono fun _ _ h => ⟨h.1, h.2.symm⟩
theorem at_eq (k n y m : Int) : atD k n y m = if k = 1 then ny y + cum y m + dim y m - 1 else ny y + cum y m + n - 1 := by unfold atD dayN; split <;> omega
theorem hit_near {k wk : Int} (a : Int) (hk : k ≠ 0) (h0 : 0 ≤ wk) (h6 : wk ≤ 6) : wkD (hitD k wk a) = wk ∧ (k = 2 → a ≤ hitD k wk a ∧ hitD k wk a ≤ a + 6) ∧ (k ≠ 2 → hitD k wk a ≤ a ∧ a ≤ hitD k wk a + 6) := by
  unfold hitD
  rw [if_neg hk]
  split
  · next h => exact ⟨(up_spec a wk h0 h6).1, fun _ => (up_spec a wk h0 h6).2, fun h' => absurd h h'⟩
  · next h => exact ⟨(dn_spec a wk h0 h6).1, fun h' => absurd h' h, fun _ => (dn_spec a wk h0 h6).2⟩

set_option maxRecDepth 20000 in
set_option maxHeartbeats 2000000 in
/-- There is none. -/
theorem xday_no (k wk n y m : Int) (w : World) (hy1 : -90000 ≤ y) (hy2 : y ≤ 90000) (h1 : 1 ≤ m) (h2 : m ≤ 12) (hd : dfD k wk n) (hn : dim y m < n) :
    Calls Tryd.prog 15 #[.agg #[.int .i64 k, .int .i64 wk, .int .i64 n], .int .i64 y, .int .i64 m] w fun e w' => e = .returned (.tuple #[.int .i64 0, .bool false]) ∧ Below w.heap.size w w' := by
  have X0 := Lib.hid (BlkN.make (Below.refl w.heap.size w) #[.int .i64 k, .int .i64 wk, .int .i64 n] 40)
  have DY := Lib.hid fun W => xdays_is y m W hy1 hy2 h1 h2
  have LG := Lib.hid fun W => xlong_is y m W h1 h2
  have db := dim_bd y m h1 h2
  have hk : (k != 1) = true := by unfold dfD at hd; simp; omega
  have e1 : ¬ n < 1 := by omega
  generalize dim y m = g at *
  have e2 : n > g := hn
  clear hd hn
  go_enter Tryd.func15, Tryd.ntmps15
  repeat (first
    | (go_at_call 26; (with_reducible refine (DY.out _).mono ?_); (rintro e w1 ⟨rfl, k1⟩); have X1 := Lib.hid (X0.out.next k1); clear k1; simp only [])
    | (go_at_call 27; (with_reducible refine (LG.out _).mono ?_); (rintro e w2 ⟨rfl, k2⟩); have X2 := Lib.hid (X1.out.next k2); (obtain ⟨c0, c1, c2⟩ := cel3 X2.out.blk); clear k2; simp only [])
    | go_values | go_skip | go_guarded | go_step | go_upon | go_back)
  go_ret2
  exact ⟨rfl, X2.out.bel⟩

set_option maxRecDepth 20000 in
set_option maxHeartbeats 4000000 in
theorem xday_yes (k wk n y m T : Int) (w : World) (hy1 : -90000 ≤ y) (hy2 : y ≤ 90000) (h1 : 1 ≤ m) (h2 : m ≤ 12) (hd : dfD k wk n) (hn : n ≤ dim y m) (hT : tgtD k wk n y m = T) :
    Calls Tryd.prog 15 #[.agg #[.int .i64 k, .int .i64 wk, .int .i64 n], .int .i64 y, .int .i64 m] w fun e w' => e = .returned (.tuple #[.int .i64 T, .bool true]) ∧ Below w.heap.size w w' := by
  have X0 := Lib.hid (BlkN.make (Below.refl w.heap.size w) #[.int .i64 k, .int .i64 wk, .int .i64 n] 40)
  have DY := Lib.hid fun W => xdays_is y m W hy1 hy2 h1 h2
  have LG := Lib.hid fun W => xlong_is y m W h1 h2
  have db := dim_bd y m h1 h2
  have nb := ny_bd y (by omega) (by omega)
  have cb := cum_bd y m
  unfold tgtD at hT
  rw [at_eq] at hT
  generalize dim y m = g at *
  generalize hF : ny y + cum y m = F at *
  have Fb : -41000000 ≤ F ∧ F ≤ 41000000 := by omega
  clear nb cb hF
  have hw : 0 ≤ wk ∧ wk ≤ 6 := by unfold dfD at hd; omega
  obtain ⟨w0, w6⟩ := hw
  by_cases hk0 : k = 0
  · subst hk0
    have e1 : ¬ n < 1 := by unfold dfD at hd; omega
    have e2 : ¬ n > g := by omega
    rw [hit_zero, if_neg (by decide)] at hT
    subst hT
    clear hd hn
    go_enter Tryd.func15, Tryd.ntmps15
    repeat (first
      | (go_at_call 26; (with_reducible refine (DY.out _).mono ?_); (rintro e w1 ⟨rfl, k1⟩); have X1 := Lib.hid (X0.out.next k1); clear k1; simp only [])
      | (go_at_call 27; (with_reducible refine (LG.out _).mono ?_); (rintro e w2 ⟨rfl, k2⟩); have X2 := Lib.hid (X1.out.next k2); (obtain ⟨c0, c1, c2⟩ := cel3 X2.out.blk); clear k2; simp only [])
      | go_values | go_skip | go_guarded | go_step | go_upon | go_back)
    go_ret2
    exact ⟨rfl, X2.out.bel⟩
  · have HN := Lib.hid (fun a => hit_near (k := k) (wk := wk) a hk0 w0 w6)
    have HX := Lib.hid (fun a s hs hq => hit_next (k := k) (wk := wk) (a := a) (s := s) hk0 w0 w6 hs hq)
    have nb := HN.out (if k = 1 then F + g - 1 else F + n - 1)
    rw [hT] at nb
    have Tb : -42000000 ≤ T ∧ T ≤ 42000000 := by
      unfold dfD at hd
      by_cases h2 : k = 2
      · have := nb.2.1 h2
        rw [if_neg (by omega)] at this
        omega
      · have := nb.2.2 h2
        split at this <;> omega
    have WT := Lib.hid nb.1
    clear nb
    have HT := Lib.hid hT
    clear hT
    have hk3 : (k = 1 ∧ n = 0) ∨ (k = 2 ∧ 1 ≤ n ∧ n ≤ 31) ∨ (k = 3 ∧ 1 ≤ n ∧ n ≤ 31) := by unfold dfD at hd; omega
    clear hd
    rcases hk3 with ⟨rfl, rfl⟩ | ⟨rfl, n1, n2⟩ | ⟨rfl, n1, n2⟩
    · have HS := Lib.hid HT.out
      rw [if_pos rfl] at HS
      clear HT
      go_enter Tryd.func15, Tryd.ntmps15
      repeat (first
        | (go_at_call 26; (with_reducible refine (DY.out _).mono ?_); (rintro e w1 ⟨rfl, k1⟩); have X1 := Lib.hid (X0.out.next k1); clear k1; simp only [])
        | (go_at_call 27; (with_reducible refine (LG.out _).mono ?_); (rintro e w2 ⟨rfl, k2⟩); have X2 := Lib.hid (X1.out.next k2); (obtain ⟨c0, c1, c2⟩ := cel3 X2.out.blk); clear k2; simp only [])
        | go_values | go_skip | go_guarded | go_step | go_upon | go_back)
      clear c0 c1 c2 X0 X1
      go_loopw [10] (fun v wr => ∃ a : Int, v = .int .i64 a ∧ hitD 1 wk a = T ∧ BlkN w w.heap.size #[.int .i64 1, .int .i64 wk, .int .i64 0] 40 wr) (fun v _ => (T - intOf v).natAbs)
      case atStart => exact ⟨F + g - 1, rfl, HS.out, X2.out⟩
      case round =>
        clear X2
        obtain ⟨a, rfl, ha, hX⟩ := hrel
        have HA := Lib.hid ha
        have X := Lib.hid hX
        obtain ⟨c0, c1, c2⟩ := cel3 hX.blk
        have nb := (HN.out a).2.2 (by decide)
        rw [ha] at nb
        clear ha hX
        have a4 : IntKind.i64.wrap (a + 4) = a + 4 := IntWalk.i64_in _ (by omega)
        by_cases hs : wkD a = wk
        · have hq : (wkD a != wk) = false := by simp [hs]
          have HE := Lib.hid ((hit_same (k := 1) hs).symm.trans HA.out)
          clear hs
          go_wp2
          go_quiet ((go_at_call 28; exact Calls.quiet_of_same (xweek_quiet _ _ (by omega) (by omega))))
          go_wp2
          go_ret2
          rw [HE.out]
          exact ⟨rfl, (X.out.drewN _).bel⟩
        · have hq : (wkD a != wk) = true := by simp [hs]
          have HE := Lib.hid ((HX.out a (-1) (by decide) hs).trans HA.out)
          have hne : a ≠ T := fun h => hs (h ▸ WT.out)
          clear hs
          go_wp2
          go_quiet ((go_at_call 28; exact Calls.quiet_of_same (xweek_quiet _ _ (by omega) (by omega))))
          go_wp2
          go_round
          case rel => exact ⟨a - 1, rfl, HE.out, X.out.drewN _⟩
          case measure => simp [intOf]; omega
    · have HS := Lib.hid HT.out
      rw [if_neg (by decide)] at HS
      have e1 : ¬ n < 1 := by omega
      have e2 : ¬ n > g := by omega
      clear HT
      go_enter Tryd.func15, Tryd.ntmps15
      repeat (first
        | (go_at_call 26; (with_reducible refine (DY.out _).mono ?_); (rintro e w1 ⟨rfl, k1⟩); have X1 := Lib.hid (X0.out.next k1); clear k1; simp only [])
        | (go_at_call 27; (with_reducible refine (LG.out _).mono ?_); (rintro e w2 ⟨rfl, k2⟩); have X2 := Lib.hid (X1.out.next k2); (obtain ⟨c0, c1, c2⟩ := cel3 X2.out.blk); clear k2; simp only [])
        | go_values | go_skip | go_guarded | go_step | go_upon | go_back)
      clear c0 c1 c2 X0 X1 e1 e2
      go_loopw [10] (fun v wr => ∃ a : Int, v = .int .i64 a ∧ hitD 2 wk a = T ∧ BlkN w w.heap.size #[.int .i64 2, .int .i64 wk, .int .i64 n] 40 wr) (fun v _ => (T - intOf v).natAbs)
      case atStart => exact ⟨F + n - 1, rfl, HS.out, X2.out⟩
      case round =>
        clear X2
        obtain ⟨a, rfl, ha, hX⟩ := hrel
        have HA := Lib.hid ha
        have X := Lib.hid hX
        obtain ⟨c0, c1, c2⟩ := cel3 hX.blk
        have nb := (HN.out a).2.1 rfl
        rw [ha] at nb
        clear ha hX
        have a4 : IntKind.i64.wrap (a + 4) = a + 4 := IntWalk.i64_in _ (by omega)
        by_cases hs : wkD a = wk
        · have hq : (wkD a != wk) = false := by simp [hs]
          have HE := Lib.hid ((hit_same (k := 2) hs).symm.trans HA.out)
          clear hs
          go_wp2
          go_quiet ((go_at_call 28; exact Calls.quiet_of_same (xweek_quiet _ _ (by omega) (by omega))))
          go_wp2
          go_ret2
          rw [HE.out]
          exact ⟨rfl, (X.out.drewN _).bel⟩
        · have hq : (wkD a != wk) = true := by simp [hs]
          have HE := Lib.hid ((HX.out a (1) (by decide) hs).trans HA.out)
          have hne : a ≠ T := fun h => hs (h ▸ WT.out)
          clear hs
          go_wp2
          go_quiet ((go_at_call 28; exact Calls.quiet_of_same (xweek_quiet _ _ (by omega) (by omega))))
          go_wp2
          go_round
          case rel => exact ⟨a + 1, rfl, HE.out, X.out.drewN _⟩
          case measure => simp [intOf]; omega
    · have HS := Lib.hid HT.out
      rw [if_neg (by decide)] at HS
      have e1 : ¬ n < 1 := by omega
      have e2 : ¬ n > g := by omega
      clear HT
      go_enter Tryd.func15, Tryd.ntmps15
      repeat (first
        | (go_at_call 26; (with_reducible refine (DY.out _).mono ?_); (rintro e w1 ⟨rfl, k1⟩); have X1 := Lib.hid (X0.out.next k1); clear k1; simp only [])
        | (go_at_call 27; (with_reducible refine (LG.out _).mono ?_); (rintro e w2 ⟨rfl, k2⟩); have X2 := Lib.hid (X1.out.next k2); (obtain ⟨c0, c1, c2⟩ := cel3 X2.out.blk); clear k2; simp only [])
        | go_values | go_skip | go_guarded | go_step | go_upon | go_back)
      clear c0 c1 c2 X0 X1 e1 e2
      go_loopw [10] (fun v wr => ∃ a : Int, v = .int .i64 a ∧ hitD 3 wk a = T ∧ BlkN w w.heap.size #[.int .i64 3, .int .i64 wk, .int .i64 n] 40 wr) (fun v _ => (T - intOf v).natAbs)
      case atStart => exact ⟨F + n - 1, rfl, HS.out, X2.out⟩
      case round =>
        clear X2
        obtain ⟨a, rfl, ha, hX⟩ := hrel
        have HA := Lib.hid ha
        have X := Lib.hid hX
        obtain ⟨c0, c1, c2⟩ := cel3 hX.blk
        have nb := (HN.out a).2.2 (by decide)
        rw [ha] at nb
        clear ha hX
        have a4 : IntKind.i64.wrap (a + 4) = a + 4 := IntWalk.i64_in _ (by omega)
        by_cases hs : wkD a = wk
        · have hq : (wkD a != wk) = false := by simp [hs]
          have HE := Lib.hid ((hit_same (k := 3) hs).symm.trans HA.out)
          clear hs
          go_wp2
          go_quiet ((go_at_call 28; exact Calls.quiet_of_same (xweek_quiet _ _ (by omega) (by omega))))
          go_wp2
          go_ret2
          rw [HE.out]
          exact ⟨rfl, (X.out.drewN _).bel⟩
        · have hq : (wkD a != wk) = true := by simp [hs]
          have HE := Lib.hid ((HX.out a (-1) (by decide) hs).trans HA.out)
          have hne : a ≠ T := fun h => hs (h ▸ WT.out)
          clear hs
          go_wp2
          go_quiet ((go_at_call 28; exact Calls.quiet_of_same (xweek_quiet _ _ (by omega) (by omega))))
          go_wp2
          go_round
          case rel => exact ⟨a - 1, rfl, HE.out, X.out.drewN _⟩
          case measure => simp [intOf]; omega
end Go.Proofs.YtblamffdlclomaaDoor

namespace Go.Proofs.YtblamffdlclomaaDoor
open Go Go.RowKit

/-- A firing, and its rule's place. -/
abbrev PV := FV × Nat
def cP (p : PV) : List Value := [.int .i64 p.1.nm, .int .i64 p.1.kd, .int .i64 p.1.sv, .int .i64 (p.2 : Int), .string ⟨p.1.lt.toArray⟩]
def pvV (p : PV) : Value := .agg #[.int .i64 p.1.nm, .int .i64 p.1.kd, .int .i64 p.1.sv, .int .i64 (p.2 : Int), .string ⟨p.1.lt.toArray⟩]
def ltP (a b : PV) : Bool := decide (a.1.nm < b.1.nm)
theorem wordP : WOrd ltP where
  asym a b h := by unfold ltP at h ⊢; simp at h ⊢; omega
  trans a b c h1 h2 := by unfold ltP at h1 h2 ⊢; simp at h1 h2 ⊢; omega
theorem cP_len (p : PV) : (cP p).length = 5 := rfl
theorem cP_one (p : PV) : ∀ u ∈ cP p, u.oneCell' = true := by intro u hu; simp [cP] at hu; rcases hu with rfl | rfl | rfl | rfl | rfl <;> rfl
theorem pv_info : (Tryd.prog.info? 33).map (fun i => (i.zero, i.size, i.bytes)) = some (some (pvV (⟨0, 0, 0, []⟩, 0)), 5, 48) := by kernel_rfl
def PAt (A : Option Addr) (ps : List PV) (w : World) : Prop := RowsAt 5 (fun p => (cP p).toArray) A ps w
theorem pv_cells {A : Option Addr} {ps : List PV} {w : World} {i : Nat} {p : PV} (h : PAt A ps w) (hp : ps[i]? = some p) : ∃ L off, A = some ⟨L, off, none⟩ ∧ L < w.heap.size ∧
    w.cell? ⟨L, off + i * 5, none⟩ = some (.int .i64 p.1.nm) ∧ w.cell? ⟨L, off + i * 5 + 1, none⟩ = some (.int .i64 p.1.kd) ∧ w.cell? ⟨L, off + i * 5 + 2, none⟩ = some (.int .i64 p.1.sv) ∧ w.cell? ⟨L, off + i * 5 + 3, none⟩ = some (.int .i64 (p.2 : Int)) ∧ w.cell? ⟨L, off + i * 5 + 4, none⟩ = some (.string ⟨p.1.lt.toArray⟩) := by
  obtain ⟨L, off, e, hl, hc⟩ := h i p hp
  exact ⟨L, off, e, hl, hc 0 _ (by omega) rfl, hc 1 _ (by omega) rfl, hc 2 _ (by omega) rfl, hc 3 _ (by omega) rfl, hc 4 _ (by omega) rfl⟩
theorem cells5 {W : World} {g : Nat} {t : TypeId} {v0 v1 v2 v3 v4 : Value} (h : W.heap[g]? = some (.cells #[v0, v1, v2, v3, v4] t (0, 0))) :
    W.cell? ⟨g, 0, none⟩ = some v0 ∧ W.cell? ⟨g, 1, none⟩ = some v1 ∧ W.cell? ⟨g, 2, none⟩ = some v2 ∧ W.cell? ⟨g, 3, none⟩ = some v3 ∧ W.cell? ⟨g, 4, none⟩ = some v4 :=
  ⟨cell_of_row W g 0 _ _ _ h, cell_of_row W g 1 _ _ _ h, cell_of_row W g 2 _ _ _ h, cell_of_row W g 3 _ _ _ h, cell_of_row W g 4 _ _ _ h⟩

theorem rows_sub {α : Type} {c : Nat} {f : α → Array Value} {L off : Nat} {xs ys : List α} {w : World} (i0 : Nat) (h : RowsAt c f (some ⟨L, off, none⟩) xs w) (hy : ∀ (i : Nat) (x : α), ys[i]? = some x → xs[i0 + i]? = some x) : RowsAt c f (some ⟨L, off + i0 * c, none⟩) ys w := fun i x hx => by
  obtain ⟨L', off', e, hl, hc⟩ := h (i0 + i) x (hy i x hx)
  cases e
  exact ⟨L, _, rfl, hl, fun j v hj hv => by rw [Nat.add_assoc off, ← Nat.add_mul]; exact hc j v hj hv⟩
theorem add_off (L off j : Nat) : (⟨L, off, none⟩ : Addr).add j = ⟨L, off + j, none⟩ := by cases j <;> simp [Addr.add]
theorem pat_news {L off : Nat} {xs : List PV} {w : World} (h : PAt (some ⟨L, off, none⟩) xs w) : ∀ (j : Nat) (u : Value), (fcl cP xs)[j]? = some u → w.cell? ((⟨L, off, none⟩ : Addr).add j) = some u := by
  intro j u hu
  have hj := (List.getElem?_eq_some_iff.1 hu).1
  rw [fcl_len cP_len] at hj
  have hi : j / 5 < xs.length := by omega
  have e : j = j / 5 * 5 + j % 5 := by omega
  rw [e, fcl_at cP_len (List.getElem?_eq_getElem hi) (by omega)] at hu
  obtain ⟨L', off', e', -, hc⟩ := h (j / 5) _ (List.getElem?_eq_getElem hi)
  cases e'
  have := hc (j % 5) u (by omega) (by simpa using hu)
  rw [add_off, show off + j = off + j / 5 * 5 + j % 5 by omega]
  exact this
theorem pv_new (W : World) (p : PV) (t : TypeId) : ∀ j u, (cP p)[j]? = some u → (W.alloc (.cells (cP p).toArray t)).cell? ((⟨W.heap.size, 0, none⟩ : Addr).add j) = some u := by
  intro j u hu
  have h := heap_alloc_new W (.cells (cP p).toArray t)
  have := cell_of_row _ W.heap.size j _ _ _ h
  rw [add_off, Nat.zero_add, this]
  simpa using hu
theorem psl_lo (L n c k : Nat) (h : k ≤ n) (hn : n ≤ c) (W : World) : (Instr.slice 29 (.slice (some ⟨L, 0, none⟩) n c) none (some (.int .i64 (k : Int))) none).run Tryd.prog W = .ok (.slice (some ⟨L, 0, none⟩) k c) W := by
  simp [Instr.slice, go_sem]
  intro hh; omega
theorem psl_hi (L n c k H : Nat) (h : k ≤ n) (hH : H = if c = k then 0 else k * 5) (W : World) : (Instr.slice 29 (.slice (some ⟨L, 0, none⟩) n c) (some (.int .i64 (k : Int))) none none).run Tryd.prog W = .ok (.slice (some ⟨L, H, none⟩) (n - k) (c - k)) W := by
  subst hH
  simp [Instr.slice, go_sem]
  rw [if_pos h]
  split <;> rfl
theorem pat_take {L : Nat} {ps : List PV} {w : World} (p : Nat) (h : PAt (some ⟨L, 0, none⟩) ps w) : PAt (some ⟨L, 0, none⟩) (ps.take p) w := by
  have := rows_sub (ys := ps.take p) 0 h fun i x hx => by
    rw [Nat.zero_add]
    rw [List.getElem?_take] at hx
    split at hx
    · exact hx
    · cases hx
  simpa [PAt] using this
theorem pat_drop {L n c H : Nat} {ps : List PV} {w : World} (p : Nat) (hn : ps.length = n) (hp : p ≤ n) (hc : n ≤ c) (hH : H = if c = p then 0 else p * 5) (h : PAt (some ⟨L, 0, none⟩) ps w) : PAt (some ⟨L, H, none⟩) (ps.drop p) w := by
  by_cases e : c = p
  · have : ps.drop p = [] := List.drop_eq_nil_of_le (by omega)
    rw [this]
    intro i x hx
    simp at hx
  · rw [if_neg e] at hH
    subst hH
    have := rows_sub (ys := ps.drop p) p h fun i x hx => by rwa [List.getElem?_drop] at hx
    simpa [PAt] using this
theorem pown_form {W : World} {base n : Nat} {v : Value} {xs : List Value} (h : W.ownsRow base 33 5 v (n + 1) xs) : ∃ g c, v = .slice (some ⟨g, 0, none⟩) (n + 1) c := by
  rcases h.2 with ⟨-, h0⟩ | ⟨g, c, cur, e, -⟩
  · omega
  · exact ⟨g, c, e⟩
theorem BlkN.gr {w W W1 : World} {g : Nat} {C : Array Value} {t : TypeId} {row : Option Nat} (h : BlkN w g C t W) (k : W.grownBy W1 row) (hr : ∀ r, row = some r → w.heap.size ≤ r ∧ r ≠ g) : BlkN w g C t W1 :=
  ⟨h.bel.grown k h.bel.size (fun r e => (hr r e).1), h.ge, (k.block g h.lt (fun e => (hr g e.symm).2 rfl)).trans h.blk⟩
theorem own_pat {W : World} {base g n c : Nat} {e : TypeId} {ps : List PV} (h : W.ownsRow base e 5 (.slice (some ⟨g, 0, none⟩) n c) n (fcl cP ps)) : PAt (some ⟨g, 0, none⟩) ps W ∧ n ≤ c := by
  rcases h.2 with ⟨h0, -⟩ | ⟨g', cap, cur, e1, -, hb, hn, -, -, hc⟩
  · cases h0
  · cases e1
    refine ⟨fun i x hx => ⟨g, 0, rfl, (Array.getElem?_eq_some_iff.1 hb).1, fun j v hj hv => ?_⟩, hn⟩
    have := fcl_at cP_len hx hj
    rw [← hc, List.getElem?_take] at this
    have hv' : (cP x)[j]? = some v := by simpa using hv
    rw [hv'] at this
    split at this
    · have hcl := cell_of_row W g (i * 5 + j) _ _ _ hb
      rw [Nat.zero_add, hcl, ← this]; simp
    · cases this
theorem pput_done {w W : World} {v : Value} {base n p m : Nat} {e : TypeId} {ps : List PV} {f : PV} (h : W.ownsRow base e 5 v m (fcl cP (ps.take p) ++ cP f ++ fcl cP (ps.drop p))) (hb : Below w.heap.size w W) (hm : m = n + 1) (hi : ins ltP f ps = ps.take p ++ f :: ps.drop p) :
    ∃ g c', Ending.returned v = .returned (.slice (some ⟨g, 0, none⟩) (n + 1) c') ∧ (PAt (some ⟨g, 0, none⟩) (ins ltP f ps) W ∧ n + 1 ≤ c') ∧ Below w.heap.size w W := by
  subst hm
  rcases h.2 with ⟨-, h0⟩ | ⟨g, c, cur, rfl, -⟩
  · omega
  · refine ⟨g, c, rfl, ?_, hb⟩
    rw [hi]
    refine own_pat (base := base) (e := e) ?_
    have e : fcl cP (ps.take p ++ f :: ps.drop p) = fcl cP (ps.take p) ++ cP f ++ fcl cP (ps.drop p) := by simp [fcl, List.append_assoc]
    rw [e]; exact h

set_option maxRecDepth 20000 in
set_option maxHeartbeats 8000000 in
theorem xput_is (L : Nat) (n c : Nat) (ps : List PV) (f : PV) (w : World) (hP : PAt (some ⟨L, 0, none⟩) ps w) (hn : ps.length = n) (hc : n ≤ c) (hn1 : n ≤ 100000) (hs : Srt ltP ps) (hq : ∀ q ∈ ps, q.2 ≤ f.2) :
    Calls Tryd.prog 16 #[.slice (some ⟨L, 0, none⟩) n c, pvV f] w fun e w' => ∃ g c', e = .returned (.slice (some ⟨g, 0, none⟩) (n + 1) c') ∧ (PAt (some ⟨g, 0, none⟩) (ins ltP f ps) w' ∧ n + 1 ≤ c') ∧ Below w.heap.size w w' := by
  have X0 := Lib.hid (BlkN.make (Below.refl w.heap.size w) (cP f).toArray 33)
  have HP := Lib.hid hP
  have HN := Lib.hid hn
  have HS := Lib.hid hs
  have HQ := Lib.hid hq
  obtain ⟨i0, hi0, hz0, hz1, hz2⟩ := info_parts pv_info
  clear hP hs hq hn
  unfold pvV
  go_enter Tryd.func16, Tryd.ntmps16
  go_wp2
  go_loopw [5] (fun v wr => ∃ p : Nat, v = .int .i64 p ∧ p ≤ n ∧ (p = n ∨ ∃ y, ps[p]? = some y ∧ ltP f y = true) ∧ BlkN w w.heap.size (cP f).toArray 33 wr) (fun v _ => (intOf v).toNat)
  case atStart => exact ⟨n, rfl, Nat.le_refl _, .inl rfl, X0.out⟩
  case round =>
    clear X0
    obtain ⟨p, rfl, hp, hpos, hX⟩ := hrel
    have X := Lib.hid hX
    have HP1 := Lib.hid hpos
    obtain ⟨c0, c1, c2, c3, c4⟩ := cells5 hX.blk
    clear hX hpos
    by_cases h0 : p = 0
    · have hd : decide (0 < p) = false := by simp [h0]
      have H0 := Lib.hid h0
      clear h0
      go_wp2
      go_quiet (fail)
      have sl1 := psl_lo L n c p hp hc
      obtain ⟨H, hH⟩ : ∃ H, H = if c = p then 0 else p * 5 := ⟨_, rfl⟩
      have sl2 := psl_hi L n c p H hp hH
      have X1 := Lib.hid (X.out.drewN nq)
      have PT := Lib.hid (pat_take p (RowsAt.next HP.out X1.out.bel))
      have HH := Lib.hid hH
      have LT : Hid ((ps.take p).length = p) := Lib.hid (by rw [List.length_take, HN.out]; omega)
      have LD : Hid ((ps.drop p).length = n - p) := Lib.hid (by rw [List.length_drop, HN.out])
      have INS : Hid (ins ltP f ps = ps.take p ++ f :: ps.drop p) := Lib.hid (mrg_one_right wordP HS.out (by rw [HN.out]; omega) (.inl H0.out) (by rw [HN.out]; exact HP1.out))
      clear hH c0 c1 c2 c3 c4
      have tk1 : True := trivial
      have tk2 : True := trivial
      have tk3 : True := trivial
      go_wp2_with (first
        | (have _t := tk1; at_builtin; refine wpList_append_own _ rfl (.tmp 52) (.tmp 55) _ rfl (w.heap.size + 1) 33 i0 (pvV (⟨0, 0, 0, []⟩, 0)) 5 48 Tryd.underlying29 hi0 hz0 hz1 hz2 rfl (by decide) _ _ _ rfl (World.ownsRow_nil _ _ _ _) ⟨L, 0, none⟩ p c (fcl cP (ps.take p)) rfl (by rw [fcl_len cP_len, LT.out]) (pat_news PT.out) (fcl_one cP_one _) (by unfold maxLen; omega) (by omega) X1.out.lt ?_
           intro v1 w1 own1 gr1 nil1
           rw [Nat.zero_add, List.nil_append] at own1
           have OW1 := Lib.hid own1
           have X2 := Lib.hid (X1.out.gr gr1 (fun r hr => by cases hr))
           obtain ⟨y0, y1, y2, y3, y4⟩ := cells5 X2.out.blk
           clear own1 gr1 nil1 tk1)
        | (have _t := tk2; at_builtin; refine wpList_append_own _ rfl (.tmp 57) (.tmp 59) _ rfl (w.heap.size + 1) 33 i0 (pvV (⟨0, 0, 0, []⟩, 0)) 5 48 Tryd.underlying29 hi0 hz0 hz1 hz2 rfl (by decide) _ _ _ rfl (OW1.out.alloc _) ⟨w1.heap.size, 0, none⟩ 1 1 (cP f) rfl rfl (pv_new w1 f _) (cP_one _) (by unfold maxLen; omega) (by omega) (by have := X2.out.lt; simp; omega) ?_
           intro v2 w2 own2 gr2 nil2
           have OW2 := Lib.hid own2
           obtain ⟨g2, cc2, rfl⟩ := pown_form own2
           have X3 := Lib.hid ((X2.out.more (.cells (cP f).toArray 33)).gr gr2 (fun r hr => by have := OW1.out.lt r hr; omega))
           have PD := Lib.hid (pat_drop p HN.out hp hc HH.out (RowsAt.next HP.out X3.out.bel))
           clear own2 gr2 nil2 tk2 y0 y1 y2 y3 y4)
        | (have _t := tk3; at_builtin; refine wpList_append_own _ rfl (.tmp 61) (.tmp 64) _ rfl (w.heap.size + 1) 33 i0 (pvV (⟨0, 0, 0, []⟩, 0)) 5 48 Tryd.underlying29 hi0 hz0 hz1 hz2 rfl (by decide) _ _ _ rfl OW2.out ⟨L, H, none⟩ (n - p) (c - p) (fcl cP (ps.drop p)) rfl (by rw [fcl_len cP_len, LD.out]) (pat_news PD.out) (fcl_one cP_one _) (by unfold maxLen; omega) (by omega) X3.out.lt ?_
           intro v3 w3 own3 gr3 nil3
           have OW3 := Lib.hid own3
           have X4 := Lib.hid (X3.out.gr gr3 (fun r hr => by have := OW2.out.lt r hr; omega))
           clear own3 gr3 nil3 tk3)
        | fail)
      go_ret
      exact pput_done OW3.out X4.out.bel (by omega) INS.out
    · obtain ⟨k, hk⟩ : ∃ k, p = k + 1 := ⟨p - 1, by omega⟩
      obtain ⟨q, hq⟩ : ∃ q, ps[k]? = some q := ⟨_, List.getElem?_eq_getElem (by rw [HN.out]; omega)⟩
      have hqf := HQ.out q (List.mem_of_getElem? hq)
      obtain ⟨L', off, e, -, b0, -, -, b3, -⟩ := pv_cells (RowsAt.next HP.out X.out.bel) hq
      cases e
      simp only [Nat.zero_add] at b0 b3
      have hd : decide (0 < p) = true := by simp; omega
      have e1 : IntKind.i64.wrap ((p : Int) - 1) = (k : Int) := by rw [IntWalk.i64_in _ (by omega)]; omega
      have e2 : (p : Int) - 1 = (k : Int) := by omega
      have e3 : (k : Int) < (n : Int) := by omega
      have HK := Lib.hid hq
      have HQ3 : Hid (ps[p - 1]? = some q) := Lib.hid (by rw [hk, Nat.add_sub_cancel]; exact hq)
      have KP := Lib.hid hk
      clear hq h0 hk
      by_cases hgt : f.1.nm < q.1.nm
      · have g1 : q.1.nm > f.1.nm := hgt
        have LQ : Hid (ltP f q = true) := Lib.hid (by simp [ltP, hgt])
        go_wp2
        go_quiet (fail)
        go_wp2
        go_round
        case rel => exact ⟨k, rfl, by have := KP.out; omega, .inr ⟨q, HK.out, LQ.out⟩, X.out.drewN _⟩
        case measure => simp [intOf]; have := KP.out; omega
      · have LQ : Hid (ltP f q = false) := Lib.hid (by simp [ltP]; omega)
        have g1 : decide (f.1.nm < q.1.nm) = false := by simp; omega
        by_cases heq : q.1.nm = f.1.nm
        · have g2 : (q.1.nm == f.1.nm) = true := by simp [heq]
          have g3 : decide ((f.2 : Int) < (q.2 : Int)) = false := by simp; omega
          have g4 : decide (f.2 < q.2) = false := by simp; omega
          clear heq hgt
          go_wp2
          go_quiet (fail)
          have sl1 := psl_lo L n c p hp hc
          obtain ⟨H, hH⟩ : ∃ H, H = if c = p then 0 else p * 5 := ⟨_, rfl⟩
          have sl2 := psl_hi L n c p H hp hH
          have X1 := Lib.hid (X.out.drewN nq)
          have PT := Lib.hid (pat_take p (RowsAt.next HP.out X1.out.bel))
          have HH := Lib.hid hH
          have LT : Hid ((ps.take p).length = p) := Lib.hid (by rw [List.length_take, HN.out]; omega)
          have LD : Hid ((ps.drop p).length = n - p) := Lib.hid (by rw [List.length_drop, HN.out])
          have INS : Hid (ins ltP f ps = ps.take p ++ f :: ps.drop p) := Lib.hid (mrg_one_right wordP HS.out (by rw [HN.out]; omega) (.inr ⟨q, HQ3.out, LQ.out⟩) (by rw [HN.out]; exact HP1.out))
          clear hH c0 c1 c2 c3 c4
          have tk1 : True := trivial
          have tk2 : True := trivial
          have tk3 : True := trivial
          go_wp2_with (first
            | (have _t := tk1; at_builtin; refine wpList_append_own _ rfl (.tmp 52) (.tmp 55) _ rfl (w.heap.size + 1) 33 i0 (pvV (⟨0, 0, 0, []⟩, 0)) 5 48 Tryd.underlying29 hi0 hz0 hz1 hz2 rfl (by decide) _ _ _ rfl (World.ownsRow_nil _ _ _ _) ⟨L, 0, none⟩ p c (fcl cP (ps.take p)) rfl (by rw [fcl_len cP_len, LT.out]) (pat_news PT.out) (fcl_one cP_one _) (by unfold maxLen; omega) (by omega) X1.out.lt ?_
               intro v1 w1 own1 gr1 nil1
               rw [Nat.zero_add, List.nil_append] at own1
               have OW1 := Lib.hid own1
               have X2 := Lib.hid (X1.out.gr gr1 (fun r hr => by cases hr))
               obtain ⟨y0, y1, y2, y3, y4⟩ := cells5 X2.out.blk
               clear own1 gr1 nil1 tk1)
            | (have _t := tk2; at_builtin; refine wpList_append_own _ rfl (.tmp 57) (.tmp 59) _ rfl (w.heap.size + 1) 33 i0 (pvV (⟨0, 0, 0, []⟩, 0)) 5 48 Tryd.underlying29 hi0 hz0 hz1 hz2 rfl (by decide) _ _ _ rfl (OW1.out.alloc _) ⟨w1.heap.size, 0, none⟩ 1 1 (cP f) rfl rfl (pv_new w1 f _) (cP_one _) (by unfold maxLen; omega) (by omega) (by have := X2.out.lt; simp; omega) ?_
               intro v2 w2 own2 gr2 nil2
               have OW2 := Lib.hid own2
               obtain ⟨g2, cc2, rfl⟩ := pown_form own2
               have X3 := Lib.hid ((X2.out.more (.cells (cP f).toArray 33)).gr gr2 (fun r hr => by have := OW1.out.lt r hr; omega))
               have PD := Lib.hid (pat_drop p HN.out hp hc HH.out (RowsAt.next HP.out X3.out.bel))
               clear own2 gr2 nil2 tk2 y0 y1 y2 y3 y4)
            | (have _t := tk3; at_builtin; refine wpList_append_own _ rfl (.tmp 61) (.tmp 64) _ rfl (w.heap.size + 1) 33 i0 (pvV (⟨0, 0, 0, []⟩, 0)) 5 48 Tryd.underlying29 hi0 hz0 hz1 hz2 rfl (by decide) _ _ _ rfl OW2.out ⟨L, H, none⟩ (n - p) (c - p) (fcl cP (ps.drop p)) rfl (by rw [fcl_len cP_len, LD.out]) (pat_news PD.out) (fcl_one cP_one _) (by unfold maxLen; omega) (by omega) X3.out.lt ?_
               intro v3 w3 own3 gr3 nil3
               have OW3 := Lib.hid own3
               have X4 := Lib.hid (X3.out.gr gr3 (fun r hr => by have := OW2.out.lt r hr; omega))
               clear own3 gr3 nil3 tk3)
            | fail)
          go_ret
          exact pput_done OW3.out X4.out.bel (by omega) INS.out
        · have g2 : (q.1.nm == f.1.nm) = false := by simp [heq]
          clear heq hgt
          go_wp2
          go_quiet (fail)
          have sl1 := psl_lo L n c p hp hc
          obtain ⟨H, hH⟩ : ∃ H, H = if c = p then 0 else p * 5 := ⟨_, rfl⟩
          have sl2 := psl_hi L n c p H hp hH
          have X1 := Lib.hid (X.out.drewN nq)
          have PT := Lib.hid (pat_take p (RowsAt.next HP.out X1.out.bel))
          have HH := Lib.hid hH
          have LT : Hid ((ps.take p).length = p) := Lib.hid (by rw [List.length_take, HN.out]; omega)
          have LD : Hid ((ps.drop p).length = n - p) := Lib.hid (by rw [List.length_drop, HN.out])
          have INS : Hid (ins ltP f ps = ps.take p ++ f :: ps.drop p) := Lib.hid (mrg_one_right wordP HS.out (by rw [HN.out]; omega) (.inr ⟨q, HQ3.out, LQ.out⟩) (by rw [HN.out]; exact HP1.out))
          clear hH c0 c1 c2 c3 c4
          have tk1 : True := trivial
          have tk2 : True := trivial
          have tk3 : True := trivial
          go_wp2_with (first
            | (have _t := tk1; at_builtin; refine wpList_append_own _ rfl (.tmp 52) (.tmp 55) _ rfl (w.heap.size + 1) 33 i0 (pvV (⟨0, 0, 0, []⟩, 0)) 5 48 Tryd.underlying29 hi0 hz0 hz1 hz2 rfl (by decide) _ _ _ rfl (World.ownsRow_nil _ _ _ _) ⟨L, 0, none⟩ p c (fcl cP (ps.take p)) rfl (by rw [fcl_len cP_len, LT.out]) (pat_news PT.out) (fcl_one cP_one _) (by unfold maxLen; omega) (by omega) X1.out.lt ?_
               intro v1 w1 own1 gr1 nil1
               rw [Nat.zero_add, List.nil_append] at own1
               have OW1 := Lib.hid own1
               have X2 := Lib.hid (X1.out.gr gr1 (fun r hr => by cases hr))
               obtain ⟨y0, y1, y2, y3, y4⟩ := cells5 X2.out.blk
               clear own1 gr1 nil1 tk1)
            | (have _t := tk2; at_builtin; refine wpList_append_own _ rfl (.tmp 57) (.tmp 59) _ rfl (w.heap.size + 1) 33 i0 (pvV (⟨0, 0, 0, []⟩, 0)) 5 48 Tryd.underlying29 hi0 hz0 hz1 hz2 rfl (by decide) _ _ _ rfl (OW1.out.alloc _) ⟨w1.heap.size, 0, none⟩ 1 1 (cP f) rfl rfl (pv_new w1 f _) (cP_one _) (by unfold maxLen; omega) (by omega) (by have := X2.out.lt; simp; omega) ?_
               intro v2 w2 own2 gr2 nil2
               have OW2 := Lib.hid own2
               obtain ⟨g2, cc2, rfl⟩ := pown_form own2
               have X3 := Lib.hid ((X2.out.more (.cells (cP f).toArray 33)).gr gr2 (fun r hr => by have := OW1.out.lt r hr; omega))
               have PD := Lib.hid (pat_drop p HN.out hp hc HH.out (RowsAt.next HP.out X3.out.bel))
               clear own2 gr2 nil2 tk2 y0 y1 y2 y3 y4)
            | (have _t := tk3; at_builtin; refine wpList_append_own _ rfl (.tmp 61) (.tmp 64) _ rfl (w.heap.size + 1) 33 i0 (pvV (⟨0, 0, 0, []⟩, 0)) 5 48 Tryd.underlying29 hi0 hz0 hz1 hz2 rfl (by decide) _ _ _ rfl OW2.out ⟨L, H, none⟩ (n - p) (c - p) (fcl cP (ps.drop p)) rfl (by rw [fcl_len cP_len, LD.out]) (pat_news PD.out) (fcl_one cP_one _) (by unfold maxLen; omega) (by omega) X3.out.lt ?_
               intro v3 w3 own3 gr3 nil3
               have OW3 := Lib.hid own3
               have X4 := Lib.hid (X3.out.gr gr3 (fun r hr => by have := OW2.out.lt r hr; omega))
               clear own3 gr3 nil3 tk3)
            | fail)
          go_ret
          exact pput_done OW3.out X4.out.bel (by omega) INS.out
end Go.Proofs.YtblamffdlclomaaDoor

namespace Go.Proofs.YtblamffdlclomaaDoor
open Go Go.RowKit

theorem psl_no1 (W : World) : (Instr.slice 29 (.slice none 0 0) none (some (.int .i64 0)) none).run Tryd.prog W = .ok (.slice none 0 0) W := by
  simp [Instr.slice, go_sem]
theorem psl_no2 (W : World) : (Instr.slice 29 (.slice none 0 0) (some (.int .i64 0)) none none).run Tryd.prog W = .ok (.slice none 0 0) W := by
  simp [Instr.slice, go_sem]
theorem pput_one {w W : World} {v : Value} {base : Nat} {e : TypeId} {f : PV} (h : W.ownsRow base e 5 v 1 (cP f)) (hb : Below w.heap.size w W) :
    ∃ g c', Ending.returned v = .returned (.slice (some ⟨g, 0, none⟩) (0 + 1) c') ∧ (PAt (some ⟨g, 0, none⟩) (ins ltP f []) W ∧ 0 + 1 ≤ c') ∧ Below w.heap.size w W := by
  rcases h.2 with ⟨-, h0⟩ | ⟨g, c, cur, rfl, -⟩
  · omega
  · refine ⟨g, c, rfl, ?_, hb⟩
    refine own_pat (base := base) (e := e) ?_
    have e : fcl cP (ins ltP f []) = cP f := by simp [fcl, ins]
    rw [e]; exact h

set_option maxRecDepth 20000 in
set_option maxHeartbeats 8000000 in
theorem xput_no (f : PV) (w : World) :
    Calls Tryd.prog 16 #[.slice none 0 0, pvV f] w fun e w' => ∃ g c', e = .returned (.slice (some ⟨g, 0, none⟩) (0 + 1) c') ∧ (PAt (some ⟨g, 0, none⟩) (ins ltP f []) w' ∧ 0 + 1 ≤ c') ∧ Below w.heap.size w w' := by
  have X0 := Lib.hid (BlkN.make (Below.refl w.heap.size w) (cP f).toArray 33)
  obtain ⟨i0, hi0, hz0, hz1, hz2⟩ := info_parts pv_info
  unfold pvV
  go_enter Tryd.func16, Tryd.ntmps16
  go_wp2
  go_loopw [5] (fun v wr => v = .int .i64 0 ∧ BlkN w w.heap.size (cP f).toArray 33 wr) (fun v _ => 0)
  case atStart => exact ⟨rfl, X0.out⟩
  case round =>
    clear X0
    obtain ⟨rfl, hX⟩ := hrel
    have X := Lib.hid hX
    clear hX
    go_wp2
    go_quiet (fail)
    have X1 := Lib.hid (X.out.drewN nq)
    obtain ⟨y0, y1, y2, y3, y4⟩ := cells5 X1.out.blk
    have tk1 : True := trivial
    have tk2 : True := trivial
    have tk3 : True := trivial
    have sl1 := psl_no1
    have sl2 := psl_no2
    go_wp2_with (first
      | (have _t := tk1; at_builtin; refine wpList_append_own_none rfl (.tmp 52) (.tmp 55) _ rfl (w.heap.size + 1) 33 i0 5 Tryd.underlying29 hi0 _ _ _ rfl (World.ownsRow_nil _ _ _ _) rfl ?_
         clear tk1)
      | (have _t := tk2; at_builtin; refine wpList_append_own _ rfl (.tmp 57) (.tmp 59) _ rfl (w.heap.size + 1) 33 i0 (pvV (⟨0, 0, 0, []⟩, 0)) 5 48 Tryd.underlying29 hi0 hz0 hz1 hz2 rfl (by decide) _ _ _ rfl (World.ownsRow_nil _ _ _ _) ⟨(wr.drewN nq).heap.size, 0, none⟩ 1 1 (cP f) rfl rfl (pv_new (wr.drewN nq) f _) (cP_one _) (by unfold maxLen; omega) (by omega) (by have := X1.out.lt; simp at this ⊢; omega) ?_
         intro v2 w2 own2 gr2 nil2
         rw [Nat.zero_add, List.nil_append] at own2
         have OW2 := Lib.hid own2
         obtain ⟨g2, cc2, rfl⟩ := pown_form own2
         have X3 := Lib.hid ((X1.out.more (.cells (cP f).toArray 33)).gr gr2 (fun r hr => by cases hr))
         clear own2 gr2 nil2 tk2 y0 y1 y2 y3 y4)
      | (have _t := tk3; at_builtin; refine wpList_append_own_none rfl (.tmp 61) (.tmp 64) _ rfl (w.heap.size + 1) 33 i0 5 Tryd.underlying29 hi0 _ _ _ rfl OW2.out rfl ?_
         clear tk3)
      | fail)
    go_ret
    exact pput_one OW2.out X3.out.bel
end Go.Proofs.YtblamffdlclomaaDoor

namespace Go.Proofs.YtblamffdlclomaaDoor
open Go Go.RowKit

def allN (rs : List RV) (a b : Int) : Nat → List PV
  | 0 => []
  | i + 1 => allN rs a b i ++ (rs[i]?).toList.flatMap fun r => (frA r a b).map fun p => (p.2, i)
theorem allN_snoc {rs : List RV} {a b : Int} {i : Nat} {r : RV} (h : rs[i]? = some r) : allN rs a b (i + 1) = allN rs a b i ++ (frA r a b).map fun p => (p.2, i) := by rw [allN, h]; simp
theorem allN_pl {rs : List RV} {a b : Int} {n : Nat} : ∀ q ∈ allN rs a b n, q.2 < n := by
  induction n with
  | zero => intro q hq; cases hq
  | succ n ih =>
    intro q hq
    rw [allN, List.mem_append] at hq
    rcases hq with hq | hq
    · have := ih q hq; omega
    · obtain ⟨r, -, hr⟩ := List.mem_flatMap.1 hq
      obtain ⟨p, -, rfl⟩ := List.mem_map.1 hr
      exact Nat.lt_succ_self n
theorem allN_fst {rs : List RV} {a b : Int} {n : Nat} (hn : n ≤ rs.length) : (allN rs a b n).map Prod.fst = allF (rs.take n) a b := by
  induction n with
  | zero => simp [allN, allF]
  | succ n ih =>
    have hr := List.getElem?_eq_getElem (l := rs) (i := n) (by omega)
    rw [allN_snoc hr, allF_snoc hr, List.map_append, ih (by omega), List.map_map]
    rfl
theorem ins_fst (x : PV) (l : List PV) : (ins ltP x l).map Prod.fst = ins (ltOf cfF) x.1 (l.map Prod.fst) := by
  induction l with
  | nil => rfl
  | cons y r ih =>
    have e : ltOf cfF x.1 y.1 = ltP x y := by rw [lt_cfF]; rfl
    show List.map Prod.fst (ins ltP x (y :: r)) = ins (ltOf cfF) x.1 (y.1 :: r.map Prod.fst)
    unfold ins
    rw [e]
    split
    · rfl
    · rw [List.map_cons, ih]
theorem mrg_fst (A B : List PV) : (mrg ltP A B).map Prod.fst = mrg (ltOf cfF) (A.map Prod.fst) (B.map Prod.fst) := by
  induction B generalizing A with
  | nil => rfl
  | cons b B ih => rw [mrg_cons, ih, ins_fst]; rfl
theorem iso_fst (l : List PV) : (iso ltP l).map Prod.fst = iso (ltOf cfF) (l.map Prod.fst) := mrg_fst [] l
theorem frA_at {r : RV} {a b F : Int} {M : Nat} (ha : -90000 ≤ a) (hb : b ≤ 90000) (hF : max a r.fr = F) (hM : M = (min b r.tl + 1 - F).toNat) : frA r a b = frL r F M := by
  unfold frA
  have e1 : max (max a r.fr) (-100000) = F := by omega
  have e2 : min (min b r.tl) 100000 = min b r.tl := by omega
  rw [e1, e2, hM]

def POut (v : Value) (l : List PV) (W : World) : Prop := (v = .slice none 0 0 ∧ l = []) ∨ ∃ g c, v = .slice (some ⟨g, 0, none⟩) l.length c ∧ PAt (some ⟨g, 0, none⟩) l W ∧ l.length ≤ c
theorem POut.next {v : Value} {l : List PV} {W W1 : World} (h : POut v l W) (k : Below W.heap.size W W1) : POut v l W1 := by
  rcases h with h | ⟨g, c, e, hp, hc⟩
  · exact .inl h
  · exact .inr ⟨g, c, e, RowsAt.next hp k, hc⟩
theorem xput_any (v : Value) (l : List PV) (f : PV) (w : World) (hv : POut v l w) (hl : l.length ≤ 100000) (hs : Srt ltP l) (hq : ∀ q ∈ l, q.2 ≤ f.2) :
    Calls Tryd.prog 16 #[v, pvV f] w fun e w' => ∃ v', e = .returned v' ∧ POut v' (ins ltP f l) w' ∧ Below w.heap.size w w' := by
  rcases hv with ⟨rfl, rfl⟩ | ⟨g, c, rfl, hp, hc⟩
  · exact (xput_no f w).mono fun e w' ⟨g, c', h1, h2, h3⟩ => ⟨_, h1, .inr ⟨g, c', by rw [ins_len]; rfl, h2.1, by rw [ins_len]; exact h2.2⟩, h3⟩
  · exact (xput_is g l.length c l f w hp rfl hc hl hs hq).mono fun e w' ⟨g', c', h1, h2, h3⟩ => ⟨_, h1, .inr ⟨g', c', by rw [ins_len], h2.1, by rw [ins_len]; exact h2.2⟩, h3⟩

def AllIs (l : List PV) (w : World) (e : Ending) (w' : World) : Prop := ∃ v, e = .returned v ∧ POut v l w' ∧ Below w.heap.size w w'

set_option maxRecDepth 20000 in
set_option maxHeartbeats 8000000 in
theorem xall_is (A0 : Option Addr) (n c0 : Nat) (rs : List RV) (a b : Int) (w : World) (hR : RowsAt 11 cR A0 rs w) (hn : rs.length = n) (hn1 : n ≤ 6) (hok : ∀ r ∈ rs, okR r) (ha : -90000 ≤ a) (hb : b ≤ 90000) (hab : b - a ≤ 5000) :
    Calls Tryd.prog 8 #[.slice A0 n c0, .int .i64 a, .int .i64 b] w (AllIs (iso ltP (allN rs a b n)) w) := by
  have HR := Lib.hid hR
  have HN := Lib.hid hn
  have OK := Lib.hid hok
  have X0 := Lib.hid (Below.refl w.heap.size w)
  clear hR hn hok
  go_enter Tryd.func8, Tryd.ntmps8
  go_wp2
  go_loopw [7, 8] (fun v vi wr => ∃ i : Nat, vi = .int .i64 i ∧ i ≤ n ∧ POut v (iso ltP (allN rs a b i)) wr ∧ Below w.heap.size w wr) (fun _ vi _ => n - (intOf vi).toNat)
  case atStart => exact ⟨0, rfl, Nat.zero_le _, .inl ⟨rfl, rfl⟩, X0.out⟩
  case round =>
    clear X0
    obtain ⟨i, rfl, i1, hO, hX⟩ := hrel
    have O := Lib.hid hO
    have X := Lib.hid hX
    clear hO hX
    by_cases hlt : i < n
    · have hii : (i : Int) < (n : Int) := by omega
      obtain ⟨r, hr⟩ : ∃ r, rs[i]? = some r := ⟨_, List.getElem?_eq_getElem (by rw [HN.out]; exact hlt)⟩
      obtain ⟨L, off, rfl, hrul⟩ := rul_at HR.out hr
      obtain ⟨r0, r1, r2, r3, r4, r5, r6, r7, r8, r9, r10⟩ := (hrul.next X.out).cells
      have HRI := Lib.hid hr
      have OKR := Lib.hid (OK.out r (List.mem_of_getElem? hr))
      have B0 := Lib.hid (BlkN.make X.out (cR r) 44)
      obtain ⟨g0, g1, g2, g3, g4, g5, g6, g7, g8, g9, g10⟩ := cells11 B0.out.blk
      obtain ⟨F, hF⟩ : ∃ F, max a r.fr = F := ⟨_, rfl⟩
      obtain ⟨M, hM⟩ : ∃ M, M = (min b r.tl + 1 - F).toNat := ⟨_, rfl⟩
      have FA : Hid (frA r a b = frL r F M) := Lib.hid (frA_at ha hb hF hM)
      have hFa : a ≤ F ∧ r.fr ≤ F := by omega
      have HF := Lib.hid hF
      have LB : Hid (∀ j, j ≤ M → (allN rs a b i ++ (frL r F j).map fun p => (p.2, i)).length ≤ 100000) := Lib.hid fun j hj => by
        have e1 : (allN rs a b i).length = (allF (rs.take i) a b).length := by rw [← allN_fst (by rw [HN.out]; omega), List.length_map]
        have e2 := allF_len hab (rs.take i)
        have e3 : (rs.take i).length ≤ 6 := by rw [List.length_take, HN.out]; omega
        have e4 := frL_len r F j
        have e5 := Nat.mul_le_mul_right 5001 e3
        rw [List.length_append, List.length_map, e1]
        omega
      have HM := Lib.hid hM
      clear hr hrul hF hM
      go_wp2
      clear r0 r1 r2 r3 r4 r5 r6 r7 r8 r9 r10 g0 g1 g2 g3 g4 g5 g6 g7 g8 g9 g10
      go_loopw [7, 10] (fun v vy wq => ∃ j : Nat, vy = .int .i64 (F + j) ∧ j ≤ M ∧ POut v (iso ltP (allN rs a b i ++ (frL r F j).map fun p => (p.2, i))) wq ∧ BlkN w wr.heap.size (cR r) 44 wq) (fun _ vy _ => (b + 1 - intOf vy).toNat)
      case atStart => exact ⟨0, by rw [HF.out]; simp, Nat.zero_le _, by simpa [frL] using O.out.next ((Below.refl _ _).alloc (Nat.le_refl _) _), B0.out⟩
      case round =>
        clear O B0
        obtain ⟨j, rfl, j1, hO2, hB2⟩ := hrel
        have O2 := Lib.hid hO2
        have B2 := Lib.hid hB2
        obtain ⟨g0, g1, g2, g3, g4, g5, g6, g7, g8, g9, g10⟩ := cells11 hB2.blk
        have hl2 := LB.out j j1
        have RT := Lib.hid (show Srt ltP (iso ltP (allN rs a b i ++ (frL r F j).map fun p => (p.2, i))) from iso_srt wordP _)
        have PL : Hid (∀ q ∈ iso ltP (allN rs a b i ++ (frL r F j).map fun p => (p.2, i)), q.2 ≤ i) := Lib.hid fun q hq => by
          rw [iso_mem, List.mem_append] at hq
          rcases hq with hq | hq
          · exact Nat.le_of_lt (allN_pl q hq)
          · obtain ⟨p, -, rfl⟩ := List.mem_map.1 hq
            exact Nat.le_refl _
        clear hO2 hB2
        by_cases hy : F + (j : Int) ≤ b
        · by_cases hy2 : F + (j : Int) ≤ r.tl
          · have okr := OKR.out
            have jM : j + 1 ≤ M := by have := HM.out; omega
            have ynr : nrY (F + (j : Int)) := ⟨by omega, by omega⟩
            obtain ⟨T, hT⟩ : ∃ T, tgtD r.dk r.dw r.dn (F + (j : Int)) r.mo = T := ⟨_, rfl⟩
            by_cases hdn : r.dn ≤ dim (F + (j : Int)) r.mo
            · have tn := tgt_near (wk := r.dw) okr.1 ynr okr.2.1 okr.2.2.1 hdn
              rw [hT] at tn
              have sc1 := okr.2.2.2.1
              have sc2 := okr.2.2.2.2
              have DY := Lib.hid fun W => xday_yes r.dk r.dw r.dn (F + (j : Int)) r.mo T W (by omega) (by omega) okr.2.1 okr.2.2.1 okr.1 hdn hT
              have fy : frY r (F + (j : Int)) := ⟨by omega, hy2, hdn⟩
              have EJ : Hid (iso ltP (allN rs a b i ++ (frL r F (j + 1)).map fun p => (p.2, i)) = ins ltP (⟨86400 * T + r.sc, r.ck, r.sv, r.lt⟩, i) (iso ltP (allN rs a b i ++ (frL r F j).map fun p => (p.2, i)))) := Lib.hid (by
                have e : frF r (F + (j : Int)) = ⟨86400 * T + r.sc, r.ck, r.sv, r.lt⟩ := by unfold frF; rw [hT, Int.mul_comm]
                rw [frL_yes fy, List.map_append, ← List.append_assoc, ← e]
                exact iso_snoc _ _)
              have PU : Hid (∀ W, Below wr.heap.size wr W → Calls Tryd.prog 16 #[u7, .agg #[.int .i64 (86400 * T + r.sc), .int .i64 r.ck, .int .i64 r.sv, .int .i64 (i : Int), .string ⟨r.lt.toArray⟩]] W fun e w' => ∃ v', e = .returned v' ∧ POut v' (ins ltP (⟨86400 * T + r.sc, r.ck, r.sv, r.lt⟩, i) (iso ltP (allN rs a b i ++ (frL r F j).map fun p => (p.2, i)))) w' ∧ Below W.heap.size W w') := Lib.hid fun W k =>
                xput_any u7 _ (⟨86400 * T + r.sc, r.ck, r.sv, r.lt⟩, i) W (O2.out.next k) (by rw [iso_len]; exact hl2) RT.out PL.out
              clear hT hdn fy okr
              go_wp2_with (first
                | (go_at_call 15; (with_reducible refine (DY.out _).mono ?_); (rintro e w1 ⟨rfl, k1⟩); have K1 := Lib.hid k1; have B3 := Lib.hid (B2.out.next k1); clear k1 g0 g1 g2 g3 g4 g5 g6 g7 g8 g9 g10; (obtain ⟨g0, g1, g2, g3, g4, g5, g6, g7, g8, g9, g10⟩ := cells11 B3.out.blk); simp only [])
                | (go_at_call 16; (with_reducible refine (PU.out _ K1.out).mono ?_); (rintro e w2 ⟨v2, rfl, o2, k2⟩); have O4 := Lib.hid o2; have B4 := Lib.hid (B3.out.next k2); clear k2 o2; simp only []))
              go_round
              case rel => exact ⟨j + 1, by simp [Int.add_assoc], jM, by rw [EJ.out]; exact O4.out, B4.out⟩
              case measure => simp [intOf]; omega
            · have DY := Lib.hid fun W => xday_no r.dk r.dw r.dn (F + (j : Int)) r.mo W (by omega) (by omega) okr.2.1 okr.2.2.1 okr.1 (by omega)
              have EJ : Hid (frL r F (j + 1) = frL r F j) := Lib.hid (frL_no fun h => hdn h.2.2)
              clear hT hdn okr
              go_wp2_with (go_at_call 15; (with_reducible refine (DY.out _).mono ?_); (rintro e w1 ⟨rfl, k1⟩); have K1 := Lib.hid k1; have B3 := Lib.hid (B2.out.next k1); clear k1; simp only [])
              go_round
              case rel => exact ⟨j + 1, by simp [Int.add_assoc], jM, by rw [EJ.out]; exact O2.out.next K1.out, B3.out⟩
              case measure => simp [intOf]; omega
          · have ej : j = M := by have := HM.out; omega
            have EN : Hid (allN rs a b (i + 1) = allN rs a b i ++ (frL r F j).map fun p => (p.2, i)) := Lib.hid (by rw [allN_snoc HRI.out, FA.out, ej])
            go_wp2
            go_round
            case rel => exact ⟨i + 1, rfl, by omega, by rw [EN.out]; exact O2.out, B2.out.bel⟩
            case measure => simp [intOf]; omega
        · have ej : j = M := by have := HM.out; omega
          have EN : Hid (allN rs a b (i + 1) = allN rs a b i ++ (frL r F j).map fun p => (p.2, i)) := Lib.hid (by rw [allN_snoc HRI.out, FA.out, ej])
          go_wp2
          go_round
          case rel => exact ⟨i + 1, rfl, by omega, by rw [EN.out]; exact O2.out, B2.out.bel⟩
          case measure => simp [intOf]; omega
    · obtain rfl : i = n := by omega
      go_wp2
      go_ret
      exact ⟨_, rfl, O.out, X.out⟩
end Go.Proofs.YtblamffdlclomaaDoor
