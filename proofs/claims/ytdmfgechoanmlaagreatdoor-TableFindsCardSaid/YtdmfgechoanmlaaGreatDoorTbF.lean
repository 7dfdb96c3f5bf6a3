/- table.Next and table.Prev. -/
import Derived.Test.YtdmfgechoanmlaaGreatDoorMYF
namespace Go.Proofs.YtdmfgechoanmlaaGreatDoor
open Go Go.RowKit Go.Shelf
attribute [local go_sem] Oper.semAt_some

/-- Is a change not behind an instant? -/
theorem pupto_is (x : CV) (t : Int) (B : Nat) (w : World) (hB : w.cell? ⟨B, 0, none⟩ = some (.int .i64 t)) :
    Calls Tryz.prog 45 #[.agg #[.int .i64 x.t, .int .i64 x.of, .bool x.ds, .string ⟨x.ab.toArray⟩], .pointer (some ⟨B, 0, none⟩)] w fun e w' => e = .returned (.bool (decide (x.t ≤ t))) ∧ Below w.heap.size w w' := by
  have X := Lib.hid (BlkN.make (Below.refl w.heap.size w) #[.int .i64 x.t, .int .i64 x.of, .bool x.ds, .string ⟨x.ab.toArray⟩] 71)
  have hl : B < w.heap.size := cell_lt hB
  have c0 := (X.out.bel.cell (p := ⟨B, 0, none⟩) hl).trans hB
  obtain ⟨x0, x1, x2, x3⟩ := cel4 X.out.blk
  clear hB
  go_enter Tryz.func45, Tryz.ntmps45
  repeat (first | go_values | go_skip | go_guarded | go_step | go_upon | go_back)
  go_ret
  exact ⟨rfl, X.out.bel⟩
set_option maxHeartbeats 1000000 in
theorem plast_is (A : Option Addr) (n c : Nat) (xs : List CV) (t : Int) (B : Nat) (w : World) (hA : RowsAt 4 cC A xs w) (hn : xs.length = n) (h1 : n ≤ 1000000) (hB : w.cell? ⟨B, 0, none⟩ = some (.int .i64 t)) :
    Calls Tryz.prog 41 #[.slice A n c, .func (.func 45) #[] #[.pointer (some ⟨B, 0, none⟩)]] w fun e w' => e = .returned (.int .i64 (lasN xs t n)) ∧ Below w.heap.size w w' := by
  have AA := Lib.hid hA
  have HN := Lib.hid hn
  have BB := Lib.hid hB
  have hl : B < w.heap.size := cell_lt hB
  have UP := Lib.hid (fun x W (k : Below w.heap.size w W) => pupto_is x t B W ((k.cell (p := ⟨B, 0, none⟩) hl).trans hB))
  clear hA hn hB
  have hs : IntKind.i64.wrap ((n : Int) - 1) = (n : Int) - 1 := IntWalk.i64_in _ (by omega)
  go_enter Tryz.func41, Tryz.ntmps41
  repeat (first | go_values | go_skip | go_guarded | go_step | go_upon | go_back)
  go_loopw [5] (fun u wr => ∃ k : Nat, u = .int .i64 ((k : Int) - 1) ∧ k ≤ n ∧ lasN xs t n = lasN xs t k ∧ Below w.heap.size w wr) (fun u _ => (intOf u + 1).toNat)
  case atStart => exact ⟨n, rfl, by omega, rfl, Below.refl _ _⟩
  case round =>
    obtain ⟨k, rfl, hi, hq, hk⟩ := hrel
    have HK := Lib.hid hk
    have HQ := Lib.hid hq
    clear hk hq
    cases k with
    | zero =>
      have hge : ¬ ((0 : Nat) : Int) - 1 ≥ 0 := by omega
      repeat (first | go_values | go_skip | go_guarded | go_step | go_upon | go_back)
      go_ret
      exact ⟨by rw [HQ.out]; rfl, HK.out⟩
    | succ k =>
      have e0 : ((k + 1 : Nat) : Int) - 1 = (k : Int) := by omega
      simp only [e0]
      have hge : (k : Int) ≥ 0 := by omega
      have hs1 : IntKind.i64.wrap ((k : Int) - 1) = (k : Int) - 1 := IntWalk.i64_in _ (by omega)
      have hkn : (k : Int) < (n : Int) := by omega
      obtain ⟨x, hx⟩ : ∃ x, xs[k]? = some x := ⟨_, List.getElem?_eq_getElem (by rw [HN.out]; omega)⟩
      obtain ⟨L, off, rfl, hL, x0, x1, x2, x3⟩ := cc_cells (AA.out.next HK.out) hx
      by_cases hle : x.t ≤ t
      · have E := Lib.hid (lasN_yes hx hle)
        clear hx
        repeat (first
          | (go_at_call 45; refine (UP.out x _ HK.out).mono ?_; rintro e w1 ⟨rfl, k1⟩; have K1 := Lib.hid (bthen HK.out k1); clear k1; simp only [])
          | go_values | go_skip | go_guarded | go_step | go_upon | go_back)
        go_ret
        exact ⟨by rw [HQ.out, E.out]; rfl, K1.out⟩
      · have E := Lib.hid (lasN_no hx hle)
        clear hx
        repeat (first
          | (go_at_call 45; refine (UP.out x _ HK.out).mono ?_; rintro e w1 ⟨rfl, k1⟩; have K1 := Lib.hid (bthen HK.out k1); clear k1; simp only [])
          | go_values | go_skip | go_guarded | go_step | go_upon | go_back)
        go_roundw
        case rel => exact ⟨k, rfl, by omega, by rw [HQ.out, E.out], K1.out⟩
        case measure => simp [intOf] <;> omega
/-- Is a change behind an instant? -/
theorem behind_is (x : CV) (t : Int) (B : Nat) (w : World) (hB : w.cell? ⟨B, 0, none⟩ = some (.int .i64 t)) :
    Calls Tryz.prog 44 #[.agg #[.int .i64 x.t, .int .i64 x.of, .bool x.ds, .string ⟨x.ab.toArray⟩], .pointer (some ⟨B, 0, none⟩)] w fun e w' => e = .returned (.bool (decide (x.t > t))) ∧ Below w.heap.size w w' := by
  have X := Lib.hid (BlkN.make (Below.refl w.heap.size w) #[.int .i64 x.t, .int .i64 x.of, .bool x.ds, .string ⟨x.ab.toArray⟩] 71)
  have hl : B < w.heap.size := cell_lt hB
  have c0 := (X.out.bel.cell (p := ⟨B, 0, none⟩) hl).trans hB
  obtain ⟨x0, x1, x2, x3⟩ := cel4 X.out.blk
  clear hB
  go_enter Tryz.func44, Tryz.ntmps44
  repeat (first | go_values | go_skip | go_guarded | go_step | go_upon | go_back)
  go_ret
  exact ⟨rfl, X.out.bel⟩
/-- The place of the next change. -/
def nexN (xs : List CV) (t : Int) (n : Nat) : Int := if lasN xs t n + 1 < n then lasN xs t n + 1 else -1
set_option maxHeartbeats 1000000 in
theorem tindex_is (A : Option Addr) (n c : Nat) (xs : List CV) (t : Int) (B : Nat) (w : World) (hA : RowsAt 4 cC A xs w) (hn : xs.length = n) (h1 : n ≤ 1000000) (hr : RisC xs) (hB : w.cell? ⟨B, 0, none⟩ = some (.int .i64 t)) :
    Calls Tryz.prog 43 #[.slice A n c, .func (.func 44) #[] #[.pointer (some ⟨B, 0, none⟩)]] w fun e w' => e = .returned (.int .i64 (nexN xs t n)) ∧ Below w.heap.size w w' := by
  have AA := Lib.hid hA
  have HN := Lib.hid hn
  have HR := Lib.hid hr
  have hl : B < w.heap.size := cell_lt hB
  have UP := Lib.hid (fun x W (k : Below w.heap.size w W) => behind_is x t B W ((k.cell (p := ⟨B, 0, none⟩) hl).trans hB))
  clear hA hn hB hr
  go_enter Tryz.func43, Tryz.ntmps43
  repeat (first | go_values | go_skip | go_guarded | go_step | go_upon | go_back)
  go_loopw [8] (fun u wr => ∃ k : Nat, u = .int .i64 (k : Int) ∧ k ≤ n ∧ (∀ j c, j < k → xs[j]? = some c → c.t ≤ t) ∧ Below w.heap.size w wr) (fun u _ => n - (intOf u).toNat)
  case atStart => exact ⟨0, rfl, by omega, fun j c h => by omega, Below.refl _ _⟩
  case round =>
    obtain ⟨k, rfl, hi, hq, hk⟩ := hrel
    have HK := Lib.hid hk
    have HQ := Lib.hid hq
    clear hk hq
    by_cases hlt : k < n
    · have hlt' : (k : Int) < (n : Int) := by omega
      obtain ⟨x, hx⟩ : ∃ x, xs[k]? = some x := ⟨_, List.getElem?_eq_getElem (by rw [HN.out]; omega)⟩
      obtain ⟨L, off, rfl, hL, x0, x1, x2, x3⟩ := cc_cells (AA.out.next HK.out) hx
      have HX := Lib.hid hx
      clear hx
      by_cases hgt : x.t > t
      · have E : Hid (nexN xs t n = (k : Int)) := Lib.hid (by
          have := lasN_rise HR.out (by rw [HN.out]; omega) HQ.out (.inr ⟨x, HX.out, hgt⟩)
          rw [HN.out] at this
          unfold nexN
          rw [this, if_pos (by omega)]; omega)
        repeat (first
          | (go_at_call 44; refine (UP.out x _ HK.out).mono ?_; rintro e w1 ⟨rfl, k1⟩; have K1 := Lib.hid (bthen HK.out k1); clear k1; simp only [])
          | go_values | go_skip | go_guarded | go_step | go_upon | go_back)
        go_ret
        exact ⟨by rw [E.out]; rfl, K1.out⟩
      · repeat (first
          | (go_at_call 44; refine (UP.out x _ HK.out).mono ?_; rintro e w1 ⟨rfl, k1⟩; have K1 := Lib.hid (bthen HK.out k1); clear k1; simp only [])
          | go_values | go_skip | go_guarded | go_step | go_upon | go_back)
        go_roundw
        case rel =>
          refine ⟨k + 1, rfl, by omega, fun j c hj h2 => ?_, K1.out⟩
          by_cases hjk : j = k
          · subst hjk
            have e1 := HX.out.symm.trans h2
            injection e1 with e1
            rw [← e1]; omega
          · exact HQ.out j c (by omega) h2
        case measure => simp [intOf] <;> omega
    · obtain rfl : k = n := by omega
      have hlt' : ¬ ((k : Nat) : Int) < (k : Int) := by omega
      have E : Hid (nexN xs t k = -1) := Lib.hid (by
        have := lasN_rise HR.out (by rw [HN.out]; omega) HQ.out (.inl HN.out.symm)
        rw [HN.out] at this
        unfold nexN
        rw [this, if_neg (by omega)])
      repeat (first | go_values | go_skip | go_guarded | go_step | go_upon | go_back)
      go_ret
      exact ⟨by rw [E.out]; rfl, HK.out⟩
/-- A change that may be. -/
def chC : Option CV → Value
  | none => .tuple #[.agg #[.int .i64 0, .int .i64 0, .bool false, .string ⟨#[]⟩], .bool false]
  | some x => .tuple #[.agg #[.int .i64 x.t, .int .i64 x.of, .bool x.ds, .string ⟨x.ab.toArray⟩], .bool true]
def nexO (xs : List CV) (t : Int) : Option CV := if nexN xs t xs.length < 0 then none else xs[(nexN xs t xs.length).toNat]?
def preO (xs : List CV) (t : Int) : Option CV := if lasN xs t xs.length < 1 then none else xs[(lasN xs t xs.length).toNat]?
theorem nexN_lt (xs : List CV) (t : Int) (n : Nat) : nexN xs t n < n := by unfold nexN; split <;> omega
set_option maxHeartbeats 1000000 in
theorem tnext_is (A : Option Addr) (n c : Nat) (xs : List CV) (t : Int) (w : World) (hA : RowsAt 4 cC A xs w) (hn : xs.length = n) (h1 : n ≤ 1000000) (hr : RisC xs) :
    Calls Tryz.prog 22 #[.slice A n c, .int .i64 t] w fun e w' => e = .returned (chC (nexO xs t)) ∧ Below w.heap.size w w' := by
  have hmf : ∀ (fn : Fn) (first cap : Array Value) (w : World), (Instr.makeFunc fn first cap).run Tryz.prog w = .ok (.func fn first cap) w := fun _ _ _ _ => rfl
  have T0 := Lib.hid ((BlkN.make (Below.refl w.heap.size w) #[.int .i64 t] 3).more (.cells #[.int .i64 0, .int .i64 0, .bool false, .string ⟨#[]⟩] 71))
  have L0 := Lib.hid (BlkN.two w (.cells #[.int .i64 t] 3) #[.int .i64 0, .int .i64 0, .bool false, .string ⟨#[]⟩] 71)
  have TL := Lib.hid (fun W (k : Below w.heap.size w W) (hB : W.cell? ⟨w.heap.size, 0, none⟩ = some (.int .i64 t)) => tindex_is A n c xs t w.heap.size W (hA.next k) hn h1 hr hB)
  have AA := Lib.hid hA
  have HN := Lib.hid hn
  have LT : nexN xs t n < n := nexN_lt _ _ _
  have DO : nexO xs t = if nexN xs t n < 0 then none else xs[(nexN xs t n).toNat]? := by unfold nexO; rw [hn]
  clear hA hn
  generalize nexN xs t n = p at *
  by_cases hz : p < 0
  · rw [if_pos hz] at DO
    rw [DO]
    clear DO
    go_enter Tryz.func22, Tryz.ntmps22
    repeat (first
      | (go_at_call 43; refine (TL.out _ T0.out.bel (cel1 T0.out.blk)).mono ?_; rintro e w1 ⟨rfl, k1⟩; have L1 := Lib.hid (L0.out.next k1); clear k1; obtain ⟨z0, z1, z2, z3⟩ := cel4 L1.out.blk; have f0 := frz (j := 0) L1.out.blk; have f1 := frz (j := 1) L1.out.blk; have f2 := frz (j := 2) L1.out.blk; have f3 := frz (j := 3) L1.out.blk; simp only [])
      | go_values | go_skip | go_guarded | go_step | go_upon | go_back)
    refine (L1.out.set4).ret fun W' B => ?_
    obtain ⟨c0, c1, c2, c3⟩ := cel4 B.blk
    exact bodyPost_ret (by simp [results, Tryz.results22, go_sem, c0, c1, c2, c3, chC]) rfl ⟨rfl, B.bel⟩
  · obtain ⟨k, rfl⟩ : ∃ k : Nat, p = (k : Int) := ⟨p.toNat, by omega⟩
    obtain ⟨x, hx⟩ : ∃ x, xs[k]? = some x := ⟨_, List.getElem?_eq_getElem (by rw [HN.out]; omega)⟩
    rw [if_neg hz, Int.toNat_natCast, hx] at DO
    rw [DO]
    have HX := Lib.hid hx
    have hk0 : (0 : Int) ≤ (k : Int) := by omega
    clear DO hx
    go_enter Tryz.func22, Tryz.ntmps22
    repeat (first
      | (go_at_call 43; refine (TL.out _ T0.out.bel (cel1 T0.out.blk)).mono ?_; rintro e w1 ⟨rfl, k1⟩; have L1 := Lib.hid (L0.out.next k1); clear k1; obtain ⟨z0, z1, z2, z3⟩ := cel4 L1.out.blk; have f0 := frz (j := 0) L1.out.blk; have f1 := frz (j := 1) L1.out.blk; have f2 := frz (j := 2) L1.out.blk; have f3 := frz (j := 3) L1.out.blk; obtain ⟨L, off, rfl, hL, x0, x1, x2, x3⟩ := cc_cells (AA.out.next L1.out.bel) HX.out; simp only [])
      | go_values | go_skip | go_guarded | go_step | go_upon | go_back)
    refine (L1.out.set4).ret fun W' B => ?_
    obtain ⟨c0, c1, c2, c3⟩ := cel4 B.blk
    exact bodyPost_ret (by simp [results, Tryz.results22, go_sem, c0, c1, c2, c3, chC]) rfl ⟨rfl, B.bel⟩
set_option maxHeartbeats 1000000 in
theorem tprev_is (A : Option Addr) (n c : Nat) (xs : List CV) (t : Int) (w : World) (hA : RowsAt 4 cC A xs w) (hn : xs.length = n) (h1 : n ≤ 1000000) :
    Calls Tryz.prog 23 #[.slice A n c, .int .i64 t] w fun e w' => e = .returned (chC (preO xs t)) ∧ Below w.heap.size w w' := by
  have hmf : ∀ (fn : Fn) (first cap : Array Value) (w : World), (Instr.makeFunc fn first cap).run Tryz.prog w = .ok (.func fn first cap) w := fun _ _ _ _ => rfl
  have T0 := Lib.hid ((BlkN.make (Below.refl w.heap.size w) #[.int .i64 t] 3).more (.cells #[.int .i64 0, .int .i64 0, .bool false, .string ⟨#[]⟩] 71))
  have L0 := Lib.hid (BlkN.two w (.cells #[.int .i64 t] 3) #[.int .i64 0, .int .i64 0, .bool false, .string ⟨#[]⟩] 71)
  have TL := Lib.hid (fun W (k : Below w.heap.size w W) (hB : W.cell? ⟨w.heap.size, 0, none⟩ = some (.int .i64 t)) => plast_is A n c xs t w.heap.size W (hA.next k) hn h1 hB)
  have AA := Lib.hid hA
  have HN := Lib.hid hn
  have LT : lasN xs t n < n := (lasN_bd _ _ _).2
  have DO : preO xs t = if lasN xs t n < 1 then none else xs[(lasN xs t n).toNat]? := by unfold preO; rw [hn]
  clear hA hn
  generalize lasN xs t n = p at *
  by_cases hz : p < 1
  · rw [if_pos hz] at DO
    rw [DO]
    clear DO
    go_enter Tryz.func23, Tryz.ntmps23
    repeat (first
      | (go_at_call 41; refine (TL.out _ T0.out.bel (cel1 T0.out.blk)).mono ?_; rintro e w1 ⟨rfl, k1⟩; have L1 := Lib.hid (L0.out.next k1); clear k1; obtain ⟨z0, z1, z2, z3⟩ := cel4 L1.out.blk; have f0 := frz (j := 0) L1.out.blk; have f1 := frz (j := 1) L1.out.blk; have f2 := frz (j := 2) L1.out.blk; have f3 := frz (j := 3) L1.out.blk; simp only [])
      | go_values | go_skip | go_guarded | go_step | go_upon | go_back)
    refine (L1.out.set4).ret fun W' B => ?_
    obtain ⟨c0, c1, c2, c3⟩ := cel4 B.blk
    exact bodyPost_ret (by simp [results, Tryz.results23, go_sem, c0, c1, c2, c3, chC]) rfl ⟨rfl, B.bel⟩
  · obtain ⟨k, rfl⟩ : ∃ k : Nat, p = (k : Int) := ⟨p.toNat, by omega⟩
    obtain ⟨x, hx⟩ : ∃ x, xs[k]? = some x := ⟨_, List.getElem?_eq_getElem (by rw [HN.out]; omega)⟩
    rw [if_neg hz, Int.toNat_natCast, hx] at DO
    rw [DO]
    have HX := Lib.hid hx
    have hk0 : (0 : Int) ≤ (k : Int) := by omega
    clear DO hx
    go_enter Tryz.func23, Tryz.ntmps23
    repeat (first
      | (go_at_call 41; refine (TL.out _ T0.out.bel (cel1 T0.out.blk)).mono ?_; rintro e w1 ⟨rfl, k1⟩; have L1 := Lib.hid (L0.out.next k1); clear k1; obtain ⟨z0, z1, z2, z3⟩ := cel4 L1.out.blk; have f0 := frz (j := 0) L1.out.blk; have f1 := frz (j := 1) L1.out.blk; have f2 := frz (j := 2) L1.out.blk; have f3 := frz (j := 3) L1.out.blk; obtain ⟨L, off, rfl, hL, x0, x1, x2, x3⟩ := cc_cells (AA.out.next L1.out.bel) HX.out; simp only [])
      | go_values | go_skip | go_guarded | go_step | go_upon | go_back)
    refine (L1.out.set4).ret fun W' B => ?_
    obtain ⟨c0, c1, c2, c3⟩ := cel4 B.blk
    exact bodyPost_ret (by simp [results, Tryz.results23, go_sem, c0, c1, c2, c3, chC]) rfl ⟨rfl, B.bel⟩
end Go.Proofs.YtdmfgechoanmlaaGreatDoor
