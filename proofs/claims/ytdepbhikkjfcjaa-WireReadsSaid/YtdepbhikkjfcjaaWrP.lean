/- The contracts of what wire.inPieces stands on: what is wrong with pieces, one piece more, bytes one by one; nothing else that was in memory changes. -/
import Derived.Laws.EntriesVeiled
import Derived.Test.YtdepbhikkjfcjaaWrM
import Derived.Test.YtdepbhikkjfcjaaWrC
namespace Go.Proofs.Ytdepbhikkjfcjaa
open Go.RowKit Go.Shelf
attribute [local go_sem] Oper.semAt_some

/-- What is wrong with s pieces, the last of which is p. -/
def wrE (p s : Nat) : Nat := if 128 ≤ p ∧ s < 10 then 20 else if p = 0 ∧ 1 < s then 12 else if 1 < p ∧ s = 10 then 12 else 0

set_option maxRecDepth 20000 in
theorem wrong_any (p s v : Nat) (w : World) (hv : Hid (wrE p s = v)) :
    Calls Try.prog 46 #[.int .u8 (p : Int), .int .i64 (s : Int)] w fun e w' => e = .returned (.int .i64 (v : Int)) ∧ w' = w := by
  by_cases h1 : 128 ≤ p ∧ s < 10
  · have a1 : ¬ ((p : Int) < 128) := by omega
    have a2 : (s : Int) < 10 := by omega
    have HV := Lib.hid (show v = 20 by rw [← hv.out, wrE, if_pos h1])
    clear hv h1
    go_enter Try.func46, Try.ntmps46
    go_wp2
    go_ret
    rw [HV.out]
    exact ⟨rfl, rfl⟩
  · by_cases h2 : p = 0 ∧ 1 < s
    · have HV := Lib.hid (show v = 12 by rw [← hv.out, wrE, if_neg h1, if_pos h2])
      obtain ⟨rfl, h3⟩ := h2
      have a2 : (s : Int) > 1 := by omega
      clear hv h1 h3
      go_enter Try.func46, Try.ntmps46
      go_wp2
      go_ret
      rw [HV.out]
      exact ⟨rfl, rfl⟩
    · have n1 : ¬ 128 ≤ p ∨ ¬ (s : Int) < 10 := by omega
      have n2 : ¬ p = 0 ∨ ¬ (1 < (s : Int)) := by omega
      by_cases h3 : 1 < p ∧ s = 10
      · have HV := Lib.hid (show v = 12 by rw [← hv.out, wrE, if_neg h1, if_neg h2, if_pos h3])
        obtain ⟨h4, rfl⟩ := h3
        have a1 : (p : Int) > 1 := by omega
        have a2 : ((p : Int) == 0) = false := by simp; omega
        clear hv h1 h2 n1 n2 h4
        go_enter Try.func46, Try.ntmps46
        go_wp2
        all_goals go_ret
        all_goals rw [HV.out]
        all_goals exact ⟨rfl, rfl⟩
      · have HV := Lib.hid (show v = 0 by rw [← hv.out, wrE, if_neg h1, if_neg h2, if_neg h3])
        rcases Nat.lt_or_ge p 128 with h4 | h4
        · have b1 : (p : Int) < 128 := by omega
          rcases Nat.lt_or_ge 1 p with h5 | h5
          · have b2 : ((p : Int) == 0) = false := by simp; omega
            have b3 : (p : Int) > 1 := by omega
            have b4 : ((s : Int) == 10) = false := by simp; omega
            clear hv h1 h2 h3 n1 n2 h4 h5
            go_enter Try.func46, Try.ntmps46
            go_wp2
            go_ret
            rw [HV.out]
            exact ⟨rfl, rfl⟩
          · have b3 : ¬ (p : Int) > 1 := by omega
            rcases Nat.eq_zero_or_pos p with h6 | h6
            · subst h6
              have b5 : ¬ (s : Int) > 1 := by omega
              clear hv h1 h2 h3 n1 n2 h4 h5 b1 b3
              go_enter Try.func46, Try.ntmps46
              go_wp2
              go_ret
              rw [HV.out]
              exact ⟨rfl, rfl⟩
            · have b2 : ((p : Int) == 0) = false := by simp; omega
              clear hv h1 h2 h3 n1 n2 h4 h5 h6
              go_enter Try.func46, Try.ntmps46
              go_wp2
              go_ret
              rw [HV.out]
              exact ⟨rfl, rfl⟩
        · have b1 : ¬ (p : Int) < 128 := by omega
          have b2 : ((p : Int) == 0) = false := by simp; omega
          have b3 : (p : Int) > 1 := by omega
          have b4 : ((s : Int) == 10) = false := by simp; omega
          have b5 : ¬ (s : Int) < 10 := by omega
          clear hv h1 h2 h3 n1 n2 h4
          go_enter Try.func46, Try.ntmps46
          go_wp2
          go_ret
          rw [HV.out]
          exact ⟨rfl, rfl⟩

theorem take_run2 (a : Option Addr) (n c k : Nat) (h : k ≤ c) (W : World) : (Instr.slice 22 (.slice a n c) none (some (.int .i64 (k : Int))) none).run Try.prog W = .ok (.slice a k c) W := by
  have e : Try.prog.elem 22 = 5 := by kernel_rfl
  have hs : (sizeOf 5).run Try.prog W = .ok 1 W := by kernel_rfl
  rw [run_slice_h W 22 a n c (by rw [e]; exact Try.underlying22) .i64 k (by omega) (by omega), e, hs]
  simp only [Result.andThen, sliced, Int.toNat_natCast, Nat.zero_mul, Nat.sub_zero]
  by_cases h0 : c = 0
  · rw [if_pos h0]
  · rw [if_neg h0]
    congr 2
    cases a with
    | none => rfl
    | some x => simp [Addr.add]

theorem mayBe_any (a : Option Addr) (n c : Nat) (w : World) :
    Calls Try.prog 45 #[.slice a n c] w fun e w' => e = .returned (.func (.func 47) #[] #[.pointer (some ⟨w.heap.size, 0, none⟩)]) ∧ w' = w.alloc (.cells #[.slice a n c] 22) := by
  have hmf : ∀ (fn : Fn) (first cap : Array Value) (w : World), (Instr.makeFunc fn first cap).run Try.prog w = .ok (.func fn first cap) w := fun _ _ _ _ => rfl
  go_enter Try.func45, Try.ntmps45
  go_wp2
  go_ret
  exact ⟨rfl, rfl⟩

/-- The bytes lie below n0. -/
def ByB (n0 : Nat) (w : World) (a : Option Addr) (l : List UInt8) : Prop :=
  ∀ k, k < l.length → ∃ b off, a = some ⟨b, off, none⟩ ∧ b < n0 ∧ w.cell? ⟨b, off + k, none⟩ = some (.int .u8 ((l.getD k 0).toNat : Int))
theorem ByB.below {n0 : Nat} {w w' : World} {a : Option Addr} {l : List UInt8} (h : ByB n0 w a l) (hb : Below n0 w w') : ByB n0 w' a l := fun k hk => by
  obtain ⟨b, off, e, hlt, hc⟩ := h k hk
  exact ⟨b, off, e, hlt, by rw [hb.cell (p := ⟨b, off + k, none⟩) hlt]; exact hc⟩

theorem drop_at {l : List UInt8} {i : Nat} (h : i < l.length) : l.drop i = l.getD i 0 :: l.drop (i + 1) := by
  rw [List.drop_eq_getElem_cons h]; simp [List.getD, List.getElem?_eq_getElem h]

set_option maxRecDepth 20000 in
set_option maxHeartbeats 1000000 in
theorem mb_in (n : Nat) (hn : 1 ≤ n) (l Bs n0 : Nat) (a : Option Addr) (c : Nat) (b : List UInt8) (hbc : b.length ≤ c) (J Jx : List UInt8 → World → Prop) (W : World)
    (hY : ∀ pre x W1, J pre W1 → pre.length < (b.take 10).length → YieldAt Fence.wide (n - 1) Try.prog l (byV x) W1 fun e W' =>
      (e = .returned (.bool true) ∧ J (pre ++ [x]) W' ∧ Below n0 W1 W') ∨ (e = .returned (.bool false) ∧ Jx (pre ++ [x]) W'))
    (hB : W.cell? ⟨Bs, 0, none⟩ = some (.slice a b.length c)) (hb : ByB n0 W a b) (h0 : J [] W) :
    CallsIn Fence.wide n Try.prog 47 #[.func (.yield l) #[] #[], .pointer (some ⟨Bs, 0, none⟩)] W fun e W' => (∃ v, e = .returned v) ∧
      ((∃ xs : List UInt8, xs = b.take 10 ∧ J xs W') ∨ (∃ pre : List UInt8, pre <+: b.take 10 ∧ Jx pre W')) := by
  obtain ⟨k, hk⟩ : ∃ k, min b.length 10 = k := ⟨_, rfl⟩
  have hkl : (b.take 10).length = k := by rw [List.length_take]; omega
  have htk := take_run2 a b.length c k (by omega)
  have hk10 : k ≤ 10 := by omega
  have hkb : k ≤ b.length := by omega
  have HY := Lib.hid hY
  have HB := Lib.hid hb
  have H0 := Lib.hid h0
  have HK := Lib.hid hkl
  have hmin : (if (10 : Int) < (b.length : Int) then (10 : Int) else (b.length : Int)) = (k : Int) := by split <;> omega
  clear hY hb h0 hkl
  refine callsIn_of_wp Try.func47 rfl trivial ?_ rfl
  simp only [Try.ntmps47, List.size_toArray, List.length_cons, List.length_nil, Nat.reduceAdd, Nat.reduceSub, Array.replicate_succ, Array.replicate_zero, List.push_toArray, List.append_toArray, List.nil_append, List.cons_append]
  gi_wp2
  clear hmin htk hB hk
  gi_loopw [11] (fun vi wr => ∃ i : Nat, vi = .int .i64 i ∧ i ≤ k ∧ ByB n0 wr a b ∧ J (b.take i) wr) (fun vi _ => k - (intOf vi).toNat)
  case atStart => exact ⟨0, rfl, Nat.zero_le _, HB.out, by rw [List.take_zero]; exact H0.out⟩
  case round =>
    obtain ⟨i, rfl, hi, hbw, hJ⟩ := hrel
    by_cases hlt : i < k
    · obtain ⟨b1, o1, ha, hb1, hc1⟩ := hbw i (by omega)
      have BW := Lib.hid hbw
      have TS := Lib.hid (take_snoc (l := b) (k := i) (by omega))
      obtain ⟨x, hx⟩ : ∃ x, b.getD i 0 = x := ⟨_, rfl⟩
      rw [hx] at hc1 TS
      obtain ⟨fn, tmps, assign, body, hy, hR⟩ := HY.out (b.take i) x wr hJ (by rw [HK.out, List.length_take]; omega)
      simp only [byV] at hy
      subst ha
      clear hbw hJ hx
      gi_wp2
      refine hR.mono ?_
      rintro e W3 (⟨rfl, hJ3, k3⟩ | ⟨rfl, hJx3⟩)
      · have HJ3 := Lib.hid hJ3
        have BW3 := Lib.hid (BW.out.below k3)
        clear hJ3 k3
        gi_wp2
        go_roundw
        case rel => exact ⟨i + 1, by go_num, by omega, BW3.out, by rw [TS.out]; exact HJ3.out⟩
        case measure => simp [intOf]; omega
      · gi_wp2
        refine bodyPost_ret (results_none rfl _ _ _) rfl ⟨⟨_, rfl⟩, .inr ⟨_, ?_, hJx3⟩⟩
        rw [← TS.out]
        exact ⟨(b.drop (i + 1)).take (10 - (i + 1)), by rw [← List.take_add]; congr 1; omega⟩
    · obtain rfl : i = k := by omega
      have e : b.take i = b.take 10 := by
        have hm := HK.out
        rw [List.length_take] at hm
        rcases Nat.lt_or_ge b.length 10 with h | h
        · rw [List.take_of_length_le (by omega), List.take_of_length_le (by omega)]
        · congr 1; omega
      gi_wp2
      go_end0
      exact ⟨⟨_, rfl⟩, .inl ⟨_, e, hJ⟩⟩

theorem mb_stops (n : Nat) (hn : 1 ≤ n) (Bs n0 : Nat) (a : Option Addr) (c : Nat) (b : List UInt8) (hbc : b.length ≤ c) (w : World) (hB : w.cell? ⟨Bs, 0, none⟩ = some (.slice a b.length c)) (hlt : Bs < w.heap.size) (hb : ByB n0 w a b) (hn0 : n0 ≤ w.heap.size) :
    SeqStopsK Fence.wide n Try.prog 47 #[.pointer (some ⟨Bs, 0, none⟩)] byV (Below n0) (fun xs : List UInt8 => xs = b.take 10) (fun pre : List UInt8 => pre <+: b.take 10) (b.take 10).length w := fun l J Jx W hW _ _ hY h0 =>
  mb_in n hn l Bs n0 a c b hbc J Jx W hY ((hW.cell (p := ⟨Bs, 0, none⟩) hlt).trans hB) (hb.below (hW.mono hn0)) h0


/-- The boxes of inPieces' variables: the number, how many pieces, the closure, the last piece. -/
structure Pb (g : Nat) (x s p : Nat) (W : World) : Prop where
  x : Go.Boxed W g 52 (.int .u64 (x : Int))
  s : Go.Boxed W (g + 1) 3 (.int .i64 (s : Int))
  f : Go.Boxed W (g + 2) 69 (.func (.func 44) #[] #[.pointer (some ⟨g, 0, none⟩), .pointer (some ⟨g + 1, 0, none⟩)])
  p : Go.Boxed W (g + 3) 5 (.int .u8 (p : Int))

/-- A piece more: what it does to the number. -/
def nx (x s p : Nat) : Nat := (x + p % 128 * 128 ^ s) % 18446744073709551616
set_option maxRecDepth 20000 in
theorem put_bits (x s p : Nat) (hs : s ≤ 9) (hx : x < 128 ^ s) :
    bits .or .u64 (x : Int) (((p : Int) % 128 * 2 ^ (s * 7)) % 18446744073709551616) = ((nx x s p : Nat) : Int) := by
  have h2 : (2 : Int) ^ (s * 7) = ((128 ^ s : Nat) : Int) := by
    rw [Nat.mul_comm, Int.pow_mul, Int.natCast_pow]; rfl
  have h128 : 128 ^ s = 2 ^ (7 * s) := by rw [Nat.pow_mul]
  have hle : 128 ^ s ≤ 128 ^ 9 := Nat.pow_le_pow_right (by omega) hs
  have e1 : ((p : Int) % 128 * 2 ^ (s * 7)) % 18446744073709551616 = ((p % 128 * 128 ^ s % 18446744073709551616 : Nat) : Int) := by
    rw [h2, Int.natCast_emod, Int.natCast_mul, Int.natCast_emod]; rfl
  rw [e1, bits_or_u64_nat x _ (by omega) (by omega)]
  congr 1
  have e2 : 18446744073709551616 = 2 ^ (7 * s) * 2 ^ (64 - 7 * s) := by rw [← Nat.pow_add, show 7 * s + (64 - 7 * s) = 64 by omega]
  have e3 : p % 128 * 128 ^ s % 18446744073709551616 = 2 ^ (7 * s) * (p % 128 % 2 ^ (64 - 7 * s)) := by
    rw [h128, e2, Nat.mul_comm (p % 128), Nat.mul_mod_mul_left]
  have hx2 : x < 2 ^ (7 * s) := by rw [← h128]; exact hx
  rw [e3, Nat.or_comm, ← Nat.two_pow_add_eq_or_of_lt hx2, nx, ← e3]
  have e4 : 2 ^ (7 * s) * (p % 128 % 2 ^ (64 - 7 * s)) + x < 18446744073709551616 := by
    have h5 : p % 128 % 2 ^ (64 - 7 * s) + 1 ≤ 2 ^ (64 - 7 * s) := Nat.mod_lt _ (Nat.two_pow_pos _)
    have h6 := Nat.mul_le_mul_left (2 ^ (7 * s)) h5
    rw [← e2, Nat.mul_add] at h6
    omega
  rw [← e3] at e4
  clear e3 e1 e2 h2
  generalize p % 128 * 128 ^ s = M at e4 ⊢
  omega

set_option maxRecDepth 20000 in
set_option maxHeartbeats 1000000 in
theorem put_any (g x s p q y : Nat) (W : World) (hs : s ≤ 9) (hx : x < 128 ^ s) (hb : Pb g x s q W) (hy : Hid (nx x s p = y)) :
    Calls Try.prog 44 #[.int .u8 (p : Int), .pointer (some ⟨g, 0, none⟩), .pointer (some ⟨g + 1, 0, none⟩)] W fun e W' => (∃ v, e = .returned v) ∧ Pb g y (s + 1) q W' ∧ KeepsOthers W W' ∧ Below g W W' := by
  have c0 := hb.x.cell
  have c1 := hb.s.cell
  have f0 := hb.x.frozen
  have f1 := hb.s.frozen
  have l0 := hb.x.lt
  have l1 := hb.s.lt
  have hbt := put_bits x s p hs hx
  rw [hy.out] at hbt
  have HBT := Lib.hid (show bits .or .u64 (x : Int) (IntKind.u64.wrap ((p : Int) % 128 * 2 ^ (s * 7))) = (y : Int) from hbt)
  clear hbt
  have HBX := Lib.hid hb
  have hdv : ((128 : Int) == 0) = false := rfl
  clear hx hb hy
  go_enter Try.func44, Try.ntmps44
  go_wp2
  go_region
  go_wp2
  go_end0
  rw [HBT.out]
  refine ⟨⟨_, rfl⟩, ⟨?_, ?_, ?_, ?_⟩, ?_, ?_⟩
  · exact (HBX.out.x.set _).other (by omega) _
  · have := (HBX.out.s.other (B' := g) (by omega) (.int .u64 (y : Int))).set (.int .i64 ((s : Int) + 1))
    exact this
  · exact (HBX.out.f.other (by omega) _).other (by omega) _
  · exact (HBX.out.p.other (by omega) _).other (by omega) _
  · exact ((KeepsOthers.setCell _ _ _).trans (KeepsOthers.setCell _ _ _)).trans (KeepsOthers.drew _)
  · exact (((Below.refl g W).setCell (p := ⟨g, 0, none⟩) (Nat.le_refl _) _).setCell (p := ⟨g + 1, 0, none⟩) (Nat.le_succ _) _).drew
end Go.Proofs.Ytdepbhikkjfcjaa
