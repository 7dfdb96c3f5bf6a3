/- The contracts of num.Sum, num.Add and num.Sub: the sum of all numbers of a slice of up to 65536 numbers, or 0 and the error 11 if it does not fit 64 bits; a sum and a difference of any two numbers likewise; what was in memory stays as it was. -/
import Derived.Test.YtpcobmjalohfbaaHalf
import Derived.LoopTactic
import Derived.Deep.LoopGhost
namespace Go.Proofs.Ytpcobmjalohfbaa
open Go.RowKit

def fitV (n : Int) : Int := if -9223372036854775808 ≤ n ∧ n ≤ 9223372036854775807 then n else 0
def fitE (n : Int) : Int := if -9223372036854775808 ≤ n ∧ n ≤ 9223372036854775807 then 0 else 11
theorem fitV_in {n : Int} (h1 : -9223372036854775808 ≤ n) (h2 : n ≤ 9223372036854775807) : fitV n = n := by unfold fitV; rw [if_pos ⟨h1, h2⟩]
theorem fitE_in {n : Int} (h1 : -9223372036854775808 ≤ n) (h2 : n ≤ 9223372036854775807) : fitE n = 0 := by unfold fitE; rw [if_pos ⟨h1, h2⟩]
theorem fitV_out {n : Int} (h : ¬ (-9223372036854775808 ≤ n ∧ n ≤ 9223372036854775807)) : fitV n = 0 := by unfold fitV; rw [if_neg h]
theorem fitE_out {n : Int} (h : ¬ (-9223372036854775808 ≤ n ∧ n ≤ 9223372036854775807)) : fitE n = 11 := by unfold fitE; rw [if_neg h]

theorem whole_of (v : Int) (w : World) :
    Calls Try.prog 25 #[.agg #[.int .i64 (v % 4294967296), .int .i64 (v / 4294967296)]] w fun e w' => e = .returned (.tuple #[.int .i64 (fitV v), .int .i64 (fitE v)]) ∧ Below w.heap.size w w' := by
  by_cases h : -9223372036854775808 ≤ v ∧ v ≤ 9223372036854775807
  · rw [fitV_in h.1 h.2, fitE_in h.1 h.2]
    have e : v / 4294967296 * 4294967296 + v % 4294967296 = v := by omega
    have := whole_fits (v % 4294967296) (v / 4294967296) w (by omega) (by omega) (by omega) (by omega)
    rw [e] at this
    exact this
  · rw [fitV_out h, fitE_out h]
    exact whole_over (v % 4294967296) (v / 4294967296) w (by omega) (by omega) (by omega)

theorem plus_of (u v : Int) (w : World) (hu1 : -19807040628566084398385987584 ≤ u) (hu2 : u ≤ 19807040628566084398385987584) (hv1 : -9223372036854775808 ≤ v) (hv2 : v ≤ 9223372036854775807) :
    Calls Try.prog 29 #[.agg #[.int .i64 (u % 4294967296), .int .i64 (u / 4294967296)], .agg #[.int .i64 (v % 4294967296), .int .i64 (v / 4294967296)]] w fun e w' => e = .returned (.agg #[.int .i64 ((u + v) % 4294967296), .int .i64 ((u + v) / 4294967296)]) ∧ Below w.heap.size w w' := by
  have h := plus_any (u % 4294967296) (u / 4294967296) (v % 4294967296) (v / 4294967296) w
  have e1 : wrap64 (u % 4294967296 + v % 4294967296) = u % 4294967296 + v % 4294967296 := wrap64_in _ (by omega) (by omega)
  have e2 : wrap64 (u / 4294967296 + v / 4294967296) = u / 4294967296 + v / 4294967296 := wrap64_in _ (by omega) (by omega)
  rw [e1, e2] at h
  have e3 : wrap64 (u / 4294967296 + v / 4294967296 + (u % 4294967296 + v % 4294967296) / 4294967296) = (u + v) / 4294967296 := by
    rw [wrap64_in _ (by omega) (by omega)]; omega
  have e4 : (u % 4294967296 + v % 4294967296) % 4294967296 = (u + v) % 4294967296 := by omega
  rw [e3, e4] at h
  exact h

theorem minus_of (u v : Int) (w : World) (hu1 : -9223372036854775808 ≤ u) (hu2 : u ≤ 9223372036854775807) (hv1 : -9223372036854775808 ≤ v) (hv2 : v ≤ 9223372036854775807) :
    Calls Try.prog 24 #[.agg #[.int .i64 (u % 4294967296), .int .i64 (u / 4294967296)], .agg #[.int .i64 (v % 4294967296), .int .i64 (v / 4294967296)]] w fun e w' => e = .returned (.agg #[.int .i64 ((u - v) % 4294967296), .int .i64 ((u - v) / 4294967296)]) ∧ Below w.heap.size w w' := by
  have h := minus_any (u % 4294967296) (u / 4294967296) (v % 4294967296) (v / 4294967296) w
  have e1 : wrap64 (u % 4294967296 - v % 4294967296) = u % 4294967296 - v % 4294967296 := wrap64_in _ (by omega) (by omega)
  have e2 : wrap64 (u / 4294967296 - v / 4294967296) = u / 4294967296 - v / 4294967296 := wrap64_in _ (by omega) (by omega)
  rw [e1, e2] at h
  have e3 : wrap64 (u / 4294967296 - v / 4294967296 + (u % 4294967296 - v % 4294967296) / 4294967296) = (u - v) / 4294967296 := by
    rw [wrap64_in _ (by omega) (by omega)]; omega
  have e4 : (u % 4294967296 - v % 4294967296) % 4294967296 = (u - v) % 4294967296 := by omega
  rw [e3, e4] at h
  exact h

theorem sub_any (a b : Int) (w : World) (ha1 : -9223372036854775808 ≤ a) (ha2 : a ≤ 9223372036854775807) (hb1 : -9223372036854775808 ≤ b) (hb2 : b ≤ 9223372036854775807) :
    Calls Try.prog 11 #[.int .i64 a, .int .i64 b] w fun e w' => e = .returned (.tuple #[.int .i64 (fitV (a - b)), .int .i64 (fitE (a - b))]) ∧ Below w.heap.size w w' := by
  go_enter Try.func11, Try.ntmps11
  go_wp2_with fail
  refine (split_any _ _).mono ?_
  rintro e w1 ⟨rfl, hb1⟩
  go_wp2_with fail
  refine (split_any _ _).mono ?_
  rintro e w2 ⟨rfl, hb2⟩
  go_wp2_with fail
  refine (minus_of a b _ (by omega) (by omega) (by omega) (by omega)).mono ?_
  rintro e w3 ⟨rfl, hb3⟩
  go_wp2_with fail
  refine (whole_of (a - b) _).mono ?_
  rintro e w4 ⟨rfl, hb4⟩
  go_wp2_with fail
  go_ret2
  refine ⟨rfl, ?_⟩
  exact below_after (below_after (below_after hb1 hb2 hb1.size) hb3 (Nat.le_trans hb1.size hb2.size)) hb4 (Nat.le_trans (Nat.le_trans hb1.size hb2.size) hb3.size)

/-- The numbers zs lie in the slice of address a: the slice's elements. -/
def Ints (w : World) (a : Option Addr) (zs : List Int) : Prop :=
  (∀ k, k < zs.length → ∃ b off, a = some ⟨b, off, none⟩ ∧ b < w.heap.size ∧ w.cell? ⟨b, off + k, none⟩ = some (.int .i64 (zs.getD k 0))) ∧ ∀ n ∈ zs, -9223372036854775808 ≤ n ∧ n ≤ 9223372036854775807

theorem Ints.below {w w' : World} {a : Option Addr} {zs : List Int} (h : Ints w a zs) (hb : Below w.heap.size w w') : Ints w' a zs :=
  ⟨fun k hk => by
    obtain ⟨b, off, e, hlt, hc⟩ := h.1 k hk
    exact ⟨b, off, e, Nat.lt_of_lt_of_le hlt hb.size, by rw [hb.cell (p := ⟨b, off + k, none⟩) hlt]; exact hc⟩, h.2⟩

theorem sum_bd : ∀ (zs : List Int), (∀ n ∈ zs, -9223372036854775808 ≤ n ∧ n ≤ 9223372036854775807) → -9223372036854775808 * (zs.length : Int) ≤ zs.sum ∧ zs.sum ≤ 9223372036854775808 * (zs.length : Int)
  | [], _ => by simp
  | z :: zs, h => by
    have ih := sum_bd zs fun n hn => h n (by simp [hn])
    have hz := h z (by simp)
    rw [List.sum_cons, List.length_cons]
    omega

theorem sum_take_bd (zs : List Int) (k : Nat) (hl : zs.length ≤ 65536) (h : ∀ n ∈ zs, -9223372036854775808 ≤ n ∧ n ≤ 9223372036854775807) :
    -604462909807314587353088 ≤ (zs.take k).sum ∧ (zs.take k).sum ≤ 604462909807314587353088 := by
  have h1 := sum_bd (zs.take k) fun n hn => h n (List.mem_of_mem_take hn)
  have h2 : (zs.take k).length ≤ 65536 := Nat.le_trans (List.length_take_le' _ _) hl
  omega

theorem sum_take_succ (zs : List Int) (k : Nat) (hk : k < zs.length) : (zs.take (k + 1)).sum = (zs.take k).sum + zs.getD k 0 := by
  rw [List.take_succ_eq_append_getElem hk, List.sum_append]
  simp [List.getD, List.getElem?_eq_getElem hk]

theorem getD_bd (zs : List Int) (k : Nat) (hk : k < zs.length) (h : ∀ n ∈ zs, -9223372036854775808 ≤ n ∧ n ≤ 9223372036854775807) :
    -9223372036854775808 ≤ zs.getD k 0 ∧ zs.getD k 0 ≤ 9223372036854775807 := by
  have : zs.getD k 0 = zs[k] := by simp [List.getD, List.getElem?_eq_getElem hk]
  rw [this]
  exact h _ (List.getElem_mem hk)

set_option maxHeartbeats 400000 in
theorem sum_any (a : Option Addr) (cap : Nat) (zs : List Int) (w : World) (h : Ints w a zs) (hl : zs.length ≤ 65536) :
    Calls Try.prog 13 #[.slice a zs.length cap] w fun e w' => e = .returned (.tuple #[.int .i64 (fitV zs.sum), .int .i64 (fitE zs.sum)]) ∧ Below w.heap.size w w' := by
  have HI := Lib.hid h
  clear h
  go_enter Try.func13, Try.ntmps13
  go_wp2
  go_loopw [9] (fun i wr => ∃ k : Nat, k ≤ zs.length ∧ i = .int .i64 k ∧ wr.cell? ⟨w.heap.size, 0, none⟩ = some (.int .i64 ((zs.take k).sum % 4294967296)) ∧ wr.cell? ⟨w.heap.size, 1, none⟩ = some (.int .i64 ((zs.take k).sum / 4294967296))
      ∧ wr.frozen? ⟨w.heap.size, 0, none⟩ = false ∧ wr.frozen? ⟨w.heap.size, 1, none⟩ = false ∧ w.heap.size < wr.heap.size ∧ Below w.heap.size w wr) (fun i _ => zs.length - (intOf i).toNat)
  case atStart =>
    exact ⟨0, Nat.zero_le _, rfl, by simp [go_sem], by simp [go_sem], by simp [go_sem], by simp [go_sem], by simp, (Below.refl _ _).alloc (Nat.le_refl _) _⟩
  case round =>
    obtain ⟨k, hk, rfl, hc0, hc1, hf0, hf1, hsz, hbw⟩ := hrel
    by_cases hlt : k < zs.length
    · obtain ⟨b, off, rfl, hb, hcell⟩ := HI.out.1 k hlt
      have hcell' : wr.cell? ⟨b, off + k, none⟩ = some (.int .i64 (zs.getD k 0)) := by rw [hbw.cell (p := ⟨b, off + k, none⟩) hb]; exact hcell
      have hs := sum_take_bd zs k hl HI.out.2
      have hz := getD_bd zs k hlt HI.out.2
      have HS := Lib.hid (sum_take_succ zs k hlt)
      clear hcell
      generalize zs.getD k 0 = z at *
      generalize (zs.take k).sum = S at *
      go_wp2
      go_region_with (first
        | (go_at_call 23; refine (split_any _ _).mono ?_; rintro e w1 ⟨rfl, hb1⟩
           have q1 : w.heap.size < w1.heap.size := Nat.lt_of_lt_of_le hsz hb1.size
           have c10 : w1.cell? ⟨w.heap.size, 0, none⟩ = some (.int .i64 (S % 4294967296)) := (hb1.cell (p := ⟨w.heap.size, 0, none⟩) hsz).trans hc0
           have c11 : w1.cell? ⟨w.heap.size, 1, none⟩ = some (.int .i64 (S / 4294967296)) := (hb1.cell (p := ⟨w.heap.size, 1, none⟩) hsz).trans hc1
           have f10 : w1.frozen? ⟨w.heap.size, 0, none⟩ = false := (hb1.frozen (p := ⟨w.heap.size, 0, none⟩) hsz).trans hf0
           have f11 : w1.frozen? ⟨w.heap.size, 1, none⟩ = false := (hb1.frozen (p := ⟨w.heap.size, 1, none⟩) hsz).trans hf1)
        | (go_at_call 29; refine (plus_of S z _ (by omega) (by omega) (by omega) (by omega)).mono ?_; rintro e w2 ⟨rfl, hb2⟩
           have q2 : w.heap.size < w2.heap.size := Nat.lt_of_lt_of_le q1 hb2.size
           have c20 : w2.cell? ⟨w.heap.size, 0, none⟩ = some (.int .i64 (S % 4294967296)) := (hb2.cell (p := ⟨w.heap.size, 0, none⟩) q1).trans c10
           have c21 : w2.cell? ⟨w.heap.size, 1, none⟩ = some (.int .i64 (S / 4294967296)) := (hb2.cell (p := ⟨w.heap.size, 1, none⟩) q1).trans c11
           have f20 : w2.frozen? ⟨w.heap.size, 0, none⟩ = false := (hb2.frozen (p := ⟨w.heap.size, 0, none⟩) q1).trans f10
           have f21 : w2.frozen? ⟨w.heap.size, 1, none⟩ = false := (hb2.frozen (p := ⟨w.heap.size, 1, none⟩) q1).trans f11))
      all_goals
        go_wp2
        go_roundw
        case rel =>
          refine ⟨k + 1, by omega, by go_num, ?_, ?_, ?_, ?_, ?_, ?_⟩
          · rw [HS.out]; simp [go_sem, c20]
          · rw [HS.out]; simp [go_sem, c21]
          · simp [go_sem, f20]
          · simp [go_sem, f21]
          · simpa using q2
          · exact ((below_after (below_after hbw.drew hb1 (Nat.le_of_lt hsz)) hb2 (Nat.le_of_lt q1)).setCell (Nat.le_refl _) _).setCell (Nat.le_refl _) _
        case measure => simp [intOf]; omega
    · have hkl : k = zs.length := by omega
      subst hkl
      have HT : Hid ((zs.take zs.length).sum = zs.sum) := by rw [List.take_length]; exact rfl
      generalize (zs.take zs.length).sum = S at *
      clear hlt
      go_wp2_with (go_at_call 25; refine (whole_of S _).mono ?_; rintro e w1 ⟨rfl, hb1⟩)
      go_ret2
      rw [← HT.out]
      exact ⟨rfl, below_after hbw hb1 (Nat.le_of_lt hsz)⟩

theorem ints_two (w : World) (a b : Int) (ha1 : -9223372036854775808 ≤ a) (ha2 : a ≤ 9223372036854775807) (hb1 : -9223372036854775808 ≤ b) (hb2 : b ≤ 9223372036854775807) :
    Ints (w.alloc (.cells #[.int .i64 a, .int .i64 b] 3)) (some ⟨w.heap.size, 0, none⟩) [a, b] := by
  refine ⟨fun k hk => ⟨w.heap.size, 0, rfl, by simp, ?_⟩, ?_⟩
  · match k, hk with
    | 0, _ => simp [go_sem]
    | 1, _ => simp [go_sem]
  · intro n hn
    simp at hn
    omega

theorem add_any (a b : Int) (w : World) (ha1 : -9223372036854775808 ≤ a) (ha2 : a ≤ 9223372036854775807) (hb1 : -9223372036854775808 ≤ b) (hb2 : b ≤ 9223372036854775807) :
    Calls Try.prog 10 #[.int .i64 a, .int .i64 b] w fun e w' => e = .returned (.tuple #[.int .i64 (fitV (a + b)), .int .i64 (fitE (a + b))]) ∧ Below w.heap.size w w' := by
  have hs : [a, b].sum = a + b := by simp
  have H := sum_any (some ⟨w.heap.size, 0, none⟩) 2 [a, b] (w.alloc (.cells #[.int .i64 a, .int .i64 b] 3)) (ints_two w a b ha1 ha2 hb1 hb2) (by simp)
  rw [hs] at H
  have HH := Lib.hid H
  clear H hs ha1 ha2 hb1 hb2
  go_enter Try.func10, Try.ntmps10
  go_wp2_with fail
  refine HH.out.mono ?_
  rintro e w1 ⟨rfl, hb⟩
  go_wp2_with fail
  go_ret2
  exact ⟨rfl, below_after ((Below.refl _ _).alloc (Nat.le_refl _) _) hb (by simp)⟩
end Go.Proofs.Ytpcobmjalohfbaa
