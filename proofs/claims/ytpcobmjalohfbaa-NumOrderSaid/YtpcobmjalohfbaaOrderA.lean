/- For every two numbers, every slice of numbers and every start the law NumOrder returns true, and nothing that was in memory changes: there are no other conditions. -/
import Derived.Test.YtpcobmjalohfbaaRows
import Derived.WalkKit
import Derived.ProofKit
import Derived.OpenShut
import Derived.Below
import Derived.Laws.OwnMore
import Derived.Test.YtpcobmjalohfbaaDiv
import Derived.Test.YtpcobmjalohfbaaProd
namespace Go.Proofs.Ytpcobmjalohfbaa
open Go.RowKit

/-- A row of numbers of the call's own is a slice of these numbers. -/
theorem ints_own {w : World} {base : Nat} {v : Value} {n : Nat} {xs : List Int} (h : w.ownsRow base 3 1 v n (xs.map (Value.int .i64))) (hb : ∀ k ∈ xs, -9223372036854775808 ≤ k ∧ k ≤ 9223372036854775807) :
    ∃ a cap, v = .slice a xs.length cap ∧ Ints w a xs := by
  have hl : xs.length = n := by have := h.1; simpa using this
  subst hl
  rcases h.2 with ⟨rfl, h0⟩ | ⟨g, cap, cur, rfl, hg, hh, _⟩
  · refine ⟨none, 0, by rw [h0], fun k hk => by omega, hb⟩
  · refine ⟨_, cap, rfl, fun k hk => ⟨g, 0, rfl, ?_, ?_⟩, hb⟩
    · exact (h.lt g rfl).2
    · have := h.cellAt k (by simpa using hk)
      rw [Nat.zero_add, this]
      simp [List.getD, List.getElem?_eq_getElem hk]

theorem int_info : (Try.prog.info? 3).map (fun i => (i.zero, i.size, i.bytes)) = some (some (.int .i64 0), 1, 8) := by kernel_rfl

/-- The numbers from st on, going round. -/
def rot (zs : List Int) (st k : Nat) : List Int := (List.range k).map fun i => zs.getD ((st + i) % zs.length) 0
theorem rot_zero (zs : List Int) (st : Nat) : rot zs st 0 = [] := rfl
theorem rot_succ (zs : List Int) (st k : Nat) : rot zs st (k + 1) = rot zs st k ++ [zs.getD ((st + k) % zs.length) 0] := by simp [rot, List.range_succ]
theorem rot_length (zs : List Int) (st k : Nat) : (rot zs st k).length = k := by simp [rot]
theorem rot_bd (zs : List Int) (st k : Nat) (hn : 0 < zs.length) (h : ∀ n ∈ zs, -9223372036854775808 ≤ n ∧ n ≤ 9223372036854775807) : ∀ n ∈ rot zs st k, -9223372036854775808 ≤ n ∧ n ≤ 9223372036854775807 := by
  intro n hn'
  simp only [rot, List.mem_map] at hn'
  obtain ⟨i, _, rfl⟩ := hn'
  exact getD_bd zs _ (Nat.mod_lt _ hn) h
theorem rot_all (zs : List Int) (st : Nat) (h : st < zs.length) : rot zs st zs.length = zs.drop st ++ zs.take st := by
  apply List.ext_getElem
  · simp [rot]; omega
  · intro i h1 h2
    have hi : i < zs.length := by simpa [rot] using h1
    simp only [rot, List.getElem_map, List.getElem_range]
    by_cases hlt : st + i < zs.length
    · rw [Nat.mod_eq_of_lt hlt, List.getElem_append_left (by simp; omega), List.getElem_drop]
      simp [List.getD, List.getElem?_eq_getElem hlt]
    · have e : (st + i) % zs.length = st + i - zs.length := by
        rw [Nat.mod_eq_sub_mod (by omega), Nat.mod_eq_of_lt (by omega)]
      have hlt2 : st + i - zs.length < zs.length := by omega
      rw [e, List.getElem_append_right (by simp; omega), List.getElem_take]
      simp only [List.getD, List.getElem?_eq_getElem hlt2, Option.getD_some, List.length_drop]
      congr 1
      omega
theorem rot_sum (zs : List Int) (st : Nat) (h : st < zs.length) : (rot zs st zs.length).sum = zs.sum := by
  have e : zs.sum = (zs.take st ++ zs.drop st).sum := by rw [List.take_append_drop]
  rw [rot_all zs st h, e, List.sum_append, List.sum_append]
  omega

/-- Where the numbers begin. -/
def start (f : Int) (n : Nat) : Nat := (f % (n : Int)).toNat
theorem start_lt (f : Int) (n : Nat) (h : 0 < n) : start f n < n := by
  have h1 := Int.emod_nonneg f (b := (n : Int)) (by omega)
  have h2 := Int.emod_lt_of_pos f (b := (n : Int)) (by omega)
  unfold start; omega
theorem tmod_side (f : Int) (n : Nat) (h : 0 < n) : -(n : Int) < f.tmod n ∧ f.tmod n < n := by
  have := tmod_bd f n (by omega)
  have ht : (f.tmod (n : Int)).natAbs < (n : Int).natAbs := by rw [Int.natAbs_tmod]; exact Nat.mod_lt _ (by omega)
  omega
theorem start_eq (f : Int) (n : Nat) (h : 0 < n) : (f.tmod n + n) % (n : Int) = (start f n : Int) := by
  have h1 := Int.emod_nonneg f (b := (n : Int)) (by omega)
  have h2 : (f.tmod n + n) % (n : Int) = f % (n : Int) := by
    rw [Int.add_emod_right]
    have h3 := Int.mul_tdiv_add_tmod f n
    have h4 : f.tmod n = f + (n : Int) * (- f.tdiv n) := by rw [Int.mul_neg]; omega
    rw [h4, Int.add_mul_emod_self_left]
  rw [h2]; unfold start; omega

namespace numOrder
theorem own : ownKnob Try.prog.godebug = none := by kernel_rfl

theorem walk_many (p q f : Int) (a : Option Addr) (len cap : Nat) (w : World) (h : 40 < len) (hl : len ≤ maxLen) :
    Calls Try.prog 5 #[.agg #[.int .i64 p, .int .i64 q], .slice a len cap, .int .i64 f] w fun e w' => e = .returned (.bool true) ∧ Below w.heap.size w w' := by
  unfold maxLen at hl
  go_enter Try.func5, Try.ntmps5
  go_wp2_with (go_at_call 8; refine (awake_yes _).mono ?_; rintro e w1 ⟨rfl, rfl⟩)
  go_ret
  exact ⟨rfl, (Below.refl _ _).alloc (Nat.le_refl _) _⟩

set_option maxHeartbeats 1000000 in
theorem walk_few (p q f : Int) (a : Option Addr) (cap : Nat) (zs : List Int) (w : World) (h : Ints w a zs) (hl : zs.length ≤ 40)
    (hp1 : -9223372036854775808 ≤ p) (hp2 : p ≤ 9223372036854775807) (hq1 : -9223372036854775808 ≤ q) (hq2 : q ≤ 9223372036854775807) :
    Calls Try.prog 5 #[.agg #[.int .i64 p, .int .i64 q], .slice a zs.length cap, .int .i64 f] w fun e w' => e = .returned (.bool true) ∧ Below w.heap.size w w' := by
  have HI := Lib.hid h
  clear h
  have hd : decide ((40 : Int) < (zs.length : Int)) = false := by simp; omega
  go_enter Try.func5, Try.ntmps5
  go_wp2_with fail
  refine (add_any p q _ hp1 hp2 hq1 hq2).mono ?_
  rintro e w1 ⟨rfl, k1⟩
  have c10 : w1.cell? ⟨w.heap.size, 0, none⟩ = some (.int .i64 p) := (k1.cell (p := ⟨w.heap.size, 0, none⟩) (by simp)).trans (by simp [go_sem])
  have c11 : w1.cell? ⟨w.heap.size, 1, none⟩ = some (.int .i64 q) := (k1.cell (p := ⟨w.heap.size, 1, none⟩) (by simp)).trans (by simp [go_sem])
  have z1 : w.heap.size < w1.heap.size := by have := k1.size; simp at this; omega
  have K1 : Hid (Below w.heap.size w w1) := below_after ((Below.refl _ _).alloc (Nat.le_refl _) _) k1 (by simp)
  clear k1
  go_wp2_with fail
  refine (add_any q p _ hq1 hq2 hp1 hp2).mono ?_
  rw [Int.add_comm q p]
  rintro e w2 ⟨rfl, k2⟩
  have c20 : w2.cell? ⟨w.heap.size, 0, none⟩ = some (.int .i64 p) := (k2.cell (p := ⟨w.heap.size, 0, none⟩) z1).trans c10
  have c21 : w2.cell? ⟨w.heap.size, 1, none⟩ = some (.int .i64 q) := (k2.cell (p := ⟨w.heap.size, 1, none⟩) z1).trans c11
  have z2 : w.heap.size < w2.heap.size := Nat.lt_of_lt_of_le z1 k2.size
  have K2 : Hid (Below w.heap.size w w2) := below_after K1.out k2 (Nat.le_of_lt z1)
  clear k2 c10 c11 z1 K1
  go_wp2_with fail
  refine (mul_any p q _ hp1 hp2 hq1 hq2).mono ?_
  rintro e w3 ⟨rfl, k3⟩
  have c30 : w3.cell? ⟨w.heap.size, 0, none⟩ = some (.int .i64 p) := (k3.cell (p := ⟨w.heap.size, 0, none⟩) z2).trans c20
  have c31 : w3.cell? ⟨w.heap.size, 1, none⟩ = some (.int .i64 q) := (k3.cell (p := ⟨w.heap.size, 1, none⟩) z2).trans c21
  have z3 : w.heap.size < w3.heap.size := Nat.lt_of_lt_of_le z2 k3.size
  have K3 : Hid (Below w.heap.size w w3) := below_after K2.out k3 (Nat.le_of_lt z2)
  clear k3 c20 c21 z2 K2
  go_wp2_with fail
  refine (mul_any q p _ hq1 hq2 hp1 hp2).mono ?_
  rw [Int.mul_comm q p]
  rintro e w4 ⟨rfl, k4⟩
  have c40 : w4.cell? ⟨w.heap.size, 0, none⟩ = some (.int .i64 p) := (k4.cell (p := ⟨w.heap.size, 0, none⟩) z3).trans c30
  have c41 : w4.cell? ⟨w.heap.size, 1, none⟩ = some (.int .i64 q) := (k4.cell (p := ⟨w.heap.size, 1, none⟩) z3).trans c31
  have z4 : w.heap.size < w4.heap.size := Nat.lt_of_lt_of_le z3 k4.size
  have K4 : Hid (Below w.heap.size w w4) := below_after K3.out k4 (Nat.le_of_lt z3)
  have HI4 : Hid (Ints w4 a zs) := by
    refine ⟨fun k hk => ?_, HI.out.2⟩
    obtain ⟨b, off, e, hlt, hc⟩ := HI.out.1 k hk
    exact ⟨b, off, e, by omega, (K4.out.cell (p := ⟨b, off + k, none⟩) hlt).trans hc⟩
  clear k4 c30 c31 z3 K3 HI
  go_wp2_with fail
  go_loopw [16, 17] (fun v i wr => ∃ k : Nat, k ≤ zs.length ∧ i = .int .i64 k ∧ wr.ownsRow w4.heap.size 3 1 v k ((rot zs (start f zs.length) k).map (Value.int .i64)) ∧ Below w4.heap.size w4 wr) (fun _ i _ => zs.length - (intOf i).toNat)
  case atStart => exact ⟨0, Nat.zero_le _, rfl, World.ownsRow_nil _ _ _ _, Below.refl _ _⟩
  case round =>
    obtain ⟨k, hk, rfl, hown, hbw⟩ := hrel
    by_cases hlt : k < zs.length
    · obtain ⟨r0, hr0⟩ : ∃ r0, f.tmod (zs.length : Int) = r0 := ⟨_, rfl⟩
      have b0 := tmod_side f zs.length (by omega)
      rw [hr0] at b0
      obtain ⟨st, hst⟩ : ∃ st, start f zs.length = st := ⟨_, rfl⟩
      have e2 := start_eq f zs.length (by omega)
      rw [hr0, hst] at e2
      have hst2 : st < zs.length := by rw [← hst]; exact start_lt f zs.length (by omega)
      rw [hst] at hown
      have HR : Hid (rot zs (start f zs.length) (k + 1) = rot zs st k ++ [zs.getD ((st + k) % zs.length) 0]) := by show _ = _; rw [hst, rot_succ]
      clear hst
      have e3 : ((st : Int) + (k : Int)) % (zs.length : Int) = (((st + k) % zs.length : Nat) : Int) := by rw [Int.natCast_emod, Int.natCast_add]
      obtain ⟨j, hj⟩ : ∃ j, (st + k) % zs.length = j := ⟨_, rfl⟩
      have hj2 : j < zs.length := by rw [← hj]; exact Nat.mod_lt _ (by omega)
      rw [hj] at e3
      have HR2 : Hid (rot zs (start f zs.length) (k + 1) = rot zs st k ++ [zs.getD j 0]) := by rw [← hj]; exact HR.out
      clear hj HR
      obtain ⟨b, off, rfl, hb, hcell⟩ := HI4.out.1 j hj2
      have hcell' : wr.cell? ⟨b, off + j, none⟩ = some (.int .i64 (zs.getD j 0)) := (hbw.cell (p := ⟨b, off + j, none⟩) hb).trans hcell
      clear hcell
      generalize zs.getD j 0 = z at *
      have HO := Lib.hid hown
      clear hown
      obtain ⟨i0, hi0, hz0, hz1, hz2⟩ := info_parts int_info
      have HI0 := Lib.hid hi0
      have HZ0 := Lib.hid hz0
      have HZ1 := Lib.hid hz1
      have HZ2 := Lib.hid hz2
      clear hi0 hz0 hz1 hz2
      go_wp2_with (at_builtin; refine wpList_append_own _ rfl (.tmp 84) (.tmp 99) _ rfl w4.heap.size 3 i0 (.int .i64 0) 1 8 Try.underlying22 HI0.out HZ0.out HZ1.out HZ2.out rfl (by omega) _ k _ rfl (HO.out.alloc _) ⟨wr.heap.size, 0, none⟩ 1 1 [.int .i64 z] rfl rfl ?c1 ?c2 ?c3 ?c4 ?c5 ?_)
      case c1 =>
        intro j u hj
        match j, hj with
        | 0, hj => simp at hj; subst hj; simp [Addr.add, go_sem]
      case c2 => intro u hu; simp at hu; subst hu; rfl
      case c3 => unfold maxLen; omega
      case c4 => omega
      case c5 => have := hbw.size; simp; omega
      intro v' w5 hown' hgrow _
      have HO2 : Hid (w5.ownsRow w4.heap.size 3 1 v' (k + 1) ((rot zs (start f zs.length) (k + 1)).map (Value.int .i64))) := by
        rw [HR2.out, List.map_append]; exact hown'
      have HB : Hid (Below w4.heap.size w4 w5) := (hbw.alloc hbw.size _).grown hgrow (by simp; have := hbw.size; omega) (fun g hg => (HO.out.lt g hg).1)
      clear hown' hgrow
      go_wp2
      go_roundw
      case rel => exact ⟨k + 1, by omega, by go_num, HO2.out, HB.out⟩
      case measure => simp [intOf]; omega
    · have hkn : k = zs.length := by omega
      subst hkn
      have hbd : ∀ n ∈ rot zs (start f zs.length) zs.length, -9223372036854775808 ≤ n ∧ n ≤ 9223372036854775807 := by
        by_cases h0 : 0 < zs.length
        · exact rot_bd zs _ _ h0 HI4.out.2
        · have h1 : zs.length = 0 := by omega
          rw [h1, rot_zero]; intro n hn; cases hn
      obtain ⟨a2, c2, rfl, hI2⟩ := ints_own hown hbd
      have hsum : (rot zs (start f zs.length) zs.length).sum = zs.sum := by
        by_cases h0 : 0 < zs.length
        · exact rot_sum zs _ (start_lt f _ h0)
        · have h1 : zs = [] := List.eq_nil_of_length_eq_zero (by omega)
          subst h1; rfl
      have hlen := rot_length zs (start f zs.length) zs.length
      generalize rot zs (start f zs.length) zs.length = ys at *
      have HS := Lib.hid hsum
      have HL : Hid (ys.length ≤ 65536) := by show _ ≤ _; omega
      have HI2 := Lib.hid hI2
      have HBW := Lib.hid hbw
      have d0 : wr.cell? ⟨w.heap.size, 0, none⟩ = some (.int .i64 p) := (hbw.cell (p := ⟨w.heap.size, 0, none⟩) z4).trans c40
      have d1 : wr.cell? ⟨w.heap.size, 1, none⟩ = some (.int .i64 q) := (hbw.cell (p := ⟨w.heap.size, 1, none⟩) z4).trans c41
      have zr : w.heap.size < wr.heap.size := Nat.lt_of_lt_of_le z4 hbw.size
      have KR : Hid (Below w.heap.size w wr) := below_after K4.out hbw (Nat.le_of_lt z4)
      clear hsum hlen hI2 hbw hown hbd hlt hk c40 c41 z4 K4
      go_wp2_with fail
      refine (sum_any a cap zs _ (Ints.below HI4.out HBW.out) (by omega)).mono ?_
      rintro e w5 ⟨rfl, k5⟩
      have d50 : w5.cell? ⟨w.heap.size, 0, none⟩ = some (.int .i64 p) := (k5.cell (p := ⟨w.heap.size, 0, none⟩) zr).trans d0
      have d51 : w5.cell? ⟨w.heap.size, 1, none⟩ = some (.int .i64 q) := (k5.cell (p := ⟨w.heap.size, 1, none⟩) zr).trans d1
      have z5 : w.heap.size < w5.heap.size := Nat.lt_of_lt_of_le zr k5.size
      have K5 : Hid (Below w.heap.size w w5) := below_after KR.out k5 (Nat.le_of_lt zr)
      have HI3 : Hid (Ints w5 a2 ys) := Ints.below HI2.out k5
      clear k5 d0 d1 zr KR HI2 HBW HI4
      go_wp2_with fail
      refine (sum_any a2 c2 ys _ HI3.out HL.out).mono ?_
      rw [HS.out]
      rintro e w6 ⟨rfl, k6⟩
      have d60 : w6.cell? ⟨w.heap.size, 0, none⟩ = some (.int .i64 p) := (k6.cell (p := ⟨w.heap.size, 0, none⟩) z5).trans d50
      have d61 : w6.cell? ⟨w.heap.size, 1, none⟩ = some (.int .i64 q) := (k6.cell (p := ⟨w.heap.size, 1, none⟩) z5).trans d51
      have K6 : Hid (Below w.heap.size w w6) := below_after K5.out k6 (Nat.le_of_lt z5)
      have z6 : w.heap.size ≤ w6.heap.size := Nat.le_trans (Nat.le_of_lt z5) k6.size
      clear k6 d50 d51 K5 HI3 z5
      by_cases hfit : -9223372036854775808 ≤ p + q ∧ p + q ≤ 9223372036854775807
      · have f1e : fitE (p + q) = 0 := fitE_in hfit.1 hfit.2
        obtain ⟨s, hs⟩ : ∃ s, fitV (p + q) = s := ⟨_, rfl⟩
        have hs2 : s = p + q := by rw [← hs]; exact fitV_in hfit.1 hfit.2
        have g1 : fitV (s - q) = p := by rw [hs2, show p + q - q = p by omega]; exact fitV_in hp1 hp2
        have g2 : fitE (s - q) = 0 := by rw [hs2, show p + q - q = p by omega]; exact fitE_in hp1 hp2
        have hs3 : -9223372036854775808 ≤ s ∧ s ≤ 9223372036854775807 := by omega
        clear hs2 hfit
        go_wp2_with (first
          | (go_at_call 11; refine (sub_any s q _ hs3.1 hs3.2 hq1 hq2).mono ?_; rintro e w7 ⟨rfl, k7⟩
             have d70 : w7.cell? ⟨w.heap.size, 0, none⟩ = some (.int .i64 p) := (k7.cell (p := ⟨w.heap.size, 0, none⟩) (block_lt_of_cell d60)).trans d60)
          | (go_at_call 8; refine (awake_yes _).mono ?_; rintro e w8 ⟨rfl, rfl⟩))
        go_ret
        exact ⟨rfl, below_after K6.out k7 z6⟩
      · have f1e : fitE (p + q) = 11 := fitE_out hfit
        go_wp2_with (go_at_call 8; refine (awake_yes _).mono ?_; rintro e w8 ⟨rfl, rfl⟩)
        go_ret
        exact ⟨rfl, K6.out⟩
end numOrder
end Go.Proofs.Ytpcobmjalohfbaa
