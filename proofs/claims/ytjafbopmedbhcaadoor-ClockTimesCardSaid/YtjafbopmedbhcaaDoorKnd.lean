/- The contract of clock.kindOf: what stands ahead of a time's letter, and the kind; nothing that was in memory changes. The table of letters reads as it is laid. -/
import Derived.Test.YtjafbopmedbhcaaDoorShl
import Derived.BigQuiet
import Derived.Deep.QuietTactic
namespace Go.Proofs.YtjafbopmedbhcaaDoor
open Go.RowKit

def letB (k : Nat) : UInt8 := if k = 0 then 119 else if k = 1 then 115 else if k = 2 then 117 else if k = 3 then 103 else 122
def letK (k : Nat) : Int := if k = 0 then 0 else if k = 1 then 1 else 2
structure LetAt (w : World) : Prop where
  b0 : w.cell? ⟨1, 0, none⟩ = some (.string ⟨#[119]⟩)
  k0 : w.cell? ⟨1, 1, none⟩ = some (.int .i64 0)
  b1 : w.cell? ⟨1, 2, none⟩ = some (.string ⟨#[115]⟩)
  k1 : w.cell? ⟨1, 3, none⟩ = some (.int .i64 1)
  b2 : w.cell? ⟨1, 4, none⟩ = some (.string ⟨#[117]⟩)
  k2 : w.cell? ⟨1, 5, none⟩ = some (.int .i64 2)
  b3 : w.cell? ⟨1, 6, none⟩ = some (.string ⟨#[103]⟩)
  k3 : w.cell? ⟨1, 7, none⟩ = some (.int .i64 2)
  b4 : w.cell? ⟨1, 8, none⟩ = some (.string ⟨#[122]⟩)
  k4 : w.cell? ⟨1, 9, none⟩ = some (.int .i64 2)
theorem LetAt.lt {w : World} (h : LetAt w) : 1 < w.heap.size := cell_lt h.b0
theorem LetAt.next {w w' : World} (h : LetAt w) (k : Below w.heap.size w w') : LetAt w' :=
  ⟨by rw [k.cell h.lt]; exact h.b0, by rw [k.cell h.lt]; exact h.k0, by rw [k.cell h.lt]; exact h.b1, by rw [k.cell h.lt]; exact h.k1, by rw [k.cell h.lt]; exact h.b2, by rw [k.cell h.lt]; exact h.k2, by rw [k.cell h.lt]; exact h.b3, by rw [k.cell h.lt]; exact h.k3, by rw [k.cell h.lt]; exact h.b4, by rw [k.cell h.lt]; exact h.k4⟩

/-- Which letter a text ends with: the place in the table; 5: none. -/
def kJ (s : List UInt8) : Nat := if s.getLast? = some 119 then 0 else if s.getLast? = some 115 then 1 else if s.getLast? = some 117 then 2 else if s.getLast? = some 103 then 3 else if s.getLast? = some 122 then 4 else 5
def kS (s : List UInt8) : List UInt8 := if kJ s < 5 then s.dropLast else s
def kN (s : List UInt8) : Int := if kJ s < 5 then letK (kJ s) else 0

theorem kJ_le (s : List UInt8) : kJ s ≤ 5 := by unfold kJ; (repeat' split) <;> omega
theorem kJ_no {s : List UInt8} {i : Nat} (h : i < kJ s) : s.getLast? ≠ some (letB i) := by
  unfold kJ at h
  unfold letB
  repeat' split at h
  all_goals
    obtain h | h | h | h | h : i = 0 ∨ i = 1 ∨ i = 2 ∨ i = 3 ∨ i = 4 := by omega
  all_goals subst h
  all_goals simp_all
theorem kJ_yes {s : List UInt8} (h : kJ s < 5) : s.getLast? = some (letB (kJ s)) := by
  unfold kJ at h ⊢
  repeat' split
  all_goals simp_all [letB]

theorem let_ix0 (W : World) : (Instr.index 77 (.agg #[.string ⟨#[119]⟩, .int .i64 0, .string ⟨#[115]⟩, .int .i64 1, .string ⟨#[117]⟩, .int .i64 2, .string ⟨#[103]⟩, .int .i64 2, .string ⟨#[122]⟩, .int .i64 2]) (.int .i64 0)).run Tryd.prog W = .ok (.agg #[.string ⟨#[119]⟩, .int .i64 0]) W := by
  kernel_rfl
theorem let_ix1 (W : World) : (Instr.index 77 (.agg #[.string ⟨#[119]⟩, .int .i64 0, .string ⟨#[115]⟩, .int .i64 1, .string ⟨#[117]⟩, .int .i64 2, .string ⟨#[103]⟩, .int .i64 2, .string ⟨#[122]⟩, .int .i64 2]) (.int .i64 1)).run Tryd.prog W = .ok (.agg #[.string ⟨#[115]⟩, .int .i64 1]) W := by
  kernel_rfl
theorem let_ix2 (W : World) : (Instr.index 77 (.agg #[.string ⟨#[119]⟩, .int .i64 0, .string ⟨#[115]⟩, .int .i64 1, .string ⟨#[117]⟩, .int .i64 2, .string ⟨#[103]⟩, .int .i64 2, .string ⟨#[122]⟩, .int .i64 2]) (.int .i64 2)).run Tryd.prog W = .ok (.agg #[.string ⟨#[117]⟩, .int .i64 2]) W := by
  kernel_rfl
theorem let_ix3 (W : World) : (Instr.index 77 (.agg #[.string ⟨#[119]⟩, .int .i64 0, .string ⟨#[115]⟩, .int .i64 1, .string ⟨#[117]⟩, .int .i64 2, .string ⟨#[103]⟩, .int .i64 2, .string ⟨#[122]⟩, .int .i64 2]) (.int .i64 3)).run Tryd.prog W = .ok (.agg #[.string ⟨#[103]⟩, .int .i64 2]) W := by
  kernel_rfl
theorem let_ix4 (W : World) : (Instr.index 77 (.agg #[.string ⟨#[119]⟩, .int .i64 0, .string ⟨#[115]⟩, .int .i64 1, .string ⟨#[117]⟩, .int .i64 2, .string ⟨#[103]⟩, .int .i64 2, .string ⟨#[122]⟩, .int .i64 2]) (.int .i64 4)).run Tryd.prog W = .ok (.agg #[.string ⟨#[122]⟩, .int .i64 2]) W := by
  kernel_rfl

set_option maxRecDepth 100000 in
set_option maxHeartbeats 800000 in
theorem kind_any (s : List UInt8) (w : World) (hs : s.length ≤ 1000) (ht : LetAt w) :
    Calls Tryd.prog 39 #[.string ⟨s.toArray⟩] w fun e w' => e = .returned (.tuple #[.string ⟨(kS s).toArray⟩, .int .i64 (kN s)]) ∧ Below w.heap.size w w' := by
  have jl := kJ_le s
  have NO := Lib.hid (fun i (h : i < kJ s) => kJ_no h)
  have YES := Lib.hid (kJ_yes (s := s))
  generalize hj : kJ s = j at jl NO YES
  have HJ := Lib.hid hj
  clear hj
  obtain ⟨b0, k0, b1, k1, b2, k2, b3, k3, b4, k4⟩ := ht
  go_enter Tryd.func39, Tryd.ntmps39
  go_wp2
  go_loopw [9] (fun vi w' => ∃ i : Nat, vi = .int .i64 i ∧ i ≤ j ∧ Below w.heap.size w w') (fun vi _ => j - (intOf vi).toNat)
  case atStart => exact ⟨0, rfl, by omega, Below.refl _ _⟩
  case round =>
    obtain ⟨i, rfl, hi, hB⟩ := hrel
    clear b0 k0 b1 k1 b2 k2 b3 k3 b4 k4
    have HB := Lib.hid hB
    have HI := Lib.hid hi
    clear hB hi
    rcases Nat.lt_or_ge i j with h | h
    · have hi5 : i = 0 ∨ i = 1 ∨ i = 2 ∨ i = 3 ∨ i = 4 := by omega
      rcases hi5 with rfl | rfl | rfl | rfl | rfl
      · have hli := let_ix0
        have NI : Hid (s.getLast? ≠ some 119) := NO.out 0 h
        go_wp2_with (go_at_call 52; refine (cutSuf_no s 119 _ (by omega) NI).mono ?_; rintro e w' ⟨rfl, rfl⟩)
        go_roundw
        case rel => exact ⟨1, rfl, by omega, HB.out.alloc HB.out.size _⟩
        case measure => simp [intOf]; omega
      · have hli := let_ix1
        have NI : Hid (s.getLast? ≠ some 115) := NO.out 1 h
        go_wp2_with (go_at_call 52; refine (cutSuf_no s 115 _ (by omega) NI).mono ?_; rintro e w' ⟨rfl, rfl⟩)
        go_roundw
        case rel => exact ⟨2, rfl, by omega, HB.out.alloc HB.out.size _⟩
        case measure => simp [intOf]; omega
      · have hli := let_ix2
        have NI : Hid (s.getLast? ≠ some 117) := NO.out 2 h
        go_wp2_with (go_at_call 52; refine (cutSuf_no s 117 _ (by omega) NI).mono ?_; rintro e w' ⟨rfl, rfl⟩)
        go_roundw
        case rel => exact ⟨3, rfl, by omega, HB.out.alloc HB.out.size _⟩
        case measure => simp [intOf]; omega
      · have hli := let_ix3
        have NI : Hid (s.getLast? ≠ some 103) := NO.out 3 h
        go_wp2_with (go_at_call 52; refine (cutSuf_no s 103 _ (by omega) NI).mono ?_; rintro e w' ⟨rfl, rfl⟩)
        go_roundw
        case rel => exact ⟨4, rfl, by omega, HB.out.alloc HB.out.size _⟩
        case measure => simp [intOf]; omega
      · have hli := let_ix4
        have NI : Hid (s.getLast? ≠ some 122) := NO.out 4 h
        go_wp2_with (go_at_call 52; refine (cutSuf_no s 122 _ (by omega) NI).mono ?_; rintro e w' ⟨rfl, rfl⟩)
        go_roundw
        case rel => exact ⟨5, rfl, by omega, HB.out.alloc HB.out.size _⟩
        case measure => simp [intOf]; omega
    · obtain rfl : i = j := by have := HI.out; omega
      by_cases h5 : i < 5
      · have YE := YES.out h5
        have E : Hid (kS s = s.dropLast ∧ kN s = letK i) := by
          show _ ∧ _
          rw [kS, kN, HJ.out, if_pos h5, if_pos h5]; exact ⟨rfl, rfl⟩
        have hi5 : i = 0 ∨ i = 1 ∨ i = 2 ∨ i = 3 ∨ i = 4 := by omega
        rcases hi5 with rfl | rfl | rfl | rfl | rfl
        · have hli := let_ix0
          have YI : Hid (s.getLast? = some 119) := YE
          clear YE
          go_wp2_with (go_at_call 52; refine (cutSuf_yes s 119 _ (by omega) YI).mono ?_; rintro e w' ⟨rfl, rfl⟩)
          go_quiet (fail)
          go_wp2
          go_ret2
          rw [E.out.1, E.out.2]
          exact ⟨rfl, below_drewN (HB.out.alloc HB.out.size _) _⟩
        · have hli := let_ix1
          have YI : Hid (s.getLast? = some 115) := YE
          clear YE
          go_wp2_with (go_at_call 52; refine (cutSuf_yes s 115 _ (by omega) YI).mono ?_; rintro e w' ⟨rfl, rfl⟩)
          go_quiet (fail)
          go_wp2
          go_ret2
          rw [E.out.1, E.out.2]
          exact ⟨rfl, below_drewN (HB.out.alloc HB.out.size _) _⟩
        · have hli := let_ix2
          have YI : Hid (s.getLast? = some 117) := YE
          clear YE
          go_wp2_with (go_at_call 52; refine (cutSuf_yes s 117 _ (by omega) YI).mono ?_; rintro e w' ⟨rfl, rfl⟩)
          go_quiet (fail)
          go_wp2
          go_ret2
          rw [E.out.1, E.out.2]
          exact ⟨rfl, below_drewN (HB.out.alloc HB.out.size _) _⟩
        · have hli := let_ix3
          have YI : Hid (s.getLast? = some 103) := YE
          clear YE
          go_wp2_with (go_at_call 52; refine (cutSuf_yes s 103 _ (by omega) YI).mono ?_; rintro e w' ⟨rfl, rfl⟩)
          go_quiet (fail)
          go_wp2
          go_ret2
          rw [E.out.1, E.out.2]
          exact ⟨rfl, below_drewN (HB.out.alloc HB.out.size _) _⟩
        · have hli := let_ix4
          have YI : Hid (s.getLast? = some 122) := YE
          clear YE
          go_wp2_with (go_at_call 52; refine (cutSuf_yes s 122 _ (by omega) YI).mono ?_; rintro e w' ⟨rfl, rfl⟩)
          go_quiet (fail)
          go_wp2
          go_ret2
          rw [E.out.1, E.out.2]
          exact ⟨rfl, below_drewN (HB.out.alloc HB.out.size _) _⟩
      · obtain rfl : i = 5 := by omega
        have E : Hid (kS s = s ∧ kN s = 0) := by
          show _ ∧ _
          rw [kS, kN, HJ.out]; exact ⟨rfl, rfl⟩
        go_wp2
        go_ret2
        rw [E.out.1, E.out.2]
        exact ⟨rfl, HB.out⟩
end Go.Proofs.YtjafbopmedbhcaaDoor
