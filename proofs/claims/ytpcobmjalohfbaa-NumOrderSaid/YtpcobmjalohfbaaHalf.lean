/- The contracts of package num's halves: split, carried, plus, minus and whole, for every number of 64 bits: what each call returns; what was in memory stays as it was. -/
import Derived.Test.YtpcobmjalohfbaaChecked
import Derived.Test.YtpcobmjalohfbaaPlain
import Derived.Test.YtpcobmjalohfbaaArr
import Derived.WalkKit
import Derived.IntWalk
import Derived.Lib.Hide
import Derived.Below
import Derived.WalkLawsBesides
import Derived.Deep.RegionWith
import Derived.Deep.RegionHeld3
import Derived.Outline
namespace Go.Proofs.Ytpcobmjalohfbaa
open Go.RowKit

theorem split_any (n : Int) (w : World) :
    Calls Try.prog 23 #[.int .i64 n] w fun e w' => e = .returned (.agg #[.int .i64 (n % 4294967296), .int .i64 (n / 4294967296)]) ∧ Below w.heap.size w w' := by
  go_enter Try.func23, Try.ntmps23
  go_wp2
  refine bodyPost_ret (v := .agg #[.int .i64 (bits .and .i64 n 4294967295), .int .i64 (n / 4294967296)]) (by simp [results, Try.results23, go_sem]) rfl ⟨?_, (Below.refl _ _).alloc (Nat.le_refl _) _⟩
  rw [and_low]

theorem carried_any (x y : Int) (w : World) :
    Calls Try.prog 33 #[.agg #[.int .i64 x, .int .i64 y]] w fun e w' => e = .returned (.agg #[.int .i64 (x % 4294967296), .int .i64 (wrap64 (y + x / 4294967296))]) ∧ Below w.heap.size w w' := by
  go_enter Try.func33, Try.ntmps33
  go_wp2
  refine bodyPost_ret (v := .agg #[.int .i64 (bits .and .i64 x 4294967295), .int .i64 (wrap64 (y + x / 4294967296))]) (by simp [results, Try.results33, go_sem]) rfl ⟨?_, ((Below.refl _ _).alloc (Nat.le_refl _) _).alloc (by simp) _⟩
  rw [and_low]

theorem plus_any (a b c d : Int) (w : World) :
    Calls Try.prog 29 #[.agg #[.int .i64 a, .int .i64 b], .agg #[.int .i64 c, .int .i64 d]] w fun e w' => e = .returned (.agg #[.int .i64 (wrap64 (a + c) % 4294967296), .int .i64 (wrap64 (wrap64 (b + d) + wrap64 (a + c) / 4294967296))]) ∧ Below w.heap.size w w' := by
  go_enter Try.func29, Try.ntmps29
  go_wp2_with (go_at_call 33; refine (carried_any _ _ _).mono ?_; rintro e w' ⟨rfl, hb⟩; obtain ⟨hc, hf⟩ := bcell hb; have hz := hb.size; simp at hz)
  refine bodyPost_ret (v := .agg #[.int .i64 (wrap64 (a + c) % 4294967296), .int .i64 (wrap64 (wrap64 (b + d) + wrap64 (a + c) / 4294967296))]) (by simp [results, Try.results29, go_sem, hc]) rfl ⟨rfl, ?_⟩
  exact ((((((Below.refl _ _).alloc (Nat.le_refl _) _).alloc (by simp) _).alloc (by simp; omega) _).trans (hb.mono (by simp; omega))).setCell (by simp; omega) _).setCell (by simp; omega) _

theorem minus_any (a b c d : Int) (w : World) :
    Calls Try.prog 24 #[.agg #[.int .i64 a, .int .i64 b], .agg #[.int .i64 c, .int .i64 d]] w fun e w' => e = .returned (.agg #[.int .i64 (wrap64 (a - c) % 4294967296), .int .i64 (wrap64 (wrap64 (b - d) + wrap64 (a - c) / 4294967296))]) ∧ Below w.heap.size w w' := by
  go_enter Try.func24, Try.ntmps24
  go_wp2_with (go_at_call 33; refine (carried_any _ _ _).mono ?_; rintro e w' ⟨rfl, hb⟩; obtain ⟨hc, hf⟩ := bcell hb; have hz := hb.size; simp at hz)
  refine bodyPost_ret (v := .agg #[.int .i64 (wrap64 (a - c) % 4294967296), .int .i64 (wrap64 (wrap64 (b - d) + wrap64 (a - c) / 4294967296))]) (by simp [results, Try.results24, go_sem, hc]) rfl ⟨rfl, ?_⟩
  exact ((((((Below.refl _ _).alloc (Nat.le_refl _) _).alloc (by simp) _).alloc (by simp; omega) _).trans (hb.mono (by simp; omega))).setCell (by simp; omega) _).setCell (by simp; omega) _

theorem size_int (w : World) : (sizeOf 3).run Try.prog w = .ok 1 w := by kernel_rfl

theorem equal_halves (a b c d : Int) (w : World) : (Op.equalIn 10000 43 (.agg #[.int .i64 a, .int .i64 b]) (.agg #[.int .i64 c, .int .i64 d])).run Try.prog w = .ok ([a, b] == [c, d]) w :=
  equalIn_ints w 9998 43 3 2 Try.underlying43 Try.underlying3 size_int [a, b] [c, d] rfl rfl

theorem whole_or (x y : Int) (hx1 : 0 ≤ x) (hx2 : x < 4294967296) : bits .or .i64 (wrap64 (y * 4294967296)) x = wrap64 (y * 4294967296) + x :=
  or_low _ _ (by unfold wrap64; omega) (by unfold wrap64; omega) (by unfold wrap64; omega) hx1 hx2

theorem whole_fits (x y : Int) (w : World) (hx1 : 0 ≤ x) (hx2 : x < 4294967296) (hy1 : -2147483648 ≤ y) (hy2 : y < 2147483648) :
    Calls Try.prog 25 #[.agg #[.int .i64 x, .int .i64 y]] w fun e w' => e = .returned (.tuple #[.int .i64 (y * 4294967296 + x), .int .i64 0]) ∧ Below w.heap.size w w' := by
  have HE : Hid (bits .or .i64 (wrap64 (y * 4294967296)) x = y * 4294967296 + x) := by
    have h := whole_or x y hx1 hx2
    have h2 : wrap64 (y * 4294967296) = y * 4294967296 := by unfold wrap64; omega
    rw [h2] at h
    exact (congrArg (fun z => bits .or .i64 z x) h2).trans h
  have heq : ∀ w : World, (Op.equalIn 10000 43 (.agg #[.int .i64 (bits .or .i64 (wrap64 (y * 4294967296)) x % 4294967296), .int .i64 (bits .or .i64 (wrap64 (y * 4294967296)) x / 4294967296)]) (.agg #[.int .i64 x, .int .i64 y])).run Try.prog w = .ok true w := by
    intro w
    rw [equal_halves, HE.out]
    have h1 : (y * 4294967296 + x) % 4294967296 = x := by omega
    have h2 : (y * 4294967296 + x) / 4294967296 = y := by omega
    rw [h1, h2]
    simp
  clear hx1 hx2 hy1 hy2
  go_enter Try.func25, Try.ntmps25
  go_wp2
  go_region_with (go_at_call 23; refine (split_any _ _).mono ?_; rintro e w' ⟨rfl, hb⟩; obtain ⟨hc, hf⟩ := bcell hb)
  all_goals
    go_wp2
    go_ret2
    refine ⟨?_, ?_⟩
    · simp only [← HE.out]; rfl
    · repeat (first | exact Below.refl _ _ | refine Below.drew ?_ | refine Below.setCell ?_ (by simp <;> omega) _ | refine Below.alloc ?_ (by simp <;> omega) _ | refine below_after ?_ (by assumption) (by simp <;> omega))

theorem whole_over (x y : Int) (w : World) (hx1 : 0 ≤ x) (hx2 : x < 4294967296) (hy : y < -2147483648 ∨ 2147483648 ≤ y) :
    Calls Try.prog 25 #[.agg #[.int .i64 x, .int .i64 y]] w fun e w' => e = .returned (.tuple #[.int .i64 0, .int .i64 11]) ∧ Below w.heap.size w w' := by
  have heq : ∀ w : World, (Op.equalIn 10000 43 (.agg #[.int .i64 (bits .or .i64 (wrap64 (y * 4294967296)) x % 4294967296), .int .i64 (bits .or .i64 (wrap64 (y * 4294967296)) x / 4294967296)]) (.agg #[.int .i64 x, .int .i64 y])).run Try.prog w = .ok false w := by
    intro w
    rw [equal_halves, whole_or x y hx1 hx2]
    have h2 : ¬ (wrap64 (y * 4294967296) + x) / 4294967296 = y := by unfold wrap64; omega
    simp [h2]
  clear hx1 hx2 hy
  go_enter Try.func25, Try.ntmps25
  go_wp2
  go_region_with (go_at_call 23; refine (split_any _ _).mono ?_; rintro e w' ⟨rfl, hb⟩; obtain ⟨hc, hf⟩ := bcell hb)
  all_goals
    go_wp2
    go_ret2
    refine ⟨rfl, ?_⟩
    repeat (first | exact Below.refl _ _ | refine Below.drew ?_ | refine Below.setCell ?_ (by simp <;> omega) _ | refine Below.alloc ?_ (by simp <;> omega) _ | refine below_after ?_ (by assumption) (by simp <;> omega))
end Go.Proofs.Ytpcobmjalohfbaa
