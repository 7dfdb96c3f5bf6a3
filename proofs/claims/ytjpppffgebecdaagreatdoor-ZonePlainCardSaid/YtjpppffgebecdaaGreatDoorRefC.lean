/- The contracts of the reference's Days and Of: what each call returns, for every date that there is, and every number; nothing that was in memory changes. -/
import Derived.Test.YtjpppffgebecdaaGreatDoorRefB
namespace Go.Proofs.YtjpppffgebecdaaGreatDoor
open Go.RowKit

def SomeRefDate (n : Int) (w : World) (e : Ending) (w' : World) : Prop := ∃ y m d : Int, okD y m d ∧ dayN y m d = n ∧ e = .returned (.tuple #[.agg #[.int .i64 y, .int .i64 m, .int .i64 d], .bool true]) ∧ Below w.heap.size w w'

theorem ny_up {y n : Int} (h : ny y ≤ n) (hn : n ≤ 35805087) : y ≤ 100000 := by
  have e2 : ny 100001 = 35805088 := by decide
  by_cases c : y ≤ 100000
  · exact c
  · have := ny_mono 100001 y (by omega); omega
theorem ny_dn {y n : Int} (h : n < ny y + 365 + lp y) (hn : -37243778 ≤ n) : -100000 ≤ y := by
  have e1 : ny (-100000) = -37243778 := by decide
  rw [← ny_succ] at h
  by_cases c : -100000 ≤ y
  · exact c
  · have := ny_mono (y + 1) (-100000) (by omega); omega

end Go.Proofs.YtjpppffgebecdaaGreatDoor
