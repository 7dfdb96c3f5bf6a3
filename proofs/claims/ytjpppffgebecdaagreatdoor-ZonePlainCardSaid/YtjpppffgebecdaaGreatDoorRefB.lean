/- The contracts of the reference's Next, Start and Days: what each call returns, for every date that there is; nothing that was in memory changes. -/
import Derived.Test.YtjpppffgebecdaaGreatDoorRefA
namespace Go.Proofs.YtjpppffgebecdaaGreatDoor
open Go.RowKit

theorem lp_bd (y : Int) : 0 ≤ lp y ∧ lp y ≤ 1 := by have := lp_01 y; omega
def NextTo (y m d : Int) (w : World) (e : Ending) (w' : World) : Prop := e = .returned (.agg #[.int .i64 y, .int .i64 m, .int .i64 d]) ∧ Below w.heap.size w w'

end Go.Proofs.YtjpppffgebecdaaGreatDoor
