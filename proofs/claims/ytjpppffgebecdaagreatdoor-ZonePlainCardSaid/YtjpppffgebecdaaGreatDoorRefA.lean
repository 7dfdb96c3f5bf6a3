/- The contracts of the reference's Right and Next: what each call returns, for every date; nothing that was in memory changes. -/
import Derived.Test.YtjpppffgebecdaaGreatDoorCivD
namespace Go.Proofs.YtjpppffgebecdaaGreatDoor
open Go.RowKit

theorem below_drewN {B : Nat} {a w : World} (h : Below B a w) (n : Nat) : Below B a (w.drewN n) := ⟨h.os, h.tape, h.output, h.size, h.block⟩

end Go.Proofs.YtjpppffgebecdaaGreatDoor
