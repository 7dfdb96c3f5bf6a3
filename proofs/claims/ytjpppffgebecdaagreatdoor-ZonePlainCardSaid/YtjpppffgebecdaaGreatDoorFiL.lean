/- What is read of the listed variables: days ahead of months, alone. -/
import Derived.Test.YtjpppffgebecdaaGreatDoorCivD
namespace Go.Proofs.YtjpppffgebecdaaGreatDoor
open Go Go.RowKit

structure LaidF (w : World) : Prop where
  ah : AhAt w
theorem LaidF.next {w w' : World} (h : LaidF w) (k : Below w.heap.size w w') : LaidF w' := ⟨h.ah.next k⟩
theorem LaidF.lt {w : World} (h : LaidF w) : AhAt w := h.ah
end Go.Proofs.YtjpppffgebecdaaGreatDoor
