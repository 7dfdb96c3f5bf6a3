/- For every input the law TableMerges returns true: as the card's arguments open. -/
import Derived.Test.YtopjbchbdpncmaaGreatDoorTbJ
import Derived.Test.YtopjbchbdpncmaaGreatDoorMYA
import Derived.Test.YtopjbchbdpncmaaGreatDoorTbO
namespace Go.Proofs.YtopjbchbdpncmaaGreatDoor
open Go.RowKit

theorem tableMerges_walk (A : Option Addr) (c : Nat) (l : List CV) (t : Int) (w : World) (hA : LaidZ w) (_ : l.length ≤ c) (_ : c ≤ maxLen) (h3 : RowsAt 4 cC A l w) :
    Calls Tryz.prog 7 #[.slice A l.length c, .int .i64 t] w fun e w' => e = .returned (.bool true) ∧ Below w.heap.size w w' :=
  tableMerges_is A l.length c l t w hA h3 rfl
end Go.Proofs.YtopjbchbdpncmaaGreatDoor
