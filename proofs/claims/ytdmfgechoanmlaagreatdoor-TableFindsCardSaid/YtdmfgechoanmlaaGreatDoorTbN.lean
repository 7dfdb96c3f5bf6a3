/- For every input the law TableFinds returns true: as the card's arguments open. -/
import Derived.Test.YtdmfgechoanmlaaGreatDoorTbM
import Derived.Test.YtdmfgechoanmlaaGreatDoorMYA
import Derived.Test.YtdmfgechoanmlaaGreatDoorTbO
namespace Go.Proofs.YtdmfgechoanmlaaGreatDoor
open Go.RowKit

theorem tableFinds_walk (A : Option Addr) (c : Nat) (l : List CV) (p q : Int) (w : World) (hA : LaidZ w) (_ : l.length ≤ c) (_ : c ≤ maxLen) (h3 : RowsAt 4 cC A l w) :
    Calls Tryz.prog 5 #[.slice A l.length c, .agg #[.int .i64 p, .int .i64 q]] w fun e w' => e = .returned (.bool true) ∧ Below w.heap.size w w' :=
  tableFinds_is A c l p q w hA h3
end Go.Proofs.YtdmfgechoanmlaaGreatDoor
