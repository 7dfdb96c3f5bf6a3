/- For every input the law ZonePlain returns true: as the card's arguments open. -/
import Derived.Test.YtjpppffgebecdaaGreatDoorZnI
import Derived.Test.YtjpppffgebecdaaGreatDoorZnO
namespace Go.Proofs.YtjpppffgebecdaaGreatDoor
open Go.RowKit

theorem zonePlain_walk (e : EV) (t : Int) (w : World) (hA : LaidZ w) (_ : in64' e.of ∧ in64' e.sv) :
    Calls Tryz.prog 6 #[evV e, .int .i64 t] w fun e w' => e = .returned (.bool true) ∧ Below w.heap.size w w' := by
  by_cases h : e.fm.length ≤ 100
  · exact zonePlain_in e t w (Lib.hid hA.b) h
  · exact zonePlain_long e t w (Lib.hid hA.b) h
end Go.Proofs.YtjpppffgebecdaaGreatDoor
