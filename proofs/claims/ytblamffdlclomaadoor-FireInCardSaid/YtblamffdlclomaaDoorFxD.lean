/- The law FireIn over what came in. -/
import Derived.Test.YtblamffdlclomaaDoorFxI
import Derived.Test.YtblamffdlclomaaDoorFiO
namespace Go.Proofs.YtblamffdlclomaaDoor
open Go Go.RowKit

theorem fireIn_walk (A : Option Addr) (cap : Nat) (rs : List RV) (x z : Int) (W : World) (hA : LaidF W) (h1 : rs.length ≤ cap) (h2 : cap ≤ maxLen) (h3 : RowsAt 11 cR A rs W) (_h4 : ∀ r ∈ rs, in64' r.fr ∧ in64' r.tl) :
    Calls Tryd.prog 3 #[.slice A rs.length cap, .int .i64 x, .int .i64 z] W fun e w' => e = .returned (.bool true) ∧ Below W.heap.size W w' :=
  ffin_any A rs.length cap rs x z W hA h3 rfl (by simp only [maxLen] at h2; omega) h1
end Go.Proofs.YtblamffdlclomaaDoor
