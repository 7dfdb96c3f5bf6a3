/- The law FireCounts over what came in. -/
import Derived.Test.YtblamffdlclomaaDoorFrX
import Derived.Test.YtblamffdlclomaaDoorFiO
namespace Go.Proofs.YtblamffdlclomaaDoor
open Go Go.RowKit

theorem fireCounts_walk (A : Option Addr) (cap : Nat) (rs : List RV) (x y z : Int) (W : World) (hA : LaidF W) (h1 : rs.length ≤ cap) (h2 : cap ≤ maxLen) (h3 : RowsAt 11 cR A rs W) (_h4 : ∀ r ∈ rs, in64' r.fr ∧ in64' r.tl) :
    Calls Tryd.prog 4 #[.slice A rs.length cap, .agg (([x, y, z] : List Int).map (Value.int .i64)).toArray] W fun e w' => e = .returned (.bool true) ∧ Below W.heap.size W w' :=
  fcounts_any A rs.length cap rs x y z W hA h3 rfl (by simp only [maxLen] at h2; omega) h1
end Go.Proofs.YtblamffdlclomaaDoor
