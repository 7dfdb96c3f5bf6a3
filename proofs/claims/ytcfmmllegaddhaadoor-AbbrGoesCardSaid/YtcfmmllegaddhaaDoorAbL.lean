/- For every input the law AbbrGoes returns true: as the card's argument opens. -/
import Derived.Test.YtcfmmllegaddhaaDoorAbJ
import Derived.Test.YtcfmmllegaddhaaDoorAbX
namespace Go.Proofs.YtcfmmllegaddhaaDoor
open Go.RowKit

theorem abbrGoes_walk (f : List UInt8) (off : Int) (A : Option Addr) (c : Nat) (ls : List (List UInt8)) (w : World) (hA : LaidB w) (_ : ls.length ≤ maxLen) (_ : ls.length ≤ c) (hW : ArgW A ls w) :
    Calls Tryd.prog 8 #[.string ⟨f.toArray⟩, .int .i64 off, .slice A ls.length c] w fun e w' => e = .returned (.bool true) ∧ Below w.heap.size w w' := by
  refine callsIn_wide.1 (goes_in A ls.length c f off ls w rfl (fun h => ?_) (fun k q hq => ?_) hA 6 rfl)
  · rcases Nat.eq_zero_or_pos ls.length with h0 | h0
    · exact h0
    · obtain ⟨b, o, e, -⟩ := hW 0 _ (List.getElem?_eq_getElem h0)
      rw [h] at e; cases e
  · obtain ⟨b, o, e, hc⟩ := hW k q hq
    exact ⟨b, o, e, wcell_lt hc, hc⟩
end Go.Proofs.YtcfmmllegaddhaaDoor
