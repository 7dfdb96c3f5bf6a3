/- For whatever world, instant and offset the law ZoneShifts returns true: as the card's arguments open. -/
import Derived.Test.YtjpppffgebecdaaGreatDoorZmL
namespace Go.Proofs.YtjpppffgebecdaaGreatDoor
open Go.RowKit

theorem zoneShifts_walk (x : WV) (t m : Int) (w : World) (hA : LaidZ w) (hX : WvAt x w) (hO : WvOk x) :
    Calls Tryz.prog 7 #[wvV x, .int .i64 t, .int .i64 m] w fun e w' => e = .returned (.bool true) ∧ Below w.heap.size w w' := by
  by_cases h : ShA x t m
  · obtain ⟨e, he⟩ : ∃ e, x.es[0]? = some e := ⟨_, List.getElem?_eq_getElem h.ne⟩
    by_cases ho : -40000 ≤ e.of ∧ e.of ≤ 40000
    · by_cases hs : x.ss.length = 0
      · exact zshifts_far x t m w hA hX hO h (fun e' h' a b => hs)
      · obtain ⟨s, hs'⟩ : ∃ s, x.ss[0]? = some s := ⟨_, List.getElem?_eq_getElem (by omega)⟩
        exact zshifts_in x t m w hA hX hO h e he ho.1 ho.2 s hs'
    · exact zshifts_far x t m w hA hX hO h (fun e' h' a b => absurd ⟨(Option.some.inj (he.symm.trans h')) ▸ a, (Option.some.inj (he.symm.trans h')) ▸ b⟩ ho)
  · exact zshifts_out x t m w hA hX hO h
end Go.Proofs.YtjpppffgebecdaaGreatDoor
