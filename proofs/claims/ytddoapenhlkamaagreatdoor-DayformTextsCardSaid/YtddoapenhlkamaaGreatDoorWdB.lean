/- The contracts of strings.Map at words.small, and of words.meant: the word in small letters, and a function that goes through the places that it is short for; nothing that was in memory changes. The tables of unicode/utf8 read as they are laid. -/
import Derived.Test.YtddoapenhlkamaaGreatDoorWdA
import Derived.Test.YtddoapenhlkamaaGreatDoorShelf
namespace Go.Proofs.YtddoapenhlkamaaGreatDoor
open Go.RowKit Go.Shelf
attribute [local go_sem] Oper.semAt_some

def U8At (w : World) : Prop := Lib.Utf8Tabs 10 11 w
theorem U8At.next {w w' : World} (h : U8At w) (k : Below w.heap.size w w') : U8At w' := Utf8Tabs_below h k

theorem map_any (s : List UInt8) (w : World) (hs : s.length ≤ 1000) (hT : U8At w) :
    Calls Tryz.prog 65 #[.func (.func 82) #[] #[], .string ⟨s.toArray⟩] w fun e w' => e = .returned (.string ⟨(Lib.mapD smallZ s).toArray⟩) ∧ Below w.heap.size w w' :=
  Tryz.strings_Map_runes 82 #[] (enters_of Tryz.func82 (by kernel_rfl) rfl) smallZ ⟨s.toArray⟩ w (by rw [wsize]; omega)
    (fun W x hx hb => (small_any (x : Int) W (by omega) (by omega)).mono fun e w' ⟨h1, h2⟩ => ⟨h1, 0, h2.symm⟩) smallZ_bd hT

/-- The function that meant answers: it knows the list, and the word in small letters. -/
def Meant (b : List UInt8) (v : Value) (w : World) (e : Ending) (w' : World) : Prop := ∃ Bl Bw : Nat, e = .returned (.func (.func 83) #[] #[.pointer (some ⟨Bl, 0, none⟩), .pointer (some ⟨Bw, 0, none⟩)]) ∧
  w.heap.size ≤ Bl ∧ w.heap.size ≤ Bw ∧ w'.cell? ⟨Bl, 0, none⟩ = some v ∧ w'.cell? ⟨Bw, 0, none⟩ = some (.string ⟨b.toArray⟩) ∧ Below w.heap.size w w'

theorem meant_any (s : List UInt8) (L n : Nat) (w : World) (hs : s.length ≤ 1000) (hT : U8At w) :
    Calls Tryz.prog 58 #[.string ⟨s.toArray⟩, .slice (some ⟨L, 0, none⟩) n n] w (Meant (Lib.mapD smallZ s) (.slice (some ⟨L, 0, none⟩) n n) w) := by
  have hmf : ∀ (fn : Fn) (first cap : Array Value) (w : World), (Instr.makeFunc fn first cap).run Tryz.prog w = .ok (.func fn first cap) w := fun _ _ _ _ => rfl
  have HT := Lib.hid (hT.next ((Below.refl _ w).alloc (Nat.le_refl _) (.cells #[.slice (some ⟨L, 0, none⟩) n n] 48)))
  clear hT
  obtain ⟨b, hb⟩ : ∃ b, Lib.mapD smallZ s = b := ⟨_, rfl⟩
  have MP : Hid (∀ W : World, U8At W → Calls Tryz.prog 65 #[.func (.func 82) #[] #[], .string ⟨s.toArray⟩] W fun e w' => e = .returned (.string ⟨b.toArray⟩) ∧ Below W.heap.size W w') := Lib.hid fun W h => hb ▸ map_any s W hs h
  rw [hb]
  clear hb
  go_enter Tryz.func58, Tryz.ntmps58
  go_wp2_with (first
    | (go_at_call 65; refine (MP.out _ HT.out).mono ?_; rintro e w1 ⟨rfl, k1⟩))
  go_ret
  have k0 : Below w.heap.size w (w.alloc (.cells #[.slice (some ⟨L, 0, none⟩) n n] 48)) := (Below.refl _ w).alloc (Nat.le_refl _) _
  have hs1 := k1.size
  simp only [World.size_alloc] at hs1
  refine ⟨_, _, rfl, Nat.le_refl _, by omega, ?_, by simp, (k0.trans (k1.mono (by simp))).alloc (by omega) _⟩
  have k2 := ((Below.refl w1.heap.size w1).alloc (Nat.le_refl _) (.cells #[.string ⟨b.toArray⟩] 9))
  rw [k2.cell (p := ⟨_, _, none⟩) (by show w.heap.size < w1.heap.size; omega), k1.cell (p := ⟨_, _, none⟩) (by show w.heap.size < _; simp)]
  simp
end Go.Proofs.YtddoapenhlkamaaGreatDoor
