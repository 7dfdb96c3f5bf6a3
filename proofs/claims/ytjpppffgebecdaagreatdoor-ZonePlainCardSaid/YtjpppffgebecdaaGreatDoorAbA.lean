/- The contracts of abbr.isPlain, mayStand and piece: which bytes, and which texts, may be; what a text begins with; nothing that was in memory changes. -/
import Derived.Shelf.Strings.Prefix
import Derived.Test.YtjpppffgebecdaaGreatDoorAbP
import Derived.Test.YtjpppffgebecdaaGreatDoorBas
import Derived.Test.YtjpppffgebecdaaGreatDoorShelf
namespace Go.Proofs.YtjpppffgebecdaaGreatDoor
open Go.RowKit

theorem abclass (c : UInt8) : c.toNat < 43 ∨ c.toNat = 43 ∨ c.toNat = 44 ∨ c.toNat = 45 ∨ (46 ≤ c.toNat ∧ c.toNat < 48) ∨ (48 ≤ c.toNat ∧ c.toNat ≤ 57) ∨ (58 ≤ c.toNat ∧ c.toNat < 65) ∨ (65 ≤ c.toNat ∧ c.toNat ≤ 90) ∨ (91 ≤ c.toNat ∧ c.toNat < 97) ∨ (97 ≤ c.toNat ∧ c.toNat ≤ 122) ∨ 122 < c.toNat := by omega
set_option maxHeartbeats 1600000 in
theorem plain_is (c : UInt8) (v : Bool) (w : World) (hv : Hid (abL c = v)) :
    Calls Tryz.prog 75 #[.int .u8 (c.toNat : Int)] w fun e w' => e = .returned (.bool v) ∧ w' = w := by
  obtain rfl := hv.out
  clear hv
  rcases abclass c with h | h | h | h | h | h | h | h | h | h | h
  all_goals first | have e : Hid (abL c = true) := Lib.hid (by simp [abL]; omega) | have e : Hid (abL c = false) := Lib.hid (by simp [abL]; omega)
  all_goals first | have t0 : (65 : Int) ≤ (c.toNat : Int) := by omega | have t0 : ¬ (65 : Int) ≤ (c.toNat : Int) := by omega
  all_goals first | have t1 : (c.toNat : Int) ≤ 90 := by omega | have t1 : ¬ (c.toNat : Int) ≤ 90 := by omega
  all_goals first | have t2 : (97 : Int) ≤ (c.toNat : Int) := by omega | have t2 : ¬ (97 : Int) ≤ (c.toNat : Int) := by omega
  all_goals first | have t3 : (c.toNat : Int) ≤ 122 := by omega | have t3 : ¬ (c.toNat : Int) ≤ 122 := by omega
  all_goals first | have t4 : (48 : Int) ≤ (c.toNat : Int) := by omega | have t4 : ¬ (48 : Int) ≤ (c.toNat : Int) := by omega
  all_goals first | have t5 : (c.toNat : Int) ≤ 57 := by omega | have t5 : ¬ (c.toNat : Int) ≤ 57 := by omega
  all_goals first | have t6 : ((c.toNat : Int) == 43) = false := by simp; omega | have t6 : ((c.toNat : Int) == 43) = true := by simp; omega
  all_goals first | have t7 : ((c.toNat : Int) == 45) = false := by simp; omega | have t7 : ((c.toNat : Int) == 45) = true := by simp; omega
  all_goals clear h
  all_goals go_enter Tryz.func75, Tryz.ntmps75
  all_goals go_wp2
  all_goals go_ret
  all_goals rw [e.out]
  all_goals exact ⟨rfl, rfl⟩

theorem bdrews {B : Nat} {w W : World} (h : Below B w W) (n : Nat) : Below B w (W.drewN n) := h.trans ⟨rfl, rfl, rfl, Nat.le_refl _, fun _ _ => rfl⟩
/-- The library's bound on short texts holds some number. -/
def MaxB (w : World) : Prop := ∃ m : Int, w.cell? ⟨2, 0, none⟩ = some (.int .i64 m)
theorem MaxB.next {w w' : World} (h : MaxB w) (k : Below w.heap.size w w') : MaxB w' := by
  obtain ⟨m, h⟩ := h; exact ⟨m, by rw [k.cell (p := ⟨_, _, none⟩) (wcell_lt h)]; exact h⟩
def marksL : List (List UInt8) := [[], [37, 115], [37, 122], [47]]
/-- What package abbr reads in memory. -/
structure LaidB (w : World) : Prop where
  mks : ListAt 0 marksL w
  mx : MaxB w
theorem LaidB.next {w w' : World} (h : LaidB w) (k : Below w.heap.size w w') : LaidB w' := ⟨h.mks.next k, h.mx.next k⟩
theorem marks_at {k : Nat} (h : k ≤ 3) : marksL[k]? = some (mkB k) := by
  obtain rfl | rfl | rfl | rfl : k = 0 ∨ k = 1 ∨ k = 2 ∨ k = 3 := by omega
  all_goals rfl

theorem pre_is (s p : List UInt8) (v : Bool) (w : World) (hv : Hid (p.isPrefixOf s = v)) : Calls Tryz.prog 73 #[.string ⟨s.toArray⟩, .string ⟨p.toArray⟩] w fun e w' => e = .returned (.bool v) ∧ w' = w := by
  refine (Tryz.strings_HasPrefix ⟨s.toArray⟩ ⟨p.toArray⟩ w).mono fun e w' ⟨h1, h2⟩ => ⟨?_, h2⟩
  rw [h1, ← hv.out]; rfl
theorem suf_is (s p : List UInt8) (v : Bool) (w : World) (hs : s.length ≤ 1000) (hv : Hid (p.isSuffixOf s = v)) : Calls Tryz.prog 74 #[.string ⟨s.toArray⟩, .string ⟨p.toArray⟩] w fun e w' => e = .returned (.bool v) ∧ w' = w := by
  refine (Tryz.strings_HasSuffix ⟨s.toArray⟩ ⟨p.toArray⟩ w (by rw [wsize]; omega)).mono fun e w' ⟨h1, h2⟩ => ⟨?_, h2⟩
  rw [h1, ← hv.out]; rfl
/-- The answer of mayStand. -/
def mayS (s : List UInt8) : Bool := fmOk s && !(decide (s.getLast? = some 47))
theorem pre47 (s : List UInt8) : [47].isPrefixOf s = decide (s.head? = some 47) := by
  cases s with
  | nil => rfl
  | cons c r =>
    by_cases h : c = 47
    · subst h; simp [List.isPrefixOf]
    · have : ((47 : UInt8) == c) = false := by simpa using fun e : 47 = c => h e.symm
      simp [List.isPrefixOf, this, h]
theorem suf47 (s : List UInt8) : [47].isSuffixOf s = decide (s.getLast? = some 47) := by
  unfold List.isSuffixOf
  show [47].isPrefixOf s.reverse = _
  rw [pre47, List.head?_reverse]
set_option maxHeartbeats 800000 in
theorem may_is (s : List UInt8) (v : Bool) (w : World) (hA : LaidB w) (hs : s.length ≤ 1000) (hv : Hid (mayS s = v)) :
    Calls Tryz.prog 46 #[.string ⟨s.toArray⟩] w fun e w' => e = .returned (.bool v) ∧ w' = w := by
  have c3 := hA.mks.cell 3 _ rfl
  have hz := wsize s
  clear hA
  rcases Nat.eq_zero_or_pos s.length with h0 | h0
  · obtain rfl : s = [] := List.length_eq_zero_iff.1 h0
    have e : Hid (v = false) := Lib.hid (by rw [← hv.out]; rfl)
    clear hv h0
    go_enter Tryz.func46, Tryz.ntmps46
    go_wp2
    go_ret
    rw [e.out]
    exact ⟨rfl, rfl⟩
  · have hne : s ≠ [] := by rintro rfl; simp at h0
    have n0 : ((s.length : Int) == 0) = false := by simpa using hne
    by_cases h1 : 64 < s.length
    · have e : Hid (v = false) := Lib.hid (by rw [← hv.out]; simp [mayS, fmOk]; omega)
      have h1' : (64 : Int) < (s.length : Int) := by omega
      clear hv
      go_enter Tryz.func46, Tryz.ntmps46
      go_wp2
      go_ret
      rw [e.out]
      exact ⟨rfl, rfl⟩
    · have h1' : ¬ (64 : Int) < (s.length : Int) := by omega
      obtain ⟨p, hp⟩ : ∃ p, [47].isPrefixOf s = p := ⟨_, rfl⟩
      obtain ⟨q, hq⟩ : ∃ q, [47].isSuffixOf s = q := ⟨_, rfl⟩
      have e : Hid (v = (!p && !q)) := Lib.hid (by rw [← hv.out, ← hp, ← hq, pre47, suf47]; unfold mayS fmOk; rw [decide_eq_true hne, decide_eq_true (show s.length ≤ 64 by omega), Bool.true_and, Bool.true_and, decide_not])
      have HP := Lib.hid hp
      have HQ := Lib.hid hq
      clear hv hp hq
      cases p <;> cases q
      all_goals go_enter Tryz.func46, Tryz.ntmps46
      all_goals go_wp2_with (first | (go_at_call 73; refine (pre_is s [47] _ _ HP).mono ?_; rintro e w1 ⟨rfl, rfl⟩; simp only []) | (go_at_call 74; refine (suf_is s [47] _ _ hs HQ).mono ?_; rintro e w1 ⟨rfl, rfl⟩; simp only []))
      all_goals go_ret
      all_goals rw [e.out]
      all_goals exact ⟨rfl, rfl⟩
end Go.Proofs.YtjpppffgebecdaaGreatDoor
