/- For every input the law AbbrShows returns true, and nothing that was in memory changes. -/
import Derived.Test.YtcfmmllegaddhaaDoorAbV
namespace Go.Proofs.YtcfmmllegaddhaaDoor
open Go.RowKit

/-- A boxed pair of texts. -/
structure Pr (B : Nat) (f l : List UInt8) (w : World) : Prop where
  lt : B < w.heap.size
  c0 : w.cell? ⟨B, 0, none⟩ = some (.string ⟨f.toArray⟩)
  c1 : w.cell? ⟨B, 1, none⟩ = some (.string ⟨l.toArray⟩)
theorem Pr.next {B : Nat} {f l : List UInt8} {w w' : World} (h : Pr B f l w) (k : Below w.heap.size w w') : Pr B f l w' :=
  ⟨Nat.lt_of_lt_of_le h.lt k.size, by rw [k.cell (p := ⟨_, _, none⟩) h.lt]; exact h.c0, by rw [k.cell (p := ⟨_, _, none⟩) h.lt]; exact h.c1⟩
theorem Pr.new (w : World) (f l : List UInt8) (t : TypeId) : Pr w.heap.size f l (w.alloc (.cells #[.string ⟨f.toArray⟩, .string ⟨l.toArray⟩] t)) :=
  ⟨by simp, by simp, by simp⟩
theorem shows_long (f l : List UInt8) (off : Int) (dst : Bool) (w : World) (HA : Hid (LaidB w)) (h : 100 < f.length ∨ 100 < l.length) :
    Calls Tryd.prog 5 #[.agg #[.string ⟨f.toArray⟩, .string ⟨l.toArray⟩], .int .i64 off, .bool dst] w fun e w' => e = .returned (.bool true) ∧ Below w.heap.size w w' := by
  have HB : Hid (Below w.heap.size w (w.alloc (.cells #[.string ⟨f.toArray⟩, .string ⟨l.toArray⟩] 35))) := Lib.hid ((Below.refl _ _).alloc (Nat.le_refl _) _)
  have V : (100 : Int) < (f.length : Int) ∨ (¬ (100 : Int) < (f.length : Int) ∧ (100 : Int) < (l.length : Int)) := by omega
  clear h
  rcases V with V | ⟨V, V2⟩
  all_goals go_enter Tryd.func5, Tryd.ntmps5
  all_goals go_wp2_with (first | (go_at_call 10; refine (awake_is _ (Lib.hid (HA.out.next HB.out))).mono ?_; rintro e w1 ⟨rfl, k1⟩; simp only []))
  all_goals go_ret
  all_goals exact ⟨rfl, HB.out.trans (k1.mono HB.out.size)⟩
set_option maxHeartbeats 6400000 in
theorem shows_in (f l T RT : List UInt8) (off e0 rk ra : Int) (dst rb : Bool) (w : World) (HA : Hid (LaidB w)) (hf : f.length ≤ 100) (hl : l.length ≤ 100) (SP : Hid (shS f off dst l = T ∧ shE f off = e0)) (SR : Hid (shS f off dst l = RT ∧ decide (shE f off = 0) = rb)) (KR : Hid (kdR f = rk ∧ atV f = ra))
    (X : (rb = false ∧ rk < 0 ∧ T = [] ∧ e0 = 12) ∨ (rb = false ∧ ¬ rk < 0 ∧ T = [] ∧ e0 = 10) ∨ (rb = true ∧ T = RT ∧ e0 = 0)) :
    Calls Tryd.prog 5 #[.agg #[.string ⟨f.toArray⟩, .string ⟨l.toArray⟩], .int .i64 off, .bool dst] w fun e w' => e = .returned (.bool true) ∧ Below w.heap.size w w' := by
  have K0 : Hid (Below w.heap.size w (w.alloc (.cells #[.string ⟨f.toArray⟩, .string ⟨l.toArray⟩] 35))) := Lib.hid ((Below.refl _ _).alloc (Nat.le_refl _) _)
  have P0 : Hid (Pr w.heap.size f l (w.alloc (.cells #[.string ⟨f.toArray⟩, .string ⟨l.toArray⟩] 35))) := Lib.hid (Pr.new w f l _)
  have HF : Hid (f.length ≤ 1000 ∧ l.length ≤ 100) := Lib.hid ⟨by omega, hl⟩
  have h1 : ¬ (100 : Int) < (f.length : Int) := by omega
  have h2 : ¬ (100 : Int) < (l.length : Int) := by omega
  clear hf hl
  rcases X with ⟨rfl, r, rfl, rfl⟩ | ⟨rfl, r, rfl, rfl⟩ | ⟨rfl, rfl, rfl⟩
  all_goals go_enter Tryd.func5, Tryd.ntmps5
  all_goals go_wp2_with (first
    | (go_at_call 17; refine (show_is f l _ off _ dst _ (Lib.hid (HA.out.next K0.out)) HF SP).mono ?_; rintro e w1 ⟨rfl, k1⟩; simp only []
       have P1 := Lib.hid (P0.out.next k1)
       have c0 := P1.out.c0
       have c1 := P1.out.c1
       have K1 := Lib.hid (K0.out.trans (k1.mono K0.out.size))
       clear k1 P0 SP)
    | (go_at_call 18; refine (rshow_is f l _ off dst _ _ HF SR).mono ?_; rintro e w2 ⟨rfl, k2⟩; simp only []
       clear c0 c1
       have P2 := Lib.hid (P1.out.next k2)
       have c0 := P2.out.c0
       have K2 := Lib.hid (K1.out.trans (k2.mono K1.out.size))
       clear k2 P1 SR)
    | (go_at_call 12; refine (rkind_is f _ _ _ (Lib.hid HF.out.1) KR).mono ?_; rintro e w3 ⟨rfl, k3⟩; simp only []
       have K3 := Lib.hid (K2.out.trans (k3.mono K2.out.size))
       clear k3 KR c0)
    | (go_at_call 10; refine (awake_is _ (Lib.hid (HA.out.next K3.out))).mono ?_; rintro e w4 ⟨rfl, k4⟩; simp only []))
  all_goals go_ret
  all_goals exact ⟨rfl, K3.out.trans (k4.mono K3.out.size)⟩
theorem abbrShows_walk (f l : List UInt8) (off : Int) (dst : Bool) (w : World) (hA : LaidB w) :
    Calls Tryd.prog 5 #[.agg #[.string ⟨f.toArray⟩, .string ⟨l.toArray⟩], .int .i64 off, .bool dst] w fun e w' => e = .returned (.bool true) ∧ Below w.heap.size w w' := by
  have HA := Lib.hid hA
  by_cases h : 100 < f.length ∨ 100 < l.length
  · exact shows_long f l off dst w HA h
  · refine shows_in f l _ _ off _ _ _ dst _ w HA (by omega) (by omega) (Lib.hid ⟨rfl, rfl⟩) (Lib.hid ⟨rfl, rfl⟩) (Lib.hid ⟨rfl, rfl⟩) ?_
    unfold shS shE kdR
    cases hk : kdK f with
    | none => exact .inl ⟨rfl, by decide, rfl, rfl⟩
    | some k =>
      have h3 := (fm_parts hk).1
      obtain rfl | rfl | rfl | rfl : k = 0 ∨ k = 1 ∨ k = 2 ∨ k = 3 := by omega
      · exact .inr (.inr ⟨rfl, rfl, rfl⟩)
      · exact .inr (.inr ⟨rfl, rfl, rfl⟩)
      · by_cases ho : off ≤ -360000 ∨ 360000 ≤ off
        · exact .inr (.inl ⟨by simp [ofE, ho], by decide, by simp [ho], by simp [ofE, ho]⟩)
        · exact .inr (.inr ⟨by simp [ofE, ho], rfl, by simp [ofE, ho]⟩)
      · exact .inr (.inr ⟨rfl, rfl, rfl⟩)
end Go.Proofs.YtcfmmllegaddhaaDoor
