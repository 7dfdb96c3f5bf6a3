/- The contracts of civil.nearest, Check and Long: what each call returns, for every date; nothing that was in memory changes. The table of days ahead of months reads as it is laid. -/
import Derived.Test.YtjpppffgebecdaaGreatDoorCivB
import Derived.Below
import Derived.Deep.RegionHeld3
import Derived.Deep.QuietTactic
import Derived.BigQuiet
namespace Go.Proofs.YtjpppffgebecdaaGreatDoor
open Go.RowKit

theorem cell_lt {w : World} {b o : Nat} {v : Value} (h : w.cell? ⟨b, o, none⟩ = some v) : b < w.heap.size := by
  rcases Nat.lt_or_ge b w.heap.size with h1 | h1
  · exact h1
  · have e : w.heap[b]? = none := by simp [h1]
    simp [World.cell?, e] at h

theorem AhAt.lt {w : World} (h : AhAt w) : 1 < w.heap.size := cell_lt (h 1 (by omega) (by omega))
theorem AhAt.below {w w' : World} {B : Nat} (h : AhAt w) (k : Below B w w') (hB : 1 < B) : AhAt w' := fun m h1 h2 => by
  rw [k.cell (p := ⟨_, _, none⟩) hB]; exact h m h1 h2
theorem AhAt.next {w w' : World} (h : AhAt w) (k : Below w.heap.size w w') : AhAt w' := h.below k h.lt


set_option maxHeartbeats 400000 in
theorem nearest_any (y m d : Int) (w : World) (ht : AhAt w) :
    Calls Tryz.prog 128 #[.agg #[.int .i64 y, .int .i64 m, .int .i64 d]] w fun e w' => e = .returned (.agg #[.int .i64 (wi y (-100000) 100000), .int .i64 (wi m 1 12), .int .i64 (wi d 1 (dim (wi y (-100000) 100000) (wi m 1 12)))]) ∧ Below w.heap.size w w' := by
  have hy : min (max y (-100000)) 100000 = wi y (-100000) 100000 := rfl
  have hm : min (max m 1) 12 = wi m 1 12 := rfl
  have hmb : 1 ≤ wi m 1 12 ∧ wi m 1 12 ≤ 12 := by unfold wi; omega
  have HT := Lib.hid ht
  clear ht
  go_enter Tryz.func128, Tryz.ntmps128
  go_wp2_with (go_at_call 138; refine (within_any _ _ _ _).mono ?_; rintro e w1 ⟨rfl, rfl⟩)
  go_region_held3 (fun w' => w'.cell? ⟨w.heap.size, 2, none⟩ = some (.int .i64 d)) (go_keep)
    (first
      | (go_at_call 114; refine (long_any _ _ _ (HT.out.below (B := w.heap.size) (by first | exact ((Below.refl _ _).alloc (Nat.le_refl _) _).alloc (by simp) _ | exact (((Below.refl _ _).alloc (Nat.le_refl _) _).alloc (by simp) _).drew) HT.out.lt) hmb.1 hmb.2).mono ?_; rintro e w1 ⟨rfl, rfl⟩)
      | (go_at_call 138; refine (within_any _ _ _ _).mono ?_; rintro e w1 ⟨rfl, rfl⟩))
  go_wp2
  exact bodyPost_ret (v := .agg #[.int .i64 (wi y (-100000) 100000), .int .i64 (wi m 1 12), .int .i64 (wi d 1 (dim (wi y (-100000) 100000) (wi m 1 12)))]) (by simp [results, Tryz.results128, go_sem, wi]) rfl ⟨rfl, (((Below.refl _ _).alloc (Nat.le_refl _) _).alloc (by simp) _).drew⟩

theorem nearest_is (y m d y' m' d' : Int) (w : World) (ht : AhAt w) (h : Hid (wi y (-100000) 100000 = y' ∧ wi m 1 12 = m' ∧ wi d 1 (dim (wi y (-100000) 100000) (wi m 1 12)) = d')) :
    Calls Tryz.prog 128 #[.agg #[.int .i64 y, .int .i64 m, .int .i64 d]] w fun e w' => e = .returned (.agg #[.int .i64 y', .int .i64 m', .int .i64 d']) ∧ Below w.heap.size w w' := by
  have := nearest_any y m d w ht
  rw [h.out.1, h.out.2.1] at this
  have e := h.out.2.2
  rw [h.out.1, h.out.2.1] at e
  rw [e] at this
  exact this

theorem AhAt.drew {w : World} (h : AhAt w) : AhAt w.drew := h.below (B := w.heap.size) (Below.refl _ _).drew h.lt

def ckE (y m d : Int) : Int := if okB y m d then 0 else 10

set_option maxHeartbeats 400000 in
theorem check_yes (y m d : Int) (w : World) (ht : AhAt w) (HN : Hid (wi y (-100000) 100000 = y ∧ wi m 1 12 = m ∧ wi d 1 (dim (wi y (-100000) 100000) (wi m 1 12)) = d)) :
    Calls Tryz.prog 113 #[.agg #[.int .i64 y, .int .i64 m, .int .i64 d]] w fun e w' => e = .returned (.int .i64 0) ∧ Below w.heap.size w w' := by
  have HT := Lib.hid ht
  clear ht
  go_enter Tryz.func113, Tryz.ntmps113
  go_wp2
  have T : Hid (Below w.heap.size w (w.alloc (.cells #[.int .i64 y, .int .i64 m, .int .i64 d] 83))) := (Below.refl _ _).alloc (Nat.le_refl _) _
  go_region_held3 (fun w' => w'.cell? ⟨w.heap.size, 0, none⟩ = some (.int .i64 y) ∧ w'.cell? ⟨w.heap.size, 1, none⟩ = some (.int .i64 m) ∧ w'.cell? ⟨w.heap.size, 2, none⟩ = some (.int .i64 d)) (first | go_keep | (rw [hq.cell, hq.cell, hq.cell] <;> simp))
    (first
      | (go_at_call 128; refine (nearest_is y m d y m d _ (HT.out.below (B := w.heap.size) (by first | exact T.out | exact T.out.drew) HT.out.lt) HN).mono ?_; rintro e w1 ⟨rfl, hq⟩))
  go_wp2
  go_ret
  exact ⟨rfl, T.out.drew.trans (hq.mono (by simp))⟩

set_option maxHeartbeats 400000 in
theorem check_no1 (y m d y' m' d' : Int) (w : World) (ht : AhAt w) (HN : Hid (wi y (-100000) 100000 = y' ∧ wi m 1 12 = m' ∧ wi d 1 (dim (wi y (-100000) 100000) (wi m 1 12)) = d')) (h : (y' == y) = false) :
    Calls Tryz.prog 113 #[.agg #[.int .i64 y, .int .i64 m, .int .i64 d]] w fun e w' => e = .returned (.int .i64 10) ∧ Below w.heap.size w w' := by
  have HT := Lib.hid ht
  clear ht
  go_enter Tryz.func113, Tryz.ntmps113
  go_wp2
  have T : Hid (Below w.heap.size w (w.alloc (.cells #[.int .i64 y, .int .i64 m, .int .i64 d] 83))) := (Below.refl _ _).alloc (Nat.le_refl _) _
  go_region_held3 (fun w' => w'.cell? ⟨w.heap.size, 0, none⟩ = some (.int .i64 y) ∧ w'.cell? ⟨w.heap.size, 1, none⟩ = some (.int .i64 m) ∧ w'.cell? ⟨w.heap.size, 2, none⟩ = some (.int .i64 d)) (first | go_keep | (rw [hq.cell, hq.cell, hq.cell] <;> simp))
    (first
      | (go_at_call 128; refine (nearest_is y m d y' m' d' _ (HT.out.below (B := w.heap.size) (by first | exact T.out | exact T.out.drew) HT.out.lt) HN).mono ?_; rintro e w1 ⟨rfl, hq⟩))
  go_wp2
  go_ret
  exact ⟨rfl, T.out.drew.trans (hq.mono (by simp))⟩

set_option maxHeartbeats 400000 in
theorem check_no2 (y m d m' d' : Int) (w : World) (ht : AhAt w) (HN : Hid (wi y (-100000) 100000 = y ∧ wi m 1 12 = m' ∧ wi d 1 (dim (wi y (-100000) 100000) (wi m 1 12)) = d')) (h : (m' == m) = false) :
    Calls Tryz.prog 113 #[.agg #[.int .i64 y, .int .i64 m, .int .i64 d]] w fun e w' => e = .returned (.int .i64 10) ∧ Below w.heap.size w w' := by
  have HT := Lib.hid ht
  clear ht
  go_enter Tryz.func113, Tryz.ntmps113
  go_wp2
  have T : Hid (Below w.heap.size w (w.alloc (.cells #[.int .i64 y, .int .i64 m, .int .i64 d] 83))) := (Below.refl _ _).alloc (Nat.le_refl _) _
  go_region_held3 (fun w' => w'.cell? ⟨w.heap.size, 0, none⟩ = some (.int .i64 y) ∧ w'.cell? ⟨w.heap.size, 1, none⟩ = some (.int .i64 m) ∧ w'.cell? ⟨w.heap.size, 2, none⟩ = some (.int .i64 d)) (first | go_keep | (rw [hq.cell, hq.cell, hq.cell] <;> simp))
    (first
      | (go_at_call 128; refine (nearest_is y m d y m' d' _ (HT.out.below (B := w.heap.size) (by first | exact T.out | exact T.out.drew) HT.out.lt) HN).mono ?_; rintro e w1 ⟨rfl, hq⟩))
  go_wp2
  go_ret
  exact ⟨rfl, T.out.drew.trans (hq.mono (by simp))⟩

set_option maxHeartbeats 400000 in
theorem check_no3 (y m d d' : Int) (w : World) (ht : AhAt w) (HN : Hid (wi y (-100000) 100000 = y ∧ wi m 1 12 = m ∧ wi d 1 (dim (wi y (-100000) 100000) (wi m 1 12)) = d')) (h : (d' == d) = false) :
    Calls Tryz.prog 113 #[.agg #[.int .i64 y, .int .i64 m, .int .i64 d]] w fun e w' => e = .returned (.int .i64 10) ∧ Below w.heap.size w w' := by
  have HT := Lib.hid ht
  clear ht
  go_enter Tryz.func113, Tryz.ntmps113
  go_wp2
  have T : Hid (Below w.heap.size w (w.alloc (.cells #[.int .i64 y, .int .i64 m, .int .i64 d] 83))) := (Below.refl _ _).alloc (Nat.le_refl _) _
  go_region_held3 (fun w' => w'.cell? ⟨w.heap.size, 0, none⟩ = some (.int .i64 y) ∧ w'.cell? ⟨w.heap.size, 1, none⟩ = some (.int .i64 m) ∧ w'.cell? ⟨w.heap.size, 2, none⟩ = some (.int .i64 d)) (first | go_keep | (rw [hq.cell, hq.cell, hq.cell] <;> simp))
    (first
      | (go_at_call 128; refine (nearest_is y m d y m d' _ (HT.out.below (B := w.heap.size) (by first | exact T.out | exact T.out.drew) HT.out.lt) HN).mono ?_; rintro e w1 ⟨rfl, hq⟩))
  go_wp2
  go_ret
  exact ⟨rfl, T.out.drew.trans (hq.mono (by simp))⟩

theorem ckE_yes {y m d : Int} (h : okD y m d) : ckE y m d = 0 := by unfold ckE; rw [if_pos ((okB_iff y m d).2 h)]
theorem ckE_no {y m d : Int} (h : ¬ okD y m d) : ckE y m d = 10 := by unfold ckE; rw [if_neg (fun c => h ((okB_iff y m d).1 c))]

theorem check_any (y m d : Int) (w : World) (ht : AhAt w) :
    Calls Tryz.prog 113 #[.agg #[.int .i64 y, .int .i64 m, .int .i64 d]] w fun e w' => e = .returned (.int .i64 (ckE y m d)) ∧ Below w.heap.size w w' := by
  by_cases h : okD y m d
  · rw [ckE_yes h]
    exact check_yes y m d w ht ((near_iff y m d).1 h)
  · rw [ckE_no h]
    have hn : ¬ _ := fun c => h ((near_iff y m d).2 c)
    by_cases h1 : wi y (-100000) 100000 = y
    · by_cases h2 : wi m 1 12 = m
      · exact check_no3 y m d _ w ht ⟨h1, h2, rfl⟩ (by simp only [beq_eq_false_iff_ne]; exact fun c => hn ⟨h1, h2, c⟩)
      · exact check_no2 y m d _ _ w ht ⟨h1, rfl, rfl⟩ (by simpa using h2)
    · exact check_no1 y m d _ _ _ w ht ⟨rfl, rfl, rfl⟩ (by simpa using h1)

def lgOk (y m : Int) : Prop := -100000 ≤ y ∧ y ≤ 100000 ∧ 1 ≤ m ∧ m ≤ 12
theorem lgOk_iff (y m : Int) : okD y m 1 ↔ lgOk y m := by
  unfold okD lgOk
  constructor
  · rintro ⟨a, b, c, d, _⟩; exact ⟨a, b, c, d⟩
  · rintro ⟨a, b, c, d⟩; have := dim_bd y m c d; omega

theorem Long_yes (y m : Int) (w : World) (ht : AhAt w) (h : lgOk y m) :
    Calls Tryz.prog 92 #[.int .i64 y, .int .i64 m] w fun e w' => e = .returned (.tuple #[.int .i64 (dim y m), .int .i64 0]) ∧ Below w.heap.size w w' := by
  have HT := Lib.hid ht
  have hk : ckE y m 1 = 0 := ckE_yes ((lgOk_iff y m).2 h)
  obtain ⟨_, _, h3, h4⟩ := h
  clear ht
  go_enter Tryz.func92, Tryz.ntmps92
  go_wp2_with (first
    | (go_at_call 113; refine (check_any _ _ _ _ HT.out).mono ?_; rintro e w1 ⟨rfl, k1⟩)
    | (go_at_call 114; refine (long_any _ _ _ (HT.out.next k1) h3 h4).mono ?_; rintro e w1 ⟨rfl, rfl⟩))
  go_ret2
  exact ⟨rfl, k1⟩

theorem Long_no (y m : Int) (w : World) (ht : AhAt w) (h : ¬ lgOk y m) :
    Calls Tryz.prog 92 #[.int .i64 y, .int .i64 m] w fun e w' => e = .returned (.tuple #[.int .i64 0, .int .i64 10]) ∧ Below w.heap.size w w' := by
  have HT := Lib.hid ht
  have hk : ckE y m 1 = 10 := ckE_no (fun c => h ((lgOk_iff y m).1 c))
  clear ht h
  go_enter Tryz.func92, Tryz.ntmps92
  go_wp2_with (first
    | (go_at_call 113; refine (check_any _ _ _ _ HT.out).mono ?_; rintro e w1 ⟨rfl, k1⟩))
  go_ret2
  exact ⟨rfl, k1⟩
end Go.Proofs.YtjpppffgebecdaaGreatDoor
