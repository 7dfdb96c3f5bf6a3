/- The contracts of words.Kind, Month and Weekday: which kind, month and day of a week a word is, or that it is none; nothing that was in memory changes. The tables read as they are laid. -/
import Derived.Test.YtoegjbhbgnhjdaaDoorWdD
import Derived.Lib.AppendIntMem
namespace Go.Proofs.YtoegjbhbgnhjdaaDoor
open Go.RowKit

abbrev PowW (w : World) : Prop := Lib.TabIs Tryd.prog w "internal/strconv.uint64pow10" .u64 Lib.pow10Tab
theorem PowW.next {w w' : World} (h : PowW w) (k : Below w.heap.size w w') : PowW w' := Lib.tabBelow_of_tabIs h w' k
/-- A variable holds an error, or nil. -/
def ErrW (g : Nat) (w : World) : Prop := ∃ ev : Value, w.cell? ⟨g, 0, none⟩ = some ev ∧ (ev = .nilIface ∨ ∃ te pe, ev = .iface te pe)
theorem ErrW.next {g : Nat} {w w' : World} (h : ErrW g w) (k : Below w.heap.size w w') : ErrW g w' := by
  obtain ⟨ev, h1, h2⟩ := h
  exact ⟨ev, by rw [k.cell (p := ⟨_, _, none⟩) (wcell_lt h1)]; exact h1, h2⟩
/-- The tables that package words, and what it calls, read. -/
structure LaidW (w : World) : Prop where
  kin : ListAt 0 kindsL w
  mon : ListAt 1 monthsL w
  end' : ListAt 3 endsL w
  u8 : U8At w
  pow : PowW w
  syn : ErrW 4 w
  ran : ErrW 5 w
theorem LaidW.next {w w' : World} (h : LaidW w) (k : Below w.heap.size w w') : LaidW w' :=
  ⟨h.kin.next k, h.mon.next k, h.end'.next k, h.u8.next k, h.pow.next k, h.syn.next k, h.ran.next k⟩

/-- .. and that of the days of a week. -/
structure LaidX (w : World) : Prop where
  l : LaidW w
  wee : ListAt 2 weeksL w
theorem LaidX.next {w w' : World} (h : LaidX w) (k : Below w.heap.size w w') : LaidX w' := ⟨h.l.next k, h.wee.next k⟩

theorem ne_of_all {ws : List (List UInt8)} (h : (ws.all fun p => !p.isEmpty) = true) : ∀ p ∈ ws, p ≠ [] := by
  intro p hp
  have := List.all_eq_true.1 h p hp
  cases p <;> simp_all
theorem ascii_of_all {ws : List (List UInt8)} (h : (ws.all fun p => p.all fun c => decide (c.toNat < 128)) = true) : ∀ p ∈ ws, ascii p := by
  intro p hp c hc
  have := List.all_eq_true.1 (List.all_eq_true.1 h p hp) c hc
  simpa using this
theorem kinds_ne : ∀ p ∈ kindsL, p ≠ [] := ne_of_all (by decide)
theorem kinds_as : ∀ p ∈ kindsL, ascii p := ascii_of_all (by decide)
theorem months_ne : ∀ p ∈ monthsL, p ≠ [] := ne_of_all (by decide)
theorem months_as : ∀ p ∈ monthsL, ascii p := ascii_of_all (by decide)
theorem weeks_ne : ∀ p ∈ weeksL, p ≠ [] := ne_of_all (by decide)
theorem weeks_as : ∀ p ∈ weeksL, ascii p := ascii_of_all (by decide)
theorem ends_ne : ∀ p ∈ endsL, p ≠ [] := ne_of_all (by decide)
theorem ends_as : ∀ p ∈ endsL, ascii p := ascii_of_all (by decide)

theorem scan_lt (b : List UInt8) : ∀ (ws : List (List UInt8)) (i many found p : Nat), (many = 1 → found < i + ws.length) → scan b ws i many found = some p → p < i + ws.length
  | [], i, many, found, p, hf, h => by
    simp only [scan] at h
    split at h
    · rename_i hm
      injection h with h
      have := hf hm
      omega
    · cases h
  | w :: ws, i, many, found, p, hf, h => by
    simp only [scan] at h
    rw [List.length_cons] at hf ⊢
    split at h
    · injection h with h
      omega
    · split at h
      · have := scan_lt b ws (i + 1) (many + 1) i p (by omega) h
        omega
      · have := scan_lt b ws (i + 1) many found p (by omega) h
        omega
theorem findL_lt {b : List UInt8} {ws : List (List UInt8)} {p : Nat} (h : findL b ws = some p) : p < ws.length := by
  have := scan_lt b ws 0 0 0 p (by omega) h
  omega

set_option maxHeartbeats 800000 in
theorem kind_is (s : List UInt8) (v e0 : Int) (w : World) (hs : s.length ≤ 1000) (hA : LaidW w) (HV : Hid ((resN (findL (low s) kindsL) 1 : Int) = v ∧ (resE (findL (low s) kindsL) : Int) = e0)) :
    Calls Tryd.prog 10 #[.string ⟨s.toArray⟩] w fun e w' => e = .returned (.tuple #[.int .i64 v, .int .i64 e0]) ∧ Below w.heap.size w w' := by
  have c0 := hA.kin.cell 0 _ rfl
  have c1 := hA.kin.cell 1 _ rfl
  have c2 := hA.kin.cell 2 _ rfl
  obtain ⟨W0, hW0⟩ : ∃ W0, w.alloc (.cells #[.string ⟨#[114, 117, 108, 101]⟩, .string ⟨#[122, 111, 110, 101]⟩, .string ⟨#[108, 105, 110, 107]⟩] 42) = W0 := ⟨_, rfl⟩
  have B0 : Below w.heap.size w W0 := by rw [← hW0]; exact (Below.refl _ _).alloc (Nat.le_refl _) _
  have L0 : ListAt w.heap.size kindsL W0 := by rw [← hW0]; exact ListAt.new w kindsL _ _ rfl
  have U0 := hA.u8.next B0
  cases ho : findL (low s) kindsL with
  | none =>
    have E : Hid (v = 0 ∧ e0 = 13) := Lib.hid (by rw [ho] at HV; exact ⟨HV.out.1.symm, HV.out.2.symm⟩)
    have F : Hid ((resN (findL (low s) kindsL) 0 : Int) = 0 ∧ (resE (findL (low s) kindsL) : Int) = 13) := Lib.hid (by rw [ho]; exact ⟨rfl, rfl⟩)
    have FI := Lib.hid (find_is s kindsL w.heap.size 3 0 13 W0 hs rfl (by omega) kinds_ne kinds_as L0 U0 F)
    clear ho L0 U0 HV hA
    go_enter Tryd.func10, Tryd.ntmps10
    go_wp2_with (go_at_call 23; (try rw [hW0]); refine FI.out.mono ?_; rintro e w1 ⟨rfl, k1⟩)
    go_ret2
    rw [E.out.1, E.out.2]
    exact ⟨rfl, B0.trans (k1.mono B0.size)⟩
  | some p =>
    have E : Hid (v = 1 + (p : Int) ∧ e0 = 0) := Lib.hid (by
      rw [ho] at HV
      refine ⟨?_, HV.out.2.symm⟩
      rw [← HV.out.1]; show ((p + 1 : Nat) : Int) = _; omega)
    have F : Hid ((resN (findL (low s) kindsL) 0 : Int) = p ∧ (resE (findL (low s) kindsL) : Int) = 0) := Lib.hid (by rw [ho]; exact ⟨rfl, rfl⟩)
    have hp : p < 3 := findL_lt ho
    have FI := Lib.hid (find_is s kindsL w.heap.size 3 p 0 W0 hs rfl (by omega) kinds_ne kinds_as L0 U0 F)
    clear ho L0 U0 HV hA
    go_enter Tryd.func10, Tryd.ntmps10
    go_wp2_with (go_at_call 23; (try rw [hW0]); refine FI.out.mono ?_; rintro e w1 ⟨rfl, k1⟩)
    go_ret2
    rw [E.out.1, E.out.2]
    exact ⟨rfl, B0.trans (k1.mono B0.size)⟩

set_option maxHeartbeats 1600000 in
theorem month_is (s : List UInt8) (v e0 : Int) (w : World) (hs : s.length ≤ 1000) (hA : LaidW w) (HV : Hid ((resN (findL (low s) monthsL) 1 : Int) = v ∧ (resE (findL (low s) monthsL) : Int) = e0)) :
    Calls Tryd.prog 11 #[.string ⟨s.toArray⟩] w fun e w' => e = .returned (.tuple #[.int .i64 v, .int .i64 e0]) ∧ Below w.heap.size w w' := by
  have c0 := hA.mon.cell 0 _ rfl
  have c1 := hA.mon.cell 1 _ rfl
  have c2 := hA.mon.cell 2 _ rfl
  have c3 := hA.mon.cell 3 _ rfl
  have c4 := hA.mon.cell 4 _ rfl
  have c5 := hA.mon.cell 5 _ rfl
  have c6 := hA.mon.cell 6 _ rfl
  have c7 := hA.mon.cell 7 _ rfl
  have c8 := hA.mon.cell 8 _ rfl
  have c9 := hA.mon.cell 9 _ rfl
  have c10 := hA.mon.cell 10 _ rfl
  have c11 := hA.mon.cell 11 _ rfl
  obtain ⟨W0, hW0⟩ : ∃ W0, w.alloc (.cells #[.string ⟨#[106, 97, 110, 117, 97, 114, 121]⟩, .string ⟨#[102, 101, 98, 114, 117, 97, 114, 121]⟩, .string ⟨#[109, 97, 114, 99, 104]⟩, .string ⟨#[97, 112, 114, 105, 108]⟩, .string ⟨#[109, 97, 121]⟩, .string ⟨#[106, 117, 110, 101]⟩, .string ⟨#[106, 117, 108, 121]⟩, .string ⟨#[97, 117, 103, 117, 115, 116]⟩, .string ⟨#[115, 101, 112, 116, 101, 109, 98, 101, 114]⟩, .string ⟨#[111, 99, 116, 111, 98, 101, 114]⟩, .string ⟨#[110, 111, 118, 101, 109, 98, 101, 114]⟩, .string ⟨#[100, 101, 99, 101, 109, 98, 101, 114]⟩] 44) = W0 := ⟨_, rfl⟩
  have B0 : Below w.heap.size w W0 := by rw [← hW0]; exact (Below.refl _ _).alloc (Nat.le_refl _) _
  have L0 : ListAt w.heap.size monthsL W0 := by rw [← hW0]; exact ListAt.new w monthsL _ _ rfl
  have U0 := hA.u8.next B0
  cases ho : findL (low s) monthsL with
  | none =>
    have E : Hid (v = 0 ∧ e0 = 13) := Lib.hid (by rw [ho] at HV; exact ⟨HV.out.1.symm, HV.out.2.symm⟩)
    have F : Hid ((resN (findL (low s) monthsL) 0 : Int) = 0 ∧ (resE (findL (low s) monthsL) : Int) = 13) := Lib.hid (by rw [ho]; exact ⟨rfl, rfl⟩)
    have FI := Lib.hid (find_is s monthsL w.heap.size 12 0 13 W0 hs rfl (by omega) months_ne months_as L0 U0 F)
    clear ho L0 U0 HV hA
    go_enter Tryd.func11, Tryd.ntmps11
    go_wp2_with (go_at_call 23; (try rw [hW0]); refine FI.out.mono ?_; rintro e w1 ⟨rfl, k1⟩)
    go_ret2
    rw [E.out.1, E.out.2]
    exact ⟨rfl, B0.trans (k1.mono B0.size)⟩
  | some p =>
    have E : Hid (v = 1 + (p : Int) ∧ e0 = 0) := Lib.hid (by
      rw [ho] at HV
      refine ⟨?_, HV.out.2.symm⟩
      rw [← HV.out.1]; show ((p + 1 : Nat) : Int) = _; omega)
    have F : Hid ((resN (findL (low s) monthsL) 0 : Int) = p ∧ (resE (findL (low s) monthsL) : Int) = 0) := Lib.hid (by rw [ho]; exact ⟨rfl, rfl⟩)
    have hp : p < 12 := findL_lt ho
    have FI := Lib.hid (find_is s monthsL w.heap.size 12 p 0 W0 hs rfl (by omega) months_ne months_as L0 U0 F)
    clear ho L0 U0 HV hA
    go_enter Tryd.func11, Tryd.ntmps11
    go_wp2_with (go_at_call 23; (try rw [hW0]); refine FI.out.mono ?_; rintro e w1 ⟨rfl, k1⟩)
    go_ret2
    rw [E.out.1, E.out.2]
    exact ⟨rfl, B0.trans (k1.mono B0.size)⟩

set_option maxHeartbeats 800000 in
theorem week_is (s : List UInt8) (v e0 : Int) (w : World) (hs : s.length ≤ 1000) (hA : LaidX w) (HV : Hid ((resN (findL (low s) weeksL) 0 : Int) = v ∧ (resE (findL (low s) weeksL) : Int) = e0)) :
    Calls Tryd.prog 12 #[.string ⟨s.toArray⟩] w fun e w' => e = .returned (.tuple #[.int .i64 v, .int .i64 e0]) ∧ Below w.heap.size w w' := by
  have c0 := hA.wee.cell 0 _ rfl
  have c1 := hA.wee.cell 1 _ rfl
  have c2 := hA.wee.cell 2 _ rfl
  have c3 := hA.wee.cell 3 _ rfl
  have c4 := hA.wee.cell 4 _ rfl
  have c5 := hA.wee.cell 5 _ rfl
  have c6 := hA.wee.cell 6 _ rfl
  obtain ⟨W0, hW0⟩ : ∃ W0, w.alloc (.cells #[.string ⟨#[115, 117, 110, 100, 97, 121]⟩, .string ⟨#[109, 111, 110, 100, 97, 121]⟩, .string ⟨#[116, 117, 101, 115, 100, 97, 121]⟩, .string ⟨#[119, 101, 100, 110, 101, 115, 100, 97, 121]⟩, .string ⟨#[116, 104, 117, 114, 115, 100, 97, 121]⟩, .string ⟨#[102, 114, 105, 100, 97, 121]⟩, .string ⟨#[115, 97, 116, 117, 114, 100, 97, 121]⟩] 45) = W0 := ⟨_, rfl⟩
  have B0 : Below w.heap.size w W0 := by rw [← hW0]; exact (Below.refl _ _).alloc (Nat.le_refl _) _
  have L0 : ListAt w.heap.size weeksL W0 := by rw [← hW0]; exact ListAt.new w weeksL _ _ rfl
  have U0 := hA.l.u8.next B0
  have FI := Lib.hid (find_is s weeksL w.heap.size 7 v e0 W0 hs rfl (by omega) weeks_ne weeks_as L0 U0 HV)
  clear L0 U0 HV hA
  go_enter Tryd.func12, Tryd.ntmps12
  go_wp2_with (go_at_call 23; (try rw [hW0]); refine FI.out.mono ?_; rintro e w1 ⟨rfl, k1⟩)
  go_ret2
  exact ⟨rfl, B0.trans (k1.mono B0.size)⟩
end Go.Proofs.YtoegjbhbgnhjdaaDoor
