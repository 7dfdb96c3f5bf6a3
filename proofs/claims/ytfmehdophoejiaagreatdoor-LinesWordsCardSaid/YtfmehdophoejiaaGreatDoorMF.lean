/- The contracts of words.Kind, Month and Weekday: which kind, month and day of a week a word is, or that it is none; nothing that was in memory changes. The tables read as they are laid.
The contracts of words.name, MonthName and WeekdayName, and of the reference's Name: three letters of a word, the first one a capital one; nothing that was in memory changes. The tables read as they are laid.
The contracts of words.number and words.Year, and of the reference's Number: which number, and which year, a word is; nothing that was in memory changes. The tables read as they are laid.
The contract of the reference's Number: which number a text is; nothing that was in memory changes. Written by wip/tools/gennum.py.
The contracts of the reference's Number at every text, of words.Year, and of the law's examples; nothing that was in memory changes. The tables read as they are laid. -/
import Derived.Test.YtfmehdophoejiaaGreatDoorMC
import Derived.Lib.AppendIntMem
import Derived.Test.YtfmehdophoejiaaGreatDoorMB
import Derived.Lib.SmallJoins
namespace Go.Proofs.YtfmehdophoejiaaGreatDoor
open Go.RowKit

abbrev PowW (w : World) : Prop := Lib.TabIs Tryz.prog w "internal/strconv.uint64pow10" .u64 Lib.pow10Tab
theorem PowW.next {w w' : World} (h : PowW w) (k : Below w.heap.size w w') : PowW w' := Lib.tabBelow_of_tabIs h w' k
/-- A variable holds an error, or nil. -/
def ErrW (g : Nat) (w : World) : Prop := ∃ ev : Value, w.cell? ⟨g, 0, none⟩ = some ev ∧ (ev = .nilIface ∨ ∃ te pe, ev = .iface te pe)
theorem ErrW.next {g : Nat} {w w' : World} (h : ErrW g w) (k : Below w.heap.size w w') : ErrW g w' := by
  obtain ⟨ev, h1, h2⟩ := h
  exact ⟨ev, by rw [k.cell (p := ⟨_, _, none⟩) (wcell_lt h1)]; exact h1, h2⟩
/-- The tables that package words, and what it calls, read. -/
structure LaidW (w : World) : Prop where
  kin : ListAt 3 kindsL w
  mon : ListAt 0 monthsL w
  end' : ListAt 4 endsL w
  u8 : U8At w
  pow : PowW w
  syn : ErrW 12 w
  ran : ErrW 13 w
theorem LaidW.next {w w' : World} (h : LaidW w) (k : Below w.heap.size w w') : LaidW w' :=
  ⟨h.kin.next k, h.mon.next k, h.end'.next k, h.u8.next k, h.pow.next k, h.syn.next k, h.ran.next k⟩

/-- .. and that of the days of a week. -/
structure LaidX (w : World) : Prop where
  l : LaidW w
  wee : ListAt 6 weeksL w
theorem LaidX.next {w w' : World} (h : LaidX w) (k : Below w.heap.size w w') : LaidX w' := ⟨h.l.next k, h.wee.next k⟩

theorem ne_of_all {ws : List (List UInt8)} (h : (ws.all fun p => !p.isEmpty) = true) : ∀ p ∈ ws, p ≠ [] := by
  intro p hp
  have := List.all_eq_true.1 h p hp
  cases p <;> simp_all
theorem ascii_of_all {ws : List (List UInt8)} (h : (ws.all fun p => p.all fun c => decide (c.toNat < 128)) = true) : ∀ p ∈ ws, ascii p := by
  intro p hp c hc
  have := List.all_eq_true.1 (List.all_eq_true.1 h p hp) c hc
  simpa using this
theorem kinds_ne : ∀ p ∈ kindsL, p ≠ [] := ne_of_all (by decide)
theorem kinds_as : ∀ p ∈ kindsL, ascii p := ascii_of_all (by decide)
theorem months_ne : ∀ p ∈ monthsL, p ≠ [] := ne_of_all (by decide)
theorem months_as : ∀ p ∈ monthsL, ascii p := ascii_of_all (by decide)
theorem weeks_ne : ∀ p ∈ weeksL, p ≠ [] := ne_of_all (by decide)
theorem weeks_as : ∀ p ∈ weeksL, ascii p := ascii_of_all (by decide)
theorem ends_ne : ∀ p ∈ endsL, p ≠ [] := ne_of_all (by decide)
theorem ends_as : ∀ p ∈ endsL, ascii p := ascii_of_all (by decide)

theorem scan_lt (b : List UInt8) : ∀ (ws : List (List UInt8)) (i many found p : Nat), (many = 1 → found < i + ws.length) → scan b ws i many found = some p → p < i + ws.length
  | [], i, many, found, p, hf, h => by
    simp only [scan] at h
    split at h
    · rename_i hm
      injection h with h
      have := hf hm
      omega
    · cases h
  | w :: ws, i, many, found, p, hf, h => by
    simp only [scan] at h
    rw [List.length_cons] at hf ⊢
    split at h
    · injection h with h
      omega
    · split at h
      · have := scan_lt b ws (i + 1) (many + 1) i p (by omega) h
        omega
      · have := scan_lt b ws (i + 1) many found p (by omega) h
        omega
theorem findL_lt {b : List UInt8} {ws : List (List UInt8)} {p : Nat} (h : findL b ws = some p) : p < ws.length := by
  have := scan_lt b ws 0 0 0 p (by omega) h
  omega

set_option maxHeartbeats 800000 in
theorem kind_is (s : List UInt8) (v e0 : Int) (w : World) (hs : s.length ≤ 1000) (hA : LaidW w) (HV : Hid ((resN (findL (low s) kindsL) 1 : Int) = v ∧ (resE (findL (low s) kindsL) : Int) = e0)) :
    Calls Tryz.prog 86 #[.string ⟨s.toArray⟩] w fun e w' => e = .returned (.tuple #[.int .i64 v, .int .i64 e0]) ∧ Below w.heap.size w w' := by
  have c0 := hA.kin.cell 0 _ rfl
  have c1 := hA.kin.cell 1 _ rfl
  have c2 := hA.kin.cell 2 _ rfl
  obtain ⟨W0, hW0⟩ : ∃ W0, w.alloc (.cells #[.string ⟨#[114, 117, 108, 101]⟩, .string ⟨#[122, 111, 110, 101]⟩, .string ⟨#[108, 105, 110, 107]⟩] 114) = W0 := ⟨_, rfl⟩
  have B0 : Below w.heap.size w W0 := by rw [← hW0]; exact (Below.refl _ _).alloc (Nat.le_refl _) _
  have L0 : ListAt w.heap.size kindsL W0 := by rw [← hW0]; exact ListAt.new w kindsL _ _ rfl
  have U0 := hA.u8.next B0
  cases ho : findL (low s) kindsL with
  | none =>
    have E : Hid (v = 0 ∧ e0 = 13) := Lib.hid (by rw [ho] at HV; exact ⟨HV.out.1.symm, HV.out.2.symm⟩)
    have F : Hid ((resN (findL (low s) kindsL) 0 : Int) = 0 ∧ (resE (findL (low s) kindsL) : Int) = 13) := Lib.hid (by rw [ho]; exact ⟨rfl, rfl⟩)
    have FI := Lib.hid (find_is s kindsL w.heap.size 3 0 13 W0 hs rfl (by omega) kinds_ne kinds_as L0 U0 F)
    clear ho L0 U0 HV hA
    go_enter Tryz.func86, Tryz.ntmps86
    go_wp2_with (go_at_call 90; (try rw [hW0]); refine FI.out.mono ?_; rintro e w1 ⟨rfl, k1⟩)
    go_ret2
    rw [E.out.1, E.out.2]
    exact ⟨rfl, B0.trans (k1.mono B0.size)⟩
  | some p =>
    have E : Hid (v = 1 + (p : Int) ∧ e0 = 0) := Lib.hid (by
      rw [ho] at HV
      refine ⟨?_, HV.out.2.symm⟩
      rw [← HV.out.1]; show ((p + 1 : Nat) : Int) = _; omega)
    have F : Hid ((resN (findL (low s) kindsL) 0 : Int) = p ∧ (resE (findL (low s) kindsL) : Int) = 0) := Lib.hid (by rw [ho]; exact ⟨rfl, rfl⟩)
    have hp : p < 3 := findL_lt ho
    have FI := Lib.hid (find_is s kindsL w.heap.size 3 p 0 W0 hs rfl (by omega) kinds_ne kinds_as L0 U0 F)
    clear ho L0 U0 HV hA
    go_enter Tryz.func86, Tryz.ntmps86
    go_wp2_with (go_at_call 90; (try rw [hW0]); refine FI.out.mono ?_; rintro e w1 ⟨rfl, k1⟩)
    go_ret2
    rw [E.out.1, E.out.2]
    exact ⟨rfl, B0.trans (k1.mono B0.size)⟩

set_option maxHeartbeats 1600000 in
theorem month_is (s : List UInt8) (v e0 : Int) (w : World) (hs : s.length ≤ 1000) (hA : LaidW w) (HV : Hid ((resN (findL (low s) monthsL) 1 : Int) = v ∧ (resE (findL (low s) monthsL) : Int) = e0)) :
    Calls Tryz.prog 52 #[.string ⟨s.toArray⟩] w fun e w' => e = .returned (.tuple #[.int .i64 v, .int .i64 e0]) ∧ Below w.heap.size w w' := by
  have c0 := hA.mon.cell 0 _ rfl
  have c1 := hA.mon.cell 1 _ rfl
  have c2 := hA.mon.cell 2 _ rfl
  have c3 := hA.mon.cell 3 _ rfl
  have c4 := hA.mon.cell 4 _ rfl
  have c5 := hA.mon.cell 5 _ rfl
  have c6 := hA.mon.cell 6 _ rfl
  have c7 := hA.mon.cell 7 _ rfl
  have c8 := hA.mon.cell 8 _ rfl
  have c9 := hA.mon.cell 9 _ rfl
  have c10 := hA.mon.cell 10 _ rfl
  have c11 := hA.mon.cell 11 _ rfl
  obtain ⟨W0, hW0⟩ : ∃ W0, w.alloc (.cells #[.string ⟨#[106, 97, 110, 117, 97, 114, 121]⟩, .string ⟨#[102, 101, 98, 114, 117, 97, 114, 121]⟩, .string ⟨#[109, 97, 114, 99, 104]⟩, .string ⟨#[97, 112, 114, 105, 108]⟩, .string ⟨#[109, 97, 121]⟩, .string ⟨#[106, 117, 110, 101]⟩, .string ⟨#[106, 117, 108, 121]⟩, .string ⟨#[97, 117, 103, 117, 115, 116]⟩, .string ⟨#[115, 101, 112, 116, 101, 109, 98, 101, 114]⟩, .string ⟨#[111, 99, 116, 111, 98, 101, 114]⟩, .string ⟨#[110, 111, 118, 101, 109, 98, 101, 114]⟩, .string ⟨#[100, 101, 99, 101, 109, 98, 101, 114]⟩] 106) = W0 := ⟨_, rfl⟩
  have B0 : Below w.heap.size w W0 := by rw [← hW0]; exact (Below.refl _ _).alloc (Nat.le_refl _) _
  have L0 : ListAt w.heap.size monthsL W0 := by rw [← hW0]; exact ListAt.new w monthsL _ _ rfl
  have U0 := hA.u8.next B0
  cases ho : findL (low s) monthsL with
  | none =>
    have E : Hid (v = 0 ∧ e0 = 13) := Lib.hid (by rw [ho] at HV; exact ⟨HV.out.1.symm, HV.out.2.symm⟩)
    have F : Hid ((resN (findL (low s) monthsL) 0 : Int) = 0 ∧ (resE (findL (low s) monthsL) : Int) = 13) := Lib.hid (by rw [ho]; exact ⟨rfl, rfl⟩)
    have FI := Lib.hid (find_is s monthsL w.heap.size 12 0 13 W0 hs rfl (by omega) months_ne months_as L0 U0 F)
    clear ho L0 U0 HV hA
    go_enter Tryz.func52, Tryz.ntmps52
    go_wp2_with (go_at_call 90; (try rw [hW0]); refine FI.out.mono ?_; rintro e w1 ⟨rfl, k1⟩)
    go_ret2
    rw [E.out.1, E.out.2]
    exact ⟨rfl, B0.trans (k1.mono B0.size)⟩
  | some p =>
    have E : Hid (v = 1 + (p : Int) ∧ e0 = 0) := Lib.hid (by
      rw [ho] at HV
      refine ⟨?_, HV.out.2.symm⟩
      rw [← HV.out.1]; show ((p + 1 : Nat) : Int) = _; omega)
    have F : Hid ((resN (findL (low s) monthsL) 0 : Int) = p ∧ (resE (findL (low s) monthsL) : Int) = 0) := Lib.hid (by rw [ho]; exact ⟨rfl, rfl⟩)
    have hp : p < 12 := findL_lt ho
    have FI := Lib.hid (find_is s monthsL w.heap.size 12 p 0 W0 hs rfl (by omega) months_ne months_as L0 U0 F)
    clear ho L0 U0 HV hA
    go_enter Tryz.func52, Tryz.ntmps52
    go_wp2_with (go_at_call 90; (try rw [hW0]); refine FI.out.mono ?_; rintro e w1 ⟨rfl, k1⟩)
    go_ret2
    rw [E.out.1, E.out.2]
    exact ⟨rfl, B0.trans (k1.mono B0.size)⟩

set_option maxHeartbeats 800000 in
theorem week_is (s : List UInt8) (v e0 : Int) (w : World) (hs : s.length ≤ 1000) (hA : LaidX w) (HV : Hid ((resN (findL (low s) weeksL) 0 : Int) = v ∧ (resE (findL (low s) weeksL) : Int) = e0)) :
    Calls Tryz.prog 123 #[.string ⟨s.toArray⟩] w fun e w' => e = .returned (.tuple #[.int .i64 v, .int .i64 e0]) ∧ Below w.heap.size w w' := by
  have c0 := hA.wee.cell 0 _ rfl
  have c1 := hA.wee.cell 1 _ rfl
  have c2 := hA.wee.cell 2 _ rfl
  have c3 := hA.wee.cell 3 _ rfl
  have c4 := hA.wee.cell 4 _ rfl
  have c5 := hA.wee.cell 5 _ rfl
  have c6 := hA.wee.cell 6 _ rfl
  obtain ⟨W0, hW0⟩ : ∃ W0, w.alloc (.cells #[.string ⟨#[115, 117, 110, 100, 97, 121]⟩, .string ⟨#[109, 111, 110, 100, 97, 121]⟩, .string ⟨#[116, 117, 101, 115, 100, 97, 121]⟩, .string ⟨#[119, 101, 100, 110, 101, 115, 100, 97, 121]⟩, .string ⟨#[116, 104, 117, 114, 115, 100, 97, 121]⟩, .string ⟨#[102, 114, 105, 100, 97, 121]⟩, .string ⟨#[115, 97, 116, 117, 114, 100, 97, 121]⟩] 140) = W0 := ⟨_, rfl⟩
  have B0 : Below w.heap.size w W0 := by rw [← hW0]; exact (Below.refl _ _).alloc (Nat.le_refl _) _
  have L0 : ListAt w.heap.size weeksL W0 := by rw [← hW0]; exact ListAt.new w weeksL _ _ rfl
  have U0 := hA.l.u8.next B0
  have FI := Lib.hid (find_is s weeksL w.heap.size 7 v e0 W0 hs rfl (by omega) weeks_ne weeks_as L0 U0 HV)
  clear L0 U0 HV hA
  go_enter Tryz.func123, Tryz.ntmps123
  go_wp2_with (go_at_call 90; (try rw [hW0]); refine FI.out.mono ?_; rintro e w1 ⟨rfl, k1⟩)
  go_ret2
  exact ⟨rfl, B0.trans (k1.mono B0.size)⟩
end Go.Proofs.YtfmehdophoejiaaGreatDoor

namespace Go.Proofs.YtfmehdophoejiaaGreatDoor
open Go.RowKit

/-- Three letters of a word, the first one a capital one. -/
def capL (p : List UInt8) : List UInt8 := match p with | a :: b :: c :: _ => [a - 32, b, c] | _ => []

theorem decode_i (p : List UInt8) (i : Nat) (hi : i < p.length) (h : (p.getD i 0).toNat < 128) : Utf8.decode ⟨p.toArray⟩ i = ((p.getD i 0).toNat, 1) := by
  unfold Utf8.decode
  have e : (⟨p.toArray⟩ : ByteArray).get! i = p.getD i 0 := by
    show p.toArray[i]! = _
    simp [hi]
  simp only [Nat.add_zero, e, if_pos h]
theorem runes_ascii (p : List UInt8) (hp : ascii p) : ∀ (bound i : Nat) (acc : Array Value), p.length ≤ i + bound → Conv.runesFrom ⟨p.toArray⟩ bound i acc = acc ++ ((p.drop i).map fun c => Value.int .i32 (c.toNat : Int)).toArray
  | 0, i, acc, h => by
    rw [List.drop_eq_nil_of_le (by omega)]; simp [Conv.runesFrom]
  | bound + 1, i, acc, h => by
    unfold Conv.runesFrom
    by_cases hi : i < p.length
    · have hc : (p.getD i 0).toNat < 128 := hp _ (by simp [hi])
      rw [wsize, if_pos hi, decode_i p i hi hc]
      show Conv.runesFrom _ bound (i + 1) _ = _
      rw [runes_ascii p hp bound (i + 1) _ (by omega), List.drop_eq_getElem_cons hi, List.map_cons]
      simp [hi]
    · rw [wsize, if_neg hi, List.drop_eq_nil_of_le (by omega)]; simp

theorem encode_ascii (n : Nat) (h : n < 128) : Utf8.encode (n : Int) = ⟨#[UInt8.ofNat n]⟩ := by
  unfold Utf8.encode
  have hv : Utf8.valid (n : Int) = true := by simp [Utf8.valid]; omega
  have e : ((n : Int)).toNat = n := by omega
  simp only [hv, if_pos, e]
  rw [if_pos h]
theorem runesBytes3 (a b c : UInt8) (ha : a.toNat < 128) (hb : b.toNat < 128) (hc : c.toNat < 128) : runesBytes [(a.toNat : Int), (b.toNat : Int), (c.toNat : Int)] = ⟨[a, b, c].toArray⟩ := by
  unfold runesBytes
  simp only [List.foldl_cons, List.foldl_nil, encode_ascii _ ha, encode_ascii _ hb, encode_ascii _ hc, UInt8.ofNat_toNat]
  rfl

/-- What '[]rune(word)' leaves: the runes lie in a new block. -/
structure RunesAt (p : List UInt8) (a b c : UInt8) (cap : Nat) (w W : World) : Prop where
  conv : (convert 9 139 (.string ⟨p.toArray⟩)).run Tryz.prog w = .ok (.slice (some ⟨w.heap.size, 0, none⟩) p.length cap) W
  cap3 : 3 ≤ cap
  bel : Below w.heap.size w W
  c0 : W.cell? ⟨w.heap.size, 0, none⟩ = some (.int .i32 (a.toNat : Int))
  c1 : W.cell? ⟨w.heap.size, 1, none⟩ = some (.int .i32 (b.toNat : Int))
  c2 : W.cell? ⟨w.heap.size, 2, none⟩ = some (.int .i32 (c.toNat : Int))
  fr : W.frozen? ⟨w.heap.size, 0, none⟩ = false
theorem runes_new (a b c : UInt8) (r : List UInt8) (hl : (a :: b :: c :: r).length ≤ 1000) (hp : ascii (a :: b :: c :: r)) (w : World) : ∃ cap W, RunesAt (a :: b :: c :: r) a b c cap w W := by
  have e := runes_ascii _ hp (⟨(a :: b :: c :: r).toArray⟩ : ByteArray).size 0 #[] (by rw [wsize]; omega)
  have hsz : (Conv.runesFrom ⟨(a :: b :: c :: r).toArray⟩ (⟨(a :: b :: c :: r).toArray⟩ : ByteArray).size 0 #[]).size = (a :: b :: c :: r).length := by rw [e]; simp
  have h := run_runes_of_string (P := Tryz.prog) w 9 139 21 ⟨(a :: b :: c :: r).toArray⟩ Tryz.underlying9 Tryz.underlying139 Tryz.underlying21 (by rw [hsz]; omega)
  rw [hsz] at h
  have hc := grownCap_ge w (a :: b :: c :: r).length 0 21
  refine ⟨_, _, h, ?_, ?_, ?_, ?_, ?_, ?_⟩
  · simp only [List.length_cons] at hc ⊢; omega
  · exact (Below.refl w.heap.size w).drew.alloc (by simp) _
  · exact (World.cell?_alloc_mark w.drew _ _ _ 0).trans (by rw [e, Array.getElem?_append_left (by simp)]; simp)
  · exact (World.cell?_alloc_mark w.drew _ _ _ 1).trans (by rw [e, Array.getElem?_append_left (by simp)]; simp)
  · exact (World.cell?_alloc_mark w.drew _ _ _ 2).trans (by rw [e, Array.getElem?_append_left (by simp)]; simp)
  · exact (World.frozen?_alloc_mark w.drew _ _ 0 0 0).trans (by simp)

set_option maxHeartbeats 800000 in
theorem name_is (a b c : UInt8) (r : List UInt8) (w : World) (hl : (a :: b :: c :: r).length ≤ 1000) (hp : ascii (a :: b :: c :: r)) (ha : 97 ≤ a.toNat) :
    Calls Tryz.prog 104 #[.string ⟨(a :: b :: c :: r).toArray⟩] w fun e w' => e = .returned (.string ⟨[a - 32, b, c].toArray⟩) ∧ Below w.heap.size w w' := by
  obtain ⟨cap, W, hR⟩ := runes_new a b c r hl hp w
  have a1 : a.toNat < 128 := hp a (by simp)
  have b1 : b.toNat < 128 := hp b (by simp)
  have c1 : c.toNat < 128 := hp c (by simp)
  have ea : (a - 32).toNat = a.toNat - 32 := by
    rw [UInt8.toNat_sub]; show (256 - 32 + a.toNat) % 256 = _; omega
  have ea2 : ((a - 32).toNat : Int) = (a.toNat : Int) - 32 := by omega
  generalize (a :: b :: c :: r) = p at hR
  obtain ⟨hcv, hcap, hB, d0, d1, d2, df⟩ := hR
  have hsz := wcell_lt d0
  have hback : (convert 139 9 (.slice (some ⟨w.heap.size, 0, none⟩) 3 cap)).run Tryz.prog (W.setCell ⟨w.heap.size, 0, none⟩ (.int .i32 ((a.toNat : Int) - 32))) = .ok (.string ⟨[a - 32, b, c].toArray⟩) (W.setCell ⟨w.heap.size, 0, none⟩ (.int .i32 ((a.toNat : Int) - 32))) := by
    have h := run_convert_runes (P := Tryz.prog) (W.setCell ⟨w.heap.size, 0, none⟩ (.int .i32 ((a.toNat : Int) - 32))) 139 9 21 ⟨w.heap.size, 0, none⟩ 3 cap [((a - 32).toNat : Int), (b.toNat : Int), (c.toNat : Int)] (by simp) Tryz.underlying139 Tryz.underlying21 Tryz.underlying9 (by
      intro j hj
      rcases j with _ | _ | _ | j
      · rw [ea2]
        show World.cell? _ ⟨w.heap.size, 0, none⟩ = _
        rw [World.cell?_setCell_same _ _ _ d0]; rfl
      · show World.cell? _ ⟨w.heap.size, 1, none⟩ = _
        rw [World.cell?_setCell_other _ _ _ _ (by simp), d1]; rfl
      · show World.cell? _ ⟨w.heap.size, 2, none⟩ = _
        rw [World.cell?_setCell_other _ _ _ _ (by simp), d2]; rfl
      · simp at hj; omega)
    rw [show List.take 3 [((a - 32).toNat : Int), (b.toNat : Int), (c.toNat : Int)] = [((a - 32).toNat : Int), (b.toNat : Int), (c.toNat : Int)] from rfl, runesBytes3 _ _ _ (by omega) b1 c1] at h
    exact h
  have HB := Lib.hid hB
  clear hB b1 c1 ea ea2 hp hl
  go_enter Tryz.func104, Tryz.ntmps104
  go_wp2
  go_ret
  exact ⟨rfl, HB.out.setCell (p := ⟨w.heap.size, 0, none⟩) (Nat.le_refl _) _⟩

def nameOk (p : List UInt8) : Bool := match p with | a :: _ :: _ :: _ => decide (97 ≤ a.toNat) && p.all (fun c => decide (c.toNat < 128)) && decide (p.length ≤ 100) | _ => false
theorem name_any (p : List UInt8) (w : World) (h : nameOk p = true) :
    Calls Tryz.prog 104 #[.string ⟨p.toArray⟩] w fun e w' => e = .returned (.string ⟨(capL p).toArray⟩) ∧ Below w.heap.size w w' := by
  match p, h with
  | a :: b :: c :: r, h =>
    simp only [nameOk, Bool.and_eq_true, decide_eq_true_eq] at h
    exact name_is a b c r w (by omega) (fun x hx => by simpa using List.all_eq_true.1 h.1.2 x hx) h.1.1

def mnameL (n : Int) : List UInt8 := if 1 ≤ n ∧ n ≤ 12 then capL (monthsL.getD (n - 1).toNat []) else []
def mnameE (n : Int) : Int := if 1 ≤ n ∧ n ≤ 12 then 0 else 10
def wnameL (n : Int) : List UInt8 := if 0 ≤ n ∧ n ≤ 6 then capL (weeksL.getD n.toNat []) else []
def wnameE (n : Int) : Int := if 0 ≤ n ∧ n ≤ 6 then 0 else 10
theorem months_nm : ∀ p ∈ monthsL, nameOk p = true := List.all_eq_true.1 (by decide)
theorem weeks_nm : ∀ p ∈ weeksL, nameOk p = true := List.all_eq_true.1 (by decide)

theorem mname_is (n : Int) (T : List UInt8) (e0 : Int) (w : World) (hA : LaidW w) (HT : Hid (mnameL n = T ∧ mnameE n = e0)) :
    Calls Tryz.prog 68 #[.int .i64 n] w fun e w' => e = .returned (.tuple #[.string ⟨T.toArray⟩, .int .i64 e0]) ∧ Below w.heap.size w w' := by
  by_cases h1 : 1 ≤ n
  · by_cases h2 : n ≤ 12
    · obtain ⟨k, rfl⟩ : ∃ k : Nat, n = (k : Int) + 1 := ⟨(n - 1).toNat, by omega⟩
      have hk : k < 12 := by omega
      obtain ⟨p, hp⟩ : ∃ p, monthsL[k]? = some p := ⟨_, List.getElem?_eq_getElem (show k < monthsL.length from hk)⟩
      have hc := hA.mon.cell k p hp
      have hpl := wcell_lt hc
      have E : Hid (capL p = T ∧ e0 = 0) := Lib.hid (by
        have := HT.out
        rw [mnameL, mnameE, if_pos ⟨h1, h2⟩, if_pos ⟨h1, h2⟩, show ((k : Int) + 1 - 1).toNat = k by omega, List.getD_eq_getElem?_getD, hp] at this
        exact ⟨this.1, this.2.symm⟩)
      have NM := Lib.hid (fun W => name_any p W (months_nm p (List.mem_of_getElem? hp)))
      clear hp hA HT
      go_enter Tryz.func68, Tryz.ntmps68
      go_wp2_with (go_at_call 104; refine (NM.out _).mono ?_; rintro e w1 ⟨rfl, k1⟩)
      go_ret2
      rw [E.out.1, E.out.2]
      exact ⟨rfl, k1⟩
    · have E : Hid (T = [] ∧ e0 = 10) := Lib.hid (by
        have := HT.out
        rw [mnameL, mnameE, if_neg (by omega), if_neg (by omega)] at this
        exact ⟨this.1.symm, this.2.symm⟩)
      go_enter Tryz.func68, Tryz.ntmps68
      go_wp2
      go_ret2
      rw [E.out.1, E.out.2]
      exact ⟨rfl, Below.refl _ _⟩
  · have E : Hid (T = [] ∧ e0 = 10) := Lib.hid (by
      have := HT.out
      rw [mnameL, mnameE, if_neg (by omega), if_neg (by omega)] at this
      exact ⟨this.1.symm, this.2.symm⟩)
    go_enter Tryz.func68, Tryz.ntmps68
    go_wp2
    go_ret2
    rw [E.out.1, E.out.2]
    exact ⟨rfl, Below.refl _ _⟩
theorem wname_is (n : Int) (T : List UInt8) (e0 : Int) (w : World) (hA : LaidX w) (HT : Hid (wnameL n = T ∧ wnameE n = e0)) :
    Calls Tryz.prog 106 #[.int .i64 n] w fun e w' => e = .returned (.tuple #[.string ⟨T.toArray⟩, .int .i64 e0]) ∧ Below w.heap.size w w' := by
  by_cases h1 : 0 ≤ n
  · by_cases h2 : n < 7
    · obtain ⟨k, rfl⟩ : ∃ k : Nat, n = (k : Int) := ⟨n.toNat, by omega⟩
      have hk : k < 7 := by omega
      obtain ⟨p, hp⟩ : ∃ p, weeksL[k]? = some p := ⟨_, List.getElem?_eq_getElem (show k < weeksL.length from hk)⟩
      have hc := hA.wee.cell k p hp
      have hpl := wcell_lt hc
      have E : Hid (capL p = T ∧ e0 = 0) := Lib.hid (by
        have := HT.out
        rw [wnameL, wnameE, if_pos (by omega), if_pos (by omega), show ((k : Int)).toNat = k by omega, List.getD_eq_getElem?_getD, hp] at this
        exact ⟨this.1, this.2.symm⟩)
      have NM := Lib.hid (fun W => name_any p W (weeks_nm p (List.mem_of_getElem? hp)))
      have h7 : ¬ 7 ≤ (k : Int) := by omega
      clear hp hA HT h1
      go_enter Tryz.func106, Tryz.ntmps106
      go_wp2_with (go_at_call 104; refine (NM.out _).mono ?_; rintro e w1 ⟨rfl, k1⟩)
      go_ret2
      rw [E.out.1, E.out.2]
      exact ⟨rfl, k1⟩
    · have E : Hid (T = [] ∧ e0 = 10) := Lib.hid (by
        have := HT.out
        rw [wnameL, wnameE, if_neg (by omega), if_neg (by omega)] at this
        exact ⟨this.1.symm, this.2.symm⟩)
      go_enter Tryz.func106, Tryz.ntmps106
      go_wp2
      go_ret2
      rw [E.out.1, E.out.2]
      exact ⟨rfl, Below.refl _ _⟩
  · have E : Hid (T = [] ∧ e0 = 10) := Lib.hid (by
      have := HT.out
      rw [wnameL, wnameE, if_neg (by omega), if_neg (by omega)] at this
      exact ⟨this.1.symm, this.2.symm⟩)
    go_enter Tryz.func106, Tryz.ntmps106
    go_wp2
    go_ret2
    rw [E.out.1, E.out.2]
    exact ⟨rfl, Below.refl _ _⟩

theorem wthree_bytes (W : World) (g : Nat) (x y z : UInt8) (h0 : W.cell? ⟨g, 0, none⟩ = some (.int .u8 (x.toNat : Int))) (h1 : W.cell? ⟨g, 1, none⟩ = some (.int .u8 (y.toNat : Int))) (h2 : W.cell? ⟨g, 2, none⟩ = some (.int .u8 (z.toNat : Int))) :
    (convert 116 9 (.slice (some ⟨g, 0, none⟩) 3 3)).run Tryz.prog W = .ok (.string ⟨[x, y, z].toArray⟩) W :=
  run_convert_bytes_back _ _ _ 5 ⟨g, 0, none⟩ 3 [x, y, z] Tryz.underlying116 Tryz.underlying5 Tryz.underlying9 (fun j hj => by
    rcases j with _ | _ | _ | j
    · simpa [Addr.add] using h0
    · simpa [Addr.add] using h1
    · simpa [Addr.add] using h2
    · simp at hj; omega)

set_option maxHeartbeats 800000 in
theorem rname_any (p : List UInt8) (w : World) (h : nameOk p = true) :
    Calls Tryz.prog 112 #[.string ⟨p.toArray⟩] w fun e w' => e = .returned (.string ⟨(capL p).toArray⟩) ∧ Below w.heap.size w w' := by
  match p, h with
  | a :: b :: c :: r, h =>
    simp only [nameOk, Bool.and_eq_true, decide_eq_true_eq] at h
    obtain ⟨⟨h1, h2⟩, h3⟩ := h
    have a1 : a.toNat < 128 := by simpa using List.all_eq_true.1 h2 a (by simp)
    show Calls Tryz.prog 112 _ w fun e w' => e = .returned (.string ⟨[a - 32, b, c].toArray⟩) ∧ Below w.heap.size w w'
    have i0 : ∀ W : World, (Instr.index 9 (.string ⟨(a :: b :: c :: r).toArray⟩) (.int .i64 0)).run Tryz.prog W = .ok (.int .u8 (a.toNat : Int)) W := wbyte_at (a :: b :: c :: r) 0 (by simp) a rfl
    have i1 : ∀ W : World, (Instr.index 9 (.string ⟨(a :: b :: c :: r).toArray⟩) (.int .i64 1)).run Tryz.prog W = .ok (.int .u8 (b.toNat : Int)) W := wbyte_at (a :: b :: c :: r) 1 (by simp) b rfl
    have i2 : ∀ W : World, (Instr.index 9 (.string ⟨(a :: b :: c :: r).toArray⟩) (.int .i64 2)).run Tryz.prog W = .ok (.int .u8 (c.toNat : Int)) W := wbyte_at (a :: b :: c :: r) 2 (by simp) c rfl
    have ea : ((a - 32).toNat : Int) = (a.toNat : Int) - 97 + 65 := by
      rw [UInt8.toNat_sub]; show (((256 - 32 + a.toNat) % 256 : Nat) : Int) = _; omega
    have hcv := wthree_bytes (w.alloc (.cells #[.int .u8 ((a - 32).toNat : Int), .int .u8 (b.toNat : Int), .int .u8 (c.toNat : Int)] 5)).drew w.heap.size (a - 32) b c (by simp) (by simp) (by simp)
    rw [ea] at hcv
    generalize (a :: b :: c :: r) = p at i0 i1 i2
    clear h2 h3 ea
    go_enter Tryz.func112, Tryz.ntmps112
    go_wp2
    go_region
    go_wp2
    go_ret
    exact ⟨rfl, ((Below.refl _ _).alloc (Nat.le_refl _) _).drew⟩
end Go.Proofs.YtfmehdophoejiaaGreatDoor

namespace Go.Proofs.YtfmehdophoejiaaGreatDoor
open Go.RowKit

/-- What number answers. -/
def numZ (s : List UInt8) : Int := (numR s).getD 0
def numB (s : List UInt8) : Bool := (numR s).isSome

theorem atoi_ok (s : List UInt8) (v : Int) (w : World) (hs : s.length ≤ 1000) (h : Hid (Lib.atoiAll s = .ok v)) :
    Calls Tryz.prog 139 #[.string ⟨s.toArray⟩] w fun e w' => e = .returned (.tuple #[.int .i64 v, .nilIface]) ∧ Below w.heap.size w w' :=
  (Tryz.strconv_Atoi_ok ⟨s.toArray⟩ (by rw [wsize]; omega) v h.out w).mono fun e w' ⟨h1, h2⟩ => ⟨h1, by
    rcases h2 with rfl | ⟨t, rfl⟩
    · exact Below.refl _ _
    · exact Lib.bytesWorld_below w _ t⟩
/-- Atoi tells an error. -/
def AtoiBad (w : World) (e : Ending) (w' : World) : Prop := ∃ (v : Int) (N : Nat), e = .returned (.tuple #[.int .i64 v, .iface 192 (.pointer (some ⟨N, 0, none⟩))]) ∧ Below w.heap.size w w'
theorem atoi_bad (s : List UInt8) (w : World) (hs : s.length ≤ 1000) (hA : LaidW w) (h : Hid (∀ v, Lib.atoiAll s ≠ .ok v)) :
    Calls Tryz.prog 139 #[.string ⟨s.toArray⟩] w (AtoiBad w) := by
  rcases hc : Lib.atoiAll s with v | _ | _
  · exact absurd hc (h.out v)
  · obtain ⟨ev, h1, h2⟩ := hA.syn
    exact (Any.strconv_Atoi_syntax Tryz.laysC172 ⟨s.toArray⟩ (by rw [wsize]; omega) hc ev w h1 h2).mono fun e w' ⟨N, a, _, _, b⟩ => ⟨_, N, a, b⟩
  · obtain ⟨ev, h1, h2⟩ := hA.ran
    exact (Tryz.strconv_Atoi_range ⟨s.toArray⟩ (by rw [wsize]; omega) hc ev w h1 h2).mono fun e w' ⟨N, a, _, _, b⟩ => ⟨_, N, a, b⟩
theorem witoa_is (n : Int) (D : List UInt8) (w : World) (h0 : -9223372036854775808 ≤ n) (h1 : n ≤ 9223372036854775807) (ht : PowW w) (hD : Hid (Lib.itoa n = D)) :
    Calls Tryz.prog 72 #[.int .i64 n] w fun e w' => e = .returned (.string ⟨D.toArray⟩) ∧ Below w.heap.size w w' := by
  have := Tryz.strconv_Itoa n h0 h1 w ht
  rw [hD.out] at this
  exact this.mono fun e w' ⟨a, k, os, b⟩ => ⟨a, by
    rw [b]
    exact ⟨rfl, rfl, rfl, by show w.heap.size ≤ (w.heap ++ os).size; rw [Array.size_append]; omega, fun j hj => by
      show (w.heap ++ os)[j]? = _
      rw [Array.getElem?_append_left hj]⟩⟩

set_option maxHeartbeats 1600000 in
theorem number_is (s : List UInt8) (v : Int) (z : Bool) (w : World) (hs : s.length ≤ 1000) (hA : LaidW w) (HV : Hid (numZ s = v ∧ numB s = z)) :
    Calls Tryz.prog 120 #[.string ⟨s.toArray⟩] w fun e w' => e = .returned (.tuple #[.int .i64 v, .bool z]) ∧ Below w.heap.size w w' := by
  have HA := Lib.hid hA
  have HS := Lib.hid hs
  clear hA hs
  by_cases hbad : ∀ n, Lib.atoiAll s ≠ .ok n
  · have E : Hid (v = 0 ∧ z = false) := Lib.hid (by
      have hn : numR s = none := by
        cases h : numR s with
        | none => rfl
        | some n =>
          obtain ⟨h1, h2, h3⟩ := numR_some h
          exact absurd (h1 ▸ atoi_itoa h2 h3) (hbad n)
      have := HV.out
      unfold numZ numB at this
      rw [hn] at this
      exact ⟨this.1.symm, this.2.symm⟩)
    have HB := Lib.hid hbad
    clear hbad
    go_enter Tryz.func120, Tryz.ntmps120
    go_wp2_with (first
      | (go_at_call 139; refine (atoi_bad s _ HS.out HA.out HB).mono ?_; rintro e w1 ⟨q, N, rfl, k1⟩))
    go_ret2
    rw [E.out.1, E.out.2]
    exact ⟨rfl, k1⟩
  · obtain ⟨n, hn⟩ : ∃ n, Lib.atoiAll s = .ok n := by
      refine Classical.byContradiction fun h => hbad fun n hn => h ⟨n, hn⟩
    have hb := Lib.atoiAll_bounds hn
    obtain ⟨hb1, hb2⟩ := hb
    have HN := Lib.hid hn
    clear hbad hn
    obtain ⟨D, hD⟩ : ∃ D, Lib.itoa n = D := ⟨_, rfl⟩
    have HD := Lib.hid hD
    clear hD
    by_cases hds : D = s
    · by_cases hr : -1000000000 < n ∧ n < 1000000000
      · have E : Hid (v = n ∧ z = true) := Lib.hid (by
          have hn : numR s = some n := by rw [← hds, ← HD.out]; exact numR_itoa hr.1 hr.2
          have := HV.out
          unfold numZ numB at this
          rw [hn] at this
          exact ⟨this.1.symm, this.2.symm⟩)
        obtain ⟨r1, r2⟩ := hr
        have r1' : ¬ n ≤ -1000000000 := by omega
        have r2' : ¬ 1000000000 ≤ n := by omega
        subst hds
        clear r1 r2
        go_enter Tryz.func120, Tryz.ntmps120
        go_wp2_with (first
          | (go_at_call 139; refine (atoi_ok D n _ HS.out HN).mono ?_; rintro e w1 ⟨rfl, k1⟩
             have HA1 := Lib.hid (HA.out.next k1)
             have K1 := Lib.hid k1
             clear k1)
          | (go_at_call 72; refine (witoa_is n D _ hb1 hb2 HA1.out.pow HD).mono ?_; rintro e w2 ⟨rfl, k2⟩))
        go_ret2
        rw [E.out.1, E.out.2]
        exact ⟨rfl, K1.out.trans (k2.mono K1.out.size)⟩
      · have E : Hid (v = 0 ∧ z = false) := Lib.hid (by
          have hn : numR s = none := by
            cases h : numR s with
            | none => rfl
            | some m =>
              obtain ⟨h1, h2, h3⟩ := numR_some h
              have h4 := HN.out
              rw [← h1, atoi_itoa h2 h3] at h4
              injection h4 with h4
              omega
          have := HV.out
          unfold numZ numB at this
          rw [hn] at this
          exact ⟨this.1.symm, this.2.symm⟩)
        subst hds
        by_cases r1 : n ≤ -1000000000
        · clear hr
          go_enter Tryz.func120, Tryz.ntmps120
          go_wp2_with (first
            | (go_at_call 139; refine (atoi_ok D n _ HS.out HN).mono ?_; rintro e w1 ⟨rfl, k1⟩
               have HA1 := Lib.hid (HA.out.next k1)
               have K1 := Lib.hid k1
               clear k1)
            | (go_at_call 72; refine (witoa_is n D _ hb1 hb2 HA1.out.pow HD).mono ?_; rintro e w2 ⟨rfl, k2⟩))
          go_ret2
          rw [E.out.1, E.out.2]
          exact ⟨rfl, K1.out.trans (k2.mono K1.out.size)⟩
        · have r2 : 1000000000 ≤ n := by omega
          clear hr
          go_enter Tryz.func120, Tryz.ntmps120
          go_wp2_with (first
            | (go_at_call 139; refine (atoi_ok D n _ HS.out HN).mono ?_; rintro e w1 ⟨rfl, k1⟩
               have HA1 := Lib.hid (HA.out.next k1)
               have K1 := Lib.hid k1
               clear k1)
            | (go_at_call 72; refine (witoa_is n D _ hb1 hb2 HA1.out.pow HD).mono ?_; rintro e w2 ⟨rfl, k2⟩))
          go_ret2
          rw [E.out.1, E.out.2]
          exact ⟨rfl, K1.out.trans (k2.mono K1.out.size)⟩
    · have E : Hid (v = 0 ∧ z = false) := Lib.hid (by
        have hn : numR s = none := by
          cases h : numR s with
          | none => rfl
          | some m =>
            obtain ⟨h1, h2, h3⟩ := numR_some h
            have h4 := HN.out
            rw [← h1, atoi_itoa h2 h3] at h4
            injection h4 with h4
            exact absurd (by rw [← HD.out, ← h4]; exact h1) hds
        have := HV.out
        unfold numZ numB at this
        rw [hn] at this
        exact ⟨this.1.symm, this.2.symm⟩)
      have hds' : (D == s) = false := by simp [hds]
      clear hds
      go_enter Tryz.func120, Tryz.ntmps120
      go_wp2_with (first
        | (go_at_call 139; refine (atoi_ok s n _ HS.out HN).mono ?_; rintro e w1 ⟨rfl, k1⟩
           have HA1 := Lib.hid (HA.out.next k1)
           have K1 := Lib.hid k1
           clear k1)
        | (go_at_call 72; refine (witoa_is n D _ hb1 hb2 HA1.out.pow HD).mono ?_; rintro e w2 ⟨rfl, k2⟩))
      go_ret2
      rw [E.out.1, E.out.2]
      exact ⟨rfl, K1.out.trans (k2.mono K1.out.size)⟩
end Go.Proofs.YtfmehdophoejiaaGreatDoor

namespace Go.Proofs.YtfmehdophoejiaaGreatDoor
open Go.RowKit

theorem wtail_run (b : UInt8) (t : List UInt8) (W : World) : (Instr.slice 9 (.string ⟨(b :: t).toArray⟩) (some (.int .i64 1)) none none).run Tryz.prog W = .ok (.string ⟨t.toArray⟩) W := by
  rw [run_slice_string_from_if (h := Tryz.underlying9), if_pos ⟨by omega, by rw [wsize]; simp; omega⟩]
  congr 2
  simp [ByteArray.extract_mk, ByteArray.size]
theorem bad_at {t : List UInt8} {i : Nat} {c : UInt8} (hi : i < t.length) (hc : t.getD i 0 = c) (h : isDg c = false) : allDg t = false := by
  rw [← Bool.not_eq_true]
  intro ha
  have := List.all_eq_true.1 ha c (by rw [← hc]; simp [hi])
  rw [h] at this; cases this
theorem valD_bd9 {t : List UInt8} {i : Nat} (h : allDg (t.take i) = true) (hl : t.length ≤ 9) : valD 0 (t.take i) < 1000000000 := by
  have := valD_lt (t.take i) 0 h
  have h5 : 10 ^ (t.take i).length ≤ 10 ^ 9 := Nat.pow_le_pow_right (by omega) (by rw [List.length_take]; omega)
  omega

set_option maxHeartbeats 1600000 in
theorem rnum_p1 (t : List UInt8) (v : Int) (z : Bool) (w : World) (b : UInt8) (hb : t.getD 0 0 = b) (hb2 : b.toNat ≠ 45) (hl9 : t.length ≤ 9) (hl : t.length = 1) (EB : Hid (allDg t = false → v = 0 ∧ z = false)) (EG : Hid (allDg t = true → v = (valD 0 t : Int) ∧ z = true)) :
    Calls Tryz.prog 98 #[.string ⟨(t).toArray⟩] w fun e w' => e = .returned (.tuple #[.int .i64 v, .bool z]) ∧ w = w' := by
  have hz := wsize t
  have h45 : ∀ W : World, (Instr.index 9 (.string ⟨t.toArray⟩) (.int .i64 0)).run Tryz.prog W = .ok (.int .u8 (b.toNat : Int)) W := wbyte_at t 0 (by omega) b hb
  have hb' : ((b.toNat : Int) == 45) = false := by simp; omega
  clear hb hb2
  have g0 : 0 < t.length := by omega
  have g1 : ¬ 1 < t.length := by omega
  clear hl
  go_enter Tryz.func98, Tryz.ntmps98
  go_wp2
  go_loopw [5, 6] (fun vn vi w' => ∃ i : Nat, vi = .int .i64 i ∧ i ≤ t.length ∧ allDg (t.take i) = true ∧ vn = .int .i64 (valD 0 (t.take i)) ∧ w = w') (fun _ vi _ => t.length - (intOf vi).toNat)
  case atStart => exact ⟨0, rfl, by omega, rfl, rfl, rfl⟩
  case round =>
    obtain ⟨i, rfl, i1, i2, rfl, rfl⟩ := hrel
    by_cases hi : i < t.length
    · obtain ⟨c, hc⟩ : ∃ c, t.getD i 0 = c := ⟨_, rfl⟩
      have hix := wbyte_at t i hi c hc
      have TN := Lib.hid (take_snoc hi hc)
      have HC : Hid (isDg c = false → allDg t = false) := Lib.hid (bad_at hi hc)
      have clt := c.toNat_lt
      have nb := valD_bd9 (i := i) i2 hl9
      obtain ⟨m, hm⟩ : ∃ m, valD 0 (t.take i) = m := ⟨_, rfl⟩
      rw [hm] at nb
      have HM := Lib.hid hm
      have I2 := Lib.hid i2
      have hi' : (i : Int) < (t.length : Int) := by omega
      rw [hm]
      clear hc i2 hm
      by_cases d1 : c.toNat < 48
      · have d1' : (c.toNat : Int) < 48 := by omega
        have E := Lib.hid (EB.out (HC.out (by unfold isDg; simp; omega)))
        go_wp2
        go_ret2
        rw [E.out.1, E.out.2]
        exact ⟨rfl, rfl⟩
      · by_cases d2 : 57 < c.toNat
        · have d1' : ¬ (c.toNat : Int) < 48 := by omega
          have d2' : 57 < (c.toNat : Int) := by omega
          have E := Lib.hid (EB.out (HC.out (by unfold isDg; simp; omega)))
          go_wp2
          go_ret2
          rw [E.out.1, E.out.2]
          exact ⟨rfl, rfl⟩
        · have d1' : ¬ (c.toNat : Int) < 48 := by omega
          have d2' : ¬ 57 < (c.toNat : Int) := by omega
          have V : Hid (valD 0 (t.take (i + 1)) = 10 * m + (c.toNat - 48) ∧ allDg (t.take (i + 1)) = true) := Lib.hid (by
            rw [TN.out, valD_snoc, HM.out, allDg_snoc, I2.out]
            exact ⟨rfl, by unfold isDg; simp; omega⟩)
          go_wp2
          go_roundw
          case rel =>
            refine ⟨i + 1, by go_num, by omega, V.out.2, ?_, by first | rfl | trivial⟩
            rw [V.out.1]
            congr 1; omega
          case measure => simp [intOf]; omega
    · obtain rfl : i = t.length := by omega
      have nb := valD_bd9 (i := t.length) i2 hl9
      rw [List.take_length] at i2 nb ⊢
      have E := Lib.hid (EG.out i2)
      obtain ⟨m, hm⟩ : ∃ m, valD 0 t = m := ⟨_, rfl⟩
      rw [hm] at nb E ⊢
      have hi' : ¬ ((t.length : Nat) : Int) < (t.length : Int) := by omega
      clear i2 hm
      go_wp2
      go_ret2
      rw [E.out.1, E.out.2]
      exact ⟨rfl, by first | rfl | trivial⟩

set_option maxHeartbeats 1600000 in
theorem rnum_pn (t : List UInt8) (v : Int) (z : Bool) (w : World) (b : UInt8) (hb : t.getD 0 0 = b) (hb2 : b.toNat ≠ 45) (hl9 : t.length ≤ 9) (hl : 1 < t.length) (a : UInt8) (ha : t.getD 0 0 = a) (ha2 : a.toNat ≠ 48) (EB : Hid (allDg t = false → v = 0 ∧ z = false)) (EG : Hid (allDg t = true → v = (valD 0 t : Int) ∧ z = true)) :
    Calls Tryz.prog 98 #[.string ⟨(t).toArray⟩] w fun e w' => e = .returned (.tuple #[.int .i64 v, .bool z]) ∧ w = w' := by
  have hz := wsize t
  have h45 : ∀ W : World, (Instr.index 9 (.string ⟨t.toArray⟩) (.int .i64 0)).run Tryz.prog W = .ok (.int .u8 (b.toNat : Int)) W := wbyte_at t 0 (by omega) b hb
  have hb' : ((b.toNat : Int) == 45) = false := by simp; omega
  have hb0 := hb
  clear hb hb2
  obtain rfl : b = a := by rw [← ha]; exact hb0.symm
  have ha' : ((b.toNat : Int) == 48) = false := by simp; omega
  clear hb0 ha ha2
  have g0 : 0 < t.length := by omega
  go_enter Tryz.func98, Tryz.ntmps98
  go_wp2
  go_loopw [5, 6] (fun vn vi w' => ∃ i : Nat, vi = .int .i64 i ∧ i ≤ t.length ∧ allDg (t.take i) = true ∧ vn = .int .i64 (valD 0 (t.take i)) ∧ w = w') (fun _ vi _ => t.length - (intOf vi).toNat)
  case atStart => exact ⟨0, rfl, by omega, rfl, rfl, rfl⟩
  case round =>
    obtain ⟨i, rfl, i1, i2, rfl, rfl⟩ := hrel
    by_cases hi : i < t.length
    · obtain ⟨c, hc⟩ : ∃ c, t.getD i 0 = c := ⟨_, rfl⟩
      have hix := wbyte_at t i hi c hc
      have TN := Lib.hid (take_snoc hi hc)
      have HC : Hid (isDg c = false → allDg t = false) := Lib.hid (bad_at hi hc)
      have clt := c.toNat_lt
      have nb := valD_bd9 (i := i) i2 hl9
      obtain ⟨m, hm⟩ : ∃ m, valD 0 (t.take i) = m := ⟨_, rfl⟩
      rw [hm] at nb
      have HM := Lib.hid hm
      have I2 := Lib.hid i2
      have hi' : (i : Int) < (t.length : Int) := by omega
      rw [hm]
      clear hc i2 hm
      by_cases d1 : c.toNat < 48
      · have d1' : (c.toNat : Int) < 48 := by omega
        have E := Lib.hid (EB.out (HC.out (by unfold isDg; simp; omega)))
        go_wp2
        go_ret2
        rw [E.out.1, E.out.2]
        exact ⟨rfl, rfl⟩
      · by_cases d2 : 57 < c.toNat
        · have d1' : ¬ (c.toNat : Int) < 48 := by omega
          have d2' : 57 < (c.toNat : Int) := by omega
          have E := Lib.hid (EB.out (HC.out (by unfold isDg; simp; omega)))
          go_wp2
          go_ret2
          rw [E.out.1, E.out.2]
          exact ⟨rfl, rfl⟩
        · have d1' : ¬ (c.toNat : Int) < 48 := by omega
          have d2' : ¬ 57 < (c.toNat : Int) := by omega
          have V : Hid (valD 0 (t.take (i + 1)) = 10 * m + (c.toNat - 48) ∧ allDg (t.take (i + 1)) = true) := Lib.hid (by
            rw [TN.out, valD_snoc, HM.out, allDg_snoc, I2.out]
            exact ⟨rfl, by unfold isDg; simp; omega⟩)
          go_wp2
          go_roundw
          case rel =>
            refine ⟨i + 1, by go_num, by omega, V.out.2, ?_, by first | rfl | trivial⟩
            rw [V.out.1]
            congr 1; omega
          case measure => simp [intOf]; omega
    · obtain rfl : i = t.length := by omega
      have nb := valD_bd9 (i := t.length) i2 hl9
      rw [List.take_length] at i2 nb ⊢
      have E := Lib.hid (EG.out i2)
      obtain ⟨m, hm⟩ : ∃ m, valD 0 t = m := ⟨_, rfl⟩
      rw [hm] at nb E ⊢
      have hi' : ¬ ((t.length : Nat) : Int) < (t.length : Int) := by omega
      clear i2 hm
      go_wp2
      go_ret2
      rw [E.out.1, E.out.2]
      exact ⟨rfl, by first | rfl | trivial⟩

set_option maxHeartbeats 1600000 in
theorem rnum_m1 (t : List UInt8) (v : Int) (z : Bool) (w : World) (hne : t ≠ [48]) (hl9 : t.length ≤ 9) (hl : t.length = 1) (EB : Hid (allDg t = false → v = 0 ∧ z = false)) (EG : Hid (allDg t = true → v = -(valD 0 t : Int) ∧ z = true)) :
    Calls Tryz.prog 98 #[.string ⟨(45 :: t).toArray⟩] w fun e w' => e = .returned (.tuple #[.int .i64 v, .bool z]) ∧ w = w' := by
  have hz := wsize t
  have hzs := wsize (45 :: t)
  have h45 : ∀ W : World, (Instr.index 9 (.string ⟨(45 :: t).toArray⟩) (.int .i64 0)).run Tryz.prog W = .ok (.int .u8 45) W := wbyte_at (45 :: t) 0 (by simp) 45 rfl
  have htl : ∀ W : World, (Instr.slice 9 (.string ⟨(45 :: t).toArray⟩) (some (.int .i64 1)) none none).run Tryz.prog W = .ok (.string ⟨t.toArray⟩) W := wtail_run 45 t
  have hne' : (t == [48]) = false := by simp [hne]
  obtain ⟨sl, hsl⟩ : ∃ sl : Nat, (45 :: t).length = sl := ⟨_, rfl⟩
  rw [hsl] at hzs
  have hs0 : 0 < sl := by rw [← hsl]; simp
  clear hne hsl
  generalize (45 :: t) = S at hzs h45 htl
  have g0 : 0 < t.length := by omega
  have g1 : ¬ 1 < t.length := by omega
  clear hl
  go_enter Tryz.func98, Tryz.ntmps98
  go_wp2
  go_loopw [5, 6] (fun vn vi w' => ∃ i : Nat, vi = .int .i64 i ∧ i ≤ t.length ∧ allDg (t.take i) = true ∧ vn = .int .i64 (valD 0 (t.take i)) ∧ w = w') (fun _ vi _ => t.length - (intOf vi).toNat)
  case atStart => exact ⟨0, rfl, by omega, rfl, rfl, rfl⟩
  case round =>
    obtain ⟨i, rfl, i1, i2, rfl, rfl⟩ := hrel
    by_cases hi : i < t.length
    · obtain ⟨c, hc⟩ : ∃ c, t.getD i 0 = c := ⟨_, rfl⟩
      have hix := wbyte_at t i hi c hc
      have TN := Lib.hid (take_snoc hi hc)
      have HC : Hid (isDg c = false → allDg t = false) := Lib.hid (bad_at hi hc)
      have clt := c.toNat_lt
      have nb := valD_bd9 (i := i) i2 hl9
      obtain ⟨m, hm⟩ : ∃ m, valD 0 (t.take i) = m := ⟨_, rfl⟩
      rw [hm] at nb
      have HM := Lib.hid hm
      have I2 := Lib.hid i2
      have hi' : (i : Int) < (t.length : Int) := by omega
      rw [hm]
      clear hc i2 hm
      by_cases d1 : c.toNat < 48
      · have d1' : (c.toNat : Int) < 48 := by omega
        have E := Lib.hid (EB.out (HC.out (by unfold isDg; simp; omega)))
        go_wp2
        go_ret2
        rw [E.out.1, E.out.2]
        exact ⟨rfl, rfl⟩
      · by_cases d2 : 57 < c.toNat
        · have d1' : ¬ (c.toNat : Int) < 48 := by omega
          have d2' : 57 < (c.toNat : Int) := by omega
          have E := Lib.hid (EB.out (HC.out (by unfold isDg; simp; omega)))
          go_wp2
          go_ret2
          rw [E.out.1, E.out.2]
          exact ⟨rfl, rfl⟩
        · have d1' : ¬ (c.toNat : Int) < 48 := by omega
          have d2' : ¬ 57 < (c.toNat : Int) := by omega
          have V : Hid (valD 0 (t.take (i + 1)) = 10 * m + (c.toNat - 48) ∧ allDg (t.take (i + 1)) = true) := Lib.hid (by
            rw [TN.out, valD_snoc, HM.out, allDg_snoc, I2.out]
            exact ⟨rfl, by unfold isDg; simp; omega⟩)
          go_wp2
          go_roundw
          case rel =>
            refine ⟨i + 1, by go_num, by omega, V.out.2, ?_, by first | rfl | trivial⟩
            rw [V.out.1]
            congr 1; omega
          case measure => simp [intOf]; omega
    · obtain rfl : i = t.length := by omega
      have nb := valD_bd9 (i := t.length) i2 hl9
      rw [List.take_length] at i2 nb ⊢
      have E := Lib.hid (EG.out i2)
      obtain ⟨m, hm⟩ : ∃ m, valD 0 t = m := ⟨_, rfl⟩
      rw [hm] at nb E ⊢
      have hi' : ¬ ((t.length : Nat) : Int) < (t.length : Int) := by omega
      clear i2 hm
      go_wp2
      go_ret2
      rw [E.out.1, E.out.2]
      exact ⟨rfl, by first | rfl | trivial⟩

set_option maxHeartbeats 1600000 in
theorem rnum_mn (t : List UInt8) (v : Int) (z : Bool) (w : World) (hne : t ≠ [48]) (hl9 : t.length ≤ 9) (hl : 1 < t.length) (a : UInt8) (ha : t.getD 0 0 = a) (ha2 : a.toNat ≠ 48) (EB : Hid (allDg t = false → v = 0 ∧ z = false)) (EG : Hid (allDg t = true → v = -(valD 0 t : Int) ∧ z = true)) :
    Calls Tryz.prog 98 #[.string ⟨(45 :: t).toArray⟩] w fun e w' => e = .returned (.tuple #[.int .i64 v, .bool z]) ∧ w = w' := by
  have hz := wsize t
  have hzs := wsize (45 :: t)
  have h45 : ∀ W : World, (Instr.index 9 (.string ⟨(45 :: t).toArray⟩) (.int .i64 0)).run Tryz.prog W = .ok (.int .u8 45) W := wbyte_at (45 :: t) 0 (by simp) 45 rfl
  have htl : ∀ W : World, (Instr.slice 9 (.string ⟨(45 :: t).toArray⟩) (some (.int .i64 1)) none none).run Tryz.prog W = .ok (.string ⟨t.toArray⟩) W := wtail_run 45 t
  have hne' : (t == [48]) = false := by simp [hne]
  obtain ⟨sl, hsl⟩ : ∃ sl : Nat, (45 :: t).length = sl := ⟨_, rfl⟩
  rw [hsl] at hzs
  have hs0 : 0 < sl := by rw [← hsl]; simp
  clear hne hsl
  generalize (45 :: t) = S at hzs h45 htl
  have h48 : ∀ W : World, (Instr.index 9 (.string ⟨t.toArray⟩) (.int .i64 0)).run Tryz.prog W = .ok (.int .u8 (a.toNat : Int)) W := wbyte_at t 0 (by omega) a ha
  have ha' : ((a.toNat : Int) == 48) = false := by simp; omega
  clear ha ha2
  have g0 : 0 < t.length := by omega
  go_enter Tryz.func98, Tryz.ntmps98
  go_wp2
  go_loopw [5, 6] (fun vn vi w' => ∃ i : Nat, vi = .int .i64 i ∧ i ≤ t.length ∧ allDg (t.take i) = true ∧ vn = .int .i64 (valD 0 (t.take i)) ∧ w = w') (fun _ vi _ => t.length - (intOf vi).toNat)
  case atStart => exact ⟨0, rfl, by omega, rfl, rfl, rfl⟩
  case round =>
    obtain ⟨i, rfl, i1, i2, rfl, rfl⟩ := hrel
    by_cases hi : i < t.length
    · obtain ⟨c, hc⟩ : ∃ c, t.getD i 0 = c := ⟨_, rfl⟩
      have hix := wbyte_at t i hi c hc
      have TN := Lib.hid (take_snoc hi hc)
      have HC : Hid (isDg c = false → allDg t = false) := Lib.hid (bad_at hi hc)
      have clt := c.toNat_lt
      have nb := valD_bd9 (i := i) i2 hl9
      obtain ⟨m, hm⟩ : ∃ m, valD 0 (t.take i) = m := ⟨_, rfl⟩
      rw [hm] at nb
      have HM := Lib.hid hm
      have I2 := Lib.hid i2
      have hi' : (i : Int) < (t.length : Int) := by omega
      rw [hm]
      clear hc i2 hm
      by_cases d1 : c.toNat < 48
      · have d1' : (c.toNat : Int) < 48 := by omega
        have E := Lib.hid (EB.out (HC.out (by unfold isDg; simp; omega)))
        go_wp2
        go_ret2
        rw [E.out.1, E.out.2]
        exact ⟨rfl, rfl⟩
      · by_cases d2 : 57 < c.toNat
        · have d1' : ¬ (c.toNat : Int) < 48 := by omega
          have d2' : 57 < (c.toNat : Int) := by omega
          have E := Lib.hid (EB.out (HC.out (by unfold isDg; simp; omega)))
          go_wp2
          go_ret2
          rw [E.out.1, E.out.2]
          exact ⟨rfl, rfl⟩
        · have d1' : ¬ (c.toNat : Int) < 48 := by omega
          have d2' : ¬ 57 < (c.toNat : Int) := by omega
          have V : Hid (valD 0 (t.take (i + 1)) = 10 * m + (c.toNat - 48) ∧ allDg (t.take (i + 1)) = true) := Lib.hid (by
            rw [TN.out, valD_snoc, HM.out, allDg_snoc, I2.out]
            exact ⟨rfl, by unfold isDg; simp; omega⟩)
          go_wp2
          go_roundw
          case rel =>
            refine ⟨i + 1, by go_num, by omega, V.out.2, ?_, by first | rfl | trivial⟩
            rw [V.out.1]
            congr 1; omega
          case measure => simp [intOf]; omega
    · obtain rfl : i = t.length := by omega
      have nb := valD_bd9 (i := t.length) i2 hl9
      rw [List.take_length] at i2 nb ⊢
      have E := Lib.hid (EG.out i2)
      obtain ⟨m, hm⟩ : ∃ m, valD 0 t = m := ⟨_, rfl⟩
      rw [hm] at nb E ⊢
      have hi' : ¬ ((t.length : Nat) : Int) < (t.length : Int) := by omega
      clear i2 hm
      go_wp2
      go_ret2
      rw [E.out.1, E.out.2]
      exact ⟨rfl, by first | rfl | trivial⟩
end Go.Proofs.YtfmehdophoejiaaGreatDoor

namespace Go.Proofs.YtfmehdophoejiaaGreatDoor
open Go.RowKit

theorem numR_neg (t : List UInt8) : numR (45 :: t) = if okDig t = true ∧ t ≠ [48] then some (-(valD 0 t : Int)) else none := by
  unfold numR; rw [if_pos (show (45 :: t).head? = some 45 from rfl)]; rfl
theorem numR_pos {s : List UInt8} (h : s.head? ≠ some 45) : numR s = if okDig s = true then some (valD 0 s : Int) else none := by
  unfold numR; rw [if_neg h]
theorem ok_short {t : List UInt8} (h : t.length = 1) : okDig t = allDg t := by
  unfold okDig
  rw [h]
  simp
theorem ok_long {t : List UInt8} (h : 1 < t.length) (h9 : t.length ≤ 9) (h48 : t.head? ≠ some 48) : okDig t = allDg t := by
  unfold okDig
  simp [h48, h9, show 1 ≤ t.length by omega]
theorem ok_lead {t : List UInt8} (h : 1 < t.length) (h48 : t.head? = some 48) : okDig t = false := by
  unfold okDig
  simp [h48, h]
theorem ok_none {t : List UInt8} (h : t.length < 1 ∨ 9 < t.length) : okDig t = false := by
  unfold okDig
  rcases h with h | h
  · simp [show ¬ 1 ≤ t.length by omega]
  · simp [show ¬ t.length ≤ 9 by omega]
theorem numP_nil : numZ [] = 0 ∧ numB [] = false := by decide
theorem num_none {s : List UInt8} (h : numR s = none) : numZ s = 0 ∧ numB s = false := by unfold numZ numB; rw [h]; exact ⟨rfl, rfl⟩
theorem num_some {s : List UInt8} {v : Int} (h : numR s = some v) : numZ s = v ∧ numB s = true := by unfold numZ numB; rw [h]; exact ⟨rfl, rfl⟩

set_option maxHeartbeats 1600000 in
theorem rnum_neg (t : List UInt8) (v : Int) (z : Bool) (w : World) (hs : t.length ≤ 1000) (HV : Hid (numZ (45 :: t) = v ∧ numB (45 :: t) = z)) :
    Calls Tryz.prog 98 #[.string ⟨(45 :: t).toArray⟩] w fun e w' => e = .returned (.tuple #[.int .i64 v, .bool z]) ∧ w = w' := by
  have BAD : Hid (okDig t = false → v = 0 ∧ z = false) := Lib.hid fun h => by
    have := num_none (s := 45 :: t) (by rw [numR_neg, if_neg (by simp [h])])
    rw [this.1, this.2] at HV
    exact ⟨HV.out.1.symm, HV.out.2.symm⟩
  have GOOD : Hid (okDig t = true → t ≠ [48] → v = -(valD 0 t : Int) ∧ z = true) := Lib.hid fun h h2 => by
    have := num_some (s := 45 :: t) (by rw [numR_neg, if_pos ⟨h, h2⟩])
    rw [this.1, this.2] at HV
    exact ⟨HV.out.1.symm, HV.out.2.symm⟩
  have hz := wsize t
  have hzs := wsize (45 :: t)
  have h45 : ∀ W : World, (Instr.index 9 (.string ⟨(45 :: t).toArray⟩) (.int .i64 0)).run Tryz.prog W = .ok (.int .u8 45) W := wbyte_at (45 :: t) 0 (by simp) 45 rfl
  have htl : ∀ W : World, (Instr.slice 9 (.string ⟨(45 :: t).toArray⟩) (some (.int .i64 1)) none none).run Tryz.prog W = .ok (.string ⟨t.toArray⟩) W := wtail_run 45 t
  obtain ⟨sl, hsl⟩ : ∃ sl : Nat, (45 :: t).length = sl := ⟨_, rfl⟩
  have hs0 : 0 < sl := by rw [← hsl]; simp
  by_cases h0 : t.length < 1
  · have E := Lib.hid (BAD.out (ok_none (.inl h0)))
    rw [hsl] at hzs
    clear hsl HV
    generalize (45 :: t) = S at hzs h45 htl
    go_enter Tryz.func98, Tryz.ntmps98
    go_wp2
    go_ret2
    rw [E.out.1, E.out.2]
    exact ⟨rfl, rfl⟩
  · by_cases h9 : 9 < t.length
    · have E := Lib.hid (BAD.out (ok_none (.inr h9)))
      rw [hsl] at hzs
      clear hsl HV
      generalize (45 :: t) = S at hzs h45 htl
      go_enter Tryz.func98, Tryz.ntmps98
      go_wp2
      go_ret2
      rw [E.out.1, E.out.2]
      exact ⟨rfl, rfl⟩
    · obtain ⟨a, ha⟩ : ∃ a, t.getD 0 0 = a := ⟨_, rfl⟩
      have hh : t.head? = some a := by
        cases t with
        | nil => simp at h0
        | cons x r => simpa using ha
      by_cases h1 : 1 < t.length
      · by_cases h48 : a = 48
        · have E := Lib.hid (BAD.out (ok_lead h1 (by rw [hh, h48])))
          have h480 : ∀ W : World, (Instr.index 9 (.string ⟨t.toArray⟩) (.int .i64 0)).run Tryz.prog W = .ok (.int .u8 48) W := wbyte_at t 0 (by omega) 48 (by rw [ha, h48])
          rw [hsl] at hzs
          clear hsl HV hh ha h48
          generalize (45 :: t) = S at hzs h45 htl
          go_enter Tryz.func98, Tryz.ntmps98
          go_wp2
          go_ret2
          rw [E.out.1, E.out.2]
          exact ⟨rfl, rfl⟩
        · have ok := ok_long h1 (by omega) (by rw [hh]; simpa using h48)
          have hne : t ≠ [48] := fun e => by rw [e] at h1; simp at h1
          exact rnum_mn t v z w hne (by omega) h1 a ha (fun e => h48 (UInt8.toNat_inj.1 e)) (Lib.hid fun h => BAD.out (ok ▸ h)) (Lib.hid fun h => GOOD.out (ok ▸ h) hne)
      · have h1' : t.length = 1 := by omega
        have ok := ok_short h1'
        by_cases h48 : t = [48]
        · have E : Hid (v = 0 ∧ z = false) := Lib.hid (by
            rw [h48] at HV
            have := HV.out
            rw [show numZ [45, 48] = 0 by decide, show numB [45, 48] = false by decide] at this
            exact ⟨this.1.symm, this.2.symm⟩)
          rw [hsl] at hzs
          clear hsl HV hh ha ok h1' BAD GOOD
          subst h48
          generalize [45, 48] = S at hzs h45 htl
          go_enter Tryz.func98, Tryz.ntmps98
          go_wp2
          go_ret2
          rw [E.out.1, E.out.2]
          exact ⟨rfl, rfl⟩
        · exact rnum_m1 t v z w h48 (by omega) h1' (Lib.hid fun h => BAD.out (ok ▸ h)) (Lib.hid fun h => GOOD.out (ok ▸ h) h48)

set_option maxHeartbeats 1600000 in
theorem rnum_pos (t : List UInt8) (v : Int) (z : Bool) (w : World) (hs : t.length ≤ 1000) (h45 : t.head? ≠ some 45) (HV : Hid (numZ t = v ∧ numB t = z)) :
    Calls Tryz.prog 98 #[.string ⟨t.toArray⟩] w fun e w' => e = .returned (.tuple #[.int .i64 v, .bool z]) ∧ w = w' := by
  have BAD : Hid (okDig t = false → v = 0 ∧ z = false) := Lib.hid fun h => by
    have := num_none (s := t) (by rw [numR_pos h45, if_neg (by simp [h])])
    rw [this.1, this.2] at HV
    exact ⟨HV.out.1.symm, HV.out.2.symm⟩
  have GOOD : Hid (okDig t = true → v = (valD 0 t : Int) ∧ z = true) := Lib.hid fun h => by
    have := num_some (s := t) (by rw [numR_pos h45, if_pos h])
    rw [this.1, this.2] at HV
    exact ⟨HV.out.1.symm, HV.out.2.symm⟩
  have hz := wsize t
  by_cases h0 : t.length < 1
  · have E := Lib.hid (BAD.out (ok_none (.inl h0)))
    clear HV h45
    go_enter Tryz.func98, Tryz.ntmps98
    go_wp2
    go_ret2
    rw [E.out.1, E.out.2]
    exact ⟨rfl, rfl⟩
  · obtain ⟨a, ha⟩ : ∃ a, t.getD 0 0 = a := ⟨_, rfl⟩
    have hh : t.head? = some a := by
      cases t with
      | nil => simp at h0
      | cons x r => simpa using ha
    have a45 : a ≠ 45 := fun e => h45 (by rw [hh, e])
    have a45n : a.toNat ≠ 45 := fun e => a45 (UInt8.toNat_inj.1 e)
    by_cases h9 : 9 < t.length
    · have E := Lib.hid (BAD.out (ok_none (.inr h9)))
      have hi0 : ∀ W : World, (Instr.index 9 (.string ⟨t.toArray⟩) (.int .i64 0)).run Tryz.prog W = .ok (.int .u8 (a.toNat : Int)) W := wbyte_at t 0 (by omega) a ha
      have hb' : ((a.toNat : Int) == 45) = false := by simp; omega
      clear HV hh ha a45 a45n h45
      go_enter Tryz.func98, Tryz.ntmps98
      go_wp2
      go_ret2
      rw [E.out.1, E.out.2]
      exact ⟨rfl, rfl⟩
    · by_cases h1 : 1 < t.length
      · by_cases h48 : a = 48
        · have E := Lib.hid (BAD.out (ok_lead h1 (by rw [hh, h48])))
          have h480 : ∀ W : World, (Instr.index 9 (.string ⟨t.toArray⟩) (.int .i64 0)).run Tryz.prog W = .ok (.int .u8 48) W := wbyte_at t 0 (by omega) 48 (by rw [ha, h48])
          clear HV hh ha h48 a45 a45n h45
          go_enter Tryz.func98, Tryz.ntmps98
          go_wp2
          go_ret2
          rw [E.out.1, E.out.2]
          exact ⟨rfl, rfl⟩
        · have ok := ok_long h1 (by omega) (by rw [hh]; simpa using h48)
          exact rnum_pn t v z w a ha a45n (by omega) h1 a ha (fun e => h48 (UInt8.toNat_inj.1 e)) (Lib.hid fun h => BAD.out (ok ▸ h)) (Lib.hid fun h => GOOD.out (ok ▸ h))
      · have h1' : t.length = 1 := by omega
        have ok := ok_short h1'
        exact rnum_p1 t v z w a ha a45n (by omega) h1' (Lib.hid fun h => BAD.out (ok ▸ h)) (Lib.hid fun h => GOOD.out (ok ▸ h))

theorem rnum_is (s : List UInt8) (v : Int) (z : Bool) (w : World) (hs : s.length ≤ 1000) (HV : Hid (numZ s = v ∧ numB s = z)) :
    Calls Tryz.prog 98 #[.string ⟨s.toArray⟩] w fun e w' => e = .returned (.tuple #[.int .i64 v, .bool z]) ∧ w = w' := by
  by_cases h : s.head? = some 45
  · cases s with
    | nil => simp at h
    | cons b t =>
      obtain rfl : b = 45 := by simpa using h
      exact rnum_neg t v z w (by simp at hs; omega) HV
  · exact rnum_pos s v z w hs h HV

/-- The year that a word is. -/
def yearV (s : List UInt8) (f : Int) : Int := match findL (low s) endsL with
  | some 0 => f
  | some _ => 1048576
  | none => if numB s = true ∧ 1 ≤ numZ s ∧ numZ s ≤ 4000 then numZ s else 0
def yearE (s : List UInt8) : Int := match findL (low s) endsL with
  | some _ => 0
  | none => if numB s = true then (if 1 ≤ numZ s ∧ numZ s ≤ 4000 then 0 else 10) else 12

theorem ends_ix0 (f : Int) (W : World) : (Instr.index 126 (.agg #[.int .i64 f, .int .i64 1048576]) (.int .i64 0)).run Tryz.prog W = .ok (.int .i64 f) W := by
  kernel_rfl
theorem ends_ix1 (f : Int) (W : World) : (Instr.index 126 (.agg #[.int .i64 f, .int .i64 1048576]) (.int .i64 1)).run Tryz.prog W = .ok (.int .i64 1048576) W := by
  kernel_rfl

set_option maxHeartbeats 1600000 in
theorem year_is (s : List UInt8) (f v e0 : Int) (w : World) (hs : s.length ≤ 1000) (hA : LaidW w) (HV : Hid (yearV s f = v ∧ yearE s = e0)) :
    Calls Tryz.prog 89 #[.string ⟨s.toArray⟩, .int .i64 f] w fun e w' => e = .returned (.tuple #[.int .i64 v, .int .i64 e0]) ∧ Below w.heap.size w w' := by
  have c0 := hA.end'.cell 0 _ rfl
  have c1 := hA.end'.cell 1 _ rfl
  obtain ⟨W0, hW0⟩ : ∃ W0, w.alloc (.cells #[.string ⟨#[111, 110, 108, 121]⟩, .string ⟨#[109, 97, 120, 105, 109, 117, 109]⟩] 113) = W0 := ⟨_, rfl⟩
  have B0 : Below w.heap.size w W0 := by rw [← hW0]; exact (Below.refl _ _).alloc (Nat.le_refl _) _
  have L0 : ListAt w.heap.size endsL W0 := by rw [← hW0]; exact ListAt.new w endsL _ _ rfl
  have A0 := hA.next B0
  have HS := Lib.hid hs
  cases ho : findL (low s) endsL with
  | some p =>
    have hp : p < 2 := findL_lt ho
    have F : Hid ((resN (findL (low s) endsL) 0 : Int) = p ∧ (resE (findL (low s) endsL) : Int) = 0) := Lib.hid (by rw [ho]; exact ⟨rfl, rfl⟩)
    have FI := Lib.hid (find_is s endsL w.heap.size 2 p 0 W0 hs rfl (by omega) ends_ne ends_as L0 A0.u8 F)
    obtain rfl | rfl : p = 0 ∨ p = 1 := by omega
    · have E : Hid (v = f ∧ e0 = 0) := Lib.hid (by
        have := HV.out
        unfold yearV yearE at this
        rw [ho] at this
        exact ⟨this.1.symm, this.2.symm⟩)
      have hix := ends_ix0 f
      clear ho L0 A0 HV hA F
      go_enter Tryz.func89, Tryz.ntmps89
      go_wp2_with (go_at_call 90; (try rw [hW0]); refine FI.out.mono ?_; rintro e w1 ⟨rfl, k1⟩)
      go_ret2
      rw [E.out.1, E.out.2]
      exact ⟨rfl, B0.trans (k1.mono B0.size)⟩
    · have E : Hid (v = 1048576 ∧ e0 = 0) := Lib.hid (by
        have := HV.out
        unfold yearV yearE at this
        rw [ho] at this
        exact ⟨this.1.symm, this.2.symm⟩)
      have hix := ends_ix1 f
      clear ho L0 A0 HV hA F
      go_enter Tryz.func89, Tryz.ntmps89
      go_wp2_with (go_at_call 90; (try rw [hW0]); refine FI.out.mono ?_; rintro e w1 ⟨rfl, k1⟩)
      go_ret2
      rw [E.out.1, E.out.2]
      exact ⟨rfl, B0.trans (k1.mono B0.size)⟩
  | none =>
    have F : Hid ((resN (findL (low s) endsL) 0 : Int) = 0 ∧ (resE (findL (low s) endsL) : Int) = 13) := Lib.hid (by rw [ho]; exact ⟨rfl, rfl⟩)
    have FI := Lib.hid (find_is s endsL w.heap.size 2 0 13 W0 hs rfl (by omega) ends_ne ends_as L0 A0.u8 F)
    have HA0 := Lib.hid A0
    obtain ⟨n, hn⟩ : ∃ n, numZ s = n := ⟨_, rfl⟩
    obtain ⟨z, hz⟩ : ∃ z, numB s = z := ⟨_, rfl⟩
    have NV : Hid (numZ s = n ∧ numB s = z) := Lib.hid ⟨hn, hz⟩
    have VV : Hid (v = (if z = true ∧ 1 ≤ n ∧ n ≤ 4000 then n else 0) ∧ e0 = (if z = true then (if 1 ≤ n ∧ n ≤ 4000 then 0 else 10) else 12)) := Lib.hid (by
      have := HV.out
      unfold yearV yearE at this
      rw [ho, hn, hz] at this
      exact ⟨this.1.symm, this.2.symm⟩)
    clear ho L0 A0 HV hA F hn hz hs
    cases z with
    | false =>
      have E : Hid (v = 0 ∧ e0 = 12) := Lib.hid VV.out
      go_enter Tryz.func89, Tryz.ntmps89
      go_wp2_with (first
        | (go_at_call 90; (try rw [hW0]); refine FI.out.mono ?_; rintro e w1 ⟨rfl, k1⟩
           have HA1 := Lib.hid (HA0.out.next k1)
           have K1 := Lib.hid (B0.trans (k1.mono B0.size))
           clear k1)
        | (go_at_call 120; refine (number_is s n false _ HS.out HA1.out NV).mono ?_; rintro e w2 ⟨rfl, k2⟩))
      go_ret2
      rw [E.out.1, E.out.2]
      exact ⟨rfl, K1.out.trans (k2.mono K1.out.size)⟩
    | true =>
      by_cases n1 : n < 1
      · have E : Hid (v = 0 ∧ e0 = 10) := Lib.hid (by
          have := VV.out
          rw [if_neg (by omega), if_pos rfl, if_neg (by omega)] at this
          exact this)
        go_enter Tryz.func89, Tryz.ntmps89
        go_wp2_with (first
          | (go_at_call 90; (try rw [hW0]); refine FI.out.mono ?_; rintro e w1 ⟨rfl, k1⟩
             have HA1 := Lib.hid (HA0.out.next k1)
             have K1 := Lib.hid (B0.trans (k1.mono B0.size))
             clear k1)
          | (go_at_call 120; refine (number_is s n true _ HS.out HA1.out NV).mono ?_; rintro e w2 ⟨rfl, k2⟩))
        go_ret2
        rw [E.out.1, E.out.2]
        exact ⟨rfl, K1.out.trans (k2.mono K1.out.size)⟩
      · by_cases n2 : 4000 < n
        · have E : Hid (v = 0 ∧ e0 = 10) := Lib.hid (by
            have := VV.out
            rw [if_neg (by omega), if_pos rfl, if_neg (by omega)] at this
            exact this)
          go_enter Tryz.func89, Tryz.ntmps89
          go_wp2_with (first
            | (go_at_call 90; (try rw [hW0]); refine FI.out.mono ?_; rintro e w1 ⟨rfl, k1⟩
               have HA1 := Lib.hid (HA0.out.next k1)
               have K1 := Lib.hid (B0.trans (k1.mono B0.size))
               clear k1)
            | (go_at_call 120; refine (number_is s n true _ HS.out HA1.out NV).mono ?_; rintro e w2 ⟨rfl, k2⟩))
          go_ret2
          rw [E.out.1, E.out.2]
          exact ⟨rfl, K1.out.trans (k2.mono K1.out.size)⟩
        · have E : Hid (v = n ∧ e0 = 0) := Lib.hid (by
            have := VV.out
            rw [if_pos ⟨rfl, by omega, by omega⟩, if_pos rfl, if_pos ⟨by omega, by omega⟩] at this
            exact this)
          go_enter Tryz.func89, Tryz.ntmps89
          go_wp2_with (first
            | (go_at_call 90; (try rw [hW0]); refine FI.out.mono ?_; rintro e w1 ⟨rfl, k1⟩
               have HA1 := Lib.hid (HA0.out.next k1)
               have K1 := Lib.hid (B0.trans (k1.mono B0.size))
               clear k1)
            | (go_at_call 120; refine (number_is s n true _ HS.out HA1.out NV).mono ?_; rintro e w2 ⟨rfl, k2⟩))
          go_ret2
          rw [E.out.1, E.out.2]
          exact ⟨rfl, K1.out.trans (k2.mono K1.out.size)⟩

end Go.Proofs.YtfmehdophoejiaaGreatDoor
