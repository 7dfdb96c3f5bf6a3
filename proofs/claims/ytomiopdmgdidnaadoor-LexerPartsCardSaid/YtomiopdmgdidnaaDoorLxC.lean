/- The contracts of strings.IndexRune at a rune beyond ASCII in an ASCII text, of strings.IndexAny and ContainsAny of whatever text at ASCII bytes; of TrimLeft, HasPrefix, IndexByte and Cut as the lexer calls them. -/
import Derived.Laws.RangeAny
import Derived.Lib.IndexLaws
import Derived.Lib.OthersKept
import Derived.Shelf.Strings.SlTrimAscii
import Derived.Test.YtomiopdmgdidnaaDoorLxB
import Derived.Test.YtomiopdmgdidnaaDoorShelf
namespace Go.Proofs.YtomiopdmgdidnaaDoor
open Go.RowKit Go.Shelf
attribute [local go_sem] Oper.semAt_some

theorem encode_last (r : Int) (h : 128 ≤ r) : ∃ (l : List UInt8) (b : UInt8), Utf8.encode r = ⟨(l ++ [b]).toArray⟩ ∧ 128 ≤ b.toNat ∧ l.length ≤ 3 := by
  have hc : ¬ r.toNat < 128 := by omega
  have lst : ∀ k : Nat, 128 ≤ (UInt8.ofNat (128 + k % 64)).toNat := fun k => by rw [UInt8.toNat_ofNat']; omega
  unfold Utf8.encode
  by_cases hv : Utf8.valid r = true
  · simp only [hv, if_true, hc, if_false]
    split
    · exact ⟨[_], _, rfl, lst _, by simp⟩
    · split
      · exact ⟨[_, _], _, rfl, lst _, by simp⟩
      · exact ⟨[_, _, _], _, rfl, lst _, by simp⟩
  · have h3 : Utf8.runeError = 65533 := rfl
    simp only [hv, h3]
    exact ⟨[_, _], _, rfl, lst _, by simp⟩

set_option maxHeartbeats 4000000 in
set_option maxRecDepth 100000 in
theorem rune_none (cs : List UInt8) (r : Int) (w : World) (ha : ∀ c ∈ cs, c.toNat < 128) (h1 : 128 ≤ r) (h2 : r ≤ 2147483647) :
    Calls Tryd.prog 30 #[.string ⟨cs.toArray⟩, .int .i32 r] w fun e w' => e = .returned (.int .i64 (-1)) ∧ Below w.heap.size w w' := by
  have hz := lxsize cs
  have HA := Lib.hid ha
  have n1 : ¬ r < 128 := by omega
  have n0 : (0 : Int) ≤ r := by omega
  clear ha
  by_cases hr : r = 65533
  · subst hr
    go_enter Tryd.func30, Tryd.ntmps30
    go_wp2
    go_loopg [5, 6] cs.length (fun g _ _ wx => ∃ i : Nat, i + g = cs.length ∧ wx = w.iter ⟨cs.toArray⟩ i)
    case atStart => exact ⟨0, by omega, rfl⟩
    case round =>
      obtain ⟨i, hig, rfl⟩ := hrel
      cases gk with
      | zero =>
        obtain rfl : i = cs.length := by omega
        have hnx := run_next_end (P := Tryd.prog) w ⟨cs.toArray⟩ cs.length
        rw [hz] at hnx
        go_wp2
        go_ret
        exact ⟨rfl, (Below.refl _ _).alloc (Nat.le_refl _) _⟩
      | succ g =>
        have hi : i < cs.length := by omega
        have hi2 : i < (⟨cs.toArray⟩ : ByteArray).size := by rw [hz]; exact hi
        obtain ⟨x, hx⟩ : ∃ x : UInt8, (⟨cs.toArray⟩ : ByteArray)[i]'hi2 = x := ⟨_, rfl⟩
        have hx128 : x.toNat < 128 := HA.out x (by rw [← hx]; simp [ByteArray.getElem_eq_getElem_data])
        have hnx := fun ty => run_next_ascii (P := Tryd.prog) w ⟨cs.toArray⟩ i ty hi2 (by rw [hx]; exact hx128)
        rw [hx] at hnx
        have hne : ((x.toNat : Int) == 65533) = false := by simp; omega
        clear hx
        go_wp2
        go_roundg g
        case measure => omega
        case rel => exact ⟨i + 1, by omega, rfl⟩
  · have hrn : (r == 65533) = false := by simpa using hr
    have HV := Lib.hid (Tryd.utf8_ValidRune r)
    obtain ⟨l, b, he, hb, hll⟩ := encode_last r h1
    cases hv : Lib.validRune r
    · go_enter Tryd.func30, Tryd.ntmps30
      go_wp2_with (go_at_call 41; refine (HV.out _).mono ?_; rintro e w' ⟨rfl, hw⟩; rw [hw, hv])
      go_ret
      exact ⟨rfl, Below.refl _ _⟩
    · go_enter Tryd.func30, Tryd.ntmps30
      have hzl : (⟨(l ++ [b]).toArray⟩ : ByteArray).size = l.length + 1 := by rw [lxsize]; simp
      have hil : (((l.length + 1 : Nat) : Int) - 1) = (l.length : Int) := by omega
      have hix2 := lxbyte_at (l ++ [b]) l.length (by simp) b (by simp)
      by_cases hlc : l.length < cs.length
      · obtain ⟨c, hc⟩ : ∃ c, cs.getD l.length 0 = c := ⟨_, rfl⟩
        have hix1 := lxbyte_at cs l.length hlc c hc
        have c128 : c.toNat < 128 := HA.out c (by rw [← hc]; simp [hlc])
        have hne : ((c.toNat : Int) != (b.toNat : Int)) = true := by simp; omega
        obtain ⟨t, ht⟩ : ∃ t, cs.drop (l.length + 1) = t := ⟨_, rfl⟩
        have hsl : ∀ W, (Instr.slice 9 (.string ⟨cs.toArray⟩) (some (.int .i64 ((l.length : Int) + 1))) none none).run Tryd.prog W = .ok (.string ⟨t.toArray⟩) W := lxfrom_run cs (l.length + 1) t ht (by omega)
        have hb0 : Lib.indexByte t b = -1 := by
          rcases hi : Lib.indexByte t b with o | o
          · obtain ⟨h3, _⟩ := Lib.indexByte_some (o := o) hi
            have hm : b ∈ cs := by rw [← ht] at h3; exact List.mem_of_mem_drop (List.mem_of_getElem? h3)
            have := HA.out b hm
            omega
          · have := Lib.indexByte_ge t b
            rw [hi] at this
            rw [show o = 0 by omega]; rfl
        have hwr : IntKind.i64.wrap ((l.length : Int) + 1) = (l.length : Int) + 1 := wrap_small _ (by omega) (by omega)
        have hbb : ((b.toNat : Int)).toNat.toUInt8 = b := by simp
        have IB := Lib.hid (Tryd.strings_IndexByte ⟨t.toArray⟩ (b.toNat : Int))
        go_wp2_with (go_at_call 41; refine (HV.out _).mono ?_; rintro e w' ⟨rfl, hw⟩; rw [hw, hv])
        clear hc
        refine wp_scope_straight ?_
        go_wp2
        go_loopw [9] (fun v wr => v = .int .i64 (l.length : Int) ∧ wr = w) (fun _ _ => 0)
        case atStart => exact ⟨rfl, rfl⟩
        case round =>
          obtain ⟨rfl, rfl⟩ := hrel
          have hlc' : (l.length : Int) < (cs.length : Int) := by omega
          go_wp2
          refine wp_scope_straight ?_
          go_wp2
          go_region
          go_wp2
          go_region_held3 (fun _ => True) (exact trivial) (first | (go_at_call 40; refine (IB.out _).mono ?_; rintro e w1 ⟨rfl, rfl⟩; rw [hbb, hb0]))
          go_wp2
          change bodyPost Tryd.prog Tryd.f30 (fun e w' => e = Ending.returned (Value.int IntKind.i64 (-1)) ∧ Below wr.heap.size wr w') Exit.ret _ _
          go_ret
          exact ⟨rfl, by first | exact Below.refl _ _ | exact (Below.refl _ _).drew | exact (Below.refl _ _).drew.drew⟩
      · go_wp2_with (go_at_call 41; refine (HV.out _).mono ?_; rintro e w' ⟨rfl, hw⟩; rw [hw, hv])
        refine wp_scope_straight ?_
        go_wp2
        go_loopw [9] (fun v wr => v = .int .i64 (l.length : Int) ∧ wr = w) (fun _ _ => 0)
        case atStart => exact ⟨rfl, rfl⟩
        case round =>
          obtain ⟨rfl, rfl⟩ := hrel
          have hlc' : ¬ (l.length : Int) < (cs.length : Int) := by omega
          go_wp2
          go_ret
          exact ⟨rfl, Below.refl _ _⟩

theorem get_list (l : List UInt8) (k : Nat) : (⟨l.toArray⟩ : ByteArray).get! k = l.getD k 0 := by
  show l.toArray[k]! = _
  rw [List.getElem!_toArray, List.getElem!_eq_getElem?_getD]
  rfl
/-- Behind a byte that is not ASCII, all bytes of what is decoded are none. -/
theorem decode_all (l : List UInt8) (i : Nat) (hi : i < l.length) (h : 128 ≤ (l.getD i 0).toNat) : 128 ≤ (Utf8.decode ⟨l.toArray⟩ i).1 ∧ 1 ≤ (Utf8.decode ⟨l.toArray⟩ i).2 ∧ ∀ j, j < (Utf8.decode ⟨l.toArray⟩ i).2 → 128 ≤ (l.getD (i + j) 0).toNat := by
  have hz := lxsize l
  have hh := decode_high ⟨l.toArray⟩ i (by rw [hz]; exact hi) (by have : (⟨l.toArray⟩ : ByteArray)[i]'(by rw [hz]; exact hi) = l.getD i 0 := by { simp [ByteArray.getElem_eq_getElem_data, hi] }; rw [this]; exact h)
  refine ⟨hh.1, hh.2, ?_⟩
  unfold Utf8.decode
  simp only [get_list, hz]
  repeat' split
  all_goals intro j hj
  all_goals simp only [Bool.and_eq_true, beq_iff_eq, decide_eq_true_eq, Nat.add_zero] at *
  all_goals first
    | (have : j = 0 := by omega
       subst this; exact h)
    | (have : j = 0 ∨ j = 1 := by omega
       rcases this with rfl | rfl
       · exact h
       · omega)
    | (have : j = 0 ∨ j = 1 ∨ j = 2 := by omega
       rcases this with rfl | rfl | rfl
       · exact h
       · omega
       · omega)
    | (have : j = 0 ∨ j = 1 ∨ j = 2 ∨ j = 3 := by omega
       rcases this with rfl | rfl | rfl | rfl
       · exact h
       · omega
       · omega
       · omega)

set_option maxHeartbeats 4000000 in
set_option maxRecDepth 100000 in
theorem any_short (s cs : List UInt8) (w : World) (h2 : 2 ≤ cs.length) (h8 : s.length ≤ 8) (ha : ∀ c ∈ cs, c.toNat < 128) :
    Calls Tryd.prog 23 #[.string ⟨s.toArray⟩, .string ⟨cs.toArray⟩] w fun e w' => e = .returned (.int .i64 (Lib.indexAny s cs)) ∧ Below w.heap.size w w' := by
  have hz := lxsize s
  have hzc := lxsize cs
  have HA := Lib.hid ha
  have hemp : cs.isEmpty = false := by cases cs <;> simp_all
  have hn1 : ((cs.length : Int) == 1) = false := beq_eq_false_iff_ne.2 (by omega)
  have h8z : decide ((8 : Int) < (s.length : Int)) = false := decide_eq_false (by omega)
  clear ha
  go_enter Tryd.func23, Tryd.ntmps23
  go_wp2_with (go_at_call 31; refine (Tryd.strings_shouldUseASCIISet _ _).mono ?_; rintro e w' ⟨rfl, hw⟩; rw [hw, h8z])
  go_loopw [9, 10] (fun _ _ wr => ∃ i : Nat, wr.heap[w.heap.size]? = some (.stringIter ⟨s.toArray⟩ i) ∧ Below w.heap.size w wr ∧ Lib.NoAny s cs i) (fun _ _ wr => s.length - wr.iterPos w.heap.size)
  case atStart => exact ⟨0, World.iter_heap w _ 0, (Below.refl _ _).alloc (Nat.le_refl _) _, Lib.NoAny.zero _ _⟩
  case round =>
    obtain ⟨i, hit, hB, hno⟩ := hrel
    have HN := Lib.hid hno
    have HB := Lib.hid hB
    have hip : wr.iterPos w.heap.size = i := by simp [World.iterPos, hit]
    have HI := Lib.hid hit
    have HP := Lib.hid hip
    clear hno hB hip
    by_cases hi : i < s.length
    · have hi2 : i < (⟨s.toArray⟩ : ByteArray).size := by rw [hz]; exact hi
      obtain ⟨x, hx⟩ : ∃ x : UInt8, s.getD i 0 = x := ⟨_, rfl⟩
      have hxe : (⟨s.toArray⟩ : ByteArray)[i]'hi2 = x := by rw [← hx]; simp [ByteArray.getElem_eq_getElem_data, hi]
      have hxl : s[i]? = some x := by rw [← hx]; simp [hi]
      by_cases hx128 : x.toNat < 128
      · have hnx := fun ty => Lib.run_next_ascii_at (P := Tryd.prog) wr w.heap.size ⟨s.toArray⟩ i ty hit hi2 (by rw [hxe]; exact hx128)
        rw [hxe] at hnx
        have hcon := Lib.contains_iff_indexByte cs x
        have hback : ((x.toNat : Int)).toNat.toUInt8 = x := by simp
        have IR := Lib.hid (Tryd.strings_IndexRune_ascii ⟨cs.toArray⟩ (x.toNat : Int))
        have Hx := Lib.hid hxl
        have hxz : (x.toNat : Int) < 128 := by omega
        have HB2 := Lib.hid (Lib.below_iterAt HB.out (Nat.le_refl _) ⟨s.toArray⟩ (i + 1))
        have HI2 := Lib.hid (Lib.iterAt_heap wr w.heap.size ⟨s.toArray⟩ i (i + 1) hit)
        clear hxl hx hit
        cases hin : cs.contains x
        · rw [hin] at hcon
          have hlt : ¬ ((0 : Int) ≤ Lib.indexByte cs x) := of_decide_eq_false hcon.symm
          clear hcon
          go_wp2_with (go_at_call 30; refine (IR.out _ (by omega) hxz).mono ?_; rintro e w' ⟨rfl, hw⟩; rw [hw, hback])
          go_roundw
          case rel => exact ⟨i + 1, HI2.out, HB2.out, HN.out.succ Hx.out hin⟩
          case measure => rw [HP.out, show (World.iterAt _ w.heap.size _ _).iterPos w.heap.size = i + 1 from by simp [World.iterPos, HI2.out]]; omega
        · rw [hin] at hcon
          have hge : (0 : Int) ≤ Lib.indexByte cs x := of_decide_eq_true hcon.symm
          clear hcon
          go_wp2_with (go_at_call 30; refine (IR.out _ (by omega) hxz).mono ?_; rintro e w' ⟨rfl, hw⟩; rw [hw, hback])
          go_ret
          exact ⟨by rw [Lib.indexAny_hit HN.out Hx.out hin]; rfl, HB2.out⟩
      · have hD := decode_all s i hi (by rw [hx]; omega)
        have hnx := fun ty => Lib.run_next_any_at (P := Tryd.prog) wr w.heap.size ⟨s.toArray⟩ i ty hit hi2
        have hle := decode_le ⟨s.toArray⟩ i
        have HB1 := Lib.hid (fun k => Lib.below_iterAt HB.out (Nat.le_refl _) ⟨s.toArray⟩ k)
        have HI1 := Lib.hid (fun k => Lib.iterAt_heap wr w.heap.size ⟨s.toArray⟩ i k hit)
        generalize Utf8.decode ⟨s.toArray⟩ i = d at hD hnx hle
        obtain ⟨c, k⟩ := d
        simp only [] at hD hnx hle
        obtain ⟨d1, d2, d3⟩ := hD
        have RN := Lib.hid (fun W => rune_none cs (c : Int) W HA.out (by omega) (by omega))
        have HN2 : Hid (Lib.NoAny s cs (i + k)) := Lib.hid (fun j b hj hb => by
          by_cases hji : j < i
          · exact HN.out j b hji hb
          · have h4 := d3 (j - i) (by omega)
            rw [show i + (j - i) = j by omega, List.getD_eq_getElem?_getD, hb] at h4
            cases hc : cs.contains b
            · rfl
            · have := HA.out b (by simpa using hc)
              simp at h4; omega)
        clear hx hxl d3 hxe hit
        go_wp2_with (first | (go_at_call 30; refine (RN.out _).mono ?_; rintro e w1 ⟨rfl, k1⟩
                              have K1 := Lib.hid k1
                              clear k1
                              simp only []))
        have HI3 := Lib.hid ((K1.out.block w.heap.size (by rw [Lib.iterAt_size]; exact (Array.getElem?_eq_some_iff.1 HI.out).1)).trans (HI1.out (i + k)))
        have HB3 := Lib.hid ((HB1.out (i + k)).trans (K1.out.mono (HB1.out (i + k)).size))
        go_roundw
        case rel => exact ⟨i + k, HI3.out, HB3.out, HN2.out⟩
        case measure => rw [HP.out, show w1.iterPos w.heap.size = i + k from by simp [World.iterPos, HI3.out]]; omega
    · have hnx := Lib.run_next_end_at (P := Tryd.prog) wr w.heap.size ⟨s.toArray⟩ i
      have hi2 : ¬ i < (⟨s.toArray⟩ : ByteArray).size := by rw [hz]; exact hi
      replace hnx := fun ty => hnx ty hit hi2
      clear hit hi2
      go_wp2
      go_ret
      exact ⟨by rw [Lib.indexAny_none (fun j b hj hb => HN.out j b (by omega) hb)]; rfl, HB.out⟩
theorem set_zero : ∀ w, (zeroValue 70).run Tryd.prog w = .ok (.agg (Array.replicate 256 (.bool false))) w := (zero_of_info (P := Tryd.prog) (t := 70) (n := 256) (by kernel_rfl)).1
theorem any_any (s cs : List UInt8) (w : World) (hs : s.length ≤ 1000000) (hn : cs.length ≤ 100) (h1 : 1 ≤ cs.length) (ha : ∀ c ∈ cs, c.toNat < 128) :
    Calls Tryd.prog 23 #[.string ⟨s.toArray⟩, .string ⟨cs.toArray⟩] w fun e w' => e = .returned (.int .i64 (Lib.indexAny s cs)) ∧ Below w.heap.size w w' := by
  have hz := lxsize s
  have hzc := lxsize cs
  have ha' : ∀ (j : Nat) b, (⟨cs.toArray⟩ : ByteArray).data.toList[j]? = some b → b.toNat < 128 := fun j b hb => ha b (List.mem_of_getElem? hb)
  by_cases h2 : cs.length = 1
  · exact (Tryd.strings_IndexAny_one ⟨s.toArray⟩ ⟨cs.toArray⟩ w (by rw [hzc]; exact h2) ha').mono fun e w' ⟨h3, h4⟩ => ⟨h3, h4 ▸ Below.refl _ _⟩
  · by_cases h8 : s.length ≤ 8
    · exact any_short s cs w (by omega) h8 ha
    · refine (Tryd.strings_IndexAny_long set_zero ⟨s.toArray⟩ ⟨cs.toArray⟩ w (by omega) (by omega) (by omega) (by omega) ha').mono fun e w' ⟨h3, h4⟩ => ⟨h3, ?_⟩
      rw [h4]
      exact ((Below.refl _ _).alloc (Nat.le_refl _) _).alloc (by simp) _
theorem contains_any : ∀ s cs : List UInt8, decide (0 ≤ Lib.indexAny s cs) = s.any (cs.contains ·)
  | [], cs => rfl
  | b :: l, cs => by
    have ih := contains_any l cs
    have hg := Lib.indexAny_ge cs l
    rw [Lib.indexAny, List.any_cons, ← ih]
    cases hb : cs.contains b
    · rw [if_neg (by decide)]
      by_cases h : Lib.indexAny l cs = -1
      · rw [h]; rfl
      · rw [if_neg (by simpa using h)]
        simp; omega
    · rw [if_pos rfl]; simp

theorem conAny_is (s cs : List UInt8) (p : UInt8 → Bool) (v : Bool) (w : World) (hs : s.length ≤ 1000000) (hc : Hid (1 ≤ cs.length ∧ cs.length ≤ 100 ∧ (∀ c ∈ cs, c.toNat < 128) ∧ ∀ b, cs.contains b = p b)) (hv : Hid (s.any p = v)) :
    Calls Tryd.prog 17 #[.string ⟨s.toArray⟩, .string ⟨cs.toArray⟩] w fun e w' => e = .returned (.bool v) ∧ Below w.heap.size w w' := by
  have hd : decide ((0 : Int) ≤ Lib.indexAny s cs) = v := by
    rw [contains_any, ← hv.out]
    congr 1
    funext b
    exact hc.out.2.2.2 b
  have hge : (Lib.indexAny s cs ≥ 0) = (0 ≤ Lib.indexAny s cs) := rfl
  have A1 := Lib.hid (any_any s cs w hs hc.out.2.1 hc.out.1 hc.out.2.2.1)
  generalize Lib.indexAny s cs = z at hd A1 hge
  clear hge
  go_enter Tryd.func17, Tryd.ntmps17
  cases v
  · have hz := of_decide_eq_false hd
    clear hd
    go_wp2_with (first | (go_at_call 23; refine A1.out.mono ?_; rintro e w1 ⟨rfl, k1⟩
                          have K1 := Lib.hid k1
                          clear k1
                          simp only []))
    go_ret
    exact ⟨rfl, K1.out⟩
  · have hz := of_decide_eq_true hd
    clear hd
    go_wp2_with (first | (go_at_call 23; refine A1.out.mono ?_; rintro e w1 ⟨rfl, k1⟩
                          have K1 := Lib.hid k1
                          clear k1
                          simp only []))
    go_ret
    exact ⟨rfl, K1.out⟩
theorem bars_are : Hid (1 ≤ [10, 0, 13].length ∧ [10, 0, 13].length ≤ 100 ∧ (∀ c ∈ [(10 : UInt8), 0, 13], c.toNat < 128) ∧ ∀ b, [(10 : UInt8), 0, 13].contains b = barB b) :=
  Lib.hid ⟨by decide, by decide, by decide, fun b => by simp only [List.contains_cons, List.contains_nil, barB, Bool.or_false]; cases (b == 10) <;> cases (b == 0) <;> simp⟩
theorem bads_are : Hid (1 ≤ [10, 0, 13, 34].length ∧ [10, 0, 13, 34].length ≤ 100 ∧ (∀ c ∈ [(10 : UInt8), 0, 13, 34], c.toNat < 128) ∧ ∀ b, [(10 : UInt8), 0, 13, 34].contains b = badB b) :=
  Lib.hid ⟨by decide, by decide, by decide, fun b => by simp only [List.contains_cons, List.contains_nil, badB, Bool.or_false]; cases (b == 10) <;> cases (b == 0) <;> simp⟩
theorem ends_are : Hid (1 ≤ [32, 9, 35].length ∧ [32, 9, 35].length ≤ 100 ∧ (∀ c ∈ [(32 : UInt8), 9, 35], c.toNat < 128) ∧ ∀ b, [(32 : UInt8), 9, 35].contains b = endB b) :=
  Lib.hid ⟨by decide, by decide, by decide, fun b => by simp only [List.contains_cons, List.contains_nil, endB, Bool.or_false, Bool.or_assoc]⟩

theorem parts_is (b : UInt8) (v : Bool) (w : World) (hv : Hid (endB b = v)) : Calls Tryd.prog 36 #[.int .u8 (b.toNat : Int)] w fun e w' => e = .returned (.bool v) ∧ w' = w := by
  have hd : decide ((0 : Int) ≤ Lib.indexByte [32, 9, 35] b) = v := by rw [← Lib.contains_iff_indexByte, ends_are.out.2.2.2 b, hv.out]
  have hbb : ((b.toNat : Int)).toNat.toUInt8 = b := by simp
  obtain ⟨z, hx⟩ : ∃ z, Lib.indexByte [32, 9, 35] b = z := ⟨_, rfl⟩
  have IB : Hid (∀ w, Calls Tryd.prog 40 #[.string ⟨[32, 9, 35].toArray⟩, .int .u8 (b.toNat : Int)] w fun e w' => e = .returned (.int .i64 z) ∧ w' = w) := Lib.hid (fun w => by
    have h := Tryd.strings_IndexByte ⟨[32, 9, 35].toArray⟩ (b.toNat : Int) w
    rw [hbb] at h
    rw [← hx]
    exact h)
  rw [hx] at hd
  clear hx hbb
  go_enter Tryd.func36, Tryd.ntmps36
  cases v
  · have hz := of_decide_eq_false hd
    clear hd
    go_wp2_with (first | (go_at_call 40; refine (IB.out _).mono ?_; rintro e w1 ⟨rfl, rfl⟩; simp only []))
    go_ret
    exact ⟨rfl, rfl⟩
  · have hz := of_decide_eq_true hd
    clear hd
    go_wp2_with (first | (go_at_call 40; refine (IB.out _).mono ?_; rintro e w1 ⟨rfl, rfl⟩; simp only []))
    go_ret
    exact ⟨rfl, rfl⟩

theorem trimGap_is (l r : List UInt8) (w : World) (hr : Hid (l.dropWhile gapB = r)) : Calls Tryd.prog 34 #[.string ⟨l.toArray⟩, .string ⟨[32, 9].toArray⟩] w fun e w' => e = .returned (.string ⟨r.toArray⟩) ∧ Below w.heap.size w w' := by
  have h := Any.strings_TrimLeft_laid Tryd.lays161 (by kernel_rfl) ⟨l.toArray⟩ ⟨[32, 9].toArray⟩ w (by decide) (fun j b hb => by
    have : b ∈ [(32 : UInt8), 9] := List.mem_of_getElem? hb
    clear hb
    revert this; revert b; decide)
  refine h.mono fun e w' ⟨h1, h2⟩ => ⟨?_, h2⟩
  rw [h1, ← hr.out]
  have : Lib.trimLeftS l [32, 9] = l.dropWhile gapB := by
    unfold Lib.trimLeftS
    congr 1
    funext b
    simp only [List.contains_cons, List.contains_nil, gapB, Bool.or_false]
  show Ending.returned (.string ⟨(Lib.trimLeftS l [32, 9]).toArray⟩) = _
  rw [this]
theorem hasHash_is (l : List UInt8) (v : Bool) (w : World) (hv : Hid (decide (l.head? = some 35) = v)) : Calls Tryd.prog 35 #[.string ⟨l.toArray⟩, .string ⟨[35].toArray⟩] w fun e w' => e = .returned (.bool v) ∧ w' = w := by
  refine (Tryd.strings_HasPrefix ⟨l.toArray⟩ ⟨[35].toArray⟩ w).mono fun e w' ⟨h1, h2⟩ => ⟨?_, h2⟩
  rw [h1, ← hv.out]
  show Ending.returned (.bool (Lib.hasPrefix l [35])) = _
  unfold Lib.hasPrefix
  cases l with
  | nil => rfl
  | cons c l =>
    congr 2
    by_cases h : c = 35
    · subst h; simp [List.isPrefixOf]
    · have : ((35 : UInt8) == c) = false := by simpa using fun e : 35 = c => h e.symm
      simp [List.isPrefixOf, this, h]

/-- A text's first line, what is behind it, and whether there is more. -/
def cutF : List UInt8 → List UInt8 × List UInt8 × Bool
  | [] => ([], [], false)
  | c :: l => if c == 10 then ([], l, true) else (c :: (cutF l).1, (cutF l).2)
theorem cutF_lib (s : List UInt8) : Lib.cut s [10] = cutF s := by
  have pre : ∀ (b : UInt8) (r : List UInt8), [10].isPrefixOf (b :: r) = (b == 10) := by
    intro b r
    by_cases h : b = 10
    · subst h; simp
    · have h1 : (b == 10) = false := by simpa using h
      have h2 : ((10 : UInt8) == b) = false := by simpa using fun e : 10 = b => h e.symm
      simp [List.isPrefixOf, h1, h2]
  induction s with
  | nil => simp [Lib.cut, Lib.index, cutF]
  | cons b r ih =>
    unfold Lib.cut at ih ⊢
    unfold Lib.index
    rw [pre]
    have ge := Lib.index_ge r [10]
    by_cases h : (b == 10) = true
    · rw [h]; simp [cutF, h]
    · simp only [h, Bool.false_eq_true, if_false, cutF]
      by_cases hx : Lib.index r [10] = -1
      · rw [hx] at ih ⊢
        rw [← ih]
        simp
      · have h1 : (Lib.index r [10] == -1) = false := by simp [hx]
        rw [if_pos (by omega)] at ih
        simp only [h1, Bool.false_eq_true, if_false]
        rw [if_pos (by omega), show (Lib.index r [10] + 1).toNat = (Lib.index r [10]).toNat + 1 by omega, ← ih]
        simp
theorem splitF_more {c : UInt8} {l x : List UInt8} {xs : List (List UInt8)} (h : ¬ (c == 10) = true) (hs : splitF l = x :: xs) : splitF (c :: l) = (c :: x) :: xs := by
  unfold splitF
  rw [if_neg h, hs]
theorem splitF_feed {c : UInt8} (l : List UInt8) (h : (c == 10) = true) : splitF (c :: l) = [] :: splitF l := by
  rw [splitF, if_pos h]
theorem splitF_cut (l : List UInt8) : splitF l = (cutF l).1 :: (if (cutF l).2.2 then splitF (cutF l).2.1 else []) := by
  induction l with
  | nil => rfl
  | cons c l ih =>
    have e2 : cutF (c :: l) = if c == 10 then ([], l, true) else (c :: (cutF l).1, (cutF l).2) := by rw [cutF]
    rw [e2]
    by_cases h : (c == 10) = true
    · rw [if_pos h, splitF_feed l h]; simp
    · rw [if_neg h, splitF_more h ih]
theorem cutF_len : ∀ l : List UInt8, (cutF l).1.length ≤ l.length ∧ (cutF l).2.1.length + (if (cutF l).2.2 then 1 else 0) ≤ l.length
  | [] => by simp [cutF]
  | c :: l => by
    have ih := cutF_len l
    unfold cutF
    by_cases h : (c == 10) = true
    · rw [if_pos h]; simp
    · rw [if_neg h]
      simp only [List.length_cons]
      omega

/-- The library's bound on short texts holds some number. -/
def MaxIs (w : World) : Prop := ∃ m : Int, w.cell? ⟨0, 0, none⟩ = some (.int .i64 m)
theorem MaxIs.lt {w : World} (h : MaxIs w) : 0 < w.heap.size := by obtain ⟨m, h⟩ := h; exact lxcell_lt h
theorem MaxIs.below {w w' : World} {B : Nat} (h : MaxIs w) (k : Below B w w') (hB : 0 < B) : MaxIs w' := by
  obtain ⟨m, h⟩ := h; exact ⟨m, by rw [k.cell hB]; exact h⟩
theorem MaxIs.next {w w' : World} (h : MaxIs w) (k : Below w.heap.size w w') : MaxIs w' := h.below k h.lt
theorem below_drews {B : Nat} {w W : World} (h : Below B w W) (n : Nat) : Below B w (W.drewN n) := h.trans ⟨rfl, rfl, rfl, Nat.le_refl _, fun _ _ => rfl⟩
theorem feedCut_is (s l r : List UInt8) (more : Bool) (w : World) (hs : s.length ≤ 1000000) (hm : MaxIs w) (hc : Hid (cutF s = (l, r, more))) :
    Calls Tryd.prog 39 #[.string ⟨s.toArray⟩, .string ⟨[10].toArray⟩] w fun e w' => e = .returned (.tuple #[.string ⟨l.toArray⟩, .string ⟨r.toArray⟩, .bool more]) ∧ Below w.heap.size w w' := by
  obtain ⟨m, hm⟩ := hm
  refine (Tryd.strings_Cut ⟨s.toArray⟩ ⟨[10].toArray⟩ m w (by rw [lxsize]; omega) hm).mono fun e w' ⟨h1, n, h2⟩ => ⟨?_, ?_⟩
  · rw [h1]
    show Ending.returned (.tuple #[.string ⟨(Lib.cut s [10]).1.toArray⟩, .string ⟨(Lib.cut s [10]).2.1.toArray⟩, .bool (Lib.cut s [10]).2.2]) = _
    rw [cutF_lib, hc.out]
  · rw [h2]; exact below_drews (Below.refl _ _) n
end Go.Proofs.YtomiopdmgdidnaaDoor
