/- The contracts of a builder of texts as lexer.Join uses it (a fresh one, or one that has been written), of Join's closure, and of lexer.Join; nothing that was in memory changes. -/
import Derived.Lib.Builder
import Derived.Lib.AppendStr
import Derived.Lib.UnsafeStr
import Derived.Lib.Walk
import Derived.Laws.Externs
import Derived.Test.YtomiopdmgdidnaaDoorLxC
namespace Go.Proofs.YtomiopdmgdidnaaDoor
open Go.RowKit Go.Shelf
attribute [local go_sem] Oper.semAt_some

theorem lxbuild_size : (Tryd.prog.info? 48).map (·.size) = some 2 := by kernel_rfl
theorem lxbuild_lies : liesAt Tryd.prog Tryd.prog.depth 48 (2 / Tryd.prog.cellsOf 48) 0 48 1 = true := by kernel_rfl

abbrev Bld (B b : Nat) (l : List UInt8) (w : World) : Prop := Lib.IsBuilder 48 5 B b (ycl l) w

set_option maxHeartbeats 1000000 in
theorem check_used (b : Nat) (w : World) (h0 : w.cell? ⟨b, 0, none⟩ = some (.pointer (some ⟨b, 0, none⟩))) :
    Calls Tryd.prog 27 #[.pointer (some ⟨b, 0, none⟩)] w fun e w' => e = .returned (.tuple #[]) ∧ w' = w := by
  obtain ⟨j, hj, _⟩ := Option.map_eq_some_iff.1 lxbuild_size
  have same := Lib.run_neq_ptr_same (P := Tryd.prog) w (tp := 45) ⟨b, 0, none⟩ Tryd.underlying45 hj
  go_enter Tryd.func27, Tryd.ntmps27
  go_wp2
  go_end0
  exact ⟨rfl, rfl⟩

set_option maxHeartbeats 1000000 in
theorem check_fresh (b : Nat) (w : World) (h0 : w.cell? ⟨b, 0, none⟩ = some (.pointer none)) (hsh : w.shape? b = some (48, 2)) (hfz : w.frozen? ⟨b, 0, none⟩ = false) :
    Calls Tryd.prog 27 #[.pointer (some ⟨b, 0, none⟩)] w fun e w' => e = .returned (.tuple #[]) ∧ w' = w.setCell ⟨b, 0, none⟩ (.pointer (some ⟨b, 0, none⟩)) := by
  obtain ⟨j, hj, hjs⟩ := Option.map_eq_some_iff.1 lxbuild_size
  have toU := Lib.run_to_unsafe (P := Tryd.prog) w (src := 45) (dst := 75) ⟨b, 0, none⟩ Tryd.underlying45 Tryd.underlying75 hj (by rw [hjs]; decide) hsh (Nat.zero_lt_succ 1)
  have ofU := Lib.run_from_unsafe (P := Tryd.prog) w (src := 75) (dst := 45) ⟨b, 0, none⟩ Tryd.underlying75 Tryd.underlying45 hj hsh lxbuild_lies
  go_enter Tryd.func27, Tryd.ntmps27
  go_wp2
  rw [run_callFunc_extern Tryd.func37 (by kernel_rfl) (by kernel_rfl) (by kernel_rfl) (e := Extern.AbiNoEscape.same) (by kernel_rfl), Lib.run_noEscape]
  simp only [Result.andThen]
  rw [Oper.upon_value]
  go_wp2
  go_end0
  exact ⟨rfl, rfl⟩

theorem check_any (B b : Nat) (l : List UInt8) (w : World) (h : Bld B b l w) :
    Calls Tryd.prog 27 #[.pointer (some ⟨b, 0, none⟩)] w fun e w' => e = .returned (.tuple #[]) ∧ Lib.BuilderAt 48 5 B b (.pointer (some ⟨b, 0, none⟩)) (ycl l) w' ∧ Below B w w' := by
  rcases h with h | h
  · exact (check_fresh b w h.cell0 h.shape h.frozen0).mono fun e w' ⟨h1, h2⟩ => ⟨h1, by rw [h2]; exact h.used _, by rw [h2]; exact (Below.refl B w).setCell (p := ⟨b, 0, none⟩) h.1 _⟩
  · exact (check_used b w h.cell0).mono fun e w' ⟨h1, h2⟩ => ⟨h1, by rw [h2]; exact h, by rw [h2]; exact Below.refl B w⟩

theorem strCells_list (s : List UInt8) : Lib.strCells ⟨s.toArray⟩ = ycl s := by simp [Lib.strCells, ycl]

set_option maxHeartbeats 2000000 in
theorem writeStr_any (B b : Nat) (l s : List UInt8) (w : World) (h : Bld B b l w) (hl : l.length ≤ 1000000) (hs : s.length ≤ 1000000) (hB : B ≤ w.heap.size) :
    Calls Tryd.prog 20 #[.pointer (some ⟨b, 0, none⟩), .string ⟨s.toArray⟩] w fun e w' => e = .returned (.tuple #[.int .i64 (s.length : Int), .nilIface]) ∧ Bld B b (l ++ s) w' ∧ Below B w w' := by
  obtain ⟨i0, hi, hz0, hz1, hz2⟩ := info_parts lxu_info
  have CK := Lib.hid (check_any B b l w h)
  have hz := lxsize s
  clear h
  go_enter Tryd.func20, Tryd.ntmps20
  go_wp2_with (first
    | (go_at_call 27; refine CK.out.mono ?_
       rintro e w1 ⟨rfl, ⟨hbB, v, hbk, hown, hne⟩, k1⟩
       have hs1 := k1.size
       have cA := Lib.cell_of_heap hbk 0
       have cB := Lib.cell_of_heap hbk 1
       have bl := (Array.getElem?_eq_some_iff.1 hbk).1
       have HBK := Lib.hid hbk
       have HOW := Lib.hid hown
       have HNE := Lib.hid hne
       have K1 := Lib.hid k1
       clear hbk hown hne k1
       simp only [])
    | (at_builtin
       refine Lib.wpList_append_own_string _ rfl _ _ 46 9 rfl B 5 i0 Tryd.underlying46 Tryd.underlying9 hi hz0 hz1 hz2 _ _ _ rfl HOW.out ⟨s.toArray⟩ rfl (by rw [ycl_len, hz]; unfold maxLen; omega) (by rw [ycl_len, hz]; omega) (by omega) ?_
       intro v' w2 hown' hgrow _
       have hb2 : w2.heap[b]? = some (.cells #[.pointer (some ⟨b, 0, none⟩), v] 48 (0, 0)) := (hgrow.block b bl (fun e => HNE.out e.symm)).trans HBK.out
       have dA := Lib.cell_of_heap hb2 0
       have dB := Lib.cell_of_heap hb2 1
       have fB := Lib.frozen_of_heap hb2 1
       have HB2 := Lib.hid hb2
       have HO2 := Lib.hid hown'
       have HG := Lib.hid hgrow
       obtain ⟨ao, n', cap, rfl⟩ : ∃ ao n' cap, v' = .slice ao n' cap := by
         rcases hown'.2 with ⟨hv, _⟩ | ⟨g, cap, cur, hv, _⟩
         · exact ⟨_, _, _, hv⟩
         · exact ⟨_, _, _, hv⟩
       clear hb2 hown' hgrow))
  go_ret2
  have HO3 := HO2.out
  rw [strCells_list, ← ycl_app, ycl_len, hz, show l.length + s.length = (ycl (l ++ s)).length by simp [ycl_len]] at HO3
  exact ⟨rfl, .inr (Lib.BuilderAt.put hbB HB2.out HO3 (by decide)), (K1.out.grown HG.out (by omega) (fun k hk => (HOW.out.lt k hk).1)).setCell (p := ⟨b, 1, none⟩) hbB _⟩
theorem byteCells_ycl (l : List UInt8) : Lib.byteCells l = ycl l := by simp [Lib.byteCells, ycl]
theorem bldText_any (B b : Nat) (l : List UInt8) (w : World) (h : Bld B b l w) (hB : B ≤ w.heap.size) :
    Calls Tryd.prog 21 #[.pointer (some ⟨b, 0, none⟩)] w fun e w' => e = .returned (.string ⟨l.toArray⟩) ∧ Below B w w' :=
  Tryd.Builder_String_any B b l w (by rw [byteCells_ycl]; exact h) hB
theorem Bld.next {B b : Nat} {l : List UInt8} {w w' : World} (h : Bld B b l w) (k : Below w.heap.size w w') : Bld B b l w' := by
  have go : ∀ p, Lib.BuilderAt 48 5 B b p (ycl l) w → Lib.BuilderAt 48 5 B b p (ycl l) w' := fun p ⟨h1, v, h2, h3, h4⟩ =>
    ⟨h1, v, (k.block b (Array.getElem?_eq_some_iff.1 h2).1).trans h2, lxown_keep h3 k, h4⟩
  exact h.elim (fun x => .inl (go _ x)) (fun x => .inr (go _ x))
theorem Bld.new (w : World) : Bld w.heap.size w.heap.size [] (w.alloc (.cells #[.pointer none, .slice none 0 0] 48)) := Lib.fresh_isBuilder _ _ w

/-- Join's closure. -/
theorem inQuotes_is (p : List UInt8) (v : Bool) (w : World) (hp : p.length ≤ 1000) (hv : Hid (needQ p = v)) :
    Calls Tryd.prog 19 #[.string ⟨p.toArray⟩] w fun e w' => e = .returned (.bool v) ∧ Below w.heap.size w w' := by
  obtain ⟨u, hu⟩ : ∃ u, p.any endB = u := ⟨_, rfl⟩
  have CA := Lib.hid (fun W => conAny_is p [32, 9, 35] endB u W (by omega) ends_are (Lib.hid hu))
  by_cases h0 : p = []
  · have hvt : v = true := by rw [← hv.out, h0]; rfl
    subst hvt h0
    go_enter Tryd.func19, Tryd.ntmps19
    go_wp2
    go_ret
    exact ⟨rfl, Below.refl _ _⟩
  · have he : p.isEmpty = false := by cases p <;> simp_all
    have hvu : v = u := by rw [← hv.out, ← hu]; unfold needQ; rw [he, Bool.false_or]
    subst hvu
    clear h0 hu
    go_enter Tryd.func19, Tryd.ntmps19
    go_wp2_with (first
      | (go_at_call 17; refine (CA.out _).mono ?_; rintro e w1 ⟨rfl, k1⟩
         have K1 := Lib.hid k1
         clear k1
         simp only []))
    go_ret
    exact ⟨rfl, K1.out⟩
end Go.Proofs.YtomiopdmgdidnaaDoor
