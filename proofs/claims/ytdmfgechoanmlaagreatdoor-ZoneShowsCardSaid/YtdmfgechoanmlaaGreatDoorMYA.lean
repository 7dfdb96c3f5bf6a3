/- An argument that is an array of numbers, opened: which numbers it holds, each of 64 bits, whatever the program.
Plain facts on a listed variable that is an array, of structs or of strings: what its cells hold, if it reads as listed; no program is named.
What the listed tables give: if the variables read as the row lists them, the days ahead of months, and the marks of formats, read as they are laid; a world is named that meets that condition. -/
import Derived.WalkKit
import Derived.ProofKit
import Derived.OpenShut
import Derived.Below
import Derived.Lib.LaidTab
import Derived.ChangeArms
import Derived.HandedShaped
import Derived.Test.YtdmfgechoanmlaaGreatDoorRows
import Derived.Test.YtdmfgechoanmlaaGreatDoorMZD
import Derived.Test.YtdmfgechoanmlaaGreatDoorMZR
import Derived.Test.YtdmfgechoanmlaaGreatDoorMZQ
import Derived.ChangeMaps5
import Derived.LaidMore
import Derived.LaidLaws
import Derived.Stop.Joined
import Derived.Lay
import Derived.Lib.LaidU8T
import Derived.Shelf.Vars
namespace Go.Proofs.YtdmfgechoanmlaaGreatDoor
open Go.ChangeShapes Go.WideShapes Go.ChangeAt Go.RowKit

theorem wf_bd {n : Int} (h : (Lit.int .i64 n).wf = true) : -9223372036854775808 ≤ n ∧ n ≤ 9223372036854775807 := by
  simpa [Lit.wf, IntKind.min, IntKind.max, IntKind.bits, IntKind.signed] using h

section
variable {H : Type} {enc : TypeId × Value → H} {P : Program} {w : World} {base : Nat} {spare : Nat → Bool} {held : Bool}
theorem open_array_ints {r : Reach} {b0 : Nat} {t e : TypeId} {n : Nat} {v : Value} {d : DataW H} {p : List MemPlace} (ht : P.underlying t = some (.array n e)) (he : P.underlying e = some (.int .i64)) (hce : P.cellsOf e = 1) (hC : P.cellsOf t = n)
    (hv : Value.okWide P w r b0 t v) (h : DataW.Trod enc P w base spare held t v d p) :
    ∃ zs : List Int, zs.length = n ∧ v = .agg (zs.map (Value.int .i64)).toArray ∧ ∀ z ∈ zs, -9223372036854775808 ≤ z ∧ z ≤ 9223372036854775807 := by
  unfold Value.okWide at hv
  rw [ht] at hv
  obtain ⟨cs, rfl, hsz, _⟩ := hv
  obtain ⟨fuel, hf⟩ := h
  obtain ⟨xs, m, _, _, _, hxl, hel⟩ := DataW.trod_array ht hf
  rw [hC] at hsz
  have key : ∀ i (hi : i < n), ∃ a : Int, cs.toList[i]? = some (.int .i64 a) ∧ (Lit.int .i64 a).wf = true := by
    intro i hi
    have h1 := hel i hi
    rw [hce, Nat.mul_one] at h1
    have hl : i < cs.toList.length := by simpa using (show i < cs.size by omega)
    have h2 : ((Value.agg cs).cells.toList.drop i).take 1 = [cs.toList[i]] := by
      show (cs.toList.drop i).take 1 = _
      rw [List.drop_eq_getElem_cons hl]; rfl
    have hx : xs[i]? = some (xs[i]'(by omega)) := List.getElem?_eq_getElem (by omega)
    rw [h2, hx] at h1
    obtain ⟨a, e0, _, wa⟩ := DataW.trod_int he h1
    refine ⟨a, ?_, wa⟩
    rw [List.getElem?_eq_getElem hl]
    simpa using e0
  refine ⟨cs.toList.map intOf, by simp [hsz], ?_, ?_⟩
  · congr 1
    apply Array.toList_inj.1
    apply List.ext_getElem?
    intro i
    by_cases hi : i < n
    · obtain ⟨a, ha, _⟩ := key i hi
      simp [ha, intOf]
    · have hl : cs.toList.length ≤ i := by simpa using (show cs.size ≤ i by omega)
      rw [List.getElem?_eq_none hl, List.getElem?_eq_none (by simpa using hl)]
  · intro z hz
    obtain ⟨u, hu, rfl⟩ := List.mem_map.1 hz
    obtain ⟨i, hi, rfl⟩ := List.mem_iff_getElem.1 hu
    obtain ⟨a, ha, wa⟩ := key i (by simpa [hsz] using hi)
    rw [List.getElem?_eq_getElem hi] at ha
    have hz2 : cs.toList[i] = .int .i64 a := by simpa using ha
    rw [hz2]
    exact wf_bd wa
end
end Go.Proofs.YtdmfgechoanmlaaGreatDoor

namespace Go.Proofs.YtdmfgechoanmlaaGreatDoor
open Go

section
variable {H : Type} {enc : TypeId × Value → H} {P : Program} {w : World} {base : Nat} {sp : Nat → Bool} {held : Bool} {fuel : Nat} {t e : TypeId} {cs : List Value} {ds : List (DataW H)} {p : List MemPlace}

theorem arr_at {n c : Nat} (ht : P.underlying t = some (.array n e)) (hc : P.cellsOf e = c) (h : DataW.trod enc P w base sp held fuel t cs = some (.agg ds, p)) (i : Nat) (d : DataW H) (hi : i < n) (hd : ds[i]? = some d) :
    ∃ fuel' p', DataW.trod enc P w base sp held fuel' e ((cs.drop (i * c)).take c) = some (d, p') := by
  cases fuel with
  | zero => simp [DataW.trod] at h
  | succ fuel =>
    simp only [DataW.trod, ht, hc] at h
    split at h
    · obtain ⟨xs, hm, hx⟩ := Option.map_eq_some_iff.1 h
      have hxs : xs.map (·.1) = ds := by
        have := congrArg Prod.fst hx
        simpa using this
      obtain ⟨b, hb, hf⟩ := Lib.mapM_at hm i i (by simp [hi])
      have h2 : (xs.map (·.1))[i]? = some b.1 := by simp [hb]
      rw [hxs, hd] at h2
      obtain rfl := Option.some.inj h2
      exact ⟨fuel, b.2, hf⟩
    · cases h

theorem fld_at {fs : Array Field} (ht : P.underlying t = some (.struct fs)) (h : DataW.trod enc P w base sp held fuel t cs = some (.agg ds, p)) (j : Nat) (f : Field) (d : DataW H) (hf : fs[j]? = some f) (hd : ds[j]? = some d) :
    ∃ fuel' p', DataW.trod enc P w base sp held fuel' f.type ((cs.drop f.offset).take (P.cellsOf f.type)) = some (d, p') := by
  cases fuel with
  | zero => simp [DataW.trod] at h
  | succ fuel =>
    simp only [DataW.trod, ht] at h
    split at h
    · obtain ⟨xs, hm, hx⟩ := Option.map_eq_some_iff.1 h
      have hxs : xs.map (·.1) = ds := by
        have := congrArg Prod.fst hx
        simpa using this
      obtain ⟨b, hb, hf'⟩ := Lib.mapM_at hm j f (by simpa using hf)
      have h2 : (xs.map (·.1))[j]? = some b.1 := by simp [hb]
      rw [hxs, hd] at h2
      obtain rfl := Option.some.inj h2
      exact ⟨fuel, b.2, hf'⟩
    · cases h

theorem one_at {v : Value} {o : Nat} (h : (cs.drop o).take 1 = [v]) : cs[o]? = some v := by
  have := congrArg (·[0]?) h
  simpa [List.getElem?_take, List.getElem?_drop] using this

theorem int_at {k : IntKind} {z : Int} {o : Nat} (hu : P.underlying t = some (.int k)) (h : DataW.trod enc P w base sp held fuel t ((cs.drop o).take 1) = some (.lit (.int k z), p)) : cs[o]? = some (.int k z) := by
  obtain ⟨z', hc, e, _⟩ := DataW.trod_int hu h
  have : z' = z := by
    have := congrArg Prod.fst e
    simp only [DataW.lit.injEq, Lit.int.injEq, true_and] at this
    exact this.symm
  subst this
  exact one_at hc

theorem str_at {l : List UInt8} {o : Nat} (hu : P.underlying t = some .string) (h : DataW.trod enc P w base sp held fuel t ((cs.drop o).take 1) = some (.lit (.string l), p)) : cs[o]? = some (.string ⟨l.toArray⟩) := by
  obtain ⟨s, hc, e, _⟩ := DataW.trod_string hu h
  have : l = s.data.toList := by
    have := congrArg Prod.fst e
    simpa only [DataW.lit.injEq, Lit.string.injEq] using this
  subst this
  exact one_at hc

theorem take_at {v : Value} {a c o : Nat} (h : ((cs.drop a).take c)[o]? = some v) : cs[a + o]? = some v := by
  by_cases hc : o < c
  · simpa [List.getElem?_take, hc, List.getElem?_drop] using h
  · simp [List.getElem?_take, hc] at h

/-- An integer in a field of an array's struct; a string. -/
theorem ast_int {n c i j : Nat} {fs : Array Field} {f : Field} {k : IntKind} {z : Int} {es : List (DataW H)} (ht : P.underlying t = some (.array n e)) (hc : P.cellsOf e = c) (he : P.underlying e = some (.struct fs)) (hf : fs[j]? = some f)
    (hu : P.underlying f.type = some (.int k)) (h1 : P.cellsOf f.type = 1) (h : DataW.trod enc P w base sp held fuel t cs = some (.agg ds, p)) (hi : i < n) (hd : ds[i]? = some (.agg es)) (hz : es[j]? = some (.lit (.int k z))) :
    cs[i * c + f.offset]? = some (.int k z) := by
  obtain ⟨f1, p1, h2⟩ := arr_at ht hc h i _ hi hd
  obtain ⟨f2, p2, h3⟩ := fld_at he h2 j f _ hf hz
  rw [h1] at h3
  exact take_at (int_at hu h3)
theorem ast_str {n c i j : Nat} {fs : Array Field} {f : Field} {l : List UInt8} {es : List (DataW H)} (ht : P.underlying t = some (.array n e)) (hc : P.cellsOf e = c) (he : P.underlying e = some (.struct fs)) (hf : fs[j]? = some f)
    (hu : P.underlying f.type = some .string) (h1 : P.cellsOf f.type = 1) (h : DataW.trod enc P w base sp held fuel t cs = some (.agg ds, p)) (hi : i < n) (hd : ds[i]? = some (.agg es)) (hz : es[j]? = some (.lit (.string l))) :
    cs[i * c + f.offset]? = some (.string ⟨l.toArray⟩) := by
  obtain ⟨f1, p1, h2⟩ := arr_at ht hc h i _ hi hd
  obtain ⟨f2, p2, h3⟩ := fld_at he h2 j f _ hf hz
  rw [h1] at h3
  exact take_at (str_at hu h3)
/-- A string of an array of strings. -/
theorem ars_str {n i : Nat} {l : List UInt8} (ht : P.underlying t = some (.array n e)) (hc : P.cellsOf e = 1) (hu : P.underlying e = some .string) (h : DataW.trod enc P w base sp held fuel t cs = some (.agg ds, p)) (hi : i < n) (hd : ds[i]? = some (.lit (.string l))) :
    cs[i]? = some (.string ⟨l.toArray⟩) := by
  obtain ⟨f1, p1, h2⟩ := arr_at ht hc h i _ hi hd
  have := str_at hu h2
  rwa [Nat.mul_one] at this
end

/-- A law whose condition is the laid tables, the world's shape kept. -/
theorem handed_shaped {H : Type} {enc : TypeId × Value → H} {a : Assume} {C : Checked} {os : Os} {f : FuncId} {fn : Func} {s : ChangeSpec} {conds : List PathCond} {apart fresh handsOn again : Bool} {X : World → Array Value → Prop}
    (hX : ∀ (w w' : World) (args : Array Value), w.heap = w'.heap → X w args → X w' args)
    (own : ownKnob C.prog.godebug = none) (started : os.Started) (noInit : C.prog.inits.idxOf? f = none) (hfn : C.prog.funcs[f]? = some fn)
    (witness : ∃ (w : World) (tape : Tape) (i : Input), w.os = os ∧ (w.forCall tape i).Shaped C.prog ∧ i.vars = [] ∧ Input.okWide C.prog (w.forCall tape i) .any w.heap.size f i ∧
      ((s.pre enc C.prog fn conds apart (w.forCall tape i).memory i.args ∧ X (w.forCall tape i).memory i.args) ∧ sizedMet enc C.prog fn (OpenSpec.ofChange s) apart (w.forCall tape i).memory i.args) ∧ a.holds C.prog (lone (Frame.enter C.prog f i.args .normal) [] (w.forCall tape i)))
    (contract : ∀ (W : World) (base : Nat) (args : Array Value) (ds gs : List (DataW H)) (before : List MemPlace),
      (∀ (j : Nat) t v, fn.params[j]? = some t → args[j]? = some v → Value.okWide C.prog W .any base t v) →
      DataW.Whole enc C.prog fn.params.toList s.vars apart W args.toList ds gs before →
      W.ShapedOpen C.prog → X W args →
      Calls C.prog f args W fun e W' => ∃ v, e = .returned v ∧ s.post enc C.prog fn apart fresh handsOn again W args v W') :
    ReturnsInHanded a C os f .any (fun w args => (s.pre enc C.prog fn conds apart w args ∧ X w args) ∧ sizedMet enc C.prog fn (OpenSpec.ofChange s) apart w args) (s.post enc C.prog fn apart fresh handsOn again) := by
  refine returnsInHanded_of_calls own started noInit witness ?_
  intro w tape i _ hsh _ hok hpre _
  obtain ⟨_, _, _, fn', hfn', _, _, _, _, hval⟩ := hok
  have e : fn' = fn := Option.some.inj (hfn'.symm.trans hfn)
  subst e
  obtain ⟨⟨⟨ds, gs, before, hw, _⟩, hx⟩, _⟩ := hpre
  have hw' := DataW.Whole.of_heap (w' := w.forCall tape i) (by rfl) hw
  refine (contract (w.forCall tape i) w.heap.size i.args ds gs before hval hw' hsh (hX _ _ _ (by rfl) hx)).mono fun e W' ⟨v, he, hp⟩ => ?_
  subst he
  exact ChangeSpec.post_blind hp
end Go.Proofs.YtdmfgechoanmlaaGreatDoor

namespace Go.Proofs.YtdmfgechoanmlaaGreatDoor
open Go.ChangeShapes Go.WideShapes Go.ChangeAt Go.RowKit

theorem own : ownKnob Tryz.prog.godebug = none := by kernel_rfl
theorem laidOut : laidOutB Tryz.prog = true := by kernel_rfl
structure LaidZ (w : World) : Prop where
  f : LaidF w
  b : LaidB w
theorem LaidZ.next {w w' : World} (h : LaidZ w) (k : Below w.heap.size w w') : LaidZ w' := ⟨h.f.next k, h.b.next k⟩
def laidZ : List (String × DataW Unit) := [("meridian/civil.ahead", Rows.laid_meridian_civil_ahead), ("meridian/abbr.marks", Rows.laid_meridian_abbr_marks)]
open Go.Lib
def fahTab : List Int := [0, 31, 59, 90, 120, 151, 181, 212, 243, 273, 304, 334, 365]
theorem fahTab_at (m : Int) (h1 : 1 ≤ m) (h2 : m ≤ 13) : fahTab.getD (m.toNat - 1) 0 = ah m := by
  obtain rfl | rfl | rfl | rfl | rfl | rfl | rfl | rfl | rfl | rfl | rfl | rfl | rfl : m = 1 ∨ m = 2 ∨ m = 3 ∨ m = 4 ∨ m = 5 ∨ m = 6 ∨ m = 7 ∨ m = 8 ∨ m = 9 ∨ m = 10 ∨ m = 11 ∨ m = 12 ∨ m = 13 := by omega
  all_goals decide
theorem fah_of {W : World} (h : VarReads Tryz.prog W "meridian/civil.ahead" Rows.laid_meridian_civil_ahead) : AhAt W := by
  have hg : Tryz.prog.globalNamed "meridian/civil.ahead" = some 2 := by kernel_rfl
  obtain ⟨g, t, cs, f, p, h1, h2, h3, h4⟩ := h
  obtain rfl := Option.some.inj (hg.symm.trans h1)
  obtain rfl := Option.some.inj ((show (Tryz.prog.globals[2]?).map (·.type) = some 219 by kernel_rfl).symm.trans h2)
  have e3 : Lib.TabIs Tryz.prog W "meridian/civil.ahead" .i64 fahTab := by
    unfold Lib.TabIs
    rw [h3, ← Lib.cells_of_tab Tryz.underlying219 Tryz.underlying3 (by kernel_rfl) (by kernel_rfl) (show DataW.trod _ _ _ _ _ _ _ _ _ = some (Lib.tabData .i64 fahTab, _) from h4)]
  intro m m1 m2
  rw [e3.cell hg (m.toNat - 1) (by show m.toNat - 1 < 13; omega), fahTab_at m m1 m2]
theorem marks_of {W : World} (h : VarReads Tryz.prog W "meridian/abbr.marks" Rows.laid_meridian_abbr_marks) : ListAt 0 marksL W := by
  have hg : Tryz.prog.globalNamed "meridian/abbr.marks" = some 0 := by kernel_rfl
  obtain ⟨g', t', cs, f, p, h1, h2, h3, h4⟩ := h
  obtain rfl := Option.some.inj (hg.symm.trans h1)
  obtain rfl := Option.some.inj ((show (Tryz.prog.globals[0]?).map (·.type) = some 153 by kernel_rfl).symm.trans h2)
  have key : ∀ i q, marksL[i]? = some q → W.cell? ⟨0, i, none⟩ = some (.string ⟨q.toArray⟩) := by
    intro i q hq
    have hi : i < 4 := (List.getElem?_eq_some_iff.1 hq).1
    rw [World.var?_cell hg h3]
    have := ars_str (i := i) (l := q) Tryz.underlying153 (by kernel_rfl) Tryz.underlying9 (show DataW.trod _ _ _ _ _ _ _ _ _ = some (.agg (marksL.map fun p => .lit (.string p)), _) from h4) hi (by rw [List.getElem?_map, hq]; rfl)
    simpa using this
  exact ⟨wcell_lt (key 0 [] rfl), key⟩
theorem max_of {W : World} (h : W.ShapedOpen Tryz.prog) : MaxB W :=
  cell_of_shapedOpen_int h (by decide +kernel) (zero := #[.int .i64 0]) (t := 3) (by kernel_rfl) rfl (by kernel_rfl) (by kernel_rfl) Tryz.underlying3
theorem of_laidZ {W : World} (h : laidMetH Tryz.prog laidZ W) (hs : W.ShapedOpen Tryz.prog) : LaidZ W := by
  rw [MakeChecks.laidMetH_plain _ _ _ (by kernel_rfl)] at h
  have r : ∀ n d, (n, d) ∈ laidZ → VarReads Tryz.prog W n d := fun n d m => laidMet.reads h m
  exact ⟨{ ah := fah_of (r _ _ (by simp [laidZ])) }, ⟨marks_of (r _ _ (by simp [laidZ])), max_of hs⟩⟩
set_option maxRecDepth 100000 in
theorem metZ (os : Os) (args : Array Value) : laidMetH Tryz.prog laidZ ((World.laidAll Tryz.prog os laidZ).forCall (fun _ _ => 0) ⟨#[], args, []⟩).memory := by
  rw [MakeChecks.laidMetH_plain _ _ _ (by kernel_rfl)]
  exact laidMet_laidAll _ (by kernel_rfl) (by kernel_rfl)
set_option maxRecDepth 100000 in
theorem shapedZ (os : Os) : (World.laidAll Tryz.prog os laidZ).Shaped Tryz.prog := World.shaped_of_ZipB (by kernel_rfl) (by kernel_rfl)
/-- The world's shape is that of its heap. -/
theorem shaped_heap {P : Program} {w w' : World} (hh : w.heap = w'.heap) (h : w.Shaped P) : w'.Shaped P := by
  refine ⟨fun g zero t hg hz => ?_, fun k hk1 hk2 => hh ▸ h.2 k hk1 hk2⟩
  obtain ⟨cs, h1, h2, h3⟩ := h.1 g zero t hg hz
  exact ⟨cs, hh ▸ h1, h2, fun hb => Row.ok_of_shape (fun b x hx => by simpa [World.shape?, ← hh] using hx) (h3 hb)⟩
theorem shaped_call {P : Program} {w : World} {t : Tape} {args : Array Value} (h : w.Shaped P) : (w.forCall t ⟨#[], args, []⟩).Shaped P :=
  shaped_heap (by simp [World.forCall, Input.heap]) h
end Go.Proofs.YtdmfgechoanmlaaGreatDoor
