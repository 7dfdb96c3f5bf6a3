/- Plain facts on a listed variable that is an array, of structs or of strings: what its cells hold, if it reads as listed; no program is named.
What the listed tables give package lines: if the variables read as the rows list them, the tables read as they are laid; worlds are named that meet that condition; slices of texts, rules, eras and links as arguments, opened. Written by wip/tools/genlno.py. -/
import Derived.Lib.LaidTab
import Derived.ChangeArms
import Derived.HandedShaped
import Derived.Test.YtfmehdophoejiaaGreatDoorRows
import Derived.Test.YtfmehdophoejiaaGreatDoorMN
import Derived.Test.YtfmehdophoejiaaGreatDoorMI
import Derived.ProofKit
import Derived.LaidMore
import Derived.LaidLaws
import Derived.OpenShut
import Derived.Stop.Joined
import Derived.SliceStrings
import Derived.ChangeMaps5
import Derived.Lib.LaidU8T
import Derived.Lib.LaidCase
import Derived.PinnedBridge
import Derived.Lay
namespace Go.Proofs.YtfmehdophoejiaaGreatDoor
open Go

section
variable {H : Type} {enc : TypeId × Value → H} {P : Program} {w : World} {base : Nat} {sp : Nat → Bool} {held : Bool} {fuel : Nat} {t e : TypeId} {cs : List Value} {ds : List (DataW H)} {p : List MemPlace}

theorem arr_at {n c : Nat} (ht : P.underlying t = some (.array n e)) (hc : P.cellsOf e = c) (h : DataW.trod enc P w base sp held fuel t cs = some (.agg ds, p)) (i : Nat) (d : DataW H) (hi : i < n) (hd : ds[i]? = some d) :
    ∃ fuel' p', DataW.trod enc P w base sp held fuel' e ((cs.drop (i * c)).take c) = some (d, p') := by
  cases fuel with
  | zero => simp [DataW.trod] at h
  | succ fuel =>
    simp only [DataW.trod, ht, hc] at h
    split at h
    · obtain ⟨xs, hm, hx⟩ := Option.map_eq_some_iff.1 h
      have hxs : xs.map (·.1) = ds := by
        have := congrArg Prod.fst hx
        simpa using this
      obtain ⟨b, hb, hf⟩ := Lib.mapM_at hm i i (by simp [hi])
      have h2 : (xs.map (·.1))[i]? = some b.1 := by simp [hb]
      rw [hxs, hd] at h2
      obtain rfl := Option.some.inj h2
      exact ⟨fuel, b.2, hf⟩
    · cases h

theorem fld_at {fs : Array Field} (ht : P.underlying t = some (.struct fs)) (h : DataW.trod enc P w base sp held fuel t cs = some (.agg ds, p)) (j : Nat) (f : Field) (d : DataW H) (hf : fs[j]? = some f) (hd : ds[j]? = some d) :
    ∃ fuel' p', DataW.trod enc P w base sp held fuel' f.type ((cs.drop f.offset).take (P.cellsOf f.type)) = some (d, p') := by
  cases fuel with
  | zero => simp [DataW.trod] at h
  | succ fuel =>
    simp only [DataW.trod, ht] at h
    split at h
    · obtain ⟨xs, hm, hx⟩ := Option.map_eq_some_iff.1 h
      have hxs : xs.map (·.1) = ds := by
        have := congrArg Prod.fst hx
        simpa using this
      obtain ⟨b, hb, hf'⟩ := Lib.mapM_at hm j f (by simpa using hf)
      have h2 : (xs.map (·.1))[j]? = some b.1 := by simp [hb]
      rw [hxs, hd] at h2
      obtain rfl := Option.some.inj h2
      exact ⟨fuel, b.2, hf'⟩
    · cases h

theorem one_at {v : Value} {o : Nat} (h : (cs.drop o).take 1 = [v]) : cs[o]? = some v := by
  have := congrArg (·[0]?) h
  simpa [List.getElem?_take, List.getElem?_drop] using this

theorem int_at {k : IntKind} {z : Int} {o : Nat} (hu : P.underlying t = some (.int k)) (h : DataW.trod enc P w base sp held fuel t ((cs.drop o).take 1) = some (.lit (.int k z), p)) : cs[o]? = some (.int k z) := by
  obtain ⟨z', hc, e, _⟩ := DataW.trod_int hu h
  have : z' = z := by
    have := congrArg Prod.fst e
    simp only [DataW.lit.injEq, Lit.int.injEq, true_and] at this
    exact this.symm
  subst this
  exact one_at hc

theorem str_at {l : List UInt8} {o : Nat} (hu : P.underlying t = some .string) (h : DataW.trod enc P w base sp held fuel t ((cs.drop o).take 1) = some (.lit (.string l), p)) : cs[o]? = some (.string ⟨l.toArray⟩) := by
  obtain ⟨s, hc, e, _⟩ := DataW.trod_string hu h
  have : l = s.data.toList := by
    have := congrArg Prod.fst e
    simpa only [DataW.lit.injEq, Lit.string.injEq] using this
  subst this
  exact one_at hc

theorem take_at {v : Value} {a c o : Nat} (h : ((cs.drop a).take c)[o]? = some v) : cs[a + o]? = some v := by
  by_cases hc : o < c
  · simpa [List.getElem?_take, hc, List.getElem?_drop] using h
  · simp [List.getElem?_take, hc] at h

/-- An integer in a field of an array's struct; a string. -/
theorem ast_int {n c i j : Nat} {fs : Array Field} {f : Field} {k : IntKind} {z : Int} {es : List (DataW H)} (ht : P.underlying t = some (.array n e)) (hc : P.cellsOf e = c) (he : P.underlying e = some (.struct fs)) (hf : fs[j]? = some f)
    (hu : P.underlying f.type = some (.int k)) (h1 : P.cellsOf f.type = 1) (h : DataW.trod enc P w base sp held fuel t cs = some (.agg ds, p)) (hi : i < n) (hd : ds[i]? = some (.agg es)) (hz : es[j]? = some (.lit (.int k z))) :
    cs[i * c + f.offset]? = some (.int k z) := by
  obtain ⟨f1, p1, h2⟩ := arr_at ht hc h i _ hi hd
  obtain ⟨f2, p2, h3⟩ := fld_at he h2 j f _ hf hz
  rw [h1] at h3
  exact take_at (int_at hu h3)
theorem ast_str {n c i j : Nat} {fs : Array Field} {f : Field} {l : List UInt8} {es : List (DataW H)} (ht : P.underlying t = some (.array n e)) (hc : P.cellsOf e = c) (he : P.underlying e = some (.struct fs)) (hf : fs[j]? = some f)
    (hu : P.underlying f.type = some .string) (h1 : P.cellsOf f.type = 1) (h : DataW.trod enc P w base sp held fuel t cs = some (.agg ds, p)) (hi : i < n) (hd : ds[i]? = some (.agg es)) (hz : es[j]? = some (.lit (.string l))) :
    cs[i * c + f.offset]? = some (.string ⟨l.toArray⟩) := by
  obtain ⟨f1, p1, h2⟩ := arr_at ht hc h i _ hi hd
  obtain ⟨f2, p2, h3⟩ := fld_at he h2 j f _ hf hz
  rw [h1] at h3
  exact take_at (str_at hu h3)
/-- A string of an array of strings. -/
theorem ars_str {n i : Nat} {l : List UInt8} (ht : P.underlying t = some (.array n e)) (hc : P.cellsOf e = 1) (hu : P.underlying e = some .string) (h : DataW.trod enc P w base sp held fuel t cs = some (.agg ds, p)) (hi : i < n) (hd : ds[i]? = some (.lit (.string l))) :
    cs[i]? = some (.string ⟨l.toArray⟩) := by
  obtain ⟨f1, p1, h2⟩ := arr_at ht hc h i _ hi hd
  have := str_at hu h2
  rwa [Nat.mul_one] at this
end

/-- A law whose condition is the laid tables, the world's shape kept. -/
theorem handed_shaped {H : Type} {enc : TypeId × Value → H} {a : Assume} {C : Checked} {os : Os} {f : FuncId} {fn : Func} {s : ChangeSpec} {conds : List PathCond} {apart fresh handsOn again : Bool} {X : World → Array Value → Prop}
    (hX : ∀ (w w' : World) (args : Array Value), w.heap = w'.heap → X w args → X w' args)
    (own : ownKnob C.prog.godebug = none) (started : os.Started) (noInit : C.prog.inits.idxOf? f = none) (hfn : C.prog.funcs[f]? = some fn)
    (witness : ∃ (w : World) (tape : Tape) (i : Input), w.os = os ∧ (w.forCall tape i).Shaped C.prog ∧ i.vars = [] ∧ Input.okWide C.prog (w.forCall tape i) .any w.heap.size f i ∧
      ((s.pre enc C.prog fn conds apart (w.forCall tape i).memory i.args ∧ X (w.forCall tape i).memory i.args) ∧ sizedMet enc C.prog fn (OpenSpec.ofChange s) apart (w.forCall tape i).memory i.args) ∧ a.holds C.prog (lone (Frame.enter C.prog f i.args .normal) [] (w.forCall tape i)))
    (contract : ∀ (W : World) (base : Nat) (args : Array Value) (ds gs : List (DataW H)) (before : List MemPlace),
      (∀ (j : Nat) t v, fn.params[j]? = some t → args[j]? = some v → Value.okWide C.prog W .any base t v) →
      DataW.Whole enc C.prog fn.params.toList s.vars apart W args.toList ds gs before →
      W.ShapedOpen C.prog → X W args →
      Calls C.prog f args W fun e W' => ∃ v, e = .returned v ∧ s.post enc C.prog fn apart fresh handsOn again W args v W') :
    ReturnsInHanded a C os f .any (fun w args => (s.pre enc C.prog fn conds apart w args ∧ X w args) ∧ sizedMet enc C.prog fn (OpenSpec.ofChange s) apart w args) (s.post enc C.prog fn apart fresh handsOn again) := by
  refine returnsInHanded_of_calls own started noInit witness ?_
  intro w tape i _ hsh _ hok hpre _
  obtain ⟨_, _, _, fn', hfn', _, _, _, _, hval⟩ := hok
  have e : fn' = fn := Option.some.inj (hfn'.symm.trans hfn)
  subst e
  obtain ⟨⟨⟨ds, gs, before, hw, _⟩, hx⟩, _⟩ := hpre
  have hw' := DataW.Whole.of_heap (w' := w.forCall tape i) (by rfl) hw
  refine (contract (w.forCall tape i) w.heap.size i.args ds gs before hval hw' hsh (hX _ _ _ (by rfl) hx)).mono fun e W' ⟨v, he, hp⟩ => ?_
  subst he
  exact ChangeSpec.post_blind hp
end Go.Proofs.YtfmehdophoejiaaGreatDoor

namespace Go.Proofs.YtfmehdophoejiaaGreatDoor
open Go.ChangeShapes Go.WideShapes Go.ChangeAt Go.RowKit

theorem own : ownKnob Tryz.prog.godebug = none := by kernel_rfl
theorem laidOut : laidOutB Tryz.prog = true := by kernel_rfl

def laidN : List (String × DataW Unit) := [("math/bits.deBruijn32tab", Rows.laid_math_bits_deBruijn32tab), ("math/bits.deBruijn64tab", Rows.laid_math_bits_deBruijn64tab), ("internal/strconv.uint64pow10", Rows.laid_internal_strconv_uint64pow10), ("unicode/utf8.acceptRanges", Rows.laid_unicode_utf8_acceptRanges), ("strconv.ErrRange", Rows.laid_strconv_ErrRange), ("strconv.ErrSyntax", Rows.laid_strconv_ErrSyntax), ("meridian/clock.fields", Rows.laid_meridian_clock_fields), ("meridian/clock.letters", Rows.laid_meridian_clock_letters), ("meridian/words.kinds", Rows.laid_meridian_words_kinds), ("meridian/words.months", Rows.laid_meridian_words_months), ("meridian/words.weekdays", Rows.laid_meridian_words_weekdays), ("meridian/words.ends", Rows.laid_meridian_words_ends), ("meridian/dayform.signs", Rows.laid_meridian_dayform_signs), ("unicode.CaseRanges", Rows.laid_unicode_CaseRanges), ("unicode/utf8.first", Rows.laid_unicode_utf8_first)]
def laidM : List (String × DataW Unit) := [("math/bits.deBruijn32tab", Rows.laid_math_bits_deBruijn32tab), ("math/bits.deBruijn64tab", Rows.laid_math_bits_deBruijn64tab), ("internal/strconv.uint64pow10", Rows.laid_internal_strconv_uint64pow10), ("unicode/utf8.acceptRanges", Rows.laid_unicode_utf8_acceptRanges), ("strconv.ErrRange", Rows.laid_strconv_ErrRange), ("strconv.ErrSyntax", Rows.laid_strconv_ErrSyntax), ("meridian/clock.fields", Rows.laid_meridian_clock_fields), ("meridian/clock.letters", Rows.laid_meridian_clock_letters), ("meridian/clock.marks", Rows.laid_meridian_clock_marks), ("meridian/words.kinds", Rows.laid_meridian_words_kinds), ("meridian/words.months", Rows.laid_meridian_words_months), ("meridian/words.weekdays", Rows.laid_meridian_words_weekdays), ("meridian/words.ends", Rows.laid_meridian_words_ends), ("meridian/dayform.signs", Rows.laid_meridian_dayform_signs), ("unicode.CaseRanges", Rows.laid_unicode_CaseRanges), ("unicode/utf8.first", Rows.laid_unicode_utf8_first)]

theorem laid_fore : ∀ x ∈ laidN, x ∈ laidM := by simp [laidN, laidM]

open Go.Lib in
theorem flist_of {W : World} {name : String} {g n : Nat} {t : TypeId} {ws : List (List UInt8)} (hg : Tryz.prog.globalNamed name = some g) (ht : (Tryz.prog.globals[g]?).map (·.type) = some t) (hu : Tryz.prog.underlying t = some (.array n 9)) (hl : ws.length = n) (h0 : 0 < n)
    (h : VarReads Tryz.prog W name (.agg (ws.map fun p => .lit (.string p)))) : ListAt g ws W := by
  obtain ⟨g', t', cs, f, p, h1, h2, h3, h4⟩ := h
  obtain rfl := Option.some.inj (hg.symm.trans h1)
  obtain rfl := Option.some.inj (ht.symm.trans h2)
  have key : ∀ i q, ws[i]? = some q → W.cell? ⟨g, i, none⟩ = some (.string ⟨q.toArray⟩) := by
    intro i q hq
    have hi := (List.getElem?_eq_some_iff.1 hq).1
    rw [World.var?_cell hg h3]
    have := ars_str hu (by kernel_rfl) Tryz.underlying9 h4 (by omega) (show (ws.map fun p => DataW.lit (.string p))[i]? = some (.lit (.string q)) by rw [List.getElem?_map, hq]; rfl)
    simpa using this
  obtain ⟨q, hq⟩ : ∃ q, ws[0]? = some q := ⟨_, List.getElem?_eq_getElem (by omega)⟩
  exact ⟨wcell_lt (key 0 q hq), key⟩

open Go.Lib in
theorem ferr_of {W : World} {name s : String} {g : Nat} {t : TypeId} {ms : Array (String × TypeId)} {d : DataW Unit} (hg : Tryz.prog.globalNamed name = some g) (ht : (Tryz.prog.globals[g]?).map (·.type) = some t) (hu : Tryz.prog.underlying t = some (.interface ms))
    (h : VarReads Tryz.prog W name (.iface s d)) : ErrF g W := by
  obtain ⟨g', t', cs, f, p, h1, h2, h3, h4⟩ := h
  obtain rfl := Option.some.inj (hg.symm.trans h1)
  obtain rfl := Option.some.inj (ht.symm.trans h2)
  obtain ⟨_, u, v, hcs, _⟩ := iface_of_trod hu h4
  refine ⟨.iface u v, ?_, .inr ⟨u, v, rfl⟩⟩
  rw [World.var?_cell hg h3]
  rw [← Array.getElem?_toList, hcs]; rfl

open Go.Lib in
theorem fpow_of {W : World} (h : VarReads Tryz.prog W "internal/strconv.uint64pow10" Rows.laid_internal_strconv_uint64pow10) : PowF W := by
  obtain ⟨g, t, cs, f, p, h1, h2, h3, h4⟩ := h
  obtain rfl := Option.some.inj ((show (Tryz.prog.globalNamed "internal/strconv.uint64pow10") = some 11 by kernel_rfl).symm.trans h1)
  obtain rfl := Option.some.inj ((show (Tryz.prog.globals[11]?).map (·.type) = some 186 by kernel_rfl).symm.trans h2)
  unfold PowF Lib.TabIs
  rw [h3, ← Lib.cells_of_tab Tryz.underlying186 Tryz.underlying159 (by kernel_rfl) (by kernel_rfl) (show DataW.trod _ _ _ _ _ _ _ _ _ = some (Lib.tabData .u64 Lib.pow10Tab, _) from h4)]

theorem u8types : U8Types Tryz.prog Tryz.lays230_ren := { Tryz.lays230 with }

theorem u8extra : U8Extra Tryz.prog Tryz.lays230_ren := ⟨by kernel_rfl, by kernel_rfl, by kernel_rfl, by kernel_rfl, by kernel_rfl, by kernel_rfl, by kernel_rfl⟩

theorem first_eq : Rows.laid_unicode_utf8_first = Lib.firstData := by kernel_rfl

theorem accept_eq : (Rows.laid_unicode_utf8_acceptRanges : DataW Unit) = Lib.acceptData := by kernel_rfl

theorem case_eq : Rows.laid_unicode_CaseRanges = Lib.caseData := Pinned.caseRanges_eq

theorem caseextra : CaseExtra Tryz.prog Tryz.lays159_ren := ⟨by kernel_rfl, by kernel_rfl, by kernel_rfl, by kernel_rfl, by kernel_rfl, by kernel_rfl⟩

theorem fmax_is {W : World} (h : W.ShapedOpen Tryz.prog) : MaxF W :=
  cell_of_shapedOpen_int h (by decide +kernel) (zero := #[.int .i64 0]) (t := 3) (by kernel_rfl) rfl (by kernel_rfl) (by kernel_rfl) Tryz.underlying3

theorem gFld : Tryz.prog.globalNamed "meridian/clock.fields" = some 10 := by kernel_rfl

theorem gLet : Tryz.prog.globalNamed "meridian/clock.letters" = some 5 := by kernel_rfl

theorem gMark : Tryz.prog.globalNamed "meridian/clock.marks" = some 2 := by kernel_rfl

theorem tFld : (Tryz.prog.globals[10]?).map (·.type) = some 184 := by kernel_rfl

theorem tLet : (Tryz.prog.globals[5]?).map (·.type) = some 134 := by kernel_rfl

theorem tMark : (Tryz.prog.globals[2]?).map (·.type) = some 114 := by kernel_rfl

/-- The row of a listed variable reads as it is listed. -/
def ReadsAs (W : World) (n : String) (t : TypeId) (d : DataW Unit) : Prop := ∃ (cs : Array Value) (f : Nat) (p : List MemPlace), W.var? Tryz.prog n = some cs ∧ DataW.trod (fun _ => ()) Tryz.prog W 0 (fun _ => true) false f t cs.toList = some (d, p)

set_option maxRecDepth 100000 in
theorem fld_of {W : World} (h : ReadsAs W "meridian/clock.fields" 184 Rows.laid_meridian_clock_fields) : FldAt W := by
  obtain ⟨cs, f, p, hv, hd⟩ := h
  have key : ∀ (i j : Nat) (z : Int), i < 3 → j < 4 → (∀ (ds : List (DataW Unit)), Rows.laid_meridian_clock_fields = .agg ds → ∃ es, ds[i]? = some (.agg es) ∧ es[j]? = some (.lit (.int .i64 z))) → W.cell? ⟨10, 4 * i + j, none⟩ = some (.int .i64 z) := by
    intro i j z hi hj hz
    obtain ⟨es, h1, h2⟩ := hz _ rfl
    rw [World.var?_cell gFld hv]
    have h3 : ∃ F : Field, (match Tryz.prog.underlying 183 with | some (.struct fs) => fs[j]? | _ => none) = some F ∧ F.type = 3 ∧ F.offset = j := by
      obtain rfl | rfl | rfl | rfl : j = 0 ∨ j = 1 ∨ j = 2 ∨ j = 3 := by omega
      all_goals
        rw [Tryz.underlying183]
        exact ⟨_, rfl, rfl, rfl⟩
    obtain ⟨F, hF, hT, hO⟩ := h3
    rw [Tryz.underlying183] at hF
    have := ast_int Tryz.underlying184 (c := 4) (by kernel_rfl) Tryz.underlying183 hF (by rw [hT]; exact Tryz.underlying3) (by rw [hT]; kernel_rfl) (show DataW.trod _ _ _ _ _ _ _ _ _ = some (.agg _, _) from hd) hi h1 h2
    rw [hO, Nat.mul_comm i 4] at this
    simpa using this
  intro k hk
  obtain rfl | rfl | rfl : k = 0 ∨ k = 1 ∨ k = 2 := by omega
  all_goals
    refine ⟨?_, ?_, ?_, ?_⟩
    · exact key _ 0 _ (by omega) (by omega) fun ds e => by cases e; exact ⟨_, rfl, rfl⟩
    · exact key _ 1 _ (by omega) (by omega) fun ds e => by cases e; exact ⟨_, rfl, rfl⟩
    · exact key _ 2 _ (by omega) (by omega) fun ds e => by cases e; exact ⟨_, rfl, rfl⟩
    · exact key _ 3 _ (by omega) (by omega) fun ds e => by cases e; exact ⟨_, rfl, rfl⟩

theorem let_of {W : World} (h : ReadsAs W "meridian/clock.letters" 134 Rows.laid_meridian_clock_letters) : LetAt W := by
  obtain ⟨cs, f, p, hv, hd⟩ := h
  have kn : ∀ (i : Nat) (z : Int), i < 5 → (∀ (ds : List (DataW Unit)), Rows.laid_meridian_clock_letters = .agg ds → ∃ es, ds[i]? = some (.agg es) ∧ es[1]? = some (.lit (.int .i64 z))) → W.cell? ⟨5, i * 2 + 1, none⟩ = some (.int .i64 z) := by
    intro i z hi hz
    obtain ⟨es, h1, h2⟩ := hz _ rfl
    rw [World.var?_cell gLet hv]
    have := ast_int (j := 1) Tryz.underlying134 (c := 2) (by kernel_rfl) Tryz.underlying133 rfl Tryz.underlying3 (by kernel_rfl) (show DataW.trod _ _ _ _ _ _ _ _ _ = some (.agg _, _) from hd) hi h1 h2
    simpa using this
  have ks : ∀ (i : Nat) (l : List UInt8), i < 5 → (∀ (ds : List (DataW Unit)), Rows.laid_meridian_clock_letters = .agg ds → ∃ es, ds[i]? = some (.agg es) ∧ es[0]? = some (.lit (.string l))) → W.cell? ⟨5, i * 2, none⟩ = some (.string ⟨l.toArray⟩) := by
    intro i z hi hz
    obtain ⟨es, h1, h2⟩ := hz _ rfl
    rw [World.var?_cell gLet hv]
    have := ast_str (j := 0) Tryz.underlying134 (c := 2) (by kernel_rfl) Tryz.underlying133 rfl Tryz.underlying9 (by kernel_rfl) (show DataW.trod _ _ _ _ _ _ _ _ _ = some (.agg _, _) from hd) hi h1 h2
    simpa using this
  exact ⟨ks 0 [119] (by omega) fun ds e => by cases e; exact ⟨_, rfl, rfl⟩, kn 0 0 (by omega) fun ds e => by cases e; exact ⟨_, rfl, rfl⟩,
    ks 1 [115] (by omega) fun ds e => by cases e; exact ⟨_, rfl, rfl⟩, kn 1 1 (by omega) fun ds e => by cases e; exact ⟨_, rfl, rfl⟩,
    ks 2 [117] (by omega) fun ds e => by cases e; exact ⟨_, rfl, rfl⟩, kn 2 2 (by omega) fun ds e => by cases e; exact ⟨_, rfl, rfl⟩,
    ks 3 [103] (by omega) fun ds e => by cases e; exact ⟨_, rfl, rfl⟩, kn 3 2 (by omega) fun ds e => by cases e; exact ⟨_, rfl, rfl⟩,
    ks 4 [122] (by omega) fun ds e => by cases e; exact ⟨_, rfl, rfl⟩, kn 4 2 (by omega) fun ds e => by cases e; exact ⟨_, rfl, rfl⟩⟩

theorem mark_of {W : World} (h : ReadsAs W "meridian/clock.marks" 114 Rows.laid_meridian_clock_marks) : MarkAt W := by
  obtain ⟨cs, f, p, hv, hd⟩ := h
  have ks : ∀ (i : Nat) (l : List UInt8), i < 3 → (∀ (ds : List (DataW Unit)), Rows.laid_meridian_clock_marks = .agg ds → ds[i]? = some (.lit (.string l))) → W.cell? ⟨2, i, none⟩ = some (.string ⟨l.toArray⟩) := by
    intro i z hi hz
    rw [World.var?_cell gMark hv]
    have := ars_str Tryz.underlying114 (by kernel_rfl) Tryz.underlying9 (show DataW.trod _ _ _ _ _ _ _ _ _ = some (.agg _, _) from hd) hi (hz _ rfl)
    simpa using this
  exact ⟨ks 0 [] (by omega) fun ds e => by cases e; rfl, ks 1 [115] (by omega) fun ds e => by cases e; rfl, ks 2 [117] (by omega) fun ds e => by cases e; rfl⟩

open Go.Lib in
theorem readsAs {W : World} {n : String} {g : Nat} {t : TypeId} {d : DataW Unit} (hg : Tryz.prog.globalNamed n = some g) (ht : (Tryz.prog.globals[g]?).map (·.type) = some t) (h : VarReads Tryz.prog W n d) : ReadsAs W n t d := by
  obtain ⟨g', t', cs, f, p, h1, h2, h3, h4⟩ := h
  obtain rfl := Option.some.inj (hg.symm.trans h1)
  obtain rfl := Option.some.inj (ht.symm.trans h2)
  exact ⟨cs, f, p, h3, h4⟩
open Go.Lib in
theorem laidL_of {W : World} {l : List (String × DataW Unit)} (h : laidMet Tryz.prog l W) (hm : ∀ x ∈ laidN, x ∈ l) (hs : W.ShapedOpen Tryz.prog) : LaidL W := by
  have r : ∀ n d, (n, d) ∈ laidN → VarReads Tryz.prog W n d := fun n d m => laidMet.reads h (hm _ m)
  have pow := fpow_of (r _ _ (by simp [laidN]))
  have syn : ErrF 12 W := ferr_of (by kernel_rfl) (by kernel_rfl) Tryz.underlying147 (r "strconv.ErrSyntax" Rows.laid_strconv_ErrSyntax (by simp [laidN]))
  have ran : ErrF 13 W := ferr_of (by kernel_rfl) (by kernel_rfl) Tryz.underlying147 (r "strconv.ErrRange" Rows.laid_strconv_ErrRange (by simp [laidN]))
  have u8 := utf8Tabs_of_readsT u8types u8extra (first_eq ▸ r _ _ (by simp [laidN])) (accept_eq ▸ r "unicode/utf8.acceptRanges" Rows.laid_unicode_utf8_acceptRanges (by simp [laidN]))
  exact
    { ww :=
        { kin := flist_of (ws := kindsL) (by kernel_rfl) (by kernel_rfl) Tryz.underlying114 rfl (by omega) (r "meridian/words.kinds" Rows.laid_meridian_words_kinds (by simp [laidN]))
          mon := flist_of (ws := monthsL) (by kernel_rfl) (by kernel_rfl) Tryz.underlying106 rfl (by omega) (r "meridian/words.months" Rows.laid_meridian_words_months (by simp [laidN]))
          end' := flist_of (ws := endsL) (by kernel_rfl) (by kernel_rfl) Tryz.underlying113 rfl (by omega) (r "meridian/words.ends" Rows.laid_meridian_words_ends (by simp [laidN]))
          u8 := u8
          pow := pow
          syn := syn
          ran := ran }
      ff :=
        { sig := flist_of (ws := signsL) (by kernel_rfl) (by kernel_rfl) Tryz.underlying113 rfl (by omega) (r "meridian/dayform.signs" Rows.laid_meridian_dayform_signs (by simp [laidN]))
          wee := flist_of (ws := weeksL) (by kernel_rfl) (by kernel_rfl) Tryz.underlying140 rfl (by omega) (r "meridian/words.weekdays" Rows.laid_meridian_words_weekdays (by simp [laidN]))
          u8 := u8
          pow := pow
          syn := syn
          ran := ran
          cas := caseVar_of_reads { Tryz.lays159 with } (by first | exact Tryz.lays159.t206 | kernel_rfl) caseextra (case_eq ▸ r _ _ (by simp [laidN]))
          mx := fmax_is hs }
      fld := fld_of (readsAs gFld tFld (r _ _ (by simp [laidN])))
      lt := let_of (readsAs gLet tLet (r _ _ (by simp [laidN])))
      pow := pow
      mx := fmax_is hs }
theorem of_laidN {W : World} (h : laidMetH Tryz.prog laidN W) (hs : W.ShapedOpen Tryz.prog) : LaidL W := by
  rw [MakeChecks.laidMetH_plain _ _ _ (by kernel_rfl)] at h
  exact laidL_of h (fun _ m => m) hs
/-- The tables, and that of marks. -/
structure LaidP (w : World) : Prop where
  l : LaidL w
  mrk : MarkAt w
theorem LaidP.next {w w' : World} (h : LaidP w) (k : Below w.heap.size w w') : LaidP w' := ⟨h.l.next k, h.mrk.next k⟩
open Go.Lib in
theorem of_laidM {W : World} (h : laidMetH Tryz.prog laidM W) (hs : W.ShapedOpen Tryz.prog) : LaidP W := by
  rw [MakeChecks.laidMetH_plain _ _ _ (by kernel_rfl)] at h
  have m : VarReads Tryz.prog W "meridian/clock.marks" Rows.laid_meridian_clock_marks := laidMet.reads h (by simp [laidM])
  exact ⟨laidL_of h laid_fore hs, mark_of (readsAs gMark tMark m)⟩

set_option maxRecDepth 100000 in
/-- A world in which the tables read so. -/
theorem metN (os : Os) (args : Array Value) : laidMetH Tryz.prog laidN ((World.laidAll Tryz.prog os laidN).forCall (fun _ _ => 0) ⟨#[], args, []⟩).memory := by
  rw [MakeChecks.laidMetH_plain _ _ _ (by kernel_rfl)]
  exact laidMet_laidAll _ (by kernel_rfl) (by kernel_rfl)
set_option maxRecDepth 100000 in
theorem shapedN (os : Os) : (World.laidAll Tryz.prog os laidN).Shaped Tryz.prog := World.shaped_of_ZipB (by kernel_rfl) (by kernel_rfl)

set_option maxRecDepth 100000 in
/-- A world in which the tables read so. -/
theorem metM (os : Os) (args : Array Value) : laidMetH Tryz.prog laidM ((World.laidAll Tryz.prog os laidM).forCall (fun _ _ => 0) ⟨#[], args, []⟩).memory := by
  rw [MakeChecks.laidMetH_plain _ _ _ (by kernel_rfl)]
  exact laidMet_laidAll _ (by kernel_rfl) (by kernel_rfl)
set_option maxRecDepth 100000 in
theorem shapedM (os : Os) : (World.laidAll Tryz.prog os laidM).Shaped Tryz.prog := World.shaped_of_ZipB (by kernel_rfl) (by kernel_rfl)

/-- The world's shape is that of its heap. -/
theorem shaped_heap {P : Program} {w w' : World} (hh : w.heap = w'.heap) (h : w.Shaped P) : w'.Shaped P := by
  refine ⟨fun g zero t hg hz => ?_, fun k hk1 hk2 => hh ▸ h.2 k hk1 hk2⟩
  obtain ⟨cs, h1, h2, h3⟩ := h.1 g zero t hg hz
  exact ⟨cs, hh ▸ h1, h2, fun hb => Row.ok_of_shape (fun b x hx => by simpa [World.shape?, ← hh] using hx) (h3 hb)⟩
theorem shaped_call {P : Program} {w : World} {t : Tape} {args : Array Value} (h : w.Shaped P) : (w.forCall t ⟨#[], args, []⟩).Shaped P :=
  shaped_heap (by simp [World.forCall, Input.heap]) h

section
variable {H : Type} {enc : TypeId × Value → H} {w : World} {base : Nat} {held : Bool}
set_option maxRecDepth 100000 in
theorem open_slice_strs {r : Reach} {b0 : Nat} {v : Value} {d : DataW H} {p : List MemPlace}
    (hv : Value.okWide Tryz.prog w r b0 27 v) (h : DataW.Trod enc Tryz.prog w base (fun _ => true) held 27 v d p) :
    ∃ (l : List (List UInt8)) (a : Option Addr) (cap : Nat), v = .slice a l.length cap ∧ l.length ≤ maxLen ∧ l.length ≤ cap ∧ ArgW a l w := by
  obtain ⟨a, len, cap, rfl⟩ := okWide_slice Tryz.underlying27 hv
  obtain ⟨fuel, hf⟩ := h
  rcases open_strings Tryz.underlying27 Tryz.underlying9 (by kernel_rfl) hf with ⟨hcs, _⟩ | ⟨x, l, c, ss, hcs, _, hl, hm, hz, _, hcell, _⟩
  · simp [Value.cells] at hcs
    obtain ⟨rfl, rfl, rfl⟩ := hcs
    exact ⟨[], none, 0, rfl, Nat.zero_le _, Nat.zero_le _, fun i p h => by simp at h⟩
  · simp [Value.cells] at hcs
    obtain ⟨rfl, rfl, rfl⟩ := hcs
    have hz' : ss.length = cap := by simpa using hz
    have hlen : ((ss.take len).map (fun s => s.data.toList)).length = len := by rw [List.length_map, List.length_take]; omega
    refine ⟨(ss.take len).map (fun s => s.data.toList), some x, cap, by rw [hlen], by rw [hlen]; omega, by rw [hlen]; omega, ?_⟩
    intro k q hq
    have hk := (List.getElem?_eq_some_iff.1 hq).1
    rw [hlen] at hk
    have hkz : k < ss.length := by omega
    obtain ⟨b, off, spot⟩ := x
    have h0 := hcell k hkz
    have hspot : spot = none := by simpa [Addr.add] using World.cell?_spot (hcell 0 (by omega))
    subst hspot
    rw [Go.WideShapes.add_plain] at h0
    refine ⟨b, off, rfl, ?_⟩
    rw [h0]
    rw [List.getElem?_map, List.getElem?_take_of_lt hk, List.getElem?_eq_getElem hkz] at hq
    injection hq with hq
    rw [List.getD, List.getElem?_eq_getElem hkz, ← hq]
    rfl
end

end Go.Proofs.YtfmehdophoejiaaGreatDoor
