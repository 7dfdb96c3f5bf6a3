/- Plain facts on a listed variable that is an array, of structs or of strings: what its cells hold, if it reads as listed; no program is named. -/
import Derived.Lib.LaidTab
import Derived.ChangeArms
import Derived.HandedShaped
namespace Go.Proofs.YtjpppffgebecdaaGreatDoor
open Go

section
variable {H : Type} {enc : TypeId × Value → H} {P : Program} {w : World} {base : Nat} {sp : Nat → Bool} {held : Bool} {fuel : Nat} {t e : TypeId} {cs : List Value} {ds : List (DataW H)} {p : List MemPlace}

theorem arr_at {n c : Nat} (ht : P.underlying t = some (.array n e)) (hc : P.cellsOf e = c) (h : DataW.trod enc P w base sp held fuel t cs = some (.agg ds, p)) (i : Nat) (d : DataW H) (hi : i < n) (hd : ds[i]? = some d) :
    ∃ fuel' p', DataW.trod enc P w base sp held fuel' e ((cs.drop (i * c)).take c) = some (d, p') := by
  cases fuel with
  | zero => simp [DataW.trod] at h
  | succ fuel =>
    simp only [DataW.trod, ht, hc] at h
    split at h
    · obtain ⟨xs, hm, hx⟩ := Option.map_eq_some_iff.1 h
      have hxs : xs.map (·.1) = ds := by
        have := congrArg Prod.fst hx
        simpa using this
      obtain ⟨b, hb, hf⟩ := Lib.mapM_at hm i i (by simp [hi])
      have h2 : (xs.map (·.1))[i]? = some b.1 := by simp [hb]
      rw [hxs, hd] at h2
      obtain rfl := Option.some.inj h2
      exact ⟨fuel, b.2, hf⟩
    · cases h

theorem fld_at {fs : Array Field} (ht : P.underlying t = some (.struct fs)) (h : DataW.trod enc P w base sp held fuel t cs = some (.agg ds, p)) (j : Nat) (f : Field) (d : DataW H) (hf : fs[j]? = some f) (hd : ds[j]? = some d) :
    ∃ fuel' p', DataW.trod enc P w base sp held fuel' f.type ((cs.drop f.offset).take (P.cellsOf f.type)) = some (d, p') := by
  cases fuel with
  | zero => simp [DataW.trod] at h
  | succ fuel =>
    simp only [DataW.trod, ht] at h
    split at h
    · obtain ⟨xs, hm, hx⟩ := Option.map_eq_some_iff.1 h
      have hxs : xs.map (·.1) = ds := by
        have := congrArg Prod.fst hx
        simpa using this
      obtain ⟨b, hb, hf'⟩ := Lib.mapM_at hm j f (by simpa using hf)
      have h2 : (xs.map (·.1))[j]? = some b.1 := by simp [hb]
      rw [hxs, hd] at h2
      obtain rfl := Option.some.inj h2
      exact ⟨fuel, b.2, hf'⟩
    · cases h

theorem one_at {v : Value} {o : Nat} (h : (cs.drop o).take 1 = [v]) : cs[o]? = some v := by
  have := congrArg (·[0]?) h
  simpa [List.getElem?_take, List.getElem?_drop] using this

theorem int_at {k : IntKind} {z : Int} {o : Nat} (hu : P.underlying t = some (.int k)) (h : DataW.trod enc P w base sp held fuel t ((cs.drop o).take 1) = some (.lit (.int k z), p)) : cs[o]? = some (.int k z) := by
  obtain ⟨z', hc, e, _⟩ := DataW.trod_int hu h
  have : z' = z := by
    have := congrArg Prod.fst e
    simp only [DataW.lit.injEq, Lit.int.injEq, true_and] at this
    exact this.symm
  subst this
  exact one_at hc

theorem str_at {l : List UInt8} {o : Nat} (hu : P.underlying t = some .string) (h : DataW.trod enc P w base sp held fuel t ((cs.drop o).take 1) = some (.lit (.string l), p)) : cs[o]? = some (.string ⟨l.toArray⟩) := by
  obtain ⟨s, hc, e, _⟩ := DataW.trod_string hu h
  have : l = s.data.toList := by
    have := congrArg Prod.fst e
    simpa only [DataW.lit.injEq, Lit.string.injEq] using this
  subst this
  exact one_at hc

theorem take_at {v : Value} {a c o : Nat} (h : ((cs.drop a).take c)[o]? = some v) : cs[a + o]? = some v := by
  by_cases hc : o < c
  · simpa [List.getElem?_take, hc, List.getElem?_drop] using h
  · simp [List.getElem?_take, hc] at h

/-- An integer in a field of an array's struct; a string. -/
theorem ast_int {n c i j : Nat} {fs : Array Field} {f : Field} {k : IntKind} {z : Int} {es : List (DataW H)} (ht : P.underlying t = some (.array n e)) (hc : P.cellsOf e = c) (he : P.underlying e = some (.struct fs)) (hf : fs[j]? = some f)
    (hu : P.underlying f.type = some (.int k)) (h1 : P.cellsOf f.type = 1) (h : DataW.trod enc P w base sp held fuel t cs = some (.agg ds, p)) (hi : i < n) (hd : ds[i]? = some (.agg es)) (hz : es[j]? = some (.lit (.int k z))) :
    cs[i * c + f.offset]? = some (.int k z) := by
  obtain ⟨f1, p1, h2⟩ := arr_at ht hc h i _ hi hd
  obtain ⟨f2, p2, h3⟩ := fld_at he h2 j f _ hf hz
  rw [h1] at h3
  exact take_at (int_at hu h3)
theorem ast_str {n c i j : Nat} {fs : Array Field} {f : Field} {l : List UInt8} {es : List (DataW H)} (ht : P.underlying t = some (.array n e)) (hc : P.cellsOf e = c) (he : P.underlying e = some (.struct fs)) (hf : fs[j]? = some f)
    (hu : P.underlying f.type = some .string) (h1 : P.cellsOf f.type = 1) (h : DataW.trod enc P w base sp held fuel t cs = some (.agg ds, p)) (hi : i < n) (hd : ds[i]? = some (.agg es)) (hz : es[j]? = some (.lit (.string l))) :
    cs[i * c + f.offset]? = some (.string ⟨l.toArray⟩) := by
  obtain ⟨f1, p1, h2⟩ := arr_at ht hc h i _ hi hd
  obtain ⟨f2, p2, h3⟩ := fld_at he h2 j f _ hf hz
  rw [h1] at h3
  exact take_at (str_at hu h3)
/-- A string of an array of strings. -/
theorem ars_str {n i : Nat} {l : List UInt8} (ht : P.underlying t = some (.array n e)) (hc : P.cellsOf e = 1) (hu : P.underlying e = some .string) (h : DataW.trod enc P w base sp held fuel t cs = some (.agg ds, p)) (hi : i < n) (hd : ds[i]? = some (.lit (.string l))) :
    cs[i]? = some (.string ⟨l.toArray⟩) := by
  obtain ⟨f1, p1, h2⟩ := arr_at ht hc h i _ hi hd
  have := str_at hu h2
  rwa [Nat.mul_one] at this
end

/-- A law whose condition is the laid tables, the world's shape kept. -/
theorem handed_shaped {H : Type} {enc : TypeId × Value → H} {a : Assume} {C : Checked} {os : Os} {f : FuncId} {fn : Func} {s : ChangeSpec} {conds : List PathCond} {apart fresh handsOn again : Bool} {X : World → Array Value → Prop}
    (hX : ∀ (w w' : World) (args : Array Value), w.heap = w'.heap → X w args → X w' args)
    (own : ownKnob C.prog.godebug = none) (started : os.Started) (noInit : C.prog.inits.idxOf? f = none) (hfn : C.prog.funcs[f]? = some fn)
    (witness : ∃ (w : World) (tape : Tape) (i : Input), w.os = os ∧ (w.forCall tape i).Shaped C.prog ∧ i.vars = [] ∧ Input.okWide C.prog (w.forCall tape i) .any w.heap.size f i ∧
      ((s.pre enc C.prog fn conds apart (w.forCall tape i).memory i.args ∧ X (w.forCall tape i).memory i.args) ∧ sizedMet enc C.prog fn (OpenSpec.ofChange s) apart (w.forCall tape i).memory i.args) ∧ a.holds C.prog (lone (Frame.enter C.prog f i.args .normal) [] (w.forCall tape i)))
    (contract : ∀ (W : World) (base : Nat) (args : Array Value) (ds gs : List (DataW H)) (before : List MemPlace),
      (∀ (j : Nat) t v, fn.params[j]? = some t → args[j]? = some v → Value.okWide C.prog W .any base t v) →
      DataW.Whole enc C.prog fn.params.toList s.vars apart W args.toList ds gs before →
      W.ShapedOpen C.prog → X W args →
      Calls C.prog f args W fun e W' => ∃ v, e = .returned v ∧ s.post enc C.prog fn apart fresh handsOn again W args v W') :
    ReturnsInHanded a C os f .any (fun w args => (s.pre enc C.prog fn conds apart w args ∧ X w args) ∧ sizedMet enc C.prog fn (OpenSpec.ofChange s) apart w args) (s.post enc C.prog fn apart fresh handsOn again) := by
  refine returnsInHanded_of_calls own started noInit witness ?_
  intro w tape i _ hsh _ hok hpre _
  obtain ⟨_, _, _, fn', hfn', _, _, _, _, hval⟩ := hok
  have e : fn' = fn := Option.some.inj (hfn'.symm.trans hfn)
  subst e
  obtain ⟨⟨⟨ds, gs, before, hw, _⟩, hx⟩, _⟩ := hpre
  have hw' := DataW.Whole.of_heap (w' := w.forCall tape i) (by rfl) hw
  refine (contract (w.forCall tape i) w.heap.size i.args ds gs before hval hw' hsh (hX _ _ _ (by rfl) hx)).mono fun e W' ⟨v, he, hp⟩ => ?_
  subst he
  exact ChangeSpec.post_blind hp
end Go.Proofs.YtjpppffgebecdaaGreatDoor
