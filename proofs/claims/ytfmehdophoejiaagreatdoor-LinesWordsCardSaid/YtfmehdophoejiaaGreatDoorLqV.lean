/- The reference's words of rules and eras: what is read of them, where they are right. Written by wip/tools/gency.py. -/
import Derived.Test.YtfmehdophoejiaaGreatDoorLqX
namespace Go.Proofs.YtfmehdophoejiaaGreatDoor
open Go Go.RowKit

/-- What the reference's RuleWords and EraWords answer: words, or that there are none. -/
def WordsR (ws : List (List UInt8)) (ok : Bool) (w : World) (e : Ending) (w' : World) : Prop :=
  (ok = true ∧ ∃ A c, e = .returned (.tuple #[.slice A ws.length c, .bool true]) ∧ ArgW A ws w' ∧ Below w.heap.size w w') ∨
  (ok = false ∧ e = .returned (.tuple #[.slice none 0 0, .bool false]) ∧ Below w.heap.size w w')
theorem yrR_len (n : Int) : (yrR n).length ≤ 25 := by
  unfold yrR
  split
  · exact itoa_len (by unfold in64'; omega)
  · simp
theorem toR_len (f t : Int) : (toR f t).length ≤ 25 := by
  unfold toR
  split
  · decide
  · split
    · decide
    · exact yrR_len t
theorem rwR_len (r : RV) (h1 : r.nm.length ≤ 80) (h2 : r.lt.length ≤ 80) : ∀ p ∈ rwR r, p.length ≤ 100 := by
  have a1 := yrR_len r.fr
  have a2 := toR_len r.fr r.tl
  have a3 := mname_len r.mo
  have a4 := dyT_len r.dk r.dw r.dn
  have a5 := ckT_len r.sc r.ck
  have a6 := svT_len r.sv
  have a7 := orN_len r.lt
  intro p hp
  simp only [rwR, List.mem_cons, List.not_mem_nil, or_false] at hp
  rcases hp with rfl | rfl | rfl | rfl | rfl | rfl | rfl | rfl | rfl | rfl <;> first | omega | decide
theorem ewR_lens (x : EV) (h1 : x.rl.length ≤ 80) (h2 : x.fm.length ≤ 80) : ∀ p ∈ ewR x, p.length ≤ 100 := by
  have a1 := yrR_len x.uy
  have a2 := svT_len x.of
  have a3 := mname_len x.um
  have a4 := dyT_len x.dk x.dw x.dn
  have a5 := ckT_len x.sc x.ck
  have a6 : (ruRf x.rl x.sv).length ≤ 80 := by
    unfold ruRf
    split
    · split
      · decide
      · have := svT_len x.sv; omega
    · exact h1
  intro p hp
  unfold ewR at hp
  rw [List.mem_append] at hp
  rcases hp with hp | hp
  · simp only [List.mem_cons, List.not_mem_nil, or_false] at hp
    rcases hp with rfl | rfl | rfl <;> omega
  · split at hp
    · simp only [List.mem_cons, List.not_mem_nil, or_false] at hp
      rcases hp with rfl | rfl | rfl | rfl <;> omega
    · cases hp
theorem toE_nil (f : Int) : toE [] f ≠ 0 := by
  unfold toE
  rw [if_neg (by decide)]
  decide
theorem rwR_ok {r : RV} (h : rlX (rwR r) = 0) : rwR r = rwL r := by
  obtain ⟨-, he⟩ := rule_ok h
  have h2 : yrE (yrR r.fr) = 0 := he _ (by show yrE (wd (rwR r) 2) ∈ _; simp [rlE])
  have h3 : toE (toR r.fr r.tl) (yrV (yrR r.fr)) = 0 := he _ (by show toE (wd (rwR r) 3) (yrV (wd (rwR r) 2)) ∈ _; simp [rlE])
  have hy := yrR_ok h2
  rw [hy] at h2
  obtain ⟨d1, d2, -⟩ := yr_ok h2
  have ht : toR r.fr r.tl = toT r.fr r.tl := by
    unfold toR toT
    by_cases c1 : r.tl = 1048576
    · rw [if_pos c1, if_neg (by omega), if_pos c1]
    · rw [if_neg c1]
      by_cases c2 : r.tl = r.fr
      · rw [if_pos c2, if_pos c2]
      · rw [if_neg c2, if_neg c2, if_neg c1]
        unfold toR at h3
        rw [if_neg c1, if_neg c2] at h3
        have e : yrR r.tl = [] ∨ yrR r.tl = Lib.itoa r.tl := by
          unfold yrR
          split
          · exact .inr rfl
          · exact .inl rfl
        rcases e with e | e
        · rw [e] at h3; exact absurd h3 (toE_nil _)
        · exact e
  unfold rwR rwL; rw [hy, ht]
theorem rule_readR (r : RV) : ∀ ok, rwB r = ok → ((rlX (rwR r) != 0) = true ∧ false = ok) ∨ (0 = rlX (rwR r) ∧ rlS (rwR r) = { r with lt := [] } ∧ [45] = r.lt ∧ false = ok) ∨ (0 = rlX (rwR r) ∧ rlS (rwR r) = r ∧ true = ok) := by
  rintro ok rfl
  by_cases hx : rlX (rwR r) = 0
  · have e := rwR_ok hx
    rw [e] at hx ⊢
    rcases rule_read r hx with hs | ⟨hl, hs⟩
    · exact .inr (.inr ⟨hx.symm, hs, (decide_eq_true ⟨hx, hs⟩).symm⟩)
    · refine .inr (.inl ⟨hx.symm, hs, hl.symm, (decide_eq_false fun c => ?_).symm⟩)
      have := congrArg RV.lt (hs.symm.trans c.2)
      rw [hl] at this
      cases this
  · exact .inl ⟨by simpa using hx, (decide_eq_false fun c => hx ((rule_same r).1.2 c).1).symm⟩
theorem era_readR (x : EV) (h : erX (ewR x) = 0) : ∃ rl sv, ((rl = x.rl ∧ sv = x.sv) ∨ (x.rl ≠ [] ∧ rl = []) ∨ (rl = x.rl ∧ sv = 0 ∧ x.sv ≠ 0)) ∧
    ((x.en = true ∧ erS (ewR x) = { x with rl := rl, sv := sv }) ∨ (x.en = false ∧ erS (ewR x) = ⟨x.of, rl, sv, x.fm, false, 0, 0, 0, 0, 0, 0, 0⟩)) := by
  obtain ⟨-, he⟩ := era_ok h
  have eS : erS (ewR x) = erV (ewR x) := by unfold erS; rw [if_pos h]
  rw [eS]
  have hl : (ewR x).length = if x.en = true then 7 else 3 := by unfold ewR; split <;> rfl
  have h0 : ofE (svT x.of) = 0 := he 0 _ rfl (by rw [hl]; split <;> omega)
  have h1 : ruE (ruRf x.rl x.sv) = 0 := he 1 _ rfl (by rw [hl]; split <;> omega)
  have a0 := sv_same h0
  refine ⟨ruR (ruRf x.rl x.sv), ruV (ruRf x.rl x.sv), ?_, ?_⟩
  · by_cases c : x.rl = []
    · have e : ruRf x.rl x.sv = ruT x.rl x.sv := by
        rw [c]; unfold ruRf ruT
        rw [if_pos rfl]
        rfl
      rw [e] at h1 ⊢
      rcases ru_same h1 with ⟨a, b⟩ | ⟨a, -⟩
      · exact .inl ⟨a, b⟩
      · exact absurd c a
    · have e : ruRf x.rl x.sv = x.rl := by unfold ruRf; rw [if_neg c]
      rw [e]
      cases hb : svB x.rl with
      | true => exact .inr (.inl ⟨c, by unfold ruR; rw [if_pos hb]⟩)
      | false =>
        have e1 : ruR x.rl = x.rl := by unfold ruR; rw [hb]; rfl
        have e2 : ruV x.rl = 0 := by unfold ruV; rw [hb]; rfl
        rw [e1, e2]
        by_cases z : x.sv = 0
        · exact .inl ⟨rfl, z.symm⟩
        · exact .inr (.inr ⟨rfl, rfl, z⟩)
  · cases hen : x.en with
    | false =>
      right
      refine ⟨rfl, ?_⟩
      rw [erV_short (by rw [hl, hen]; rfl)]
      have w0 : wd (ewR x) 0 = svT x.of := rfl
      have w1 : wd (ewR x) 1 = ruRf x.rl x.sv := rfl
      have w2 : wd (ewR x) 2 = x.fm := rfl
      rw [w0, w1, w2, a0]
    | true =>
      left
      refine ⟨rfl, ?_⟩
      have eW : ewR x = [svT x.of, ruRf x.rl x.sv, x.fm, yrR x.uy, mnameL x.um, dyT x.dk x.dw x.dn, ckT x.sc x.ck] := by unfold ewR; rw [hen]; rfl
      rw [eW] at he ⊢
      have b3 : yrE (yrR x.uy) = 0 := he 3 _ rfl (by simp)
      have c3 := yrR_ok b3
      rw [c3] at b3 ⊢
      have a3 := yr_same (n := x.uy) b3
      have a4 := mo_same (m := x.um) (he 4 _ rfl (by simp))
      have a5 := dy_same (k := x.dk) (wk := x.dw) (n := x.dn) (he 5 _ rfl (by simp))
      have a6 := ck_same (n := x.sc) (k := x.ck) (he 6 _ rfl (by simp))
      rw [erV_long rfl]
      show (⟨ofV (svT x.of), ruR (ruRf x.rl x.sv), ruV (ruRf x.rl x.sv), x.fm, true, yrV (Lib.itoa x.uy), moV (mnameL x.um), dyK (dyT x.dk x.dw x.dn), dyW (dyT x.dk x.dw x.dn), dyN (dyT x.dk x.dw x.dn), parN (ckT x.sc x.ck), parK (ckT x.sc x.ck)⟩ : EV) = _
      rw [a0, a3, a4, a5.1, a5.2.1, a5.2.2, a6.1, a6.2, ← hen]
def EwRT (of sv uy um dk dw dn sc ck : Int) (rl fm : List UInt8) (r' : EV) (v : Int) (ok : Bool) : Prop :=
  ((v != 0) = true ∧ false = ok) ∨ (∃ sv', (([] : List UInt8) == rl) = false ∧ r' = ⟨of, [], sv', fm, true, uy, um, dk, dw, dn, sc, ck⟩ ∧ 0 = v ∧ false = ok) ∨ (((0 : Int) == sv) = false ∧ r' = ⟨of, rl, 0, fm, true, uy, um, dk, dw, dn, sc, ck⟩ ∧ 0 = v ∧ false = ok) ∨ (r' = ⟨of, rl, sv, fm, true, uy, um, dk, dw, dn, sc, ck⟩ ∧ 0 = v ∧ true = ok)
def EwRF (of sv uy um dk dw dn sc ck : Int) (rl fm : List UInt8) (r' : EV) (v : Int) (ok : Bool) : Prop :=
  ((v != 0) = true ∧ false = ok) ∨ (∃ sv', (([] : List UInt8) == rl) = false ∧ r' = ⟨of, [], sv', fm, false, 0, 0, 0, 0, 0, 0, 0⟩ ∧ 0 = v ∧ false = ok) ∨ (((0 : Int) == sv) = false ∧ r' = ⟨of, rl, 0, fm, false, 0, 0, 0, 0, 0, 0, 0⟩ ∧ 0 = v ∧ false = ok) ∨ (r' = ⟨of, rl, sv, fm, false, 0, 0, 0, 0, 0, 0, 0⟩ ∧ 0 = v ∧ ((((0 : Int) == uy) = false ∧ false = ok) ∨ (0 = uy ∧ ((((0 : Int) == um) = false ∧ false = ok) ∨ (0 = um ∧ ((((0 : Int) == dk) = false ∧ false = ok) ∨ (0 = dk ∧ ((((0 : Int) == dw) = false ∧ false = ok) ∨ (0 = dw ∧ ((((0 : Int) == dn) = false ∧ false = ok) ∨ (0 = dn ∧ ((((0 : Int) == sc) = false ∧ false = ok) ∨ (0 = sc ∧ ((((0 : Int) == ck) = false ∧ false = ok) ∨ (0 = ck ∧ true = ok)))))))))))))))
theorem era_RT {x : EV} (hen : x.en = true) : EwRT x.of x.sv x.uy x.um x.dk x.dw x.dn x.sc x.ck x.rl x.fm (erS (ewR x)) (erX (ewR x)) (ewB x) := by
  have IFF := (era_same x).1
  by_cases hx : erX (ewR x) = 0
  rotate_left
  · exact .inl ⟨by simpa using hx, (decide_eq_false fun c => hx (IFF.2 c).1).symm⟩
  obtain ⟨rl', sv', hrl, ⟨-, hs⟩ | ⟨h, -⟩⟩ := era_readR x hx
  rotate_left
  · rw [hen] at h; cases h
  have e0 : ∀ a b, ({ x with rl := a, sv := b } : EV) = ⟨x.of, a, b, x.fm, true, x.uy, x.um, x.dk, x.dw, x.dn, x.sc, x.ck⟩ := fun a b => by rw [← hen]
  rcases hrl with ⟨e1, e2⟩ | ⟨hne, e1⟩ | ⟨e1, e2, hne⟩
  · have e3 : erS (ewR x) = x := by rw [hs, e1, e2]
    exact .inr (.inr (.inr ⟨by rw [hs, e0, e1, e2], hx.symm, (decide_eq_true (IFF.1 ⟨hx, e3⟩)).symm⟩))
  · exact .inr (.inl ⟨sv', by cases h : x.rl <;> simp_all, by rw [hs, e0, e1], hx.symm, (decide_eq_false fun c => hne (by rw [← e1]; exact (congrArg EV.rl (hs.symm.trans (IFF.2 c).2)).symm)).symm⟩)
  · exact .inr (.inr (.inl ⟨by simpa using fun e => hne e.symm, by rw [hs, e0, e1, e2], hx.symm, (decide_eq_false fun c => hne (by rw [← e2]; exact (congrArg EV.sv (hs.symm.trans (IFF.2 c).2)).symm)).symm⟩))
theorem era_RF {x : EV} (hen : x.en = false) : EwRF x.of x.sv x.uy x.um x.dk x.dw x.dn x.sc x.ck x.rl x.fm (erS (ewR x)) (erX (ewR x)) (ewB x) := by
  have IFF := (era_same x).1
  by_cases hx : erX (ewR x) = 0
  rotate_left
  · exact .inl ⟨by simpa using hx, (decide_eq_false fun c => hx (IFF.2 c).1).symm⟩
  obtain ⟨rl', sv', hrl, ⟨h, -⟩ | ⟨-, hs⟩⟩ := era_readR x hx
  · rw [hen] at h; cases h
  rcases hrl with ⟨e1, e2⟩ | ⟨hne, e1⟩ | ⟨e1, e2, hne⟩
  · rw [e1, e2] at hs
    refine .inr (.inr (.inr ⟨hs, hx.symm, ?_⟩))
    have st : ∀ (f : EV → Int), f ⟨x.of, x.rl, x.sv, x.fm, false, 0, 0, 0, 0, 0, 0, 0⟩ = 0 → ∀ {Q : Prop}, (f x = 0 → Q) → (((0 : Int) == f x) = false ∧ false = ewB x) ∨ (0 = f x ∧ Q) := fun f h0 Q k => by
      by_cases h : f x = 0
      · exact .inr ⟨h.symm, k h⟩
      · exact .inl ⟨by simpa using fun e => h e.symm, (decide_eq_false fun c => h (by rw [← hs.symm.trans (IFF.2 c).2]; exact h0)).symm⟩
    refine st EV.uy rfl fun c5 => st EV.um rfl fun c6 => st EV.dk rfl fun c7 => st EV.dw rfl fun c8 => st EV.dn rfl fun c9 => st EV.sc rfl fun c10 => st EV.ck rfl fun c11 => ?_
    refine (decide_eq_true (IFF.1 ⟨hx, ?_⟩)).symm
    rw [hs]
    obtain ⟨of, rl, sv, fm, en, uy, um, dk, dw, dn, sc, ck⟩ := x
    simp only at hen c5 c6 c7 c8 c9 c10 c11
    subst hen c5 c6 c7 c8 c9 c10 c11
    rfl
  · exact .inr (.inl ⟨sv', by cases h : x.rl <;> simp_all, by rw [hs, e1], hx.symm, (decide_eq_false fun c => hne (by rw [← e1]; exact (congrArg EV.rl (hs.symm.trans (IFF.2 c).2)).symm)).symm⟩)
  · exact .inr (.inr (.inl ⟨by simpa using fun e => hne e.symm, by rw [hs, e1, e2], hx.symm, (decide_eq_false fun c => hne (by rw [← e2]; exact (congrArg EV.sv (hs.symm.trans (IFF.2 c).2)).symm)).symm⟩))
end Go.Proofs.YtfmehdophoejiaaGreatDoor
