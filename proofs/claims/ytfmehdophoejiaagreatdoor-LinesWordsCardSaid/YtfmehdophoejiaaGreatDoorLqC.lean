/- Cases of the words of eras and rules; nothing that was in memory changes. Written by wip/tools/gencp.py. -/
import Derived.Test.YtfmehdophoejiaaGreatDoorLq0
namespace Go.Proofs.YtfmehdophoejiaaGreatDoor
open Go Go.RowKit

theorem zc {a : Int} {l : List Int} (h : a = 0) (k : ∀ e ∈ l, e = 0) : ∀ e ∈ a :: l, e = 0 := List.forall_mem_cons.2 ⟨h, k⟩
theorem zz1 {a : Int} (h : a = 0) : ∀ e ∈ [a], e = 0 := zc h fun _ he => by cases he
theorem zz2 {a b : Int} (h : a = 0) (h1 : b = 0) : ∀ e ∈ [a, b], e = 0 := zc h (zz1 h1)
theorem zz3 {a b c : Int} (h : a = 0) (h1 : b = 0) (h2 : c = 0) : ∀ e ∈ [a, b, c], e = 0 := zc h (zz2 h1 h2)
theorem zz4 {a b c d : Int} (h : a = 0) (h1 : b = 0) (h2 : c = 0) (h3 : d = 0) : ∀ e ∈ [a, b, c, d], e = 0 := zc h (zz3 h1 h2 h3)
theorem zz5 {a b c d f : Int} (h : a = 0) (h1 : b = 0) (h2 : c = 0) (h3 : d = 0) (h4 : f = 0) : ∀ e ∈ [a, b, c, d, f], e = 0 := zc h (zz4 h1 h2 h3 h4)
theorem zz6 {a b c d f g : Int} (h : a = 0) (h1 : b = 0) (h2 : c = 0) (h3 : d = 0) (h4 : f = 0) (h5 : g = 0) : ∀ e ∈ [a, b, c, d, f, g], e = 0 := zc h (zz5 h1 h2 h3 h4 h5)
theorem zz7 {a b c d f g i : Int} (h : a = 0) (h1 : b = 0) (h2 : c = 0) (h3 : d = 0) (h4 : f = 0) (h5 : g = 0) (h6 : i = 0) : ∀ e ∈ [a, b, c, d, f, g, i], e = 0 := zc h (zz6 h1 h2 h3 h4 h5 h6)
theorem mo_cases (s : List UInt8) : (wantZ (findL (low s) monthsL) = -1 ∧ moE s = 13) ∨ (∃ f : Int, wantZ (findL (low s) monthsL) = f ∧ (0 ≤ f ∧ f ≤ 11) ∧ moE s = 0 ∧ moV s = f + 1) := by
  unfold moE moV
  cases h : findL (low s) monthsL with
  | none => left; exact ⟨rfl, rfl⟩
  | some p =>
    right
    have hlt := findL_lt h
    have e12 : monthsL.length = 12 := rfl
    exact ⟨(p : Int), rfl, by omega, rfl, by show ((p + 1 : Nat) : Int) = _; omega⟩
theorem day_is (s : List UInt8) : parsF s = (dyK s, dyW s, dyN s, dyE s) := Prod.ext rfl (Prod.ext rfl (Prod.ext rfl rfl))
theorem z_false {x : Int} (h : ¬ x + 1 = 0) : ((x + 1 : Int) == 0) = false := by simpa using h
theorem ru_cases (s : List UInt8) : (s = [45] ∧ ruE s = 0 ∧ ruR s = [] ∧ ruV s = 0) ∨ (s = [] ∧ ruE s = 23 ∧ stOk s = false) ∨
    (∃ c r, s = c :: r ∧ s ≠ [45] ∧ ((c = 45 ∧ ruE s = ofE s ∧ ruR s = [] ∧ ruV s = ofV s) ∨ (c ≠ 45 ∧ isDg c = true ∧ ruE s = ofE s ∧ ruR s = [] ∧ ruV s = ofV s) ∨ (c ≠ 45 ∧ isDg c = false ∧ ruE s = stE s ∧ ruR s = s ∧ ruV s = 0))) := by
  cases s with
  | nil => right; left; exact ⟨rfl, by decide, by decide⟩
  | cons c r =>
    by_cases hd : c :: r = [45]
    · left
      rw [hd]
      have hs := spanN_dash
      have ho : ofE [45] = 0 := by unfold ofE; rw [if_pos hs.2, hs.1, if_pos (by decide)]
      have hv : ofV [45] = 0 := by unfold ofV; rw [ho, if_neg (fun c => absurd c.1 (by decide)), hs.1]
      have hb : svB [45] = true := rfl
      refine ⟨rfl, ?_, ?_, ?_⟩
      · unfold ruE; rw [if_pos hb, ho]
      · unfold ruR; rw [if_pos hb]
      · unfold ruV; rw [if_pos hb, hv]
    · right; right
      refine ⟨c, r, rfl, hd, ?_⟩
      have e : svB (c :: r) = (decide (c = 45) || isDg c) := rfl
      unfold ruE ruR ruV
      rw [e]
      by_cases hc : c = 45
      · left; rw [decide_eq_true hc, Bool.true_or]; exact ⟨hc, rfl, rfl, rfl⟩
      · right
        rw [decide_eq_false hc, Bool.false_or]
        cases hg : isDg c with
        | true => left; exact ⟨hc, rfl, rfl, rfl, rfl⟩
        | false => right; exact ⟨hc, rfl, rfl, rfl, rfl⟩
theorem u8_45 {c : UInt8} (h : c ≠ 45) : ((c.toNat : Int) == 45) = false := by
  have : c.toNat ≠ 45 := fun e => h (UInt8.toNat_inj.1 e)
  simp; omega
theorem wd_len {ws : List (List UInt8)} {m : Nat} (hl : ∀ p ∈ ws, p.length ≤ m) (i : Nat) : (wd ws i).length ≤ m := by
  cases h : ws[i]? with
  | some p => rw [wd_get h]; exact hl p (List.mem_of_getElem? h)
  | none => unfold wd; rw [List.getD_eq_getElem?_getD, h]; exact Nat.zero_le _
theorem to_cases (s : List UInt8) (f : Int) (hf : f ≤ 4000) :
    (wantZ (findL (low s) endsL) = 0 ∧ toE s f = 0 ∧ toV s f = f) ∨ (wantZ (findL (low s) endsL) = 1 ∧ toE s f = 0 ∧ toV s f = 1048576) ∨
    (wantZ (findL (low s) endsL) = -1 ∧ ((nrE s ≠ 0 ∧ toE s f = nrE s) ∨ (nrE s = 0 ∧ nrV s < f ∧ toE s f = 17) ∨ (nrE s = 0 ∧ ¬ nrV s < f ∧ toE s f = 0 ∧ toV s f = nrV s))) := by
  cases h : findL (low s) endsL with
  | some p =>
    have hlt := findL_lt h
    have e2 : endsL.length = 2 := rfl
    have hy : yearE s = 0 := by unfold yearE; rw [h]
    rcases p with _ | _ | p
    · left
      have hv : yearV s f = f := by unfold yearV; rw [h]; rfl
      have := to_of hv hy (Int.le_refl f)
      exact ⟨rfl, this.1, this.2⟩
    · right; left
      have hv : yearV s f = 1048576 := by unfold yearV; rw [h]; rfl
      have := to_of hv hy (by omega)
      exact ⟨rfl, this.1, this.2⟩
    · omega
  | none =>
    right; right
    refine ⟨rfl, ?_⟩
    have hv : yearV s f = nrV s := by unfold yearV nrV; rw [h]
    have he : yearE s = nrE s := by unfold yearE nrE; rw [h]
    by_cases h0 : nrE s = 0
    · by_cases h1 : nrV s < f
      · refine .inr (.inl ⟨h0, h1, ?_⟩)
        unfold toE; rw [he, if_pos h0, hv, if_pos h1]
      · have := to_of hv (he.trans h0) (by omega)
        exact .inr (.inr ⟨h0, h1, this.1, this.2⟩)
    · refine .inl ⟨h0, ?_⟩
      unfold toE; rw [he, if_neg h0]
theorem lt_cases (s : List UInt8) : (txOk lnP 1 8 s = false ∧ ltE s = 23) ∨ (txOk lnP 1 8 s = true ∧ ltE s = 0 ∧ ((s = [45] ∧ ltV s = []) ∨ (s ≠ [45] ∧ ltV s = s))) := by
  unfold ltE ltOk ltV
  by_cases h : s = [45]
  · subst h; right; decide
  · cases ht : txOk lnP 1 8 s with
    | false => left; refine ⟨rfl, ?_⟩; rw [decide_eq_false h]; rfl
    | true => right; refine ⟨rfl, by rw [Bool.or_true]; rfl, .inr ⟨h, by rw [if_neg h, if_pos rfl]⟩⟩
theorem ru_all (s : List UInt8) : (ruE s = 0 ∧ RulOk s (ruR s) (ruV s)) ∨ (ruE s ≠ 0 ∧ RulBad s (ruE s)) := by
  rcases ru_cases s with ⟨hd, z1, eR, eV⟩ | ⟨hp, e1, hs⟩ | ⟨c, r, hp, hd, H⟩
  · left; rw [eR, eV]; exact ⟨z1, .inl ⟨by simpa using hd, rfl, rfl⟩⟩
  · right; rw [e1]; exact ⟨by decide, .inl ⟨by rw [hp]; rfl, by rw [hp]; simp, Lib.hid hs, rfl⟩⟩
  · have LP : (0 : Int) < (s.length : Int) := by rw [hp, List.length_cons]; omega
    have I0 : ∀ X : World, (Instr.index 9 (.string ⟨s.toArray⟩) (.int .i64 0)).run Tryz.prog X = .ok (.int .u8 (c.toNat : Int)) X := fun X => by rw [hp]; exact rfirst_byte c r X
    have ND : (s == [45]) = false := by simpa using hd
    rcases H with ⟨hc, e1, eR, eV⟩ | ⟨hc, hg, e1, eR, eV⟩ | ⟨hc, hg, e1, eR, eV⟩
    · have B1 : ((c.toNat : Int) == 45) = true := by rw [hc]; rfl
      by_cases z : ofE s = 0
      · left; rw [e1, eR, eV]; exact ⟨z, .inr ⟨c, ND, LP, I0, .inl ⟨B1, Lib.hid ⟨rfl, z⟩, rfl⟩⟩⟩
      · right; rw [e1]; exact ⟨z, .inr ⟨c, ND, LP, I0, .inl ⟨B1, ⟨_, Lib.hid ⟨rfl, rfl⟩⟩, ne_not z⟩⟩⟩
    · by_cases z : ofE s = 0
      · left; rw [e1, eR, eV]; exact ⟨z, .inr ⟨c, ND, LP, I0, .inr (.inl ⟨u8_45 hc, Lib.hid hg, Lib.hid ⟨rfl, z⟩, rfl⟩)⟩⟩
      · right; rw [e1]; exact ⟨z, .inr ⟨c, ND, LP, I0, .inr (.inl ⟨u8_45 hc, Lib.hid hg, ⟨_, Lib.hid ⟨rfl, rfl⟩⟩, ne_not z⟩)⟩⟩
    · cases h1 : stOk s with
      | true => left; have e : stE s = 0 := by (unfold stE; rw [h1]; rfl)
                rw [e1, eR, eV]; exact ⟨e, .inr ⟨c, ND, LP, I0, .inr (.inr ⟨u8_45 hc, Lib.hid hg, Lib.hid h1, rfl, rfl⟩)⟩⟩
      | false => right; have e : stE s = 23 := by (unfold stE; rw [h1]; rfl)
                 rw [e1, e]; exact ⟨by decide, .inr ⟨c, ND, LP, I0, .inr (.inr ⟨u8_45 hc, Lib.hid hg, Lib.hid h1, rfl⟩)⟩⟩
theorem to_all (s : List UInt8) (f : Int) (hf : f ≤ 4000) : (toE s f = 0 ∧ ToOk s f (toV s f)) ∨ (wantZ (findL (low s) endsL) = -1 ∧ nrE s ≠ 0 ∧ toE s f = nrE s) ∨ (wantZ (findL (low s) endsL) = -1 ∧ nrE s = 0 ∧ nrV s < f ∧ toE s f = 17) := by
  rcases to_cases s f hf with ⟨h3, z3, t3⟩ | ⟨h3, z3, t3⟩ | ⟨h3, ⟨n3, x3⟩ | ⟨n3, y3, x3⟩ | ⟨n3, y3, z3, t3⟩⟩
  · left; rw [t3]; exact ⟨z3, .inl ⟨Lib.hid h3, rfl⟩⟩
  · left; rw [t3]; exact ⟨z3, .inr (.inl ⟨Lib.hid h3, by omega, rfl⟩)⟩
  · exact .inr (.inl ⟨h3, n3, x3⟩)
  · exact .inr (.inr ⟨h3, n3, y3, x3⟩)
  · left; rw [t3]; exact ⟨z3, .inr (.inr ⟨Lib.hid h3, Lib.hid ⟨rfl, n3⟩, y3⟩)⟩
theorem lt_all (s : List UInt8) : (txOk lnP 1 8 s = false ∧ ltE s = 23) ∨ (txOk lnP 1 8 s = true ∧ ltE s = 0 ∧ LtOk s (ltV s)) := by
  rcases lt_cases s with h | ⟨h9, z9, ⟨d1, d2⟩ | ⟨d1, d2⟩⟩
  · exact .inl h
  · right; rw [d2]; exact ⟨h9, z9, .inl ⟨by simpa using d1, rfl⟩⟩
  · right; rw [d2]; exact ⟨h9, z9, .inr ⟨by simpa using d1, rfl⟩⟩

end Go.Proofs.YtfmehdophoejiaaGreatDoor
