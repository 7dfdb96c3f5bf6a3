/- The words of a rule, an era and a link; what is read of them is what they were made of; said over lists of bytes.
What eras, links and zones are read as from their own words; the reference's words are the same, where there are any; said over lists of bytes.
A block of a call's own; the contracts of the law's few, is and awake (the chapter's examples); nothing that was in memory changes. Written by wip/tools/genlnm.py. -/
import Derived.Test.YtfmehdophoejiaaGreatDoorMK
import Derived.Test.YtfmehdophoejiaaGreatDoorMM
namespace Go.Proofs.YtfmehdophoejiaaGreatDoor
open Go

def onlyL : List UInt8 := [111, 110, 108, 121]
def maxL : List UInt8 := [109, 97, 120]
def ruleL : List UInt8 := [82, 117, 108, 101]
def linkL : List UInt8 := [76, 105, 110, 107]
def zoneL : List UInt8 := [122, 111, 110, 101]
def toT (fr tl : Int) : List UInt8 := if tl = fr then onlyL else if tl = 1048576 then maxL else Lib.itoa tl
def dyT (k wk n : Int) : List UInt8 := if dfB k wk n = true then dfT k wk n else []
def ckT (n k : Int) : List UInt8 := if (-604800 < n ∧ n < 604800) ∧ (k = 0 ∨ k = 1 ∨ k = 2) then timeL n k else []
def svT (n : Int) : List UInt8 := if -604800 < n ∧ n < 604800 then textL n else []
def orN (s : List UInt8) : List UInt8 := if s = [] then [45] else s
def ruT (rl : List UInt8) (sv : Int) : List UInt8 := if sv = 0 then orN rl else svT sv
def rwL (r : RV) : List (List UInt8) := [ruleL, r.nm, Lib.itoa r.fr, toT r.fr r.tl, [45], mnameL r.mo, dyT r.dk r.dw r.dn, ckT r.sc r.ck, svT r.sv, orN r.lt]
def ewL (e : EV) : List (List UInt8) := [svT e.of, ruT e.rl e.sv, e.fm] ++ if e.en = true then [Lib.itoa e.uy, mnameL e.um, dyT e.dk e.dw e.dn, ckT e.sc e.ck] else []
def rwB (r : RV) : Bool := decide (rlX (rwL r) = 0 ∧ rlS (rwL r) = r)
def ewB (e : EV) : Bool := decide (erX (ewL e) = 0 ∧ erS (ewL e) = e)

theorem only_y (f : Int) : yearV onlyL f = f ∧ yearE onlyL = 0 ∧ yrE onlyL = 12 := by
  have h : findL (low onlyL) endsL = some 0 := by decide
  unfold yearV yearE yrE; rw [h]; exact ⟨rfl, rfl, rfl⟩
theorem max_y (f : Int) : yearV maxL f = 1048576 ∧ yearE maxL = 0 ∧ yrE maxL = 12 := by
  have h : findL (low maxL) endsL = some 1 := by decide
  unfold yearV yearE yrE; rw [h]; exact ⟨rfl, rfl, rfl⟩

theorem ends_no {c : UInt8} {r : List UInt8} (h1 : c ≠ 111) (h2 : c ≠ 109) : findL (c :: r) endsL = none := by
  have e1 : (c == 111) = false := by simpa using h1
  have e2 : (c == 109) = false := by simpa using h2
  have n1 : ¬ (111 : UInt8) = c := fun e => h1 e.symm
  have n2 : ¬ (109 : UInt8) = c := fun e => h2 e.symm
  simp [findL, scan, endsL, begins, List.isPrefixOf, e1, e2, n1, n2]
theorem dec_head (n : Nat) : ∃ c r, Lib.decDigits n = c :: r ∧ isDg c = true := by
  obtain ⟨h1, -, h3, -⟩ := dec_ok n
  cases h : Lib.decDigits n with
  | nil => rw [h] at h3; simp at h3
  | cons c r => rw [h] at h1; simp [allDg] at h1; exact ⟨c, r, rfl, h1.1⟩
theorem itoa_head (n : Int) : ∃ c r, Lib.itoa n = c :: r ∧ (c = 45 ∨ isDg c = true) := by
  by_cases h : n < 0
  · obtain ⟨k, rfl⟩ : ∃ k : Nat, n = -(k : Int) := ⟨n.natAbs, by omega⟩
    rw [itoa_min k (by omega)]
    exact ⟨_, _, rfl, .inl rfl⟩
  · obtain ⟨k, rfl⟩ : ∃ k : Nat, n = (k : Int) := ⟨n.natAbs, by omega⟩
    rw [itoa_pos]
    obtain ⟨c, r, e, hc⟩ := dec_head k
    exact ⟨c, r, e, .inr hc⟩
theorem itoa_ends (n : Int) : findL (low (Lib.itoa n)) endsL = none := by
  obtain ⟨c, r, e, hc⟩ := itoa_head n
  rw [e]
  have hl : lowB c = c := by
    unfold lowB
    rw [if_neg]
    rcases hc with rfl | hc
    · decide
    · rw [isDg_iff] at hc; omega
  show findL (lowB c :: low r) endsL = none
  rw [hl]
  refine ends_no ?_ ?_ <;> rintro rfl <;> rcases hc with hc | hc <;> revert hc <;> decide
theorem dec_inj {a b : Nat} (h : Lib.decDigits a = Lib.decDigits b) : a = b := by
  rw [← (dec_ok a).2.1, h, (dec_ok b).2.1]
theorem itoa_inj {a b : Int} (h : Lib.itoa a = Lib.itoa b) : a = b := by
  have hd : ¬ isDg 45 = true := by decide
  by_cases ha : a < 0
  · obtain ⟨k, rfl⟩ : ∃ k : Nat, a = -(k : Int) := ⟨a.natAbs, by omega⟩
    rw [itoa_min k (by omega)] at h
    by_cases hb : b < 0
    · obtain ⟨j, rfl⟩ : ∃ j : Nat, b = -(j : Int) := ⟨b.natAbs, by omega⟩
      rw [itoa_min j (by omega)] at h
      injection h with _ h
      rw [dec_inj h]
    · obtain ⟨j, rfl⟩ : ∃ j : Nat, b = (j : Int) := ⟨b.natAbs, by omega⟩
      rw [itoa_pos] at h
      obtain ⟨c, r, e, hc⟩ := dec_head j
      rw [e] at h
      injection h with h _
      rw [← h] at hc
      exact absurd hc hd
  · obtain ⟨k, rfl⟩ : ∃ k : Nat, a = (k : Int) := ⟨a.natAbs, by omega⟩
    rw [itoa_pos] at h
    by_cases hb : b < 0
    · obtain ⟨j, rfl⟩ : ∃ j : Nat, b = -(j : Int) := ⟨b.natAbs, by omega⟩
      rw [itoa_min j (by omega)] at h
      obtain ⟨c, r, e, hc⟩ := dec_head k
      rw [e] at h
      injection h with h _
      rw [h] at hc
      exact absurd hc hd
    · obtain ⟨j, rfl⟩ : ∃ j : Nat, b = (j : Int) := ⟨b.natAbs, by omega⟩
      rw [itoa_pos] at h
      rw [dec_inj h]

theorem yr_val {n : Int} (h1 : 1 ≤ n) (h2 : n ≤ 4000) : yrV (Lib.itoa n) = n ∧ yrE (Lib.itoa n) = 0 := by
  have e := numR_itoa (v := n) (by omega) (by omega)
  unfold yrV yrE yearV yearE
  rw [itoa_ends]
  simp only [numB, numZ, e, Option.isSome_some, Option.getD_some]
  simp [h1, h2]
theorem yr_not {n : Int} (h : ¬ (1 ≤ n ∧ n ≤ 4000)) : yrE (Lib.itoa n) ≠ 0 := by
  unfold yrE yearE
  rw [itoa_ends]
  simp only []
  cases e : numR (Lib.itoa n) with
  | none => simp [numB, e]
  | some v =>
    have hv := itoa_inj (numR_some e).1
    subst hv
    simp only [numB, numZ, e, Option.isSome_some, Option.getD_some]
    rw [if_neg h]
    decide
theorem yr_nil : yrE [] = 12 := by decide
theorem yr_dom {s : List UInt8} (h : yrE s = 0) : 1 ≤ yrV s ∧ yrV s ≤ 4000 := by
  rcases yr_cases s with ⟨_, _, _, _, h2⟩ | ⟨_, _, _, ⟨_, h3, h4⟩ | ⟨h3, _⟩⟩
  · rw [h] at h2; exact absurd h2 (by decide)
  · exact ⟨h3, h4⟩
  · exact absurd h h3

def toD (f t : Int) : Prop := (t = f ∨ t = 1048576 ∨ (1 ≤ t ∧ t ≤ 4000)) ∧ f ≤ t
theorem to_dom {s : List UInt8} {f : Int} (h : toE s f = 0) : toD f (toV s f) := by
  have hV : toV s f = yearV s f := by unfold toV; rw [if_neg (by rw [h]; decide)]
  have h0 : yearE s = 0 := by
    unfold toE at h
    by_cases h1 : yearE s = 0
    · exact h1
    · rw [if_neg h1] at h; exact h
  have hf : ¬ yearV s f < f := by
    intro c
    unfold toE at h
    rw [if_pos h0, if_pos c] at h
    exact absurd h (by decide)
  rw [hV]
  refine ⟨?_, by omega⟩
  rcases yr_cases s with ⟨⟨p, hp⟩, _⟩ | ⟨_, hv, he, h3⟩
  · unfold yearV
    rw [hp]
    cases p with
    | zero => exact .inl rfl
    | succ p => exact .inr (.inl rfl)
  · rw [hv]
    rcases h3 with h3 | h3
    · exact .inr (.inr h3.2)
    · exact absurd (he ▸ h0) h3.1
theorem to_of {s : List UInt8} {f t : Int} (h1 : yearV s f = t) (h2 : yearE s = 0) (h3 : f ≤ t) : toE s f = 0 ∧ toV s f = t := by
  have e : toE s f = 0 := by unfold toE; rw [if_pos h2, if_neg (by omega)]
  refine ⟨e, ?_⟩
  unfold toV; rw [if_neg (by rw [e]; decide), h1]
theorem to_val {f t : Int} (h : toD f t) : toE (toT f t) f = 0 ∧ toV (toT f t) f = t := by
  unfold toT
  split
  · rename_i e; subst e; exact to_of (only_y t).1 (only_y t).2.1 (Int.le_refl _)
  · split
    · rename_i e; subst e; exact to_of (max_y f).1 (max_y f).2.1 h.2
    · rename_i h1 h2
      have hb : 1 ≤ t ∧ t ≤ 4000 := by rcases h.1 with c | c | c <;> first | exact absurd c h1 | exact absurd c h2 | exact c
      have hv := yr_val hb.1 hb.2
      rcases yr_cases (Lib.itoa t) with ⟨⟨p, hp⟩, _⟩ | ⟨_, hw, he, _⟩
      · rw [itoa_ends] at hp; exact absurd hp (by simp)
      · exact to_of (by rw [hw, hv.1]) (by rw [he, hv.2]) h.2

theorem lback_months : ∀ k : Fin 12, findL (low (capL (monthsL.getD k.val []))) monthsL = some k.val := by decide +kernel
theorem mo_val {m : Int} (h1 : 1 ≤ m) (h2 : m ≤ 12) : moE (mnameL m) = 0 ∧ moV (mnameL m) = m := by
  have e : mnameL m = capL (monthsL.getD (m - 1).toNat []) := by unfold mnameL; rw [if_pos ⟨h1, h2⟩]
  have := lback_months ⟨(m - 1).toNat, by omega⟩
  simp only [] at this
  unfold moE moV
  rw [e, this]
  refine ⟨rfl, ?_⟩
  show (((m - 1).toNat + 1 : Nat) : Int) = m
  omega
theorem mo_dom {s : List UInt8} (h : moE s = 0) : 1 ≤ moV s ∧ moV s ≤ 12 := by
  unfold moE at h
  unfold moV
  cases e : findL (low s) monthsL with
  | none => rw [e] at h; exact absurd h (by decide)
  | some p =>
    have := findL_lt e
    have h12 : monthsL.length = 12 := rfl
    show 1 ≤ ((p + 1 : Nat) : Int) ∧ ((p + 1 : Nat) : Int) ≤ 12
    omega

theorem dn_dom {s : List UInt8} (h : dnE s = 0) : 1 ≤ dnV s ∧ dnV s ≤ 31 := by
  cases e : dnum s with
  | none => rw [(dn_none e).2] at h; exact absurd h (by decide)
  | some n =>
    have hn := dnum_some e
    by_cases h2 : n ≤ 31
    · rw [(dn_fine e h2).1]; omega
    · rw [(dn_big e (by omega)).2] at h; exact absurd h (by decide)
theorem wk_dom {s : List UInt8} {p : Nat} (h : wkN s = some p) : (p : Int) ≤ 6 := by
  have := findL_lt h
  have h7 : weeks7.length = 7 := rfl
  omega
theorem pars_dom {s : List UInt8} {k w n : Int} (h : parsF s = (k, w, n, 0)) : dfD k w n := by
  unfold parsF at h
  split at h
  · rename_i p c hs
    split at h
    · simp only [Prod.mk.injEq] at h
      exact absurd h.2.2.2 (by decide)
    · rename_i w' hw
      split at h
      · rename_i h0
        have hd := dn_dom h0
        have hk := wk_dom hw
        simp only [Prod.mk.injEq] at h
        obtain ⟨h1, h2, h3, -⟩ := h
        refine .inr (.inr ⟨?_, by omega, by omega, by omega, by omega⟩)
        rw [← h1]
        split <;> simp
      · rename_i h0
        simp only [Prod.mk.injEq] at h
        exact absurd h.2.2.2 h0
  · rename_i hs
    split at h
    · rename_i hb
      split at h
      · simp only [Prod.mk.injEq] at h
        exact absurd h.2.2.2 (by decide)
      · rename_i w' hw
        have hk := wk_dom hw
        simp only [Prod.mk.injEq] at h
        obtain ⟨h1, h2, h3, -⟩ := h
        exact .inr (.inl ⟨h1.symm, by omega, by omega, h3.symm⟩)
    · rename_i hb
      split at h
      · rename_i h0
        have hd := dn_dom h0
        simp only [Prod.mk.injEq] at h
        obtain ⟨h1, h2, h3, -⟩ := h
        exact .inl ⟨h1.symm, h2.symm, by omega, by omega⟩
      · rename_i h0
        simp only [Prod.mk.injEq] at h
        exact absurd h.2.2.2 h0
theorem dy_dom {s : List UInt8} (h : dyE s = 0) : dfD (dyK s) (dyW s) (dyN s) :=
  pars_dom (Prod.ext rfl (Prod.ext rfl (Prod.ext rfl h)))
theorem dy_val {k wk n : Int} (h : dfD k wk n) : dyE (dyT k wk n) = 0 ∧ dyK (dyT k wk n) = k ∧ dyW (dyT k wk n) = wk ∧ dyN (dyT k wk n) = n := by
  unfold dyT
  rw [if_pos (dfB_iff.2 h)]
  unfold dyE dyK dyW dyN
  rw [pars_text h]
  exact ⟨rfl, rfl, rfl, rfl⟩

theorem span_dom {s : List UInt8} : -604800 < spanN s ∧ spanN s < 604800 := by
  unfold spanN
  split
  · decide
  · split
    · rename_i h
      have := h.2
      split <;> omega
    · decide
theorem kN_dom (s : List UInt8) : kN s = 0 ∨ kN s = 1 ∨ kN s = 2 := by
  unfold kN letK
  (repeat' split) <;> simp
theorem ck_dom {s : List UInt8} (h : parE s = 0) : (-604800 < parN s ∧ parN s < 604800) ∧ (parK s = 0 ∨ parK s = 1 ∨ parK s = 2) := by
  unfold parE at h
  unfold parN parK
  rw [if_pos h, if_pos h]
  exact ⟨span_dom, kN_dom s⟩
theorem ltime_par {n k : Int} (h : -604800 < n ∧ n < 604800) (hk : k = 0 ∨ k = 1 ∨ k = 2) : parE (timeL n k) = 0 ∧ parN (timeL n k) = n ∧ parK (timeL n k) = k := by
  have sp := textL_span h.1 h.2
  unfold timeL
  rcases hk with rfl | rfl | rfl
  · have := span_par sp.2
    rw [sp.1] at this
    simp [markL, this]
  · have := par_of (s := textL n) (kJ_snoc1 _).1 (kJ_snoc1 _).2
    rw [sp.1, sp.2] at this
    simpa [markL, and_comm, and_assoc] using this
  · have := par_of (s := textL n) (kJ_snoc2 _).1 (kJ_snoc2 _).2
    rw [sp.1, sp.2] at this
    simpa [markL, and_comm, and_assoc] using this
theorem ck_val {n k : Int} (h : (-604800 < n ∧ n < 604800) ∧ (k = 0 ∨ k = 1 ∨ k = 2)) : parE (ckT n k) = 0 ∧ parN (ckT n k) = n ∧ parK (ckT n k) = k := by
  unfold ckT
  rw [if_pos h]
  exact ltime_par h.1 h.2
theorem of_dom {s : List UInt8} (h : ofE s = 0) : -90000 < ofV s ∧ ofV s < 90000 := by
  rcases of_cases s with ⟨_, h1, h2, h3, _⟩ | ⟨_, _, _, h3⟩ | ⟨h1, _, h3⟩
  · rw [h3]; exact ⟨h1, h2⟩
  · rw [h] at h3; exact absurd h3 (by decide)
  · rw [h] at h3; exact absurd h3.symm h1
theorem sv_val {n : Int} (h : -90000 < n ∧ n < 90000) : ofE (svT n) = 0 ∧ ofV (svT n) = n := by
  unfold svT
  rw [if_pos (by omega)]
  have sp := textL_span (n := n) (by omega) (by omega)
  have e : ofE (textL n) = 0 := by unfold ofE; rw [if_pos sp.2, sp.1, if_pos h]
  refine ⟨e, ?_⟩
  unfold ofV
  rw [e, if_neg (fun c => absurd c.1 (by decide)), sp.1]
theorem svT_head {n : Int} (h : -90000 < n ∧ n < 90000) : svB (svT n) = true := by
  unfold svT
  rw [if_pos (by omega)]
  unfold textL
  obtain ⟨b, r, e, hb⟩ := textN_head n.natAbs
  rw [e]
  split
  · rfl
  · show (decide (b = 45) || isDg b) = true
    have : isDg b = true := hb
    rw [this, Bool.or_true]
theorem lt_val {s : List UInt8} (h : ltE s = 0) : ltE (orN (ltV s)) = 0 ∧ ltV (orN (ltV s)) = ltV s := by
  unfold ltE at h
  by_cases hd : s = [45]
  · subst hd; decide
  · have ht : txOk lnP 1 8 s = true := by
      by_cases c : ltOk s = true
      · unfold ltOk at c
        rw [decide_eq_false hd, Bool.false_or] at c
        exact c
      · rw [if_neg c] at h; exact absurd h (by decide)
    have e1 : ltV s = s := by unfold ltV; rw [if_neg hd, if_pos ht]
    have hne : s ≠ [] := by rintro rfl; revert ht; decide
    rw [e1]
    have e2 : orN s = s := by unfold orN; rw [if_neg hne]
    rw [e2]
    refine ⟨?_, e1⟩
    unfold ltE ltOk
    rw [ht, Bool.or_true]
    rfl
theorem ru_val {s : List UInt8} (h : ruE s = 0) : ruE (ruT (ruR s) (ruV s)) = 0 ∧ ruR (ruT (ruR s) (ruV s)) = ruR s ∧ ruV (ruT (ruR s) (ruV s)) = ruV s := by
  unfold ruE at h
  by_cases hb : svB s = true
  · rw [if_pos hb] at h
    have e1 : ruR s = [] := by unfold ruR; rw [if_pos hb]
    have e2 : ruV s = ofV s := by unfold ruV; rw [if_pos hb]
    have hd := of_dom h
    rw [e1, e2]
    unfold ruT
    by_cases h0 : ofV s = 0
    · rw [if_pos h0, h0]
      have hb0 : svB [45] = true := rfl
      have hs := spanN_dash
      have ho : ofE [45] = 0 := by unfold ofE; rw [if_pos hs.2, hs.1, if_pos (by decide)]
      have hv : ofV [45] = 0 := by unfold ofV; rw [ho, if_neg (fun c => absurd c.1 (by decide)), hs.1]
      show ruE [45] = 0 ∧ ruR [45] = [] ∧ ruV [45] = 0
      unfold ruE ruR ruV
      rw [if_pos hb0, if_pos hb0, if_pos hb0]
      exact ⟨ho, rfl, hv⟩
    · rw [if_neg h0]
      have hv := sv_val hd
      have hh := svT_head hd
      unfold ruE ruR ruV
      rw [if_pos hh, if_pos hh, if_pos hh]
      exact ⟨hv.1, rfl, hv.2⟩
  · rw [if_neg hb] at h
    have e1 : ruR s = s := by unfold ruR; rw [if_neg hb]
    have e2 : ruV s = 0 := by unfold ruV; rw [if_neg hb]
    rw [e1, e2]
    have hne : s ≠ [] := by rintro rfl; revert h; decide
    have e3 : ruT s 0 = s := by unfold ruT orN; rw [if_pos rfl, if_neg hne]
    rw [e3]
    unfold ruE
    rw [if_neg hb]
    exact ⟨h, e1, e2⟩

theorem first_all {es : List Int} (h : ∀ e ∈ es, e = 0) : first es = 0 := by
  induction es with
  | nil => rfl
  | cons e r ih =>
    unfold first
    rw [if_pos (h e (List.mem_cons_self ..))]
    exact ih fun x hx => h x (List.mem_cons_of_mem _ hx)
/-- What a rule's words are read as, where all of them are right. -/
theorem rule_ok {ws : List (List UInt8)} (h : rlX ws = 0) : ws.length = 10 ∧ ∀ e ∈ rlE ws, e = 0 := by
  unfold rlX at h
  by_cases hn : ws.length = 10
  · rw [if_pos hn] at h; exact ⟨hn, first_take h⟩
  · rw [if_neg hn] at h; exact absurd h (by decide)
theorem rule_of {ws : List (List UInt8)} (hn : ws.length = 10) (h : ∀ e ∈ rlE ws, e = 0) : rlX ws = 0 := by
  unfold rlX; rw [if_pos hn, first_all h]
/-- Rule of a rule's words is the rule (P9.5). -/
theorem rule_back {ws : List (List UInt8)} (h : rlX ws = 0) : rlX (rwL (rlS ws)) = 0 ∧ rlS (rwL (rlS ws)) = rlS ws := by
  obtain ⟨hn, he⟩ := rule_ok h
  have eS : rlS ws = rlV ws := by unfold rlS; rw [if_pos h]
  rw [eS]
  simp only [rlE, List.mem_cons, List.not_mem_nil, or_false, forall_eq_or_imp, forall_eq] at he
  obtain ⟨h0, h1, h2, h3, h4, h5, h6, h7, h8, h9⟩ := he
  have a2 := yr_val (yr_dom h2).1 (yr_dom h2).2
  have a3 := to_val (to_dom h3)
  have a5 := mo_val (mo_dom h5).1 (mo_dom h5).2
  have a6 := dy_val (dy_dom h6)
  have a7 := ck_val (ck_dom h7)
  have a8 := sv_val (of_dom h8)
  have a9 := lt_val h9
  have w0 : wd (rwL (rlV ws)) 0 = ruleL := rfl
  have w1 : wd (rwL (rlV ws)) 1 = wd ws 1 := rfl
  have w2 : wd (rwL (rlV ws)) 2 = Lib.itoa (yrV (wd ws 2)) := rfl
  have w3 : wd (rwL (rlV ws)) 3 = toT (yrV (wd ws 2)) (toV (wd ws 3) (yrV (wd ws 2))) := rfl
  have w4 : wd (rwL (rlV ws)) 4 = [45] := rfl
  have w5 : wd (rwL (rlV ws)) 5 = mnameL (moV (wd ws 5)) := rfl
  have w6 : wd (rwL (rlV ws)) 6 = dyT (dyK (wd ws 6)) (dyW (wd ws 6)) (dyN (wd ws 6)) := rfl
  have w7 : wd (rwL (rlV ws)) 7 = ckT (parN (wd ws 7)) (parK (wd ws 7)) := rfl
  have w8 : wd (rwL (rlV ws)) 8 = svT (ofV (wd ws 8)) := rfl
  have w9 : wd (rwL (rlV ws)) 9 = orN (ltV (wd ws 9)) := rfl
  have X : rlX (rwL (rlV ws)) = 0 := by
    refine rule_of rfl ?_
    simp only [rlE, List.mem_cons, List.not_mem_nil, or_false, forall_eq_or_imp, forall_eq]
    rw [w0, w1, w2, w3, w4, w5, w6, w7, w8, w9, a2.1]
    exact ⟨by decide, h1, a2.2, a3.1, by decide, a5.1, a6.1, a7.1, a8.1, a9.1⟩
  refine ⟨X, ?_⟩
  unfold rlS
  rw [if_pos X]
  have e : ∀ vs, rlV vs = ⟨wd vs 1, yrV (wd vs 2), toV (wd vs 3) (yrV (wd vs 2)), moV (wd vs 5), dyK (wd vs 6), dyW (wd vs 6), dyN (wd vs 6), parN (wd vs 7), parK (wd vs 7), ofV (wd vs 8), ltV (wd vs 9)⟩ := fun _ => rfl
  rw [e (rwL (rlV ws)), w1, w2, w3, w5, w6, w7, w8, w9, a2.1, a3.2, a5.2, a6.2.1, a6.2.2.1, a6.2.2.2, a7.2.1, a7.2.2, a8.2, a9.2]
  rfl
end Go.Proofs.YtfmehdophoejiaaGreatDoor

namespace Go.Proofs.YtfmehdophoejiaaGreatDoor
open Go

def erA (ws : List (List UInt8)) : List Int := [ofE (wd ws 0), ruE (wd ws 1), fmE (wd ws 2), yrE (wd ws 3), moE (wd ws 4), dyE (wd ws 5), parE (wd ws 6)]
theorem era_ok {ws : List (List UInt8)} (h : erX ws = 0) : (3 ≤ ws.length ∧ ws.length ≤ 7) ∧ ∀ i x, (erA ws)[i]? = some x → i < ws.length → x = 0 := by
  unfold erX at h
  by_cases hn : 3 ≤ ws.length ∧ ws.length ≤ 7
  · rw [if_pos hn] at h
    refine ⟨hn, fun i x hx hi => first_take h x ?_⟩
    refine List.mem_of_getElem? (i := i) ?_
    show ((erA ws).take ws.length)[i]? = some x
    rw [List.getElem?_take_of_lt hi]
    exact hx
  · rw [if_neg hn] at h; exact absurd h (by decide)
theorem era_of {ws : List (List UInt8)} (hn : 3 ≤ ws.length ∧ ws.length ≤ 7) (h : ∀ i x, (erA ws)[i]? = some x → i < ws.length → x = 0) : erX ws = 0 := by
  unfold erX
  rw [if_pos hn]
  refine first_all fun e he => ?_
  obtain ⟨i, hi⟩ := List.getElem?_of_mem he
  have hl : i < ws.length := by
    have := (List.getElem?_eq_some_iff.1 hi).1
    unfold erE at this
    rw [List.length_take] at this
    omega
  refine h i e ?_ hl
  have : ((erA ws).take ws.length)[i]? = some e := hi
  rwa [List.getElem?_take_of_lt hl] at this
theorem erV_short {vs : List (List UInt8)} (h : vs.length = 3) : erV vs = ⟨ofV (wd vs 0), ruR (wd vs 1), ruV (wd vs 1), wd vs 2, false, 0, 0, 0, 0, 0, 0, 0⟩ := by
  unfold erV; rw [h]; rfl
theorem erV_long {vs : List (List UInt8)} (h : vs.length = 7) : erV vs = ⟨ofV (wd vs 0), ruR (wd vs 1), ruV (wd vs 1), wd vs 2, true, yrV (wd vs 3), moV (wd vs 4), dyK (wd vs 5), dyW (wd vs 5), dyN (wd vs 5), parN (wd vs 6), parK (wd vs 6)⟩ := by
  unfold erV; rw [h]; rfl
theorem EV.eta (e : EV) {b : Bool} (h : e.en = b) : (⟨e.of, e.rl, e.sv, e.fm, b, e.uy, e.um, e.dk, e.dw, e.dn, e.sc, e.ck⟩ : EV) = e := by subst h; rfl
/-- What an era that is right holds. -/
structure EraOk (e : EV) : Prop where
  o : -90000 < e.of ∧ e.of < 90000
  r : ruE (ruT e.rl e.sv) = 0 ∧ ruR (ruT e.rl e.sv) = e.rl ∧ ruV (ruT e.rl e.sv) = e.sv
  f : fmE e.fm = 0
  no : e.en = false → e.uy = 0 ∧ e.um = 0 ∧ e.dk = 0 ∧ e.dw = 0 ∧ e.dn = 0 ∧ e.sc = 0 ∧ e.ck = 0
  y : e.en = true → 1 ≤ e.uy ∧ e.uy ≤ 4000
  m : e.en = true → 1 ≤ e.um ∧ e.um ≤ 12
  d : e.en = true → dfD e.dk e.dw e.dn
  c : e.en = true → (-604800 < e.sc ∧ e.sc < 604800) ∧ (e.ck = 0 ∨ e.ck = 1 ∨ e.ck = 2)
theorem era_dom {ws : List (List UInt8)} (h : erX ws = 0) : EraOk (erV ws) := by
  obtain ⟨⟨h3, h7⟩, he⟩ := era_ok h
  have h0 := he 0 _ rfl (by omega)
  have h1 := he 1 _ rfl (by omega)
  have h2 := he 2 _ rfl (by omega)
  have en : (erV ws).en = decide (3 < ws.length) := rfl
  refine ⟨of_dom h0, ru_val h1, h2, fun hn => ?_, fun hn => ?_, fun hn => ?_, fun hn => ?_, fun hn => ?_⟩ <;> rw [en] at hn <;> simp only [decide_eq_true_eq, decide_eq_false_iff_not] at hn
  · rw [erV_short (by omega)]; exact ⟨rfl, rfl, rfl, rfl, rfl, rfl, rfl⟩
  · have e : (erV ws).uy = yrV (wd ws 3) := by unfold erV; simp only []; rw [if_pos hn]
    rw [e]; exact yr_dom (he 3 _ rfl hn)
  · by_cases h4 : 4 < ws.length
    · have e : (erV ws).um = moV (wd ws 4) := by unfold erV; simp only []; rw [if_pos h4]
      rw [e]; exact mo_dom (he 4 _ rfl h4)
    · have e : (erV ws).um = 1 := by unfold erV; simp only []; rw [if_neg h4, if_pos hn]
      rw [e]; decide
  · by_cases h5 : 5 < ws.length
    · have e : (erV ws).dk = dyK (wd ws 5) ∧ (erV ws).dw = dyW (wd ws 5) ∧ (erV ws).dn = dyN (wd ws 5) := by unfold erV; simp only []; rw [if_pos h5, if_pos h5, if_pos h5]; exact ⟨rfl, rfl, rfl⟩
      rw [e.1, e.2.1, e.2.2]; exact dy_dom (he 5 _ rfl h5)
    · have e : (erV ws).dk = 0 ∧ (erV ws).dw = 0 ∧ (erV ws).dn = 1 := by unfold erV; simp only []; rw [if_neg h5, if_neg h5, if_neg h5, if_pos hn]; exact ⟨rfl, rfl, rfl⟩
      rw [e.1, e.2.1, e.2.2]; exact .inl (by decide)
  · by_cases h6 : 6 < ws.length
    · have e : (erV ws).sc = parN (wd ws 6) ∧ (erV ws).ck = parK (wd ws 6) := by unfold erV; simp only []; rw [if_pos h6, if_pos h6]; exact ⟨rfl, rfl⟩
      rw [e.1, e.2]; exact ck_dom (he 6 _ rfl h6)
    · have e : (erV ws).sc = 0 ∧ (erV ws).ck = 0 := by unfold erV; simp only []; rw [if_neg h6, if_neg h6]; exact ⟨rfl, rfl⟩
      rw [e.1, e.2]; decide
theorem era_words {e : EV} (h : EraOk e) : erX (ewL e) = 0 ∧ erS (ewL e) = e := by
  have a0 := sv_val h.o
  cases en : e.en with
  | false =>
    have eW : ewL e = [svT e.of, ruT e.rl e.sv, e.fm] := by unfold ewL; rw [en]; rfl
    have X : erX (ewL e) = 0 := by
      rw [eW]
      refine era_of (by simp) fun i x hx hi => ?_
      rcases i with _ | _ | _ | i
      · injection hx with hx; rw [← hx]; exact a0.1
      · injection hx with hx; rw [← hx]; exact h.r.1
      · injection hx with hx; rw [← hx]; exact h.f
      · simp at hi; omega
    refine ⟨X, ?_⟩
    unfold erS
    rw [if_pos X, eW, erV_short rfl]
    show (⟨ofV (svT e.of), ruR (ruT e.rl e.sv), ruV (ruT e.rl e.sv), e.fm, false, 0, 0, 0, 0, 0, 0, 0⟩ : EV) = e
    rw [a0.2, h.r.2.1, h.r.2.2]
    obtain ⟨n1, n2, n3, n4, n5, n6, n7⟩ := h.no en
    have := EV.eta e en
    rwa [n1, n2, n3, n4, n5, n6, n7] at this
  | true =>
    have eW : ewL e = [svT e.of, ruT e.rl e.sv, e.fm, Lib.itoa e.uy, mnameL e.um, dyT e.dk e.dw e.dn, ckT e.sc e.ck] := by unfold ewL; rw [en]; rfl
    have a3 := yr_val (h.y en).1 (h.y en).2
    have a4 := mo_val (h.m en).1 (h.m en).2
    have a5 := dy_val (h.d en)
    have a6 := ck_val (h.c en)
    have X : erX (ewL e) = 0 := by
      rw [eW]
      refine era_of (by simp) fun i x hx hi => ?_
      rcases i with _ | _ | _ | _ | _ | _ | _ | i
      · injection hx with hx; rw [← hx]; exact a0.1
      · injection hx with hx; rw [← hx]; exact h.r.1
      · injection hx with hx; rw [← hx]; exact h.f
      · injection hx with hx; rw [← hx]; exact a3.2
      · injection hx with hx; rw [← hx]; exact a4.1
      · injection hx with hx; rw [← hx]; exact a5.1
      · injection hx with hx; rw [← hx]; exact a6.1
      · simp at hi; omega
    refine ⟨X, ?_⟩
    unfold erS
    rw [if_pos X, eW, erV_long rfl]
    show (⟨ofV (svT e.of), ruR (ruT e.rl e.sv), ruV (ruT e.rl e.sv), e.fm, true, yrV (Lib.itoa e.uy), moV (mnameL e.um), dyK (dyT e.dk e.dw e.dn), dyW (dyT e.dk e.dw e.dn), dyN (dyT e.dk e.dw e.dn), parN (ckT e.sc e.ck), parK (ckT e.sc e.ck)⟩ : EV) = e
    rw [a0.2, h.r.2.1, h.r.2.2, a3.1, a4.2, a5.2.1, a5.2.2.1, a5.2.2.2, a6.2.1, a6.2.2]
    exact EV.eta e en
/-- Era of an era's words is the era (P9.5). -/
theorem era_back {ws : List (List UInt8)} (h : erX ws = 0) : erX (ewL (erS ws)) = 0 ∧ erS (ewL (erS ws)) = erS ws := by
  have e : erS ws = erV ws := by unfold erS; rw [if_pos h]
  rw [e]
  exact era_words (era_dom h)
theorem ewL_len (e : EV) : (ewL e).length = if e.en = true then 7 else 3 := by
  unfold ewL; split <;> rfl

theorem link_ok {ws : List (List UInt8)} (h : lkX ws = 0) : ws.length = 3 ∧ lkT ws = wd ws 1 ∧ lkN ws = wd ws 2 ∧ nmE (wd ws 1) = 0 ∧ nmE (wd ws 2) = 0 := by
  have e1 : lkT ws = wd ws 1 := by unfold lkT; rw [if_pos h]
  have e2 : lkN ws = wd ws 2 := by unfold lkN; rw [if_pos h]
  unfold lkX at h
  by_cases hn : ws.length = 3
  · rw [if_pos hn] at h
    have := first_take h
    simp only [List.mem_cons, List.not_mem_nil, or_false, forall_eq_or_imp, forall_eq] at this
    exact ⟨hn, e1, e2, this.2.1, this.2.2⟩
  · rw [if_neg hn] at h; exact absurd h (by decide)
theorem lkX_link (a b : List UInt8) : lkX [linkL, a, b] = if nmE a = 0 ∧ nmE b = 0 then 0 else 23 := by
  have e0 : knE 2 linkL = 0 := by decide
  show first [knE 2 linkL, nmE a, nmE b] = _
  rw [e0]
  unfold nmE first first first first
  cases nmOk a <;> cases nmOk b <;> rfl
theorem link_back {ws : List (List UInt8)} (h : lkX ws = 0) : lkX [linkL, lkT ws, lkN ws] = 0 ∧ lkT [linkL, lkT ws, lkN ws] = lkT ws ∧ lkN [linkL, lkT ws, lkN ws] = lkN ws := by
  obtain ⟨-, e1, e2, h1, h2⟩ := link_ok h
  rw [e1, e2]
  have X : lkX [linkL, wd ws 1, wd ws 2] = 0 := by rw [lkX_link, if_pos ⟨h1, h2⟩]
  refine ⟨X, ?_, ?_⟩
  · unfold lkT; rw [if_pos X]; rfl
  · unfold lkN; rw [if_pos X]; rfl
theorem zone_ok {ws : List (List UInt8)} (h : znX ws = 0) : (5 ≤ ws.length ∧ ws.length ≤ 9) ∧ zhE ws = 0 ∧ erX (ws.drop 2) = 0 ∧ znN ws = wd ws 1 ∧ znS ws = erS (ws.drop 2) ∧ nmE (wd ws 1) = 0 := by
  have e1 : znN ws = wd ws 1 := by unfold znN; rw [if_pos h]
  have e2 : znS ws = erS (ws.drop 2) := by unfold znS; rw [if_pos h]
  unfold znX at h
  by_cases hn : 5 ≤ ws.length ∧ ws.length ≤ 9
  · rw [if_pos hn] at h
    by_cases hz : zhE ws = 0
    · rw [if_pos hz] at h
      have := first_take hz
      simp only [List.mem_cons, List.not_mem_nil, or_false, forall_eq_or_imp, forall_eq] at this
      exact ⟨hn, hz, h, e1, e2, this.2⟩
    · rw [if_neg hz] at h; exact absurd h hz
  · rw [if_neg hn] at h; exact absurd h (by decide)
theorem zone_back {ws : List (List UInt8)} (h : znX ws = 0) : znX (zoneL :: znN ws :: ewL (znS ws)) = 0 ∧ znN (zoneL :: znN ws :: ewL (znS ws)) = znN ws ∧ znS (zoneL :: znN ws :: ewL (znS ws)) = znS ws := by
  obtain ⟨-, -, h3, e1, e2, h4⟩ := zone_ok h
  rw [e1, e2]
  have hb := era_back h3
  have hl := ewL_len (erS (ws.drop 2))
  have hz : zhE (zoneL :: wd ws 1 :: ewL (erS (ws.drop 2))) = 0 := by
    show first [knE 1 zoneL, nmE (wd ws 1)] = 0
    rw [h4]; decide
  have X : znX (zoneL :: wd ws 1 :: ewL (erS (ws.drop 2))) = 0 := by
    unfold znX
    rw [if_pos (by simp only [List.length_cons, hl]; split <;> omega), if_pos hz]
    exact hb.1
  refine ⟨X, ?_, ?_⟩
  · unfold znN; rw [if_pos X]; rfl
  · unfold znS; rw [if_pos X]; exact hb.2

/-- The reference's words. -/
def yrR (n : Int) : List UInt8 := if 0 ≤ n ∧ n ≤ 100000 then Lib.itoa n else []
def toR (fr tl : Int) : List UInt8 := if tl = 1048576 then maxL else if tl = fr then onlyL else yrR tl
def ruRf (rl : List UInt8) (sv : Int) : List UInt8 := if rl = [] then (if sv = 0 then [45] else svT sv) else rl
def rwR (r : RV) : List (List UInt8) := [ruleL, r.nm, yrR r.fr, toR r.fr r.tl, [45], mnameL r.mo, dyT r.dk r.dw r.dn, ckT r.sc r.ck, svT r.sv, orN r.lt]
def ewR (e : EV) : List (List UInt8) := [svT e.of, ruRf e.rl e.sv, e.fm] ++ if e.en = true then [yrR e.uy, mnameL e.um, dyT e.dk e.dw e.dn, ckT e.sc e.ck] else []
theorem yrR_ok {n : Int} (h : yrE (yrR n) = 0) : yrR n = Lib.itoa n := by
  unfold yrR at h ⊢
  split at h
  · rename_i c; rw [if_pos c]
  · rw [yr_nil] at h; exact absurd h (by decide)
theorem yr_ok {n : Int} (h : yrE (Lib.itoa n) = 0) : 1 ≤ n ∧ n ≤ 4000 ∧ yrR n = Lib.itoa n := by
  by_cases c : 1 ≤ n ∧ n ≤ 4000
  · refine ⟨c.1, c.2, ?_⟩
    unfold yrR; rw [if_pos (by omega)]
  · exact absurd h (yr_not c)
/-- Where there are words, the reference has the same. -/
theorem rule_same (r : RV) : (rlX (rwR r) = 0 ∧ rlS (rwR r) = r ↔ rlX (rwL r) = 0 ∧ rlS (rwL r) = r) ∧ (rlX (rwL r) = 0 ∧ rlS (rwL r) = r → rwR r = rwL r) := by
  have key : (rlX (rwR r) = 0 ∧ rlS (rwR r) = r) ∨ (rlX (rwL r) = 0 ∧ rlS (rwL r) = r) → rwR r = rwL r := by
    rintro (⟨h, hs⟩ | ⟨h, hs⟩)
    · obtain ⟨-, he⟩ := rule_ok h
      rw [rlS, if_pos h] at hs
      have h2 := he (yrE (wd (rwR r) 2)) (by simp [rlE])
      have h3 := he (toE (wd (rwR r) 3) (yrV (wd (rwR r) 2))) (by simp [rlE])
      have hy : yrR r.fr = Lib.itoa r.fr := yrR_ok h2
      have d := to_dom h3
      have e1 : toV (wd (rwR r) 3) (yrV (wd (rwR r) 2)) = r.tl := congrArg RV.tl hs
      have e2 : yrV (wd (rwR r) 2) = r.fr := congrArg RV.fr hs
      have d2 := yr_dom h2
      rw [e2] at d2
      rw [e1, e2] at d
      have ht : toR r.fr r.tl = toT r.fr r.tl := by
        unfold toR toT
        by_cases c1 : r.tl = 1048576
        · rw [if_pos c1, if_neg (by omega), if_pos c1]
        · rw [if_neg c1]
          by_cases c2 : r.tl = r.fr
          · rw [if_pos c2, if_pos c2]
          · rw [if_neg c2, if_neg c2, if_neg c1]
            have : 1 ≤ r.tl ∧ r.tl ≤ 4000 := by rcases d.1 with c | c | c <;> first | exact absurd c c2 | exact absurd c c1 | exact c
            unfold yrR; rw [if_pos (by omega)]
      unfold rwR rwL; rw [hy, ht]
    · obtain ⟨-, he⟩ := rule_ok h
      rw [rlS, if_pos h] at hs
      have h2 := he (yrE (wd (rwL r) 2)) (by simp [rlE])
      have h3 := he (toE (wd (rwL r) 3) (yrV (wd (rwL r) 2))) (by simp [rlE])
      obtain ⟨d1, d2, hy⟩ := yr_ok (n := r.fr) h2
      have d := to_dom h3
      have e1 : toV (wd (rwL r) 3) (yrV (wd (rwL r) 2)) = r.tl := congrArg RV.tl hs
      have e2 : yrV (wd (rwL r) 2) = r.fr := congrArg RV.fr hs
      rw [e1, e2] at d
      have ht : toR r.fr r.tl = toT r.fr r.tl := by
        unfold toR toT
        by_cases c1 : r.tl = 1048576
        · rw [if_pos c1, if_neg (by omega), if_pos c1]
        · rw [if_neg c1]
          by_cases c2 : r.tl = r.fr
          · rw [if_pos c2, if_pos c2]
          · rw [if_neg c2, if_neg c2, if_neg c1]
            have : 1 ≤ r.tl ∧ r.tl ≤ 4000 := by rcases d.1 with c | c | c <;> first | exact absurd c c2 | exact absurd c c1 | exact c
            unfold yrR; rw [if_pos (by omega)]
      unfold rwR rwL; rw [hy, ht]
  refine ⟨⟨fun h => ?_, fun h => ?_⟩, fun h => key (.inr h)⟩
  · rw [← key (.inl h)]; exact h
  · rw [key (.inr h)]; exact h
theorem era_same (e : EV) : (erX (ewR e) = 0 ∧ erS (ewR e) = e ↔ erX (ewL e) = 0 ∧ erS (ewL e) = e) ∧ (erX (ewL e) = 0 ∧ erS (ewL e) = e → ewR e = ewL e) := by
  have ruX : ∀ {vs : List (List UInt8)}, erX vs = 0 → erS vs = e → (e.rl = [] ∨ e.sv = 0) := by
    intro vs h hs
    rw [erS, if_pos h] at hs
    have e1 : ruR (wd vs 1) = e.rl := congrArg EV.rl hs
    have e2 : ruV (wd vs 1) = e.sv := congrArg EV.sv hs
    unfold ruR at e1
    unfold ruV at e2
    cases hb : svB (wd vs 1)
    · rw [hb] at e2; exact .inr e2.symm
    · rw [hb] at e1; exact .inl e1.symm
  have ruQ : e.rl = [] ∨ e.sv = 0 → ruRf e.rl e.sv = ruT e.rl e.sv := by
    rintro (c | c)
    · unfold ruRf ruT orN
      rw [if_pos c, if_pos c]
    · unfold ruRf ruT orN
      rw [if_pos c, if_pos c]
  have yrX : ∀ {vs : List (List UInt8)}, erX vs = 0 → erS vs = e → e.en = true → 1 ≤ e.uy ∧ e.uy ≤ 4000 := by
    intro vs h hs hen
    rw [erS, if_pos h] at hs
    have := (era_dom h).y
    rw [hs] at this
    exact this hen
  have key : ∀ {vs : List (List UInt8)}, erX vs = 0 → erS vs = e → ewR e = ewL e := by
    intro vs h hs
    unfold ewR ewL
    rw [ruQ (ruX h hs)]
    cases hen : e.en
    · rfl
    · have := yrX h hs hen
      rw [show yrR e.uy = Lib.itoa e.uy by unfold yrR; rw [if_pos (by omega)]]
  refine ⟨⟨fun h => ?_, fun h => ?_⟩, fun h => key h.1 h.2⟩
  · rw [← key h.1 h.2]; exact h
  · rw [key h.1 h.2]; exact h
end Go.Proofs.YtfmehdophoejiaaGreatDoor

namespace Go.Proofs.YtfmehdophoejiaaGreatDoor
open Go Go.RowKit

/-- A block of the call's own, whole. -/
structure BlkN (w : World) (g : Nat) (C : Array Value) (t : TypeId) (W : World) : Prop where
  bel : Below w.heap.size w W
  ge : w.heap.size ≤ g
  blk : W.heap[g]? = some (.cells C t (0, 0))
section
variable {w W W1 : World} {g : Nat} {C : Array Value} {t : TypeId}
theorem BlkN.make (h : Below w.heap.size w W) (C : Array Value) (t : TypeId) : BlkN w W.heap.size C t (W.alloc (.cells C t)) := ⟨h.alloc h.size _, h.size, heap_alloc_new W _⟩
theorem BlkN.lt (h : BlkN w g C t W) : g < W.heap.size := (Array.getElem?_eq_some_iff.1 h.blk).1
theorem BlkN.next (h : BlkN w g C t W) (k : Below W.heap.size W W1) : BlkN w g C t W1 := ⟨h.bel.trans (k.mono h.bel.size), h.ge, (k.block g h.lt).trans h.blk⟩
theorem BlkN.more (h : BlkN w g C t W) (o : Obj) : BlkN w g C t (W.alloc o) := h.next ((Below.refl _ _).alloc (Nat.le_refl _) _)
theorem BlkN.drew (h : BlkN w g C t W) : BlkN w g C t W.drew := ⟨⟨h.bel.os, h.bel.tape, h.bel.output, h.bel.size, h.bel.block⟩, h.ge, h.blk⟩
theorem BlkN.cell (h : BlkN w g C t W) (j : Nat) : W.cell? ⟨g, j, none⟩ = C[j]? := cell_of_row W g j _ _ (0, 0) h.blk
end
theorem bmk {w W : World} (h : Below w.heap.size w W) (o : Obj) : Below w.heap.size w (W.alloc o) := h.alloc h.size o
theorem bthen {w W W' : World} (h : Below w.heap.size w W) (k : Below W.heap.size W W') : Below w.heap.size w W' := h.trans (k.mono h.size)
theorem bdrew {w W : World} (h : Below w.heap.size w W) : Below w.heap.size w W.drew := ⟨h.os, h.tape, h.output, h.size, h.block⟩
theorem ListAt.arg {L : Nat} {ws : List (List UInt8)} {W : World} (h : ListAt L ws W) : ArgW (some ⟨L, 0, none⟩) ws W := fun i p hp => ⟨L, 0, rfl, by rw [Nat.zero_add]; exact h.cell i p hp⟩
theorem ListAt.newE (w : World) (ws : List (List UInt8)) (t : TypeId) (cs : Array Value) (L : Nat) (hL : L = w.heap.size) (hc : cs = (ws.map fun p => Value.string ⟨p.toArray⟩).toArray) : ListAt L ws (w.alloc (.cells cs t)) := by
  subst hL
  exact ListAt.new w ws t cs hc
def cR (r : RV) : Array Value := #[.string ⟨r.nm.toArray⟩, .int .i64 r.fr, .int .i64 r.tl, .int .i64 r.mo, .int .i64 r.dk, .int .i64 r.dw, .int .i64 r.dn, .int .i64 r.sc, .int .i64 r.ck, .int .i64 r.sv, .string ⟨r.lt.toArray⟩]
def cE (e : EV) : Array Value := #[.int .i64 e.of, .string ⟨e.rl.toArray⟩, .int .i64 e.sv, .string ⟨e.fm.toArray⟩, .bool e.en, .int .i64 e.uy, .int .i64 e.um, .int .i64 e.dk, .int .i64 e.dw, .int .i64 e.dn, .int .i64 e.sc, .int .i64 e.ck]
def cL (a b : List UInt8) : Array Value := #[.string ⟨a.toArray⟩, .string ⟨b.toArray⟩]

def fewB (ws : List (List UInt8)) : Bool := (ws.all fun p => decide (p.length ≤ 80)) && decide (ws.length ≤ 14)
theorem few_yes {ws : List (List UInt8)} (h : fewB ws = true) : (∀ p ∈ ws, p.length ≤ 80) ∧ ws.length ≤ 14 := by
  unfold fewB at h
  rw [Bool.and_eq_true, List.all_eq_true] at h
  exact ⟨fun p hp => of_decide_eq_true (h.1 p hp), of_decide_eq_true h.2⟩
theorem few_no {ws : List (List UInt8)} {i : Nat} {p : List UInt8} (hp : ws[i]? = some p) (h : ¬ p.length ≤ 80) : fewB ws = false := by
  unfold fewB
  have : (ws.all fun p => decide (p.length ≤ 80)) = false := by
    rw [List.all_eq_false]
    exact ⟨p, List.mem_of_getElem? hp, by simpa using h⟩
  rw [this]; rfl
set_option maxHeartbeats 800000 in
theorem few_is (A : Option Addr) (n c : Nat) (ws : List (List UInt8)) (v : Bool) (w : World) (hn : ws.length = n) (hm : n ≤ 9223372036854775807) (hW : ArgW A ws w) (hv : Hid (fewB ws = v)) :
    Calls Tryz.prog 18 #[.slice A n c] w fun e w' => e = .returned (.bool v) ∧ w = w' := by
  have HW := Lib.hid hW
  have HN := Lib.hid hn
  clear hW hn
  go_enter Tryz.func18, Tryz.ntmps18
  go_wp2
  go_loopw [3] (fun vi wr => ∃ i : Nat, vi = .int .i64 i ∧ i ≤ n ∧ (∀ j p, j < i → ws[j]? = some p → p.length ≤ 80) ∧ w = wr) (fun vi _ => n - (intOf vi).toNat)
  case atStart => exact ⟨0, rfl, Nat.zero_le _, fun j p h => absurd h (by omega), rfl⟩
  case round =>
    obtain ⟨i, rfl, i1, ha, rfl⟩ := hrel
    have NA := Lib.hid ha
    clear ha
    by_cases hlt : i < n
    · have hii : (i : Int) < (n : Int) := by omega
      obtain ⟨p, hp⟩ : ∃ p, ws[i]? = some p := ⟨_, List.getElem?_eq_getElem (by rw [HN.out]; exact hlt)⟩
      have HP := Lib.hid hp
      obtain ⟨L, off, rfl, hc⟩ := HW.out i p hp
      have hLs := wcell_lt hc
      have hpz := wsize p
      clear hp
      by_cases h80 : p.length ≤ 80
      · have h80' : ¬ (80 : Int) < (p.length : Int) := by omega
        have N2 : Hid (∀ j q, j < i + 1 → ws[j]? = some q → q.length ≤ 80) := Lib.hid fun j q hj hq => by
          by_cases c : j < i
          · exact NA.out j q c hq
          · obtain rfl : j = i := by omega
            rw [HP.out] at hq
            injection hq with hq
            rw [← hq]; exact h80
        go_wp2
        go_roundw
        case rel => exact ⟨i + 1, by go_num, by omega, N2.out, by first | rfl | trivial⟩
        case measure => simp [intOf]; omega
      · have h80' : (80 : Int) < (p.length : Int) := by omega
        have ev : Hid (v = false) := Lib.hid (by rw [← hv.out]; exact few_no HP.out h80)
        go_wp2
        go_ret
        rw [ev.out]
        exact ⟨rfl, rfl⟩
    · obtain rfl : i = n := by omega
      have hii : ¬ ((i : Nat) : Int) < (i : Int) := by omega
      have AL : Hid ((ws.all fun p => decide (p.length ≤ 80)) = true) := Lib.hid (by
        rw [List.all_eq_true]
        intro p hp
        obtain ⟨j, hj, e⟩ := List.getElem_of_mem hp
        exact decide_eq_true (NA.out j p (by rw [← HN.out]; exact hj) (by rw [List.getElem?_eq_getElem hj, e])))
      by_cases h14 : i ≤ 14
      · have h14' : (i : Int) ≤ 14 := by omega
        have ev : Hid (v = true) := Lib.hid (by rw [← hv.out]; unfold fewB; rw [AL.out, HN.out, decide_eq_true h14]; rfl)
        go_wp2
        go_ret
        rw [ev.out]
        exact ⟨rfl, rfl⟩
      · have h14' : ¬ (i : Int) ≤ 14 := by omega
        have ev : Hid (v = false) := Lib.hid (by rw [← hv.out]; unfold fewB; rw [HN.out, decide_eq_false h14, Bool.and_false])
        go_wp2
        go_ret
        rw [ev.out]
        exact ⟨rfl, rfl⟩
theorem is_is (e0 : Int) (r : Bool) (x : Int) (v : Bool) (w : World) (hv : Hid ((if r = true then (e0 == 0) else (e0 == x)) = v)) :
    Calls Tryz.prog 11 #[.int .i64 e0, .bool r, .int .i64 x] w fun e w' => e = .returned (.bool v) ∧ w = w' := by
  have h := hv.out
  clear hv
  cases r with
  | true =>
    rw [if_pos rfl] at h
    go_enter Tryz.func11, Tryz.ntmps11
    go_wp2
    go_ret
    exact ⟨by first | rfl | rw [h], by first | rfl | trivial⟩
  | false =>
    rw [if_neg (by decide)] at h
    go_enter Tryz.func11, Tryz.ntmps11
    go_wp2
    go_ret
    exact ⟨by first | rfl | rw [h], by first | rfl | trivial⟩

def exR : List (List UInt8) := [[82, 117, 108, 101], [69, 85], [49, 57, 56, 49], [109, 97, 120], [45], [77, 97, 114], [108, 97, 115, 116, 83, 117, 110], [49, 58, 48, 48, 117], [49, 58, 48, 48], [83]]
def exE : List (List UInt8) := [[49, 58, 48, 48], [69, 85], [67, 69, 37, 115, 84], [49, 57, 56, 48], [65, 112, 114], [54], [50, 58, 48, 48, 115]]
def exL : List (List UInt8) := [[76, 105, 110, 107], [69, 117, 114, 111, 112, 101, 47, 66, 101, 114, 108, 105, 110], [69, 117, 114, 111, 112, 101, 47, 79, 115, 108, 111]]
def vR : RV := ⟨[69, 85], 1981, 1048576, 3, 1, 0, 0, 3600, 2, 3600, [83]⟩
def vE : EV := ⟨3600, [69, 85], 0, [67, 69, 37, 115, 84], true, 1980, 4, 0, 0, 6, 7200, 1⟩
set_option maxRecDepth 100000 in
theorem exR_is : rlS exR = vR ∧ rlX exR = 0 := by decide +kernel
set_option maxRecDepth 100000 in
theorem exE_is : erS exE = vE ∧ erX exE = 0 := by decide +kernel
set_option maxRecDepth 100000 in
theorem exL_is : lkT exL = [69, 117, 114, 111, 112, 101, 47, 66, 101, 114, 108, 105, 110] ∧ lkN exL = [69, 117, 114, 111, 112, 101, 47, 79, 115, 108, 111] ∧ lkX exL = 0 := by decide +kernel
set_option maxRecDepth 20000 in
set_option maxHeartbeats 800000 in
theorem lawake_any (w : World) (hA : LaidL w) : Calls Tryz.prog 10 #[] w fun e w' => e = .returned (.bool true) ∧ Below w.heap.size w w' := by
  have HA := Lib.hid hA
  have B0 : Hid (Below w.heap.size w w) := Lib.hid (Below.refl _ _)
  clear hA
  go_enter Tryz.func10, Tryz.ntmps10
  go_wp2_with (first
    | (go_at_call 19
       refine (lrule_is _ 10 10 exR _ rfl (by decide) ?_ (HA.out.next ((Below.refl _ _).alloc (Nat.le_refl _) _)) vR 0 (Lib.hid exR_is)).mono ?_
       · exact (ListAt.newE _ exR _ _ _ (by simp) rfl).arg
       rintro e w1 ⟨rfl, k1⟩
       have K1 : Hid (Below w.heap.size w w1) := Lib.hid (((Below.refl _ _).alloc (Nat.le_refl _) _).trans (k1.mono (by simp)))
       clear k1
       simp only [rvV, vR])
    | (go_at_call 21
       refine (lera_is _ 7 7 exE _ rfl (by decide) ?_ (HA.out.next ((K1.out.alloc K1.out.size _).alloc (K1.out.alloc K1.out.size _).size _)) vE 0 (Lib.hid exE_is)).mono ?_
       · exact (ListAt.newE _ exE _ _ _ (by simp) rfl).arg
       rintro e w2 ⟨rfl, k2⟩
       have X2 := Lib.hid (((BlkN.make K1.out _ _).more _).next k2)
       have K2 := Lib.hid X2.out.bel
       clear k2
       simp only [evV, vE])
    | (go_at_call 25
       refine (llink_is _ 3 3 exL _ rfl (by decide) ?_ (HA.out.next ((K2.out.alloc K2.out.size _).alloc (K2.out.alloc K2.out.size _).size _)) _ _ 0 (Lib.hid exL_is)).mono ?_
       · exact (ListAt.newE _ exL _ _ _ (by simp) rfl).arg
       rintro e w3 ⟨rfl, k3⟩
       have X3 := Lib.hid (((X2.out.more _).more _).next k3)
       have Y3 := Lib.hid (((BlkN.make K2.out _ _).more _).next k3)
       clear k3 X2
       have rc0 := X3.out.cell 0
       have rc1 := X3.out.cell 1
       have rc2 := X3.out.cell 2
       have rc3 := X3.out.cell 3
       have rc4 := X3.out.cell 4
       have rc5 := X3.out.cell 5
       have rc6 := X3.out.cell 6
       have rc7 := X3.out.cell 7
       have rc8 := X3.out.cell 8
       have rc9 := X3.out.cell 9
       have rc10 := X3.out.cell 10
       have ec0 := Y3.out.cell 0
       have ec1 := Y3.out.cell 1
       have ec2 := Y3.out.cell 2
       have ec3 := Y3.out.cell 3
       have ec4 := Y3.out.cell 4
       have ec5 := Y3.out.cell 5
       have ec6 := Y3.out.cell 6
       have ec7 := Y3.out.cell 7
       have ec8 := Y3.out.cell 8
       have ec9 := Y3.out.cell 9
       have ec10 := Y3.out.cell 10
       have ec11 := Y3.out.cell 11
       have xlt := X3.out.lt
       have ylt := Y3.out.lt
       simp only [List.getElem?_toArray, List.getElem?_cons_zero, List.getElem?_cons_succ] at rc0 rc1 rc2 rc3 rc4 rc5 rc6 rc7 rc8 rc9 rc10 ec0 ec1 ec2 ec3 ec4 ec5 ec6 ec7 ec8 ec9 ec10 ec11
       simp only [lvV]))
  go_ret
  exact ⟨rfl, (X3.out.more _).bel⟩
end Go.Proofs.YtfmehdophoejiaaGreatDoor
