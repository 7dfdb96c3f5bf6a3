/- The pieces of words of lines: dayform.Print, clock.Print and clock.Text in one form; lastYearText, orNone, rulesText; where words are right, what is read of them. Written by wip/tools/genlny.py. -/
import Derived.Test.YtfmehdophoejiaaGreatDoorMP
import Derived.Test.YtfmehdophoejiaaGreatDoorLeA
import Derived.Test.YtfmehdophoejiaaGreatDoorMU
import Derived.Test.YtfmehdophoejiaaGreatDoorMI
import Derived.BigRegionIn
import Derived.Stop.RegionWithIn
namespace Go.Proofs.YtfmehdophoejiaaGreatDoor
open Go Go.RowKit

/-- The tables, and that of marks. -/
structure LaidQ (w : World) : Prop where
  l : LaidL w
  mrk : MarkAt w
theorem LaidQ.next {w w' : World} (h : LaidQ w) (k : Below w.heap.size w w') : LaidQ w' := ⟨h.l.next k, h.mrk.next k⟩
theorem cells11 {W : World} {g : Nat} {t : TypeId} {v0 v1 v2 v3 v4 v5 v6 v7 v8 v9 v10 : Value} (h : W.heap[g]? = some (.cells #[v0, v1, v2, v3, v4, v5, v6, v7, v8, v9, v10] t (0, 0))) :
    W.cell? ⟨g, 0, none⟩ = some v0 ∧ W.cell? ⟨g, 1, none⟩ = some v1 ∧ W.cell? ⟨g, 2, none⟩ = some v2 ∧ W.cell? ⟨g, 3, none⟩ = some v3 ∧ W.cell? ⟨g, 4, none⟩ = some v4 ∧ W.cell? ⟨g, 5, none⟩ = some v5 ∧ W.cell? ⟨g, 6, none⟩ = some v6 ∧ W.cell? ⟨g, 7, none⟩ = some v7 ∧ W.cell? ⟨g, 8, none⟩ = some v8 ∧ W.cell? ⟨g, 9, none⟩ = some v9 ∧ W.cell? ⟨g, 10, none⟩ = some v10 :=
  ⟨cell_of_row W g 0 _ _ _ h, cell_of_row W g 1 _ _ _ h, cell_of_row W g 2 _ _ _ h, cell_of_row W g 3 _ _ _ h, cell_of_row W g 4 _ _ _ h, cell_of_row W g 5 _ _ _ h, cell_of_row W g 6 _ _ _ h, cell_of_row W g 7 _ _ _ h, cell_of_row W g 8 _ _ _ h, cell_of_row W g 9 _ _ _ h, cell_of_row W g 10 _ _ _ h⟩

theorem dpr_is (k wk n : Int) (T : List UInt8) (w : World) (hA : LaidF w) (hT : Hid (dyT k wk n = T)) :
    Calls Tryz.prog 69 #[.agg #[.int .i64 k, .int .i64 wk, .int .i64 n]] w fun e w' => (∃ x : Int, e = .returned (.tuple #[.string ⟨T.toArray⟩, .int .i64 x])) ∧ Below w.heap.size w w' := by
  have h := hT.out
  unfold dyT at h
  by_cases hd : dfD k wk n
  · rw [if_pos (dfB_iff.2 hd)] at h
    obtain ⟨kk, rfl⟩ : ∃ kk : Nat, wk = (kk : Int) := ⟨wk.toNat, by rcases hd with ⟨_, h, _⟩ | ⟨_, h, _⟩ | ⟨_, h, _⟩ <;> omega⟩
    exact (dprint_yes k n kk T w hA hd (Lib.hid h)).mono fun e w' ⟨h1, h2⟩ => ⟨⟨_, h1⟩, h2⟩
  · rw [if_neg (fun c => hd (dfB_iff.1 c))] at h
    subst h
    exact (dprint_no k wk n w hd).mono fun e w' ⟨h1, h2⟩ => ⟨⟨_, h1⟩, h2⟩
theorem cpr_is (n k : Int) (T : List UInt8) (w : World) (hp : PowAt w) (hm : MarkAt w) (hT : Hid (ckT n k = T)) :
    Calls Tryz.prog 70 #[.agg #[.int .i64 n, .int .i64 k]] w fun e w' => (∃ x : Int, e = .returned (.tuple #[.string ⟨T.toArray⟩, .int .i64 x])) ∧ Below w.heap.size w w' := by
  have h := hT.out
  unfold ckT at h
  by_cases hk : k = 0 ∨ k = 1 ∨ k = 2
  · by_cases hn : -604800 < n ∧ n < 604800
    · rw [if_pos ⟨hn, hk⟩] at h
      exact (print_yes n k _ T _ w hn.1 hn.2 hk hp hm (Lib.hid rfl) (Lib.hid rfl) (Lib.hid h)).mono fun e w' ⟨h1, h2⟩ => ⟨⟨_, h1⟩, h2⟩
    · rw [if_neg (fun c => hn c.1)] at h
      subst h
      exact (print_sec n k w hn (by omega) (by omega)).mono fun e w' ⟨h1, h2⟩ => ⟨⟨_, h1⟩, h2⟩
  · rw [if_neg (fun c => hk c.2)] at h
    subst h
    exact (print_kind n k w (by omega)).mono fun e w' ⟨h1, h2⟩ => ⟨⟨_, h1⟩, h2⟩
theorem ctx_is (n : Int) (T : List UInt8) (w : World) (hp : PowAt w) (hT : Hid (svT n = T)) :
    Calls Tryz.prog 71 #[.int .i64 n] w fun e w' => (∃ x : Int, e = .returned (.tuple #[.string ⟨T.toArray⟩, .int .i64 x])) ∧ Below w.heap.size w w' := by
  have h := hT.out
  unfold svT at h
  by_cases hn : -604800 < n ∧ n < 604800
  · rw [if_pos hn] at h
    subst h
    exact (text_yes n w hp hn.1 hn.2).mono fun e w' ⟨h1, h2⟩ => ⟨⟨_, h1⟩, h2⟩
  · rw [if_neg hn] at h
    subst h
    exact (text_no n w hn).mono fun e w' ⟨h1, h2⟩ => ⟨⟨_, h1⟩, h2⟩
theorem orn_is (s T : List UInt8) (w : World) (hT : Hid (orN s = T)) :
    Calls Tryz.prog 74 #[.string ⟨s.toArray⟩] w fun e w' => e = .returned (.string ⟨T.toArray⟩) ∧ Below w.heap.size w w' := by
  have h := hT.out
  unfold orN at h
  clear hT
  by_cases h0 : s = []
  · rw [if_pos h0] at h
    subst h0 h
    go_enter Tryz.func74, Tryz.ntmps74
    go_wp2
    go_ret
    exact ⟨rfl, Below.refl _ _⟩
  · rw [if_neg h0] at h
    subst h
    have h1 : s.isEmpty = false := by cases s <;> simp_all
    clear h0
    go_enter Tryz.func74, Tryz.ntmps74
    go_wp2
    go_ret
    exact ⟨rfl, Below.refl _ _⟩
def in64' (n : Int) : Prop := -9223372036854775808 ≤ n ∧ n ≤ 9223372036854775807
set_option maxHeartbeats 800000 in
theorem lyt_is (r : RV) (T : List UInt8) (w : World) (hA : PowW w) (hr : Hid (in64' r.tl)) (hT : Hid (toT r.fr r.tl = T)) :
    Calls Tryz.prog 73 #[rvV r] w fun e w' => e = .returned (.string ⟨T.toArray⟩) ∧ Below w.heap.size w w' := by
  obtain ⟨nm, fr, tl, mo, dk, dw, dn, sc, ck, sv, lt⟩ := r
  simp only [rvV] at hT hr ⊢
  have h := hT.out
  unfold toT at h
  have HA := Lib.hid hA
  clear hT hA
  by_cases h1 : tl = fr
  · rw [if_pos h1] at h
    subst h h1
    go_enter Tryz.func73, Tryz.ntmps73
    go_wp2
    go_ret
    exact ⟨rfl, (Below.refl _ _).alloc (Nat.le_refl _) _⟩
  · rw [if_neg h1] at h
    have n1 : (tl == fr) = false := by simpa using h1
    by_cases h2 : tl = 1048576
    · rw [if_pos h2] at h
      subst h h2
      clear h1
      go_enter Tryz.func73, Tryz.ntmps73
      go_wp2
      go_ret
      exact ⟨rfl, (Below.refl _ _).alloc (Nat.le_refl _) _⟩
    · rw [if_neg h2] at h
      have n2 : (tl == 1048576) = false := by simpa using h2
      have HD := Lib.hid h
      clear h h1 h2
      go_enter Tryz.func73, Tryz.ntmps73
      go_wp2_with (go_at_call 72; refine (witoa_is tl T _ hr.out.1 hr.out.2 (HA.out.next ((Below.refl _ _).alloc (Nat.le_refl _) _)) HD).mono ?_; rintro e w1 ⟨rfl, k1⟩; have K1 := Lib.hid (bthen (bmk (Below.refl _ _) _) k1); clear k1; simp only [])
      go_ret
      exact ⟨rfl, K1.out⟩
set_option maxHeartbeats 800000 in
theorem rut_is (x : EV) (T : List UInt8) (w : World) (hA : PowAt w) (hT : Hid (ruT x.rl x.sv = T)) :
    Calls Tryz.prog 80 #[evV x] w fun e w' => e = .returned (.string ⟨T.toArray⟩) ∧ Below w.heap.size w w' := by
  obtain ⟨of, rl, sv, fm, en, uy, um, dk, dw, dn, sc, ck⟩ := x
  simp only [evV] at hT ⊢
  have h := hT.out
  unfold ruT at h
  have HA := Lib.hid hA
  clear hT hA
  by_cases h1 : sv = 0
  · rw [if_pos h1] at h
    have HO := Lib.hid h
    subst h1
    clear h
    go_enter Tryz.func80, Tryz.ntmps80
    go_wp2_with (go_at_call 74; refine (orn_is rl T _ HO).mono ?_; rintro e w1 ⟨rfl, k1⟩; have K1 := Lib.hid (bthen (bmk (Below.refl _ _) _) k1); clear k1; simp only [])
    go_ret
    exact ⟨rfl, K1.out⟩
  · rw [if_neg h1] at h
    have HO := Lib.hid h
    have n1 : (sv == 0) = false := by simpa using h1
    clear h h1
    go_enter Tryz.func80, Tryz.ntmps80
    go_wp2_with (go_at_call 71; refine (ctx_is sv T _ (HA.out.next ((Below.refl _ _).alloc (Nat.le_refl _) _)) HO).mono ?_; rintro e w1 ⟨⟨x, rfl⟩, k1⟩; have K1 := Lib.hid (bthen (bmk (Below.refl _ _) _) k1); clear k1; simp only [])
    go_ret
    exact ⟨rfl, K1.out⟩

theorem of_nil : ofE [] ≠ 0 := by decide
theorem sv_same {n : Int} (h : ofE (svT n) = 0) : ofV (svT n) = n := by
  by_cases c : -604800 < n ∧ n < 604800
  · have e : svT n = textL n := by unfold svT; rw [if_pos c]
    rw [e] at h ⊢
    have sp := textL_span c.1 c.2
    have : ofV (textL n) = spanN (textL n) := by unfold ofV; rw [h, if_neg (fun c => absurd c.1 (by decide))]
    rw [this, sp.1]
  · exact absurd h (by unfold svT; rw [if_neg c]; exact of_nil)
theorem yr_same {n : Int} (h : yrE (Lib.itoa n) = 0) : yrV (Lib.itoa n) = n := by
  have := yr_ok h
  exact (yr_val this.1 this.2.1).1
theorem mo_same {m : Int} (h : moE (mnameL m) = 0) : moV (mnameL m) = m := by
  by_cases c : 1 ≤ m ∧ m ≤ 12
  · exact (mo_val c.1 c.2).2
  · exact absurd h (by unfold mnameL; rw [if_neg c]; decide)
theorem dy_same {k wk n : Int} (h : dyE (dyT k wk n) = 0) : dyK (dyT k wk n) = k ∧ dyW (dyT k wk n) = wk ∧ dyN (dyT k wk n) = n := by
  by_cases c : dfD k wk n
  · exact (dy_val c).2
  · exact absurd h (by unfold dyT; rw [if_neg (fun d => c (dfB_iff.1 d))]; decide)
theorem ck_same {n k : Int} (h : parE (ckT n k) = 0) : parN (ckT n k) = n ∧ parK (ckT n k) = k := by
  by_cases c : (-604800 < n ∧ n < 604800) ∧ (k = 0 ∨ k = 1 ∨ k = 2)
  · exact (ck_val c).2
  · exact absurd h (by unfold ckT; rw [if_neg c]; decide)
theorem to_same {f t : Int} (h : toE (toT f t) f = 0) : toV (toT f t) f = t := by
  unfold toT at h ⊢
  split
  · rename_i e; subst e; exact (to_of (only_y t).1 (only_y t).2.1 (Int.le_refl _)).2
  · rename_i h1
    rw [if_neg h1] at h
    split
    · rename_i e
      rw [if_pos e] at h
      have hV : toV maxL f = yearV maxL f := by unfold toV; rw [if_neg (by rw [h]; decide)]
      rw [hV, (max_y f).1, e]
    · rename_i h2
      rw [if_neg h2] at h
      have hV : toV (Lib.itoa t) f = yearV (Lib.itoa t) f := by unfold toV; rw [if_neg (by rw [h]; decide)]
      have hE : yearE (Lib.itoa t) = 0 := by
        unfold toE at h
        by_cases c : yearE (Lib.itoa t) = 0
        · exact c
        · rw [if_neg c] at h; exact h
      rcases yr_cases (Lib.itoa t) with ⟨⟨p, hp⟩, _⟩ | ⟨_, hv, he, _⟩
      · rw [itoa_ends] at hp; cases hp
      · rw [hV, hv]; exact yr_same (he.symm.trans hE)
theorem lt_same {l : List UInt8} (h : ltE (orN l) = 0) : ltV (orN l) = l ∨ (l = [45] ∧ ltV (orN l) = []) := by
  unfold orN at h ⊢
  split
  · rename_i e; subst e; left; decide
  · rename_i e
    rw [if_neg e] at h
    by_cases c : l = [45]
    · right; subst c; exact ⟨rfl, by decide⟩
    · left
      unfold ltV
      rw [if_neg c]
      have : txOk lnP 1 8 l = true := by
        unfold ltE ltOk at h
        rw [decide_eq_false c, Bool.false_or] at h
        cases e2 : txOk lnP 1 8 l
        · rw [e2] at h; exact absurd h (by decide)
        · rfl
      rw [if_pos this]
theorem ru_same {rl : List UInt8} {sv : Int} (h : ruE (ruT rl sv) = 0) : (ruR (ruT rl sv) = rl ∧ ruV (ruT rl sv) = sv) ∨ (rl ≠ [] ∧ ruR (ruT rl sv) = []) := by
  by_cases h0 : sv = 0
  · subst h0
    have e : ruT rl 0 = orN rl := by unfold ruT; rw [if_pos rfl]
    rw [e] at h ⊢
    by_cases hl : rl = []
    · subst hl; left; exact ⟨by decide, by decide⟩
    · have e2 : orN rl = rl := by unfold orN; rw [if_neg hl]
      rw [e2] at h ⊢
      cases hb : svB rl with
      | true => right; exact ⟨hl, by unfold ruR; rw [if_pos hb]⟩
      | false => left; exact ⟨by unfold ruR; rw [hb]; rfl, by unfold ruV; rw [hb]; rfl⟩
  · have e : ruT rl sv = svT sv := by unfold ruT; rw [if_neg h0]
    rw [e] at h ⊢
    by_cases c : -604800 < sv ∧ sv < 604800
    · have hb : svB (svT sv) = true := by
        unfold svT
        rw [if_pos c]
        unfold textL
        obtain ⟨b, r, eb, hb⟩ := textN_head sv.natAbs
        rw [eb]
        split
        · rfl
        · show (decide (b = 45) || isDg b) = true
          have : isDg b = true := hb
          rw [this, Bool.or_true]
      have hE : ofE (svT sv) = 0 := by unfold ruE at h; rw [if_pos hb] at h; exact h
      have e1 : ruR (svT sv) = [] := by unfold ruR; rw [if_pos hb]
      have e2 : ruV (svT sv) = sv := by unfold ruV; rw [if_pos hb]; exact sv_same hE
      by_cases hl : rl = []
      · left; exact ⟨by rw [e1, hl], e2⟩
      · right; exact ⟨hl, e1⟩
    · exact absurd h (by unfold svT; rw [if_neg c]; decide)
/-- What is read of a rule's words, where they are right, is the rule, but for a letter '-'. -/
theorem rule_read (r : RV) (h : rlX (rwL r) = 0) : rlS (rwL r) = r ∨ (r.lt = [45] ∧ rlS (rwL r) = { r with lt := [] }) := by
  obtain ⟨-, he⟩ := rule_ok h
  have eS : rlS (rwL r) = rlV (rwL r) := by unfold rlS; rw [if_pos h]
  rw [eS]
  have h2 : yrE (Lib.itoa r.fr) = 0 := he _ (by show yrE (wd (rwL r) 2) ∈ _; simp [rlE])
  have h3 : toE (toT r.fr r.tl) (yrV (Lib.itoa r.fr)) = 0 := he _ (by show toE (wd (rwL r) 3) (yrV (wd (rwL r) 2)) ∈ _; simp [rlE])
  have h5 : moE (mnameL r.mo) = 0 := he _ (by show moE (wd (rwL r) 5) ∈ _; simp [rlE])
  have h6 : dyE (dyT r.dk r.dw r.dn) = 0 := he _ (by show dyE (wd (rwL r) 6) ∈ _; simp [rlE])
  have h7 : parE (ckT r.sc r.ck) = 0 := he _ (by show parE (wd (rwL r) 7) ∈ _; simp [rlE])
  have h8 : ofE (svT r.sv) = 0 := he _ (by show ofE (wd (rwL r) 8) ∈ _; simp [rlE])
  have h9 : ltE (orN r.lt) = 0 := he _ (by show ltE (wd (rwL r) 9) ∈ _; simp [rlE])
  have a2 := yr_same h2
  rw [a2] at h3
  have a3 := to_same h3
  have a5 := mo_same h5
  have a6 := dy_same h6
  have a7 := ck_same h7
  have a8 := sv_same h8
  have e : rlV (rwL r) = ⟨r.nm, yrV (Lib.itoa r.fr), toV (toT r.fr r.tl) (yrV (Lib.itoa r.fr)), moV (mnameL r.mo), dyK (dyT r.dk r.dw r.dn), dyW (dyT r.dk r.dw r.dn), dyN (dyT r.dk r.dw r.dn), parN (ckT r.sc r.ck), parK (ckT r.sc r.ck), ofV (svT r.sv), ltV (orN r.lt)⟩ := rfl
  rw [e, a2, a3, a5, a6.1, a6.2.1, a6.2.2, a7.1, a7.2, a8]
  rcases lt_same h9 with h | ⟨h, h'⟩
  · left; rw [h]
  · right; exact ⟨h, by rw [h']⟩
/-- What is read of an era's words, where they are right: all but its rules, and, if it does not end, its end. -/
theorem era_read (x : EV) (h : erX (ewL x) = 0) : ∃ rl sv, ((rl = x.rl ∧ sv = x.sv) ∨ (x.rl ≠ [] ∧ rl = [])) ∧
    ((x.en = true ∧ erS (ewL x) = { x with rl := rl, sv := sv }) ∨ (x.en = false ∧ erS (ewL x) = ⟨x.of, rl, sv, x.fm, false, 0, 0, 0, 0, 0, 0, 0⟩)) := by
  obtain ⟨-, he⟩ := era_ok h
  have eS : erS (ewL x) = erV (ewL x) := by unfold erS; rw [if_pos h]
  rw [eS]
  have hl := ewL_len x
  have h0 : ofE (svT x.of) = 0 := he 0 _ rfl (by rw [hl]; split <;> omega)
  have h1 : ruE (ruT x.rl x.sv) = 0 := he 1 _ rfl (by rw [hl]; split <;> omega)
  have a0 := sv_same h0
  refine ⟨ruR (ruT x.rl x.sv), ruV (ruT x.rl x.sv), ?_, ?_⟩
  · rcases ru_same h1 with ⟨a, b⟩ | ⟨a, b⟩
    · exact .inl ⟨a, b⟩
    · exact .inr ⟨a, b⟩
  · cases hen : x.en with
    | false =>
      right
      refine ⟨rfl, ?_⟩
      rw [erV_short (by rw [hl, hen]; rfl)]
      have w0 : wd (ewL x) 0 = svT x.of := rfl
      have w1 : wd (ewL x) 1 = ruT x.rl x.sv := rfl
      have w2 : wd (ewL x) 2 = x.fm := rfl
      rw [w0, w1, w2, a0]
    | true =>
      left
      refine ⟨rfl, ?_⟩
      have eW : ewL x = [svT x.of, ruT x.rl x.sv, x.fm, Lib.itoa x.uy, mnameL x.um, dyT x.dk x.dw x.dn, ckT x.sc x.ck] := by unfold ewL; rw [hen]; rfl
      rw [eW] at he ⊢
      have a3 := yr_same (n := x.uy) (he 3 _ rfl (by simp))
      have a4 := mo_same (m := x.um) (he 4 _ rfl (by simp))
      have a5 := dy_same (k := x.dk) (wk := x.dw) (n := x.dn) (he 5 _ rfl (by simp))
      have a6 := ck_same (n := x.sc) (k := x.ck) (he 6 _ rfl (by simp))
      rw [erV_long rfl]
      show (⟨ofV (svT x.of), ruR (ruT x.rl x.sv), ruV (ruT x.rl x.sv), x.fm, true, yrV (Lib.itoa x.uy), moV (mnameL x.um), dyK (dyT x.dk x.dw x.dn), dyW (dyT x.dk x.dw x.dn), dyN (dyT x.dk x.dw x.dn), parN (ckT x.sc x.ck), parK (ckT x.sc x.ck)⟩ : EV) = _
      rw [a0, a3, a4, a5.1, a5.2.1, a5.2.2, a6.1, a6.2, ← hen]
/-- What RuleWords, EraWords, LinkWords answer: words, or that there are none. -/
def WordsIs (ws : List (List UInt8)) (ok : Bool) (w : World) (e : Ending) (w' : World) : Prop :=
  (ok = true ∧ ∃ A c, e = .returned (.tuple #[.slice A ws.length c, .int .i64 0]) ∧ ws.length ≤ c ∧ ArgW A ws w' ∧ Below w.heap.size w w') ∨
  (ok = false ∧ e = .returned (.tuple #[.slice none 0 0, .int .i64 1]) ∧ Below w.heap.size w w')
end Go.Proofs.YtfmehdophoejiaaGreatDoor
