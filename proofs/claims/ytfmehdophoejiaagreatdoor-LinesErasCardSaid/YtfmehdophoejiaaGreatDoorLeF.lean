/- The contract of the reference's Era: which era words are, or what is wrong with them; nothing that was in memory changes. Written by wip/tools/genlre.py. -/
import Derived.Test.YtfmehdophoejiaaGreatDoorLeB
import Derived.Test.YtfmehdophoejiaaGreatDoorLeC
import Derived.Test.YtfmehdophoejiaaGreatDoorLeD
import Derived.Test.YtfmehdophoejiaaGreatDoorLeE
namespace Go.Proofs.YtfmehdophoejiaaGreatDoor
open Go Go.RowKit

set_option maxHeartbeats 800000 in
theorem rera_few (A : Option Addr) (n c : Nat) (w : World) (hn : n < 3) :
    Calls Tryz.prog 22 #[.slice A n c] w fun e w' => e = .returned (.tuple #[evV e0V, .int .i64 14]) ∧ Below w.heap.size w w' := by
  have hn' : (n : Int) < 3 := by omega
  clear hn
  go_enter Tryz.func22, Tryz.ntmps22
  go_wp2
  exact bodyPost_ret (v := .tuple #[evV e0V, .int .i64 14]) (by simp [results, Tryz.results22, go_sem, evV, e0V]) rfl ⟨rfl, ((Below.refl _ _).alloc (Nat.le_refl _) _).alloc (by simp) _⟩

set_option maxHeartbeats 800000 in
theorem rera_many (A : Option Addr) (n c : Nat) (w : World) (hn : 7 < n) :
    Calls Tryz.prog 22 #[.slice A n c] w fun e w' => e = .returned (.tuple #[evV e0V, .int .i64 14]) ∧ Below w.heap.size w w' := by
  have hn0 : ¬ (n : Int) < 3 := by omega
  have hn' : (7 : Int) < (n : Int) := by omega
  clear hn
  go_enter Tryz.func22, Tryz.ntmps22
  go_wp2
  exact bodyPost_ret (v := .tuple #[evV e0V, .int .i64 14]) (by simp [results, Tryz.results22, go_sem, evV, e0V]) rfl ⟨rfl, ((Below.refl _ _).alloc (Nat.le_refl _) _).alloc (by simp) _⟩

theorem zc {a : Int} {l : List Int} (h : a = 0) (k : ∀ e ∈ l, e = 0) : ∀ e ∈ a :: l, e = 0 := List.forall_mem_cons.2 ⟨h, k⟩
theorem zz1 {a : Int} (h : a = 0) : ∀ e ∈ [a], e = 0 := zc h fun _ he => by cases he
theorem zz2 {a b : Int} (h : a = 0) (h1 : b = 0) : ∀ e ∈ [a, b], e = 0 := zc h (zz1 h1)
theorem zz3 {a b c : Int} (h : a = 0) (h1 : b = 0) (h2 : c = 0) : ∀ e ∈ [a, b, c], e = 0 := zc h (zz2 h1 h2)
theorem zz4 {a b c d : Int} (h : a = 0) (h1 : b = 0) (h2 : c = 0) (h3 : d = 0) : ∀ e ∈ [a, b, c, d], e = 0 := zc h (zz3 h1 h2 h3)
theorem zz5 {a b c d f : Int} (h : a = 0) (h1 : b = 0) (h2 : c = 0) (h3 : d = 0) (h4 : f = 0) : ∀ e ∈ [a, b, c, d, f], e = 0 := zc h (zz4 h1 h2 h3 h4)
theorem zz6 {a b c d f g : Int} (h : a = 0) (h1 : b = 0) (h2 : c = 0) (h3 : d = 0) (h4 : f = 0) (h5 : g = 0) : ∀ e ∈ [a, b, c, d, f, g], e = 0 := zc h (zz5 h1 h2 h3 h4 h5)
theorem zz7 {a b c d f g i : Int} (h : a = 0) (h1 : b = 0) (h2 : c = 0) (h3 : d = 0) (h4 : f = 0) (h5 : g = 0) (h6 : i = 0) : ∀ e ∈ [a, b, c, d, f, g, i], e = 0 := zc h (zz6 h1 h2 h3 h4 h5 h6)
theorem mo_cases (s : List UInt8) : (wantZ (findL (low s) monthsL) = -1 ∧ moE s = 13) ∨ (∃ f : Int, wantZ (findL (low s) monthsL) = f ∧ (0 ≤ f ∧ f ≤ 11) ∧ moE s = 0 ∧ moV s = f + 1) := by
  unfold moE moV
  cases h : findL (low s) monthsL with
  | none => left; exact ⟨rfl, rfl⟩
  | some p =>
    right
    have hlt := findL_lt h
    have e12 : monthsL.length = 12 := rfl
    exact ⟨(p : Int), rfl, by omega, rfl, by show ((p + 1 : Nat) : Int) = _; omega⟩
theorem day_is (s : List UInt8) : parsF s = (dyK s, dyW s, dyN s, dyE s) := Prod.ext rfl (Prod.ext rfl (Prod.ext rfl rfl))
theorem z_false {x : Int} (h : ¬ x + 1 = 0) : ((x + 1 : Int) == 0) = false := by simpa using h
theorem ru_cases (s : List UInt8) : (s = [45] ∧ ruE s = 0 ∧ ruR s = [] ∧ ruV s = 0) ∨ (s = [] ∧ ruE s = 23 ∧ stOk s = false) ∨
    (∃ c r, s = c :: r ∧ s ≠ [45] ∧ ((c = 45 ∧ ruE s = ofE s ∧ ruR s = [] ∧ ruV s = ofV s) ∨ (c ≠ 45 ∧ isDg c = true ∧ ruE s = ofE s ∧ ruR s = [] ∧ ruV s = ofV s) ∨ (c ≠ 45 ∧ isDg c = false ∧ ruE s = stE s ∧ ruR s = s ∧ ruV s = 0))) := by
  cases s with
  | nil => right; left; exact ⟨rfl, by decide, by decide⟩
  | cons c r =>
    by_cases hd : c :: r = [45]
    · left
      rw [hd]
      have hs := spanN_dash
      have ho : ofE [45] = 0 := by unfold ofE; rw [if_pos hs.2, hs.1, if_pos (by decide)]
      have hv : ofV [45] = 0 := by unfold ofV; rw [ho, if_neg (fun c => absurd c.1 (by decide)), hs.1]
      have hb : svB [45] = true := rfl
      refine ⟨rfl, ?_, ?_, ?_⟩
      · unfold ruE; rw [if_pos hb, ho]
      · unfold ruR; rw [if_pos hb]
      · unfold ruV; rw [if_pos hb, hv]
    · right; right
      refine ⟨c, r, rfl, hd, ?_⟩
      have e : svB (c :: r) = (decide (c = 45) || isDg c) := rfl
      unfold ruE ruR ruV
      rw [e]
      by_cases hc : c = 45
      · left; rw [decide_eq_true hc, Bool.true_or]; exact ⟨hc, rfl, rfl, rfl⟩
      · right
        rw [decide_eq_false hc, Bool.false_or]
        cases hg : isDg c with
        | true => left; exact ⟨hc, rfl, rfl, rfl, rfl⟩
        | false => right; exact ⟨hc, rfl, rfl, rfl, rfl⟩
theorem u8_45 {c : UInt8} (h : c ≠ 45) : ((c.toNat : Int) == 45) = false := by
  have : c.toNat ≠ 45 := fun e => h (UInt8.toNat_inj.1 e)
  simp; omega

set_option maxHeartbeats 1600000 in
theorem rera_in (L off n c : Nat) (ws : List (List UInt8)) (w : World) (hn : ws.length = n) (h3 : 3 ≤ n) (h7 : n ≤ 7) (hL : L < w.heap.size)
    (HC : ∀ i, i < n → CellAt w ⟨L, off + i, none⟩ (wd ws i)) (HC0 : CellAt w ⟨L, off, none⟩ (wd ws 0))
    (LL : ∀ i, (wd ws i).length ≤ 100) (r : EV) (v : Int) (hr : erS ws = r) (hv : erX ws = v) :
    Calls Tryz.prog 22 #[.slice (some ⟨L, off, none⟩) n c] w fun e w' => e = .returned (.tuple #[evV r, .int .i64 v]) ∧ Below w.heap.size w w' := by
  have FAIL : ∀ (k : Nat) (x : Int), (erA ws)[k]? = some x → x ≠ 0 → k < n → (∀ e ∈ (erA ws).take k, e = 0) → v = x ∧ r = e0V := fun k x h hx hk hp => by
    have := er_fail (by omega) h (by omega) hx hp
    exact ⟨by rw [← hv, this.1], by rw [← hr, this.2]⟩
  by_cases z0 : ofE (wd ws 0) = 0
  rotate_left
  · obtain ⟨rfl, rfl⟩ := FAIL 0 (ofE (wd ws 0)) rfl z0 (by omega) (by show ∀ e ∈ [], e = 0; exact fun e he => by cases he)
    exact re_f0 L off c n (by omega) (by omega) (wd ws 0) (wd ws 2) w hL (HC0) (HC 2 (by omega)) (LL 0) (LL 2) _ _ (ne_not z0) (Lib.hid ⟨rfl, rfl⟩)
  have H0 : Hid (ofV (wd ws 0) = ofV (wd ws 0) ∧ ofE (wd ws 0) = 0) := Lib.hid ⟨rfl, z0⟩
  rcases ru_cases (wd ws 1) with ⟨hd, z1, eR, eV⟩ | ⟨hp, e1, hs⟩ | ⟨c1, r1, hp, hd, ⟨hc, e1, eR, eV⟩ | ⟨hc, hg, e1, eR, eV⟩ | ⟨hc, hg, e1, eR, eV⟩⟩
  · -- no rules
    cases h2 : fmOk (wd ws 2) with
    | false =>
      have e : fmE (wd ws 2) = 12 := by unfold fmE; rw [h2]; rfl
      obtain ⟨rfl, rfl⟩ := FAIL 2 (12) (by show some (fmE (wd ws 2)) = some 12; rw [e]) (by decide) (by omega) (by show ∀ e ∈ [ofE (wd ws 0), ruE (wd ws 1)], e = 0; exact zz2 z0 z1)
      exact re_f2d L off c n (by omega) (by omega) (wd ws 0) (wd ws 1) (wd ws 2) w hL (HC0) (HC 1 (by omega)) (HC 2 (by omega)) (LL 0) (LL 1) (LL 2) _ H0 (by simpa using hd) (Lib.hid h2)
    | true =>
    have H2 := Lib.hid h2
    have z2 : fmE (wd ws 2) = 0 := by unfold fmE; rw [h2]; rfl
    by_cases n3 : n = 3
    · subst n3
      have hx : erX ws = 0 := era_of (by omega) fun i x hi hlt => by
        have : ∀ e ∈ [ofE (wd ws 0), ruE (wd ws 1), fmE (wd ws 2)], e = 0 := zz3 z0 z1 z2
        refine this x ?_
        have h2 : ((erA ws).take 3)[i]? = some x := by rw [List.getElem?_take_of_lt (by omega)]; exact hi
        exact List.mem_of_getElem? h2
      have hs : erS ws = ⟨ofV (wd ws 0), ruR (wd ws 1), ruV (wd ws 1), (wd ws 2), false, 0, 0, 0, 0, 0, 0, 0⟩ := by unfold erS; rw [if_pos hx]; unfold erV; rw [hn]; rfl
      rw [eR, eV] at hs
      obtain rfl : v = 0 := by rw [← hv, hx]
      rw [← hr, hs]
      exact re_s3d L off c (wd ws 0) (wd ws 1) (wd ws 2) w hL (HC0) (HC 1 (by omega)) (HC 2 (by omega)) (LL 0) (LL 1) (LL 2) _ H0 (by simpa using hd) H2
    have yn := yr_nr (wd ws 3)
    by_cases z3 : yrE (wd ws 3) = 0
    rotate_left
    · obtain ⟨rfl, rfl⟩ := FAIL 3 (yrE (wd ws 3)) rfl z3 (by omega) (by show ∀ e ∈ [ofE (wd ws 0), ruE (wd ws 1), fmE (wd ws 2)], e = 0; exact zz3 z0 z1 z2)
      exact re_f3d L off c n (by omega) (by omega) (by simp; omega) (by omega) (wd ws 0) (wd ws 1) (wd ws 2) (wd ws 3) w hL (HC0) (HC 1 (by omega)) (HC 2 (by omega)) (HC 3 (by omega)) (LL 0) (LL 1) (LL 2) (LL 3) _ H0 (by simpa using hd) H2 _ _ (ne_not z3) (Lib.hid ⟨rfl, yn.2.symm⟩)
    by_cases n4 : n = 4
    · subst n4
      have hx : erX ws = 0 := era_of (by omega) fun i x hi hlt => by
        have : ∀ e ∈ [ofE (wd ws 0), ruE (wd ws 1), fmE (wd ws 2), yrE (wd ws 3)], e = 0 := zz4 z0 z1 z2 z3
        refine this x ?_
        have h2 : ((erA ws).take 4)[i]? = some x := by rw [List.getElem?_take_of_lt (by omega)]; exact hi
        exact List.mem_of_getElem? h2
      have hs : erS ws = ⟨ofV (wd ws 0), ruR (wd ws 1), ruV (wd ws 1), (wd ws 2), true, yrV (wd ws 3), 1, 0, 0, 1, 0, 0⟩ := by unfold erS; rw [if_pos hx]; unfold erV; rw [hn]; rfl
      rw [eR, eV, yn.1] at hs
      obtain rfl : v = 0 := by rw [← hv, hx]
      rw [← hr, hs]
      exact re_s4d L off c (wd ws 0) (wd ws 1) (wd ws 2) (wd ws 3) w hL (HC0) (HC 1 (by omega)) (HC 2 (by omega)) (HC 3 (by omega)) (LL 0) (LL 1) (LL 2) (LL 3) _ H0 (by simpa using hd) H2 _ (Lib.hid ⟨rfl, yn.2.symm.trans z3⟩)
    rcases mo_cases (wd ws 4) with ⟨h4, e4⟩ | ⟨f4, h4, b4, z4, v4⟩
    · obtain ⟨rfl, rfl⟩ := FAIL 4 (13) (by show some (moE (wd ws 4)) = some 13; rw [e4]) (by decide) (by omega) (by show ∀ e ∈ [ofE (wd ws 0), ruE (wd ws 1), fmE (wd ws 2), yrE (wd ws 3)], e = 0; exact zz4 z0 z1 z2 z3)
      exact re_f4d L off c n (by omega) (by omega) (by simp; omega) (by omega) (by omega) (wd ws 0) (wd ws 1) (wd ws 2) (wd ws 3) (wd ws 4) w hL (HC0) (HC 1 (by omega)) (HC 2 (by omega)) (HC 3 (by omega)) (HC 4 (by omega)) (LL 0) (LL 1) (LL 2) (LL 3) (LL 4) _ H0 (by simpa using hd) H2 _ (Lib.hid ⟨rfl, yn.2.symm.trans z3⟩) (Lib.hid h4)
    by_cases n5 : n = 5
    · subst n5
      have hx : erX ws = 0 := era_of (by omega) fun i x hi hlt => by
        have : ∀ e ∈ [ofE (wd ws 0), ruE (wd ws 1), fmE (wd ws 2), yrE (wd ws 3), moE (wd ws 4)], e = 0 := zz5 z0 z1 z2 z3 z4
        refine this x ?_
        have h2 : ((erA ws).take 5)[i]? = some x := by rw [List.getElem?_take_of_lt (by omega)]; exact hi
        exact List.mem_of_getElem? h2
      have hs : erS ws = ⟨ofV (wd ws 0), ruR (wd ws 1), ruV (wd ws 1), (wd ws 2), true, yrV (wd ws 3), moV (wd ws 4), 0, 0, 1, 0, 0⟩ := by unfold erS; rw [if_pos hx]; unfold erV; rw [hn]; rfl
      rw [eR, eV, v4, yn.1] at hs
      obtain rfl : v = 0 := by rw [← hv, hx]
      rw [← hr, hs]
      exact re_s5d L off c (wd ws 0) (wd ws 1) (wd ws 2) (wd ws 3) (wd ws 4) w hL (HC0) (HC 1 (by omega)) (HC 2 (by omega)) (HC 3 (by omega)) (HC 4 (by omega)) (LL 0) (LL 1) (LL 2) (LL 3) (LL 4) _ H0 (by simpa using hd) H2 _ (Lib.hid ⟨rfl, yn.2.symm.trans z3⟩) f4 (Lib.hid h4) (z_false (by omega)) b4
    by_cases z5 : dyE (wd ws 5) = 0
    rotate_left
    · obtain ⟨rfl, rfl⟩ := FAIL 5 (dyE (wd ws 5)) rfl z5 (by omega) (by show ∀ e ∈ [ofE (wd ws 0), ruE (wd ws 1), fmE (wd ws 2), yrE (wd ws 3), moE (wd ws 4)], e = 0; exact zz5 z0 z1 z2 z3 z4)
      exact re_f5d L off c n (by omega) (by omega) (by simp; omega) (by omega) (by omega) (by omega) (wd ws 0) (wd ws 1) (wd ws 2) (wd ws 3) (wd ws 4) (wd ws 5) w hL (HC0) (HC 1 (by omega)) (HC 2 (by omega)) (HC 3 (by omega)) (HC 4 (by omega)) (HC 5 (by omega)) (LL 0) (LL 1) (LL 2) (LL 3) (LL 4) (LL 5) _ H0 (by simpa using hd) H2 _ (Lib.hid ⟨rfl, yn.2.symm.trans z3⟩) f4 (Lib.hid h4) (z_false (by omega)) b4 _ _ _ _ (ne_not z5) (Lib.hid (day_is (wd ws 5)))
    by_cases n6 : n = 6
    · subst n6
      have hx : erX ws = 0 := era_of (by omega) fun i x hi hlt => by
        have : ∀ e ∈ [ofE (wd ws 0), ruE (wd ws 1), fmE (wd ws 2), yrE (wd ws 3), moE (wd ws 4), dyE (wd ws 5)], e = 0 := zz6 z0 z1 z2 z3 z4 z5
        refine this x ?_
        have h2 : ((erA ws).take 6)[i]? = some x := by rw [List.getElem?_take_of_lt (by omega)]; exact hi
        exact List.mem_of_getElem? h2
      have hs : erS ws = ⟨ofV (wd ws 0), ruR (wd ws 1), ruV (wd ws 1), (wd ws 2), true, yrV (wd ws 3), moV (wd ws 4), dyK (wd ws 5), dyW (wd ws 5), dyN (wd ws 5), 0, 0⟩ := by unfold erS; rw [if_pos hx]; unfold erV; rw [hn]; rfl
      rw [eR, eV, v4, yn.1] at hs
      obtain rfl : v = 0 := by rw [← hv, hx]
      rw [← hr, hs]
      exact re_s6d L off c (wd ws 0) (wd ws 1) (wd ws 2) (wd ws 3) (wd ws 4) (wd ws 5) w hL (HC0) (HC 1 (by omega)) (HC 2 (by omega)) (HC 3 (by omega)) (HC 4 (by omega)) (HC 5 (by omega)) (LL 0) (LL 1) (LL 2) (LL 3) (LL 4) (LL 5) _ H0 (by simpa using hd) H2 _ (Lib.hid ⟨rfl, yn.2.symm.trans z3⟩) f4 (Lib.hid h4) (z_false (by omega)) b4 _ _ _ (Lib.hid (by rw [day_is, z5]))
    by_cases z6 : parE (wd ws 6) = 0
    rotate_left
    · obtain ⟨rfl, rfl⟩ := FAIL 6 (parE (wd ws 6)) rfl z6 (by omega) (by show ∀ e ∈ [ofE (wd ws 0), ruE (wd ws 1), fmE (wd ws 2), yrE (wd ws 3), moE (wd ws 4), dyE (wd ws 5)], e = 0; exact zz6 z0 z1 z2 z3 z4 z5)
      exact re_f6d L off c n (by omega) (by omega) (by simp; omega) (by omega) (by omega) (by omega) (by omega) (wd ws 0) (wd ws 1) (wd ws 2) (wd ws 3) (wd ws 4) (wd ws 5) (wd ws 6) w hL (HC0) (HC 1 (by omega)) (HC 2 (by omega)) (HC 3 (by omega)) (HC 4 (by omega)) (HC 5 (by omega)) (HC 6 (by omega)) (LL 0) (LL 1) (LL 2) (LL 3) (LL 4) (LL 5) (LL 6) _ H0 (by simpa using hd) H2 _ (Lib.hid ⟨rfl, yn.2.symm.trans z3⟩) f4 (Lib.hid h4) (z_false (by omega)) b4 _ _ _ (Lib.hid (by rw [day_is, z5])) _ _ _ (ne_not z6) (Lib.hid ⟨rfl, rfl, rfl⟩)
    obtain rfl : n = 7 := by omega
    have hx : erX ws = 0 := era_of (by omega) fun i x hi hlt => by
      have : ∀ e ∈ [ofE (wd ws 0), ruE (wd ws 1), fmE (wd ws 2), yrE (wd ws 3), moE (wd ws 4), dyE (wd ws 5), parE (wd ws 6)], e = 0 := zz7 z0 z1 z2 z3 z4 z5 z6
      refine this x ?_
      have h2 : ((erA ws).take 7)[i]? = some x := by rw [List.getElem?_take_of_lt (by omega)]; exact hi
      exact List.mem_of_getElem? h2
    have hs : erS ws = ⟨ofV (wd ws 0), ruR (wd ws 1), ruV (wd ws 1), (wd ws 2), true, yrV (wd ws 3), moV (wd ws 4), dyK (wd ws 5), dyW (wd ws 5), dyN (wd ws 5), parN (wd ws 6), parK (wd ws 6)⟩ := by unfold erS; rw [if_pos hx]; unfold erV; rw [hn]; rfl
    rw [eR, eV, v4, yn.1] at hs
    obtain rfl : v = 0 := by rw [← hv, hx]
    rw [← hr, hs]
    exact re_s7d L off c (wd ws 0) (wd ws 1) (wd ws 2) (wd ws 3) (wd ws 4) (wd ws 5) (wd ws 6) w hL (HC0) (HC 1 (by omega)) (HC 2 (by omega)) (HC 3 (by omega)) (HC 4 (by omega)) (HC 5 (by omega)) (HC 6 (by omega)) (LL 0) (LL 1) (LL 2) (LL 3) (LL 4) (LL 5) (LL 6) _ H0 (by simpa using hd) H2 _ (Lib.hid ⟨rfl, yn.2.symm.trans z3⟩) f4 (Lib.hid h4) (z_false (by omega)) b4 _ _ _ (Lib.hid (by rw [day_is, z5])) _ _ (Lib.hid ⟨rfl, rfl, z6⟩)
  · obtain ⟨rfl, rfl⟩ := FAIL 1 (23) (by show some (ruE (wd ws 1)) = some 23; rw [e1]) (by decide) (by omega) (by show ∀ e ∈ [ofE (wd ws 0)], e = 0; exact zz1 z0)
    exact re_f1u L off c n (by omega) (by omega) (wd ws 0) (wd ws 1) (wd ws 2) w hL (HC0) (HC 1 (by omega)) (HC 2 (by omega)) (LL 0) (LL 1) (LL 2) _ H0 (by rw [hp]; rfl) (by rw [hp]; simp) (Lib.hid hs)
  · -- saved
    have LP : (0 : Int) < ((wd ws 1).length : Int) := by rw [hp, List.length_cons]; omega
    have I0 : ∀ X : World, (Instr.index 9 (.string ⟨(wd ws 1).toArray⟩) (.int .i64 0)).run Tryz.prog X = .ok (.int .u8 (c1.toNat : Int)) X := fun X => by rw [hp]; exact rfirst_byte c1 r1 X
    have B1 : ((c1.toNat : Int) == 45) = true := by rw [hc]; rfl
    by_cases z1' : ofE (wd ws 1) = 0
    rotate_left
    · obtain ⟨rfl, rfl⟩ := FAIL 1 (ofE (wd ws 1)) (by show some (ruE (wd ws 1)) = _; rw [e1]) z1' (by omega) (by show ∀ e ∈ [ofE (wd ws 0)], e = 0; exact zz1 z0)
      exact re_f1m L off c n (by omega) (by omega) (wd ws 0) (wd ws 1) (wd ws 2) w hL (HC0) (HC 1 (by omega)) (HC 2 (by omega)) (LL 0) (LL 1) (LL 2) _ H0 c1 (by simpa using hd) LP I0 B1 _ _ (ne_not z1') (Lib.hid ⟨rfl, rfl⟩)
    have z1 : ruE (wd ws 1) = 0 := e1.trans z1'
    have H1 : Hid (ofV (wd ws 1) = ofV (wd ws 1) ∧ ofE (wd ws 1) = 0) := Lib.hid ⟨rfl, z1'⟩
    cases h2 : fmOk (wd ws 2) with
    | false =>
      have e : fmE (wd ws 2) = 12 := by unfold fmE; rw [h2]; rfl
      obtain ⟨rfl, rfl⟩ := FAIL 2 (12) (by show some (fmE (wd ws 2)) = some 12; rw [e]) (by decide) (by omega) (by show ∀ e ∈ [ofE (wd ws 0), ruE (wd ws 1)], e = 0; exact zz2 z0 z1)
      exact re_f2m L off c n (by omega) (by omega) (wd ws 0) (wd ws 1) (wd ws 2) w hL (HC0) (HC 1 (by omega)) (HC 2 (by omega)) (LL 0) (LL 1) (LL 2) _ H0 c1 (by simpa using hd) LP I0 B1 _ H1 (Lib.hid h2)
    | true =>
    have H2 := Lib.hid h2
    have z2 : fmE (wd ws 2) = 0 := by unfold fmE; rw [h2]; rfl
    by_cases n3 : n = 3
    · subst n3
      have hx : erX ws = 0 := era_of (by omega) fun i x hi hlt => by
        have : ∀ e ∈ [ofE (wd ws 0), ruE (wd ws 1), fmE (wd ws 2)], e = 0 := zz3 z0 z1 z2
        refine this x ?_
        have h2 : ((erA ws).take 3)[i]? = some x := by rw [List.getElem?_take_of_lt (by omega)]; exact hi
        exact List.mem_of_getElem? h2
      have hs : erS ws = ⟨ofV (wd ws 0), ruR (wd ws 1), ruV (wd ws 1), (wd ws 2), false, 0, 0, 0, 0, 0, 0, 0⟩ := by unfold erS; rw [if_pos hx]; unfold erV; rw [hn]; rfl
      rw [eR, eV] at hs
      obtain rfl : v = 0 := by rw [← hv, hx]
      rw [← hr, hs]
      exact re_s3m L off c (wd ws 0) (wd ws 1) (wd ws 2) w hL (HC0) (HC 1 (by omega)) (HC 2 (by omega)) (LL 0) (LL 1) (LL 2) _ H0 c1 (by simpa using hd) LP I0 B1 _ H1 H2
    have yn := yr_nr (wd ws 3)
    by_cases z3 : yrE (wd ws 3) = 0
    rotate_left
    · obtain ⟨rfl, rfl⟩ := FAIL 3 (yrE (wd ws 3)) rfl z3 (by omega) (by show ∀ e ∈ [ofE (wd ws 0), ruE (wd ws 1), fmE (wd ws 2)], e = 0; exact zz3 z0 z1 z2)
      exact re_f3m L off c n (by omega) (by omega) (by simp; omega) (by omega) (wd ws 0) (wd ws 1) (wd ws 2) (wd ws 3) w hL (HC0) (HC 1 (by omega)) (HC 2 (by omega)) (HC 3 (by omega)) (LL 0) (LL 1) (LL 2) (LL 3) _ H0 c1 (by simpa using hd) LP I0 B1 _ H1 H2 _ _ (ne_not z3) (Lib.hid ⟨rfl, yn.2.symm⟩)
    by_cases n4 : n = 4
    · subst n4
      have hx : erX ws = 0 := era_of (by omega) fun i x hi hlt => by
        have : ∀ e ∈ [ofE (wd ws 0), ruE (wd ws 1), fmE (wd ws 2), yrE (wd ws 3)], e = 0 := zz4 z0 z1 z2 z3
        refine this x ?_
        have h2 : ((erA ws).take 4)[i]? = some x := by rw [List.getElem?_take_of_lt (by omega)]; exact hi
        exact List.mem_of_getElem? h2
      have hs : erS ws = ⟨ofV (wd ws 0), ruR (wd ws 1), ruV (wd ws 1), (wd ws 2), true, yrV (wd ws 3), 1, 0, 0, 1, 0, 0⟩ := by unfold erS; rw [if_pos hx]; unfold erV; rw [hn]; rfl
      rw [eR, eV, yn.1] at hs
      obtain rfl : v = 0 := by rw [← hv, hx]
      rw [← hr, hs]
      exact re_s4m L off c (wd ws 0) (wd ws 1) (wd ws 2) (wd ws 3) w hL (HC0) (HC 1 (by omega)) (HC 2 (by omega)) (HC 3 (by omega)) (LL 0) (LL 1) (LL 2) (LL 3) _ H0 c1 (by simpa using hd) LP I0 B1 _ H1 H2 _ (Lib.hid ⟨rfl, yn.2.symm.trans z3⟩)
    rcases mo_cases (wd ws 4) with ⟨h4, e4⟩ | ⟨f4, h4, b4, z4, v4⟩
    · obtain ⟨rfl, rfl⟩ := FAIL 4 (13) (by show some (moE (wd ws 4)) = some 13; rw [e4]) (by decide) (by omega) (by show ∀ e ∈ [ofE (wd ws 0), ruE (wd ws 1), fmE (wd ws 2), yrE (wd ws 3)], e = 0; exact zz4 z0 z1 z2 z3)
      exact re_f4m L off c n (by omega) (by omega) (by simp; omega) (by omega) (by omega) (wd ws 0) (wd ws 1) (wd ws 2) (wd ws 3) (wd ws 4) w hL (HC0) (HC 1 (by omega)) (HC 2 (by omega)) (HC 3 (by omega)) (HC 4 (by omega)) (LL 0) (LL 1) (LL 2) (LL 3) (LL 4) _ H0 c1 (by simpa using hd) LP I0 B1 _ H1 H2 _ (Lib.hid ⟨rfl, yn.2.symm.trans z3⟩) (Lib.hid h4)
    by_cases n5 : n = 5
    · subst n5
      have hx : erX ws = 0 := era_of (by omega) fun i x hi hlt => by
        have : ∀ e ∈ [ofE (wd ws 0), ruE (wd ws 1), fmE (wd ws 2), yrE (wd ws 3), moE (wd ws 4)], e = 0 := zz5 z0 z1 z2 z3 z4
        refine this x ?_
        have h2 : ((erA ws).take 5)[i]? = some x := by rw [List.getElem?_take_of_lt (by omega)]; exact hi
        exact List.mem_of_getElem? h2
      have hs : erS ws = ⟨ofV (wd ws 0), ruR (wd ws 1), ruV (wd ws 1), (wd ws 2), true, yrV (wd ws 3), moV (wd ws 4), 0, 0, 1, 0, 0⟩ := by unfold erS; rw [if_pos hx]; unfold erV; rw [hn]; rfl
      rw [eR, eV, v4, yn.1] at hs
      obtain rfl : v = 0 := by rw [← hv, hx]
      rw [← hr, hs]
      exact re_s5m L off c (wd ws 0) (wd ws 1) (wd ws 2) (wd ws 3) (wd ws 4) w hL (HC0) (HC 1 (by omega)) (HC 2 (by omega)) (HC 3 (by omega)) (HC 4 (by omega)) (LL 0) (LL 1) (LL 2) (LL 3) (LL 4) _ H0 c1 (by simpa using hd) LP I0 B1 _ H1 H2 _ (Lib.hid ⟨rfl, yn.2.symm.trans z3⟩) f4 (Lib.hid h4) (z_false (by omega)) b4
    by_cases z5 : dyE (wd ws 5) = 0
    rotate_left
    · obtain ⟨rfl, rfl⟩ := FAIL 5 (dyE (wd ws 5)) rfl z5 (by omega) (by show ∀ e ∈ [ofE (wd ws 0), ruE (wd ws 1), fmE (wd ws 2), yrE (wd ws 3), moE (wd ws 4)], e = 0; exact zz5 z0 z1 z2 z3 z4)
      exact re_f5m L off c n (by omega) (by omega) (by simp; omega) (by omega) (by omega) (by omega) (wd ws 0) (wd ws 1) (wd ws 2) (wd ws 3) (wd ws 4) (wd ws 5) w hL (HC0) (HC 1 (by omega)) (HC 2 (by omega)) (HC 3 (by omega)) (HC 4 (by omega)) (HC 5 (by omega)) (LL 0) (LL 1) (LL 2) (LL 3) (LL 4) (LL 5) _ H0 c1 (by simpa using hd) LP I0 B1 _ H1 H2 _ (Lib.hid ⟨rfl, yn.2.symm.trans z3⟩) f4 (Lib.hid h4) (z_false (by omega)) b4 _ _ _ _ (ne_not z5) (Lib.hid (day_is (wd ws 5)))
    by_cases n6 : n = 6
    · subst n6
      have hx : erX ws = 0 := era_of (by omega) fun i x hi hlt => by
        have : ∀ e ∈ [ofE (wd ws 0), ruE (wd ws 1), fmE (wd ws 2), yrE (wd ws 3), moE (wd ws 4), dyE (wd ws 5)], e = 0 := zz6 z0 z1 z2 z3 z4 z5
        refine this x ?_
        have h2 : ((erA ws).take 6)[i]? = some x := by rw [List.getElem?_take_of_lt (by omega)]; exact hi
        exact List.mem_of_getElem? h2
      have hs : erS ws = ⟨ofV (wd ws 0), ruR (wd ws 1), ruV (wd ws 1), (wd ws 2), true, yrV (wd ws 3), moV (wd ws 4), dyK (wd ws 5), dyW (wd ws 5), dyN (wd ws 5), 0, 0⟩ := by unfold erS; rw [if_pos hx]; unfold erV; rw [hn]; rfl
      rw [eR, eV, v4, yn.1] at hs
      obtain rfl : v = 0 := by rw [← hv, hx]
      rw [← hr, hs]
      exact re_s6m L off c (wd ws 0) (wd ws 1) (wd ws 2) (wd ws 3) (wd ws 4) (wd ws 5) w hL (HC0) (HC 1 (by omega)) (HC 2 (by omega)) (HC 3 (by omega)) (HC 4 (by omega)) (HC 5 (by omega)) (LL 0) (LL 1) (LL 2) (LL 3) (LL 4) (LL 5) _ H0 c1 (by simpa using hd) LP I0 B1 _ H1 H2 _ (Lib.hid ⟨rfl, yn.2.symm.trans z3⟩) f4 (Lib.hid h4) (z_false (by omega)) b4 _ _ _ (Lib.hid (by rw [day_is, z5]))
    by_cases z6 : parE (wd ws 6) = 0
    rotate_left
    · obtain ⟨rfl, rfl⟩ := FAIL 6 (parE (wd ws 6)) rfl z6 (by omega) (by show ∀ e ∈ [ofE (wd ws 0), ruE (wd ws 1), fmE (wd ws 2), yrE (wd ws 3), moE (wd ws 4), dyE (wd ws 5)], e = 0; exact zz6 z0 z1 z2 z3 z4 z5)
      exact re_f6m L off c n (by omega) (by omega) (by simp; omega) (by omega) (by omega) (by omega) (by omega) (wd ws 0) (wd ws 1) (wd ws 2) (wd ws 3) (wd ws 4) (wd ws 5) (wd ws 6) w hL (HC0) (HC 1 (by omega)) (HC 2 (by omega)) (HC 3 (by omega)) (HC 4 (by omega)) (HC 5 (by omega)) (HC 6 (by omega)) (LL 0) (LL 1) (LL 2) (LL 3) (LL 4) (LL 5) (LL 6) _ H0 c1 (by simpa using hd) LP I0 B1 _ H1 H2 _ (Lib.hid ⟨rfl, yn.2.symm.trans z3⟩) f4 (Lib.hid h4) (z_false (by omega)) b4 _ _ _ (Lib.hid (by rw [day_is, z5])) _ _ _ (ne_not z6) (Lib.hid ⟨rfl, rfl, rfl⟩)
    obtain rfl : n = 7 := by omega
    have hx : erX ws = 0 := era_of (by omega) fun i x hi hlt => by
      have : ∀ e ∈ [ofE (wd ws 0), ruE (wd ws 1), fmE (wd ws 2), yrE (wd ws 3), moE (wd ws 4), dyE (wd ws 5), parE (wd ws 6)], e = 0 := zz7 z0 z1 z2 z3 z4 z5 z6
      refine this x ?_
      have h2 : ((erA ws).take 7)[i]? = some x := by rw [List.getElem?_take_of_lt (by omega)]; exact hi
      exact List.mem_of_getElem? h2
    have hs : erS ws = ⟨ofV (wd ws 0), ruR (wd ws 1), ruV (wd ws 1), (wd ws 2), true, yrV (wd ws 3), moV (wd ws 4), dyK (wd ws 5), dyW (wd ws 5), dyN (wd ws 5), parN (wd ws 6), parK (wd ws 6)⟩ := by unfold erS; rw [if_pos hx]; unfold erV; rw [hn]; rfl
    rw [eR, eV, v4, yn.1] at hs
    obtain rfl : v = 0 := by rw [← hv, hx]
    rw [← hr, hs]
    exact re_s7m L off c (wd ws 0) (wd ws 1) (wd ws 2) (wd ws 3) (wd ws 4) (wd ws 5) (wd ws 6) w hL (HC0) (HC 1 (by omega)) (HC 2 (by omega)) (HC 3 (by omega)) (HC 4 (by omega)) (HC 5 (by omega)) (HC 6 (by omega)) (LL 0) (LL 1) (LL 2) (LL 3) (LL 4) (LL 5) (LL 6) _ H0 c1 (by simpa using hd) LP I0 B1 _ H1 H2 _ (Lib.hid ⟨rfl, yn.2.symm.trans z3⟩) f4 (Lib.hid h4) (z_false (by omega)) b4 _ _ _ (Lib.hid (by rw [day_is, z5])) _ _ (Lib.hid ⟨rfl, rfl, z6⟩)
  · -- saved
    have LP : (0 : Int) < ((wd ws 1).length : Int) := by rw [hp, List.length_cons]; omega
    have I0 : ∀ X : World, (Instr.index 9 (.string ⟨(wd ws 1).toArray⟩) (.int .i64 0)).run Tryz.prog X = .ok (.int .u8 (c1.toNat : Int)) X := fun X => by rw [hp]; exact rfirst_byte c1 r1 X
    have B1 := u8_45 hc
    by_cases z1' : ofE (wd ws 1) = 0
    rotate_left
    · obtain ⟨rfl, rfl⟩ := FAIL 1 (ofE (wd ws 1)) (by show some (ruE (wd ws 1)) = _; rw [e1]) z1' (by omega) (by show ∀ e ∈ [ofE (wd ws 0)], e = 0; exact zz1 z0)
      exact re_f1g L off c n (by omega) (by omega) (wd ws 0) (wd ws 1) (wd ws 2) w hL (HC0) (HC 1 (by omega)) (HC 2 (by omega)) (LL 0) (LL 1) (LL 2) _ H0 c1 (by simpa using hd) LP I0 B1 (Lib.hid hg) _ _ (ne_not z1') (Lib.hid ⟨rfl, rfl⟩)
    have z1 : ruE (wd ws 1) = 0 := e1.trans z1'
    have H1 : Hid (ofV (wd ws 1) = ofV (wd ws 1) ∧ ofE (wd ws 1) = 0) := Lib.hid ⟨rfl, z1'⟩
    cases h2 : fmOk (wd ws 2) with
    | false =>
      have e : fmE (wd ws 2) = 12 := by unfold fmE; rw [h2]; rfl
      obtain ⟨rfl, rfl⟩ := FAIL 2 (12) (by show some (fmE (wd ws 2)) = some 12; rw [e]) (by decide) (by omega) (by show ∀ e ∈ [ofE (wd ws 0), ruE (wd ws 1)], e = 0; exact zz2 z0 z1)
      exact re_f2g L off c n (by omega) (by omega) (wd ws 0) (wd ws 1) (wd ws 2) w hL (HC0) (HC 1 (by omega)) (HC 2 (by omega)) (LL 0) (LL 1) (LL 2) _ H0 c1 (by simpa using hd) LP I0 B1 (Lib.hid hg) _ H1 (Lib.hid h2)
    | true =>
    have H2 := Lib.hid h2
    have z2 : fmE (wd ws 2) = 0 := by unfold fmE; rw [h2]; rfl
    by_cases n3 : n = 3
    · subst n3
      have hx : erX ws = 0 := era_of (by omega) fun i x hi hlt => by
        have : ∀ e ∈ [ofE (wd ws 0), ruE (wd ws 1), fmE (wd ws 2)], e = 0 := zz3 z0 z1 z2
        refine this x ?_
        have h2 : ((erA ws).take 3)[i]? = some x := by rw [List.getElem?_take_of_lt (by omega)]; exact hi
        exact List.mem_of_getElem? h2
      have hs : erS ws = ⟨ofV (wd ws 0), ruR (wd ws 1), ruV (wd ws 1), (wd ws 2), false, 0, 0, 0, 0, 0, 0, 0⟩ := by unfold erS; rw [if_pos hx]; unfold erV; rw [hn]; rfl
      rw [eR, eV] at hs
      obtain rfl : v = 0 := by rw [← hv, hx]
      rw [← hr, hs]
      exact re_s3g L off c (wd ws 0) (wd ws 1) (wd ws 2) w hL (HC0) (HC 1 (by omega)) (HC 2 (by omega)) (LL 0) (LL 1) (LL 2) _ H0 c1 (by simpa using hd) LP I0 B1 (Lib.hid hg) _ H1 H2
    have yn := yr_nr (wd ws 3)
    by_cases z3 : yrE (wd ws 3) = 0
    rotate_left
    · obtain ⟨rfl, rfl⟩ := FAIL 3 (yrE (wd ws 3)) rfl z3 (by omega) (by show ∀ e ∈ [ofE (wd ws 0), ruE (wd ws 1), fmE (wd ws 2)], e = 0; exact zz3 z0 z1 z2)
      exact re_f3g L off c n (by omega) (by omega) (by simp; omega) (by omega) (wd ws 0) (wd ws 1) (wd ws 2) (wd ws 3) w hL (HC0) (HC 1 (by omega)) (HC 2 (by omega)) (HC 3 (by omega)) (LL 0) (LL 1) (LL 2) (LL 3) _ H0 c1 (by simpa using hd) LP I0 B1 (Lib.hid hg) _ H1 H2 _ _ (ne_not z3) (Lib.hid ⟨rfl, yn.2.symm⟩)
    by_cases n4 : n = 4
    · subst n4
      have hx : erX ws = 0 := era_of (by omega) fun i x hi hlt => by
        have : ∀ e ∈ [ofE (wd ws 0), ruE (wd ws 1), fmE (wd ws 2), yrE (wd ws 3)], e = 0 := zz4 z0 z1 z2 z3
        refine this x ?_
        have h2 : ((erA ws).take 4)[i]? = some x := by rw [List.getElem?_take_of_lt (by omega)]; exact hi
        exact List.mem_of_getElem? h2
      have hs : erS ws = ⟨ofV (wd ws 0), ruR (wd ws 1), ruV (wd ws 1), (wd ws 2), true, yrV (wd ws 3), 1, 0, 0, 1, 0, 0⟩ := by unfold erS; rw [if_pos hx]; unfold erV; rw [hn]; rfl
      rw [eR, eV, yn.1] at hs
      obtain rfl : v = 0 := by rw [← hv, hx]
      rw [← hr, hs]
      exact re_s4g L off c (wd ws 0) (wd ws 1) (wd ws 2) (wd ws 3) w hL (HC0) (HC 1 (by omega)) (HC 2 (by omega)) (HC 3 (by omega)) (LL 0) (LL 1) (LL 2) (LL 3) _ H0 c1 (by simpa using hd) LP I0 B1 (Lib.hid hg) _ H1 H2 _ (Lib.hid ⟨rfl, yn.2.symm.trans z3⟩)
    rcases mo_cases (wd ws 4) with ⟨h4, e4⟩ | ⟨f4, h4, b4, z4, v4⟩
    · obtain ⟨rfl, rfl⟩ := FAIL 4 (13) (by show some (moE (wd ws 4)) = some 13; rw [e4]) (by decide) (by omega) (by show ∀ e ∈ [ofE (wd ws 0), ruE (wd ws 1), fmE (wd ws 2), yrE (wd ws 3)], e = 0; exact zz4 z0 z1 z2 z3)
      exact re_f4g L off c n (by omega) (by omega) (by simp; omega) (by omega) (by omega) (wd ws 0) (wd ws 1) (wd ws 2) (wd ws 3) (wd ws 4) w hL (HC0) (HC 1 (by omega)) (HC 2 (by omega)) (HC 3 (by omega)) (HC 4 (by omega)) (LL 0) (LL 1) (LL 2) (LL 3) (LL 4) _ H0 c1 (by simpa using hd) LP I0 B1 (Lib.hid hg) _ H1 H2 _ (Lib.hid ⟨rfl, yn.2.symm.trans z3⟩) (Lib.hid h4)
    by_cases n5 : n = 5
    · subst n5
      have hx : erX ws = 0 := era_of (by omega) fun i x hi hlt => by
        have : ∀ e ∈ [ofE (wd ws 0), ruE (wd ws 1), fmE (wd ws 2), yrE (wd ws 3), moE (wd ws 4)], e = 0 := zz5 z0 z1 z2 z3 z4
        refine this x ?_
        have h2 : ((erA ws).take 5)[i]? = some x := by rw [List.getElem?_take_of_lt (by omega)]; exact hi
        exact List.mem_of_getElem? h2
      have hs : erS ws = ⟨ofV (wd ws 0), ruR (wd ws 1), ruV (wd ws 1), (wd ws 2), true, yrV (wd ws 3), moV (wd ws 4), 0, 0, 1, 0, 0⟩ := by unfold erS; rw [if_pos hx]; unfold erV; rw [hn]; rfl
      rw [eR, eV, v4, yn.1] at hs
      obtain rfl : v = 0 := by rw [← hv, hx]
      rw [← hr, hs]
      exact re_s5g L off c (wd ws 0) (wd ws 1) (wd ws 2) (wd ws 3) (wd ws 4) w hL (HC0) (HC 1 (by omega)) (HC 2 (by omega)) (HC 3 (by omega)) (HC 4 (by omega)) (LL 0) (LL 1) (LL 2) (LL 3) (LL 4) _ H0 c1 (by simpa using hd) LP I0 B1 (Lib.hid hg) _ H1 H2 _ (Lib.hid ⟨rfl, yn.2.symm.trans z3⟩) f4 (Lib.hid h4) (z_false (by omega)) b4
    by_cases z5 : dyE (wd ws 5) = 0
    rotate_left
    · obtain ⟨rfl, rfl⟩ := FAIL 5 (dyE (wd ws 5)) rfl z5 (by omega) (by show ∀ e ∈ [ofE (wd ws 0), ruE (wd ws 1), fmE (wd ws 2), yrE (wd ws 3), moE (wd ws 4)], e = 0; exact zz5 z0 z1 z2 z3 z4)
      exact re_f5g L off c n (by omega) (by omega) (by simp; omega) (by omega) (by omega) (by omega) (wd ws 0) (wd ws 1) (wd ws 2) (wd ws 3) (wd ws 4) (wd ws 5) w hL (HC0) (HC 1 (by omega)) (HC 2 (by omega)) (HC 3 (by omega)) (HC 4 (by omega)) (HC 5 (by omega)) (LL 0) (LL 1) (LL 2) (LL 3) (LL 4) (LL 5) _ H0 c1 (by simpa using hd) LP I0 B1 (Lib.hid hg) _ H1 H2 _ (Lib.hid ⟨rfl, yn.2.symm.trans z3⟩) f4 (Lib.hid h4) (z_false (by omega)) b4 _ _ _ _ (ne_not z5) (Lib.hid (day_is (wd ws 5)))
    by_cases n6 : n = 6
    · subst n6
      have hx : erX ws = 0 := era_of (by omega) fun i x hi hlt => by
        have : ∀ e ∈ [ofE (wd ws 0), ruE (wd ws 1), fmE (wd ws 2), yrE (wd ws 3), moE (wd ws 4), dyE (wd ws 5)], e = 0 := zz6 z0 z1 z2 z3 z4 z5
        refine this x ?_
        have h2 : ((erA ws).take 6)[i]? = some x := by rw [List.getElem?_take_of_lt (by omega)]; exact hi
        exact List.mem_of_getElem? h2
      have hs : erS ws = ⟨ofV (wd ws 0), ruR (wd ws 1), ruV (wd ws 1), (wd ws 2), true, yrV (wd ws 3), moV (wd ws 4), dyK (wd ws 5), dyW (wd ws 5), dyN (wd ws 5), 0, 0⟩ := by unfold erS; rw [if_pos hx]; unfold erV; rw [hn]; rfl
      rw [eR, eV, v4, yn.1] at hs
      obtain rfl : v = 0 := by rw [← hv, hx]
      rw [← hr, hs]
      exact re_s6g L off c (wd ws 0) (wd ws 1) (wd ws 2) (wd ws 3) (wd ws 4) (wd ws 5) w hL (HC0) (HC 1 (by omega)) (HC 2 (by omega)) (HC 3 (by omega)) (HC 4 (by omega)) (HC 5 (by omega)) (LL 0) (LL 1) (LL 2) (LL 3) (LL 4) (LL 5) _ H0 c1 (by simpa using hd) LP I0 B1 (Lib.hid hg) _ H1 H2 _ (Lib.hid ⟨rfl, yn.2.symm.trans z3⟩) f4 (Lib.hid h4) (z_false (by omega)) b4 _ _ _ (Lib.hid (by rw [day_is, z5]))
    by_cases z6 : parE (wd ws 6) = 0
    rotate_left
    · obtain ⟨rfl, rfl⟩ := FAIL 6 (parE (wd ws 6)) rfl z6 (by omega) (by show ∀ e ∈ [ofE (wd ws 0), ruE (wd ws 1), fmE (wd ws 2), yrE (wd ws 3), moE (wd ws 4), dyE (wd ws 5)], e = 0; exact zz6 z0 z1 z2 z3 z4 z5)
      exact re_f6g L off c n (by omega) (by omega) (by simp; omega) (by omega) (by omega) (by omega) (by omega) (wd ws 0) (wd ws 1) (wd ws 2) (wd ws 3) (wd ws 4) (wd ws 5) (wd ws 6) w hL (HC0) (HC 1 (by omega)) (HC 2 (by omega)) (HC 3 (by omega)) (HC 4 (by omega)) (HC 5 (by omega)) (HC 6 (by omega)) (LL 0) (LL 1) (LL 2) (LL 3) (LL 4) (LL 5) (LL 6) _ H0 c1 (by simpa using hd) LP I0 B1 (Lib.hid hg) _ H1 H2 _ (Lib.hid ⟨rfl, yn.2.symm.trans z3⟩) f4 (Lib.hid h4) (z_false (by omega)) b4 _ _ _ (Lib.hid (by rw [day_is, z5])) _ _ _ (ne_not z6) (Lib.hid ⟨rfl, rfl, rfl⟩)
    obtain rfl : n = 7 := by omega
    have hx : erX ws = 0 := era_of (by omega) fun i x hi hlt => by
      have : ∀ e ∈ [ofE (wd ws 0), ruE (wd ws 1), fmE (wd ws 2), yrE (wd ws 3), moE (wd ws 4), dyE (wd ws 5), parE (wd ws 6)], e = 0 := zz7 z0 z1 z2 z3 z4 z5 z6
      refine this x ?_
      have h2 : ((erA ws).take 7)[i]? = some x := by rw [List.getElem?_take_of_lt (by omega)]; exact hi
      exact List.mem_of_getElem? h2
    have hs : erS ws = ⟨ofV (wd ws 0), ruR (wd ws 1), ruV (wd ws 1), (wd ws 2), true, yrV (wd ws 3), moV (wd ws 4), dyK (wd ws 5), dyW (wd ws 5), dyN (wd ws 5), parN (wd ws 6), parK (wd ws 6)⟩ := by unfold erS; rw [if_pos hx]; unfold erV; rw [hn]; rfl
    rw [eR, eV, v4, yn.1] at hs
    obtain rfl : v = 0 := by rw [← hv, hx]
    rw [← hr, hs]
    exact re_s7g L off c (wd ws 0) (wd ws 1) (wd ws 2) (wd ws 3) (wd ws 4) (wd ws 5) (wd ws 6) w hL (HC0) (HC 1 (by omega)) (HC 2 (by omega)) (HC 3 (by omega)) (HC 4 (by omega)) (HC 5 (by omega)) (HC 6 (by omega)) (LL 0) (LL 1) (LL 2) (LL 3) (LL 4) (LL 5) (LL 6) _ H0 c1 (by simpa using hd) LP I0 B1 (Lib.hid hg) _ H1 H2 _ (Lib.hid ⟨rfl, yn.2.symm.trans z3⟩) f4 (Lib.hid h4) (z_false (by omega)) b4 _ _ _ (Lib.hid (by rw [day_is, z5])) _ _ (Lib.hid ⟨rfl, rfl, z6⟩)
  · -- a set
    have LP : (0 : Int) < ((wd ws 1).length : Int) := by rw [hp, List.length_cons]; omega
    have I0 : ∀ X : World, (Instr.index 9 (.string ⟨(wd ws 1).toArray⟩) (.int .i64 0)).run Tryz.prog X = .ok (.int .u8 (c1.toNat : Int)) X := fun X => by rw [hp]; exact rfirst_byte c1 r1 X
    have B1 := u8_45 hc
    cases h1 : stOk (wd ws 1) with
    | false =>
      have e : ruE (wd ws 1) = 23 := by rw [e1]; unfold stE; rw [h1]; rfl
      obtain ⟨rfl, rfl⟩ := FAIL 1 (23) (by show some (ruE (wd ws 1)) = some 23; rw [e]) (by decide) (by omega) (by show ∀ e ∈ [ofE (wd ws 0)], e = 0; exact zz1 z0)
      exact re_f1t L off c n (by omega) (by omega) (wd ws 0) (wd ws 1) (wd ws 2) w hL (HC0) (HC 1 (by omega)) (HC 2 (by omega)) (LL 0) (LL 1) (LL 2) _ H0 c1 (by simpa using hd) LP I0 B1 (Lib.hid hg) (Lib.hid h1)
    | true =>
    have H1 := Lib.hid h1
    have z1 : ruE (wd ws 1) = 0 := by rw [e1]; unfold stE; rw [h1]; rfl
    cases h2 : fmOk (wd ws 2) with
    | false =>
      have e : fmE (wd ws 2) = 12 := by unfold fmE; rw [h2]; rfl
      obtain ⟨rfl, rfl⟩ := FAIL 2 (12) (by show some (fmE (wd ws 2)) = some 12; rw [e]) (by decide) (by omega) (by show ∀ e ∈ [ofE (wd ws 0), ruE (wd ws 1)], e = 0; exact zz2 z0 z1)
      exact re_f2t L off c n (by omega) (by omega) (wd ws 0) (wd ws 1) (wd ws 2) w hL (HC0) (HC 1 (by omega)) (HC 2 (by omega)) (LL 0) (LL 1) (LL 2) _ H0 c1 (by simpa using hd) LP I0 B1 (Lib.hid hg) H1 (Lib.hid h2)
    | true =>
    have H2 := Lib.hid h2
    have z2 : fmE (wd ws 2) = 0 := by unfold fmE; rw [h2]; rfl
    by_cases n3 : n = 3
    · subst n3
      have hx : erX ws = 0 := era_of (by omega) fun i x hi hlt => by
        have : ∀ e ∈ [ofE (wd ws 0), ruE (wd ws 1), fmE (wd ws 2)], e = 0 := zz3 z0 z1 z2
        refine this x ?_
        have h2 : ((erA ws).take 3)[i]? = some x := by rw [List.getElem?_take_of_lt (by omega)]; exact hi
        exact List.mem_of_getElem? h2
      have hs : erS ws = ⟨ofV (wd ws 0), ruR (wd ws 1), ruV (wd ws 1), (wd ws 2), false, 0, 0, 0, 0, 0, 0, 0⟩ := by unfold erS; rw [if_pos hx]; unfold erV; rw [hn]; rfl
      rw [eR, eV] at hs
      obtain rfl : v = 0 := by rw [← hv, hx]
      rw [← hr, hs]
      exact re_s3t L off c (wd ws 0) (wd ws 1) (wd ws 2) w hL (HC0) (HC 1 (by omega)) (HC 2 (by omega)) (LL 0) (LL 1) (LL 2) _ H0 c1 (by simpa using hd) LP I0 B1 (Lib.hid hg) H1 H2
    have yn := yr_nr (wd ws 3)
    by_cases z3 : yrE (wd ws 3) = 0
    rotate_left
    · obtain ⟨rfl, rfl⟩ := FAIL 3 (yrE (wd ws 3)) rfl z3 (by omega) (by show ∀ e ∈ [ofE (wd ws 0), ruE (wd ws 1), fmE (wd ws 2)], e = 0; exact zz3 z0 z1 z2)
      exact re_f3t L off c n (by omega) (by omega) (by simp; omega) (by omega) (wd ws 0) (wd ws 1) (wd ws 2) (wd ws 3) w hL (HC0) (HC 1 (by omega)) (HC 2 (by omega)) (HC 3 (by omega)) (LL 0) (LL 1) (LL 2) (LL 3) _ H0 c1 (by simpa using hd) LP I0 B1 (Lib.hid hg) H1 H2 _ _ (ne_not z3) (Lib.hid ⟨rfl, yn.2.symm⟩)
    by_cases n4 : n = 4
    · subst n4
      have hx : erX ws = 0 := era_of (by omega) fun i x hi hlt => by
        have : ∀ e ∈ [ofE (wd ws 0), ruE (wd ws 1), fmE (wd ws 2), yrE (wd ws 3)], e = 0 := zz4 z0 z1 z2 z3
        refine this x ?_
        have h2 : ((erA ws).take 4)[i]? = some x := by rw [List.getElem?_take_of_lt (by omega)]; exact hi
        exact List.mem_of_getElem? h2
      have hs : erS ws = ⟨ofV (wd ws 0), ruR (wd ws 1), ruV (wd ws 1), (wd ws 2), true, yrV (wd ws 3), 1, 0, 0, 1, 0, 0⟩ := by unfold erS; rw [if_pos hx]; unfold erV; rw [hn]; rfl
      rw [eR, eV, yn.1] at hs
      obtain rfl : v = 0 := by rw [← hv, hx]
      rw [← hr, hs]
      exact re_s4t L off c (wd ws 0) (wd ws 1) (wd ws 2) (wd ws 3) w hL (HC0) (HC 1 (by omega)) (HC 2 (by omega)) (HC 3 (by omega)) (LL 0) (LL 1) (LL 2) (LL 3) _ H0 c1 (by simpa using hd) LP I0 B1 (Lib.hid hg) H1 H2 _ (Lib.hid ⟨rfl, yn.2.symm.trans z3⟩)
    rcases mo_cases (wd ws 4) with ⟨h4, e4⟩ | ⟨f4, h4, b4, z4, v4⟩
    · obtain ⟨rfl, rfl⟩ := FAIL 4 (13) (by show some (moE (wd ws 4)) = some 13; rw [e4]) (by decide) (by omega) (by show ∀ e ∈ [ofE (wd ws 0), ruE (wd ws 1), fmE (wd ws 2), yrE (wd ws 3)], e = 0; exact zz4 z0 z1 z2 z3)
      exact re_f4t L off c n (by omega) (by omega) (by simp; omega) (by omega) (by omega) (wd ws 0) (wd ws 1) (wd ws 2) (wd ws 3) (wd ws 4) w hL (HC0) (HC 1 (by omega)) (HC 2 (by omega)) (HC 3 (by omega)) (HC 4 (by omega)) (LL 0) (LL 1) (LL 2) (LL 3) (LL 4) _ H0 c1 (by simpa using hd) LP I0 B1 (Lib.hid hg) H1 H2 _ (Lib.hid ⟨rfl, yn.2.symm.trans z3⟩) (Lib.hid h4)
    by_cases n5 : n = 5
    · subst n5
      have hx : erX ws = 0 := era_of (by omega) fun i x hi hlt => by
        have : ∀ e ∈ [ofE (wd ws 0), ruE (wd ws 1), fmE (wd ws 2), yrE (wd ws 3), moE (wd ws 4)], e = 0 := zz5 z0 z1 z2 z3 z4
        refine this x ?_
        have h2 : ((erA ws).take 5)[i]? = some x := by rw [List.getElem?_take_of_lt (by omega)]; exact hi
        exact List.mem_of_getElem? h2
      have hs : erS ws = ⟨ofV (wd ws 0), ruR (wd ws 1), ruV (wd ws 1), (wd ws 2), true, yrV (wd ws 3), moV (wd ws 4), 0, 0, 1, 0, 0⟩ := by unfold erS; rw [if_pos hx]; unfold erV; rw [hn]; rfl
      rw [eR, eV, v4, yn.1] at hs
      obtain rfl : v = 0 := by rw [← hv, hx]
      rw [← hr, hs]
      exact re_s5t L off c (wd ws 0) (wd ws 1) (wd ws 2) (wd ws 3) (wd ws 4) w hL (HC0) (HC 1 (by omega)) (HC 2 (by omega)) (HC 3 (by omega)) (HC 4 (by omega)) (LL 0) (LL 1) (LL 2) (LL 3) (LL 4) _ H0 c1 (by simpa using hd) LP I0 B1 (Lib.hid hg) H1 H2 _ (Lib.hid ⟨rfl, yn.2.symm.trans z3⟩) f4 (Lib.hid h4) (z_false (by omega)) b4
    by_cases z5 : dyE (wd ws 5) = 0
    rotate_left
    · obtain ⟨rfl, rfl⟩ := FAIL 5 (dyE (wd ws 5)) rfl z5 (by omega) (by show ∀ e ∈ [ofE (wd ws 0), ruE (wd ws 1), fmE (wd ws 2), yrE (wd ws 3), moE (wd ws 4)], e = 0; exact zz5 z0 z1 z2 z3 z4)
      exact re_f5t L off c n (by omega) (by omega) (by simp; omega) (by omega) (by omega) (by omega) (wd ws 0) (wd ws 1) (wd ws 2) (wd ws 3) (wd ws 4) (wd ws 5) w hL (HC0) (HC 1 (by omega)) (HC 2 (by omega)) (HC 3 (by omega)) (HC 4 (by omega)) (HC 5 (by omega)) (LL 0) (LL 1) (LL 2) (LL 3) (LL 4) (LL 5) _ H0 c1 (by simpa using hd) LP I0 B1 (Lib.hid hg) H1 H2 _ (Lib.hid ⟨rfl, yn.2.symm.trans z3⟩) f4 (Lib.hid h4) (z_false (by omega)) b4 _ _ _ _ (ne_not z5) (Lib.hid (day_is (wd ws 5)))
    by_cases n6 : n = 6
    · subst n6
      have hx : erX ws = 0 := era_of (by omega) fun i x hi hlt => by
        have : ∀ e ∈ [ofE (wd ws 0), ruE (wd ws 1), fmE (wd ws 2), yrE (wd ws 3), moE (wd ws 4), dyE (wd ws 5)], e = 0 := zz6 z0 z1 z2 z3 z4 z5
        refine this x ?_
        have h2 : ((erA ws).take 6)[i]? = some x := by rw [List.getElem?_take_of_lt (by omega)]; exact hi
        exact List.mem_of_getElem? h2
      have hs : erS ws = ⟨ofV (wd ws 0), ruR (wd ws 1), ruV (wd ws 1), (wd ws 2), true, yrV (wd ws 3), moV (wd ws 4), dyK (wd ws 5), dyW (wd ws 5), dyN (wd ws 5), 0, 0⟩ := by unfold erS; rw [if_pos hx]; unfold erV; rw [hn]; rfl
      rw [eR, eV, v4, yn.1] at hs
      obtain rfl : v = 0 := by rw [← hv, hx]
      rw [← hr, hs]
      exact re_s6t L off c (wd ws 0) (wd ws 1) (wd ws 2) (wd ws 3) (wd ws 4) (wd ws 5) w hL (HC0) (HC 1 (by omega)) (HC 2 (by omega)) (HC 3 (by omega)) (HC 4 (by omega)) (HC 5 (by omega)) (LL 0) (LL 1) (LL 2) (LL 3) (LL 4) (LL 5) _ H0 c1 (by simpa using hd) LP I0 B1 (Lib.hid hg) H1 H2 _ (Lib.hid ⟨rfl, yn.2.symm.trans z3⟩) f4 (Lib.hid h4) (z_false (by omega)) b4 _ _ _ (Lib.hid (by rw [day_is, z5]))
    by_cases z6 : parE (wd ws 6) = 0
    rotate_left
    · obtain ⟨rfl, rfl⟩ := FAIL 6 (parE (wd ws 6)) rfl z6 (by omega) (by show ∀ e ∈ [ofE (wd ws 0), ruE (wd ws 1), fmE (wd ws 2), yrE (wd ws 3), moE (wd ws 4), dyE (wd ws 5)], e = 0; exact zz6 z0 z1 z2 z3 z4 z5)
      exact re_f6t L off c n (by omega) (by omega) (by simp; omega) (by omega) (by omega) (by omega) (by omega) (wd ws 0) (wd ws 1) (wd ws 2) (wd ws 3) (wd ws 4) (wd ws 5) (wd ws 6) w hL (HC0) (HC 1 (by omega)) (HC 2 (by omega)) (HC 3 (by omega)) (HC 4 (by omega)) (HC 5 (by omega)) (HC 6 (by omega)) (LL 0) (LL 1) (LL 2) (LL 3) (LL 4) (LL 5) (LL 6) _ H0 c1 (by simpa using hd) LP I0 B1 (Lib.hid hg) H1 H2 _ (Lib.hid ⟨rfl, yn.2.symm.trans z3⟩) f4 (Lib.hid h4) (z_false (by omega)) b4 _ _ _ (Lib.hid (by rw [day_is, z5])) _ _ _ (ne_not z6) (Lib.hid ⟨rfl, rfl, rfl⟩)
    obtain rfl : n = 7 := by omega
    have hx : erX ws = 0 := era_of (by omega) fun i x hi hlt => by
      have : ∀ e ∈ [ofE (wd ws 0), ruE (wd ws 1), fmE (wd ws 2), yrE (wd ws 3), moE (wd ws 4), dyE (wd ws 5), parE (wd ws 6)], e = 0 := zz7 z0 z1 z2 z3 z4 z5 z6
      refine this x ?_
      have h2 : ((erA ws).take 7)[i]? = some x := by rw [List.getElem?_take_of_lt (by omega)]; exact hi
      exact List.mem_of_getElem? h2
    have hs : erS ws = ⟨ofV (wd ws 0), ruR (wd ws 1), ruV (wd ws 1), (wd ws 2), true, yrV (wd ws 3), moV (wd ws 4), dyK (wd ws 5), dyW (wd ws 5), dyN (wd ws 5), parN (wd ws 6), parK (wd ws 6)⟩ := by unfold erS; rw [if_pos hx]; unfold erV; rw [hn]; rfl
    rw [eR, eV, v4, yn.1] at hs
    obtain rfl : v = 0 := by rw [← hv, hx]
    rw [← hr, hs]
    exact re_s7t L off c (wd ws 0) (wd ws 1) (wd ws 2) (wd ws 3) (wd ws 4) (wd ws 5) (wd ws 6) w hL (HC0) (HC 1 (by omega)) (HC 2 (by omega)) (HC 3 (by omega)) (HC 4 (by omega)) (HC 5 (by omega)) (HC 6 (by omega)) (LL 0) (LL 1) (LL 2) (LL 3) (LL 4) (LL 5) (LL 6) _ H0 c1 (by simpa using hd) LP I0 B1 (Lib.hid hg) H1 H2 _ (Lib.hid ⟨rfl, yn.2.symm.trans z3⟩) f4 (Lib.hid h4) (z_false (by omega)) b4 _ _ _ (Lib.hid (by rw [day_is, z5])) _ _ (Lib.hid ⟨rfl, rfl, z6⟩)

theorem wd_len {ws : List (List UInt8)} {m : Nat} (hl : ∀ p ∈ ws, p.length ≤ m) (i : Nat) : (wd ws i).length ≤ m := by
  cases h : ws[i]? with
  | some p => rw [wd_get h]; exact hl p (List.mem_of_getElem? h)
  | none => unfold wd; rw [List.getD_eq_getElem?_getD, h]; exact Nat.zero_le _
theorem rera_is (A : Option Addr) (n c : Nat) (ws : List (List UInt8)) (w : World) (hn : ws.length = n) (hl : ∀ p ∈ ws, p.length ≤ 100) (hW : ArgW A ws w) (r : EV) (v : Int) (hr : Hid (erS ws = r ∧ erX ws = v)) :
    Calls Tryz.prog 22 #[.slice A n c] w fun e w' => e = .returned (.tuple #[evV r, .int .i64 v]) ∧ Below w.heap.size w w' := by
  by_cases h : 3 ≤ n ∧ n ≤ 7
  · obtain ⟨L, off, rfl, hW'⟩ := hW.some (by omega)
    have g : ∀ i, i < n → w.cell? ⟨L, off + i, none⟩ = some (.string ⟨(wd ws i).toArray⟩) := fun i hi => by
      obtain ⟨p, hp⟩ : ∃ p, ws[i]? = some p := ⟨_, List.getElem?_eq_getElem (by omega)⟩
      rw [wd_get hp]; exact hW' i p hp
    have hLw : L < w.heap.size := wcell_lt (g 0 (by omega))
    have k : ∀ i, i < n → CellAt w ⟨L, off + i, none⟩ (wd ws i) := fun i hi => Lib.hid fun W k => by
      rw [k.cell (p := ⟨L, off + i, none⟩) hLw]; exact g i hi
    exact rera_in L off n c ws w hn h.1 h.2 hLw k (k 0 (by omega)) (wd_len hl) r v hr.out.1 hr.out.2
  · have e1 : erX ws = 14 := by unfold erX; rw [if_neg (by omega)]
    have e2 : erS ws = e0V := by unfold erS; rw [e1]; rfl
    obtain ⟨rfl, rfl⟩ := hr.out
    rw [e1, e2]
    by_cases h3 : n < 3
    · exact rera_few A n c w h3
    · exact rera_many A n c w (by omega)

end Go.Proofs.YtfmehdophoejiaaGreatDoor
