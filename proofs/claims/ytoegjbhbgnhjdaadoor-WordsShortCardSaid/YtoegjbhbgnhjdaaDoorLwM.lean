/- Plain facts on one more letter, and the walk of the law WordsMore: for every word and byte it returns true, and nothing that was in memory changes. Written by wip/tools/genmo.py. -/
import Derived.Test.YtoegjbhbgnhjdaaDoorLwF
namespace Go.Proofs.YtoegjbhbgnhjdaaDoor
open Go.RowKit

theorem scan_pre (b : List UInt8) : ∀ (ws : List (List UInt8)) (i many found p : Nat), scan b ws i many found = some p → (∃ k q, p = i + k ∧ ws[k]? = some q ∧ b <+: q) ∨ (p = found ∧ many = 1)
  | [], i, many, found, p, h => by
    simp only [scan] at h
    split at h
    · rename_i hm
      injection h with h
      exact .inr ⟨h.symm, hm⟩
    · cases h
  | w :: ws, i, many, found, p, h => by
    simp only [scan] at h
    split at h
    · rename_i he
      injection h with h
      exact .inl ⟨0, w, by omega, rfl, he ▸ List.prefix_refl _⟩
    · split at h
      · rename_i hb
        rcases scan_pre b ws (i + 1) (many + 1) i p h with ⟨k, q, h1, h2, h3⟩ | ⟨h1, _⟩
        · exact .inl ⟨k + 1, q, by omega, h2, h3⟩
        · exact .inl ⟨0, w, by omega, rfl, (begins_iff.1 hb).2⟩
      · rcases scan_pre b ws (i + 1) many found p h with ⟨k, q, h1, h2, h3⟩ | ⟨h1, h2⟩
        · exact .inl ⟨k + 1, q, by omega, h2, h3⟩
        · exact .inr ⟨h1, h2⟩
theorem findL_pre {b : List UInt8} {ws : List (List UInt8)} {p : Nat} (h : findL b ws = some p) : ∃ q, ws[p]? = some q ∧ b <+: q := by
  rcases scan_pre b ws 0 0 0 p h with ⟨k, q, h1, h2, h3⟩ | ⟨_, h2⟩
  · exact ⟨q, by rw [h1, Nat.zero_add]; exact h2, h3⟩
  · omega

/-- Of a list of words: what is short for one of them is the beginning of no other one, and is so with more of its letters. -/
def Firm (ws : List (List UInt8)) : Bool := (List.range ws.length).all fun i => (List.range ((ws.getD i []).length + 1)).all fun k =>
  !decide (findL ((ws.getD i []).take k) ws = some i) || (((List.range ws.length).all fun j => !(((ws.getD i []).take k).isPrefixOf (ws.getD j [])) || decide (i = j)) && (!decide (k < (ws.getD i []).length) || decide (findL ((ws.getD i []).take (k + 1)) ws = some i)))
theorem months_firm : Firm monthsL = true := by decide +kernel
theorem weeks_firm : Firm weeksL = true := by decide +kernel

theorem firm_at {ws : List (List UInt8)} (hF : Firm ws = true) {b p : List UInt8} {i : Nat} (h : findL b ws = some i) (hp : ws[i]? = some p) :
    b = p.take b.length ∧ b.length ≤ p.length ∧ (∀ j q, ws[j]? = some q → b <+: q → i = j) ∧ (b.length < p.length → findL (p.take (b.length + 1)) ws = some i) := by
  obtain ⟨q, hq, hb⟩ := findL_pre h
  obtain rfl : p = q := by rw [hp] at hq; exact Option.some.inj hq
  have hi := (List.getElem?_eq_some_iff.1 hp).1
  have hl := hb.length_le
  have e : b = p.take b.length := by obtain ⟨r, rfl⟩ := hb; simp
  have g : ws.getD i [] = p := by rw [List.getD_eq_getElem?_getD, hp]; rfl
  have h1 := List.all_eq_true.1 hF i (List.mem_range.2 hi)
  rw [g] at h1
  have h2 := List.all_eq_true.1 h1 b.length (List.mem_range.2 (by omega))
  rw [← e, h] at h2
  simp only [decide_true, Bool.not_true, Bool.false_or, Bool.and_eq_true, Bool.or_eq_true, Bool.not_eq_true', decide_eq_false_iff_not, decide_eq_true_eq] at h2
  refine ⟨e, hl, fun j r hr hbr => ?_, fun hk => ?_⟩
  · have hj := (List.getElem?_eq_some_iff.1 hr).1
    have h3 := List.all_eq_true.1 h2.1 j (List.mem_range.2 hj)
    have g2 : ws.getD j [] = r := by rw [List.getD_eq_getElem?_getD, hr]; rfl
    rw [g2, List.isPrefixOf_iff_prefix.2 hbr] at h3
    simpa using h3
  · rcases h2.2 with h4 | h4
    · omega
    · exact h4

theorem more_yes {ws : List (List UInt8)} (hF : Firm ws = true) {b p : List UInt8} {i : Nat} {d : UInt8} (h : findL b ws = some i) (hp : ws[i]? = some p) (hl : b.length < p.length) (hd : p.getD b.length 0 = d) : findL (b ++ [d]) ws = some i := by
  obtain ⟨e, _, _, h4⟩ := firm_at hF h hp
  have := h4 hl
  rwa [take_snoc hl hd, ← e] at this
theorem more_no {ws : List (List UInt8)} (hF : Firm ws = true) {b p : List UInt8} {i : Nat} {d : UInt8} (h : findL b ws = some i) (hp : ws[i]? = some p) (hd : b.length < p.length → p.getD b.length 0 ≠ d) : findL (b ++ [d]) ws = none := by
  cases hj : findL (b ++ [d]) ws with
  | none => rfl
  | some j =>
    obtain ⟨q, hq, hb⟩ := findL_pre hj
    obtain ⟨e, _, h3, _⟩ := firm_at hF h hp
    obtain rfl := h3 j q hq ((List.prefix_append b [d]).trans hb)
    obtain rfl : p = q := by rw [hp] at hq; exact Option.some.inj hq
    have hlen := hb.length_le
    rw [List.length_append, List.length_singleton] at hlen
    obtain ⟨r, hr⟩ := hb
    refine absurd ?_ (hd (by omega))
    rw [← hr]
    simp

theorem more_long (l : List UInt8) (c : UInt8) (w : World) (H : LaidW w) (hs : 20 < l.length) :
    Calls Tryd.prog 8 #[.string ⟨l.toArray⟩, .int .u8 (c.toNat : Int)] w fun e w' => e = .returned (.bool true) ∧ Below w.heap.size w w' := by
  have hz := wsize l
  have HX := Lib.hid H
  clear H
  go_enter Tryd.func8, Tryd.ntmps8
  go_wp2_with (go_at_call 9; refine (wawake_any _ HX.out).mono ?_; rintro e w1 ⟨rfl, k1⟩)
  go_ret
  exact ⟨rfl, k1⟩

set_option maxRecDepth 20000 in
set_option maxHeartbeats 1600000 in
theorem more_same (l : List UInt8) (c : UInt8) (v : Int) (i : Nat) (p : List UInt8) (w : World) (H : LaidW w) (hs : l.length ≤ 20) (A1 : Hid ((resN (findL (low l) monthsL) 1 : Int) = v ∧ (resE (findL (low l) monthsL) : Int) = 0)) (A2 : Hid ((resN (findL (low (l ++ [c])) monthsL) 1 : Int) = v ∧ (resE (findL (low (l ++ [c])) monthsL) : Int) = 0)) (hv : v = (i : Int) + 1) (hi : i < 12) (HP : Hid (monthsL[i]? = some p)) (_ : p.length ≤ 100) (hl : l.length < p.length) (d : UInt8) (hd : p.getD l.length 0 = d) (hc : c = d) :
    Calls Tryd.prog 8 #[.string ⟨l.toArray⟩, .int .u8 (c.toNat : Int)] w fun e w' => e = .returned (.bool true) ∧ Below w.heap.size w w' := by
  have hz := wsize l
  have S0 := Lib.hid (StW.new H)
  have clt := c.toNat_lt
  have hcv := wone_byte w c
  have had := wadd_lists l [c] (by omega) (by simp)
  have lsz : (l ++ [c]).length ≤ 1000 := by rw [List.length_append]; simp; omega
  obtain ⟨g, hg⟩ : ∃ g, l ++ [c] = g := ⟨_, rfl⟩
  rw [hg] at had A2 lsz
  clear hg
  have e1 : min 12 v = v := by omega
  have e2 : max 1 v = v := by omega
  have e3 : min v 12 = v := by omega
  have e4 : max v 1 = v := by omega
  have e5 : v - 1 = (i : Int) := by omega
  have hpz := wsize p
  have hl' : (l.length : Int) < (p.length : Int) := by omega
  have hix := wbyte_at p l.length hl d hd
  have dlt := d.toNat_lt
  clear hd hl
  subst hc
  have HV := Lib.hid hv
  clear hv
  have T0 : Hid (StW w (w.alloc (.cells #[.int .u8 (c.toNat : Int)] 5))) := Lib.hid (S0.out.next ((Below.refl _ _).alloc (Nat.le_refl _) _))
  clear H S0
  go_enter Tryd.func8, Tryd.ntmps8
  go_wp2_with (first
    | (go_at_call 11
       first
         | (with_reducible refine (month_is l v 0 _ (by omega) T0.out.l A1).mono ?_
            rintro e w1 ⟨rfl, k1⟩; have S1 := Lib.hid (T0.out.next k1); clear k1)
         | (with_reducible refine (month_is g v 0 _ lsz S1.out.l A2).mono ?_
            rintro e w2 ⟨rfl, k2⟩; have S2 := Lib.hid (S1.out.next k2); clear k2))
    | (go_at_call 16; refine (rmonths_any _).mono ?_; rintro e w3 ⟨L1, rfl, _, l1, k3⟩; have S3 := Lib.hid (S2.out.next k3); have hc1 := l1.cell i p HP.out; have hl1 := l1.lt; clear k3 l1)
    | (go_at_call 9; refine (wawake_any _ S3.out.l).mono ?_; rintro e w4 ⟨rfl, k4⟩; have S4 := Lib.hid (S3.out.next k4); clear k4))
  go_ret
  exact ⟨rfl, S4.out.k⟩

set_option maxRecDepth 20000 in
set_option maxHeartbeats 1600000 in
theorem more_big (l : List UInt8) (c : UInt8) (v : Int) (i : Nat) (p : List UInt8) (w : World) (H : LaidW w) (hs : l.length ≤ 20) (A1 : Hid ((resN (findL (low l) monthsL) 1 : Int) = v ∧ (resE (findL (low l) monthsL) : Int) = 0)) (A2 : Hid ((resN (findL (low (l ++ [c])) monthsL) 1 : Int) = v ∧ (resE (findL (low (l ++ [c])) monthsL) : Int) = 0)) (hv : v = (i : Int) + 1) (hi : i < 12) (HP : Hid (monthsL[i]? = some p)) (_ : p.length ≤ 100) (hl : l.length < p.length) (d : UInt8) (hd : p.getD l.length 0 = d) (c1 : 65 ≤ c.toNat) (c2 : c.toNat ≤ 90) (hc : c.toNat + 32 = d.toNat) :
    Calls Tryd.prog 8 #[.string ⟨l.toArray⟩, .int .u8 (c.toNat : Int)] w fun e w' => e = .returned (.bool true) ∧ Below w.heap.size w w' := by
  have hz := wsize l
  have S0 := Lib.hid (StW.new H)
  have clt := c.toNat_lt
  have hcv := wone_byte w c
  have had := wadd_lists l [c] (by omega) (by simp)
  have lsz : (l ++ [c]).length ≤ 1000 := by rw [List.length_append]; simp; omega
  obtain ⟨g, hg⟩ : ∃ g, l ++ [c] = g := ⟨_, rfl⟩
  rw [hg] at had A2 lsz
  clear hg
  have e1 : min 12 v = v := by omega
  have e2 : max 1 v = v := by omega
  have e3 : min v 12 = v := by omega
  have e4 : max v 1 = v := by omega
  have e5 : v - 1 = (i : Int) := by omega
  have hpz := wsize p
  have hl' : (l.length : Int) < (p.length : Int) := by omega
  have hix := wbyte_at p l.length hl d hd
  have dlt := d.toNat_lt
  clear hd hl
  have q0 : ((c.toNat : Int) == (d.toNat : Int)) = false := by simp; omega
  have q1 : 65 ≤ (c.toNat : Int) := by omega
  have q2 : (c.toNat : Int) ≤ 90 := by omega
  have q3 : (d.toNat : Int) = (c.toNat : Int) - 65 + 97 := by omega
  rw [q3] at hix q0
  clear q3 hc c1 c2
  have HV := Lib.hid hv
  clear hv
  have T0 : Hid (StW w (w.alloc (.cells #[.int .u8 (c.toNat : Int)] 5))) := Lib.hid (S0.out.next ((Below.refl _ _).alloc (Nat.le_refl _) _))
  clear H S0
  go_enter Tryd.func8, Tryd.ntmps8
  go_wp2_with (first
    | (go_at_call 11
       first
         | (with_reducible refine (month_is l v 0 _ (by omega) T0.out.l A1).mono ?_
            rintro e w1 ⟨rfl, k1⟩; have S1 := Lib.hid (T0.out.next k1); clear k1)
         | (with_reducible refine (month_is g v 0 _ lsz S1.out.l A2).mono ?_
            rintro e w2 ⟨rfl, k2⟩; have S2 := Lib.hid (S1.out.next k2); clear k2))
    | (go_at_call 16; refine (rmonths_any _).mono ?_; rintro e w3 ⟨L1, rfl, _, l1, k3⟩; have S3 := Lib.hid (S2.out.next k3); have hc1 := l1.cell i p HP.out; have hl1 := l1.lt; clear k3 l1)
    | (go_at_call 9; refine (wawake_any _ S3.out.l).mono ?_; rintro e w4 ⟨rfl, k4⟩; have S4 := Lib.hid (S3.out.next k4); clear k4))
  go_ret
  exact ⟨rfl, S4.out.k⟩

set_option maxRecDepth 20000 in
set_option maxHeartbeats 1600000 in
theorem more_end (l : List UInt8) (c : UInt8) (v : Int) (i : Nat) (p : List UInt8) (w : World) (H : LaidW w) (hs : l.length ≤ 20) (A1 : Hid ((resN (findL (low l) monthsL) 1 : Int) = v ∧ (resE (findL (low l) monthsL) : Int) = 0)) (A2 : Hid ((resN (findL (low (l ++ [c])) monthsL) 1 : Int) = 0 ∧ (resE (findL (low (l ++ [c])) monthsL) : Int) = 13)) (hv : v = (i : Int) + 1) (hi : i < 12) (HP : Hid (monthsL[i]? = some p)) (_ : p.length ≤ 100) (hl : ¬ l.length < p.length) :
    Calls Tryd.prog 8 #[.string ⟨l.toArray⟩, .int .u8 (c.toNat : Int)] w fun e w' => e = .returned (.bool true) ∧ Below w.heap.size w w' := by
  have hz := wsize l
  have S0 := Lib.hid (StW.new H)
  have clt := c.toNat_lt
  have hcv := wone_byte w c
  have had := wadd_lists l [c] (by omega) (by simp)
  have lsz : (l ++ [c]).length ≤ 1000 := by rw [List.length_append]; simp; omega
  obtain ⟨g, hg⟩ : ∃ g, l ++ [c] = g := ⟨_, rfl⟩
  rw [hg] at had A2 lsz
  clear hg
  have e1 : min 12 v = v := by omega
  have e2 : max 1 v = v := by omega
  have e3 : min v 12 = v := by omega
  have e4 : max v 1 = v := by omega
  have e5 : v - 1 = (i : Int) := by omega
  have hpz := wsize p
  have hl' : ¬ (l.length : Int) < (p.length : Int) := by omega
  clear hl
  have HV := Lib.hid hv
  clear hv
  have T0 : Hid (StW w (w.alloc (.cells #[.int .u8 (c.toNat : Int)] 5))) := Lib.hid (S0.out.next ((Below.refl _ _).alloc (Nat.le_refl _) _))
  clear H S0
  go_enter Tryd.func8, Tryd.ntmps8
  go_wp2_with (first
    | (go_at_call 11
       first
         | (with_reducible refine (month_is l v 0 _ (by omega) T0.out.l A1).mono ?_
            rintro e w1 ⟨rfl, k1⟩; have S1 := Lib.hid (T0.out.next k1); clear k1)
         | (with_reducible refine (month_is g 0 13 _ lsz S1.out.l A2).mono ?_
            rintro e w2 ⟨rfl, k2⟩; have S2 := Lib.hid (S1.out.next k2); clear k2))
    | (go_at_call 16; refine (rmonths_any _).mono ?_; rintro e w3 ⟨L1, rfl, _, l1, k3⟩; have S3 := Lib.hid (S2.out.next k3); have hc1 := l1.cell i p HP.out; have hl1 := l1.lt; clear k3 l1)
    | (go_at_call 9; refine (wawake_any _ S3.out.l).mono ?_; rintro e w4 ⟨rfl, k4⟩; have S4 := Lib.hid (S3.out.next k4); clear k4))
  go_ret
  exact ⟨rfl, S4.out.k⟩

set_option maxRecDepth 20000 in
set_option maxHeartbeats 1600000 in
theorem more_lo (l : List UInt8) (c : UInt8) (v : Int) (i : Nat) (p : List UInt8) (w : World) (H : LaidW w) (hs : l.length ≤ 20) (A1 : Hid ((resN (findL (low l) monthsL) 1 : Int) = v ∧ (resE (findL (low l) monthsL) : Int) = 0)) (A2 : Hid ((resN (findL (low (l ++ [c])) monthsL) 1 : Int) = 0 ∧ (resE (findL (low (l ++ [c])) monthsL) : Int) = 13)) (hv : v = (i : Int) + 1) (hi : i < 12) (HP : Hid (monthsL[i]? = some p)) (_ : p.length ≤ 100) (hl : l.length < p.length) (d : UInt8) (hd : p.getD l.length 0 = d) (hc : c ≠ d) (c1 : c.toNat < 65) :
    Calls Tryd.prog 8 #[.string ⟨l.toArray⟩, .int .u8 (c.toNat : Int)] w fun e w' => e = .returned (.bool true) ∧ Below w.heap.size w w' := by
  have hz := wsize l
  have S0 := Lib.hid (StW.new H)
  have clt := c.toNat_lt
  have hcv := wone_byte w c
  have had := wadd_lists l [c] (by omega) (by simp)
  have lsz : (l ++ [c]).length ≤ 1000 := by rw [List.length_append]; simp; omega
  obtain ⟨g, hg⟩ : ∃ g, l ++ [c] = g := ⟨_, rfl⟩
  rw [hg] at had A2 lsz
  clear hg
  have e1 : min 12 v = v := by omega
  have e2 : max 1 v = v := by omega
  have e3 : min v 12 = v := by omega
  have e4 : max v 1 = v := by omega
  have e5 : v - 1 = (i : Int) := by omega
  have hpz := wsize p
  have hl' : (l.length : Int) < (p.length : Int) := by omega
  have hix := wbyte_at p l.length hl d hd
  have dlt := d.toNat_lt
  clear hd hl
  have q0 : ((c.toNat : Int) == (d.toNat : Int)) = false := by simp only [beq_eq_false_iff_ne]; intro e; exact hc (UInt8.toNat_inj.1 (by omega))
  have q1 : ¬ 65 ≤ (c.toNat : Int) := by omega
  clear hc c1
  have HV := Lib.hid hv
  clear hv
  have T0 : Hid (StW w (w.alloc (.cells #[.int .u8 (c.toNat : Int)] 5))) := Lib.hid (S0.out.next ((Below.refl _ _).alloc (Nat.le_refl _) _))
  clear H S0
  go_enter Tryd.func8, Tryd.ntmps8
  go_wp2_with (first
    | (go_at_call 11
       first
         | (with_reducible refine (month_is l v 0 _ (by omega) T0.out.l A1).mono ?_
            rintro e w1 ⟨rfl, k1⟩; have S1 := Lib.hid (T0.out.next k1); clear k1)
         | (with_reducible refine (month_is g 0 13 _ lsz S1.out.l A2).mono ?_
            rintro e w2 ⟨rfl, k2⟩; have S2 := Lib.hid (S1.out.next k2); clear k2))
    | (go_at_call 16; refine (rmonths_any _).mono ?_; rintro e w3 ⟨L1, rfl, _, l1, k3⟩; have S3 := Lib.hid (S2.out.next k3); have hc1 := l1.cell i p HP.out; have hl1 := l1.lt; clear k3 l1)
    | (go_at_call 9; refine (wawake_any _ S3.out.l).mono ?_; rintro e w4 ⟨rfl, k4⟩; have S4 := Lib.hid (S3.out.next k4); clear k4))
  go_ret
  exact ⟨rfl, S4.out.k⟩

set_option maxRecDepth 20000 in
set_option maxHeartbeats 1600000 in
theorem more_hi (l : List UInt8) (c : UInt8) (v : Int) (i : Nat) (p : List UInt8) (w : World) (H : LaidW w) (hs : l.length ≤ 20) (A1 : Hid ((resN (findL (low l) monthsL) 1 : Int) = v ∧ (resE (findL (low l) monthsL) : Int) = 0)) (A2 : Hid ((resN (findL (low (l ++ [c])) monthsL) 1 : Int) = 0 ∧ (resE (findL (low (l ++ [c])) monthsL) : Int) = 13)) (hv : v = (i : Int) + 1) (hi : i < 12) (HP : Hid (monthsL[i]? = some p)) (_ : p.length ≤ 100) (hl : l.length < p.length) (d : UInt8) (hd : p.getD l.length 0 = d) (hc : c ≠ d) (c1 : 90 < c.toNat) :
    Calls Tryd.prog 8 #[.string ⟨l.toArray⟩, .int .u8 (c.toNat : Int)] w fun e w' => e = .returned (.bool true) ∧ Below w.heap.size w w' := by
  have hz := wsize l
  have S0 := Lib.hid (StW.new H)
  have clt := c.toNat_lt
  have hcv := wone_byte w c
  have had := wadd_lists l [c] (by omega) (by simp)
  have lsz : (l ++ [c]).length ≤ 1000 := by rw [List.length_append]; simp; omega
  obtain ⟨g, hg⟩ : ∃ g, l ++ [c] = g := ⟨_, rfl⟩
  rw [hg] at had A2 lsz
  clear hg
  have e1 : min 12 v = v := by omega
  have e2 : max 1 v = v := by omega
  have e3 : min v 12 = v := by omega
  have e4 : max v 1 = v := by omega
  have e5 : v - 1 = (i : Int) := by omega
  have hpz := wsize p
  have hl' : (l.length : Int) < (p.length : Int) := by omega
  have hix := wbyte_at p l.length hl d hd
  have dlt := d.toNat_lt
  clear hd hl
  have q0 : ((c.toNat : Int) == (d.toNat : Int)) = false := by simp only [beq_eq_false_iff_ne]; intro e; exact hc (UInt8.toNat_inj.1 (by omega))
  have q1 : 65 ≤ (c.toNat : Int) := by omega
  have q2 : ¬ (c.toNat : Int) ≤ 90 := by omega
  clear hc c1
  have HV := Lib.hid hv
  clear hv
  have T0 : Hid (StW w (w.alloc (.cells #[.int .u8 (c.toNat : Int)] 5))) := Lib.hid (S0.out.next ((Below.refl _ _).alloc (Nat.le_refl _) _))
  clear H S0
  go_enter Tryd.func8, Tryd.ntmps8
  go_wp2_with (first
    | (go_at_call 11
       first
         | (with_reducible refine (month_is l v 0 _ (by omega) T0.out.l A1).mono ?_
            rintro e w1 ⟨rfl, k1⟩; have S1 := Lib.hid (T0.out.next k1); clear k1)
         | (with_reducible refine (month_is g 0 13 _ lsz S1.out.l A2).mono ?_
            rintro e w2 ⟨rfl, k2⟩; have S2 := Lib.hid (S1.out.next k2); clear k2))
    | (go_at_call 16; refine (rmonths_any _).mono ?_; rintro e w3 ⟨L1, rfl, _, l1, k3⟩; have S3 := Lib.hid (S2.out.next k3); have hc1 := l1.cell i p HP.out; have hl1 := l1.lt; clear k3 l1)
    | (go_at_call 9; refine (wawake_any _ S3.out.l).mono ?_; rintro e w4 ⟨rfl, k4⟩; have S4 := Lib.hid (S3.out.next k4); clear k4))
  go_ret
  exact ⟨rfl, S4.out.k⟩

set_option maxRecDepth 20000 in
set_option maxHeartbeats 1600000 in
theorem more_other (l : List UInt8) (c : UInt8) (v : Int) (i : Nat) (p : List UInt8) (w : World) (H : LaidW w) (hs : l.length ≤ 20) (A1 : Hid ((resN (findL (low l) monthsL) 1 : Int) = v ∧ (resE (findL (low l) monthsL) : Int) = 0)) (A2 : Hid ((resN (findL (low (l ++ [c])) monthsL) 1 : Int) = 0 ∧ (resE (findL (low (l ++ [c])) monthsL) : Int) = 13)) (hv : v = (i : Int) + 1) (hi : i < 12) (HP : Hid (monthsL[i]? = some p)) (_ : p.length ≤ 100) (hl : l.length < p.length) (d : UInt8) (hd : p.getD l.length 0 = d) (hc : c ≠ d) (c1 : 65 ≤ c.toNat) (c2 : c.toNat ≤ 90) (hc2 : c.toNat + 32 ≠ d.toNat) :
    Calls Tryd.prog 8 #[.string ⟨l.toArray⟩, .int .u8 (c.toNat : Int)] w fun e w' => e = .returned (.bool true) ∧ Below w.heap.size w w' := by
  have hz := wsize l
  have S0 := Lib.hid (StW.new H)
  have clt := c.toNat_lt
  have hcv := wone_byte w c
  have had := wadd_lists l [c] (by omega) (by simp)
  have lsz : (l ++ [c]).length ≤ 1000 := by rw [List.length_append]; simp; omega
  obtain ⟨g, hg⟩ : ∃ g, l ++ [c] = g := ⟨_, rfl⟩
  rw [hg] at had A2 lsz
  clear hg
  have e1 : min 12 v = v := by omega
  have e2 : max 1 v = v := by omega
  have e3 : min v 12 = v := by omega
  have e4 : max v 1 = v := by omega
  have e5 : v - 1 = (i : Int) := by omega
  have hpz := wsize p
  have hl' : (l.length : Int) < (p.length : Int) := by omega
  have hix := wbyte_at p l.length hl d hd
  have dlt := d.toNat_lt
  clear hd hl
  have q0 : ((c.toNat : Int) == (d.toNat : Int)) = false := by simp only [beq_eq_false_iff_ne]; intro e; exact hc (UInt8.toNat_inj.1 (by omega))
  have q1 : 65 ≤ (c.toNat : Int) := by omega
  have q2 : (c.toNat : Int) ≤ 90 := by omega
  have q3 : ((c.toNat : Int) - 65 + 97 == (d.toNat : Int)) = false := by simp only [beq_eq_false_iff_ne]; omega
  clear hc c1 c2 hc2
  have HV := Lib.hid hv
  clear hv
  have T0 : Hid (StW w (w.alloc (.cells #[.int .u8 (c.toNat : Int)] 5))) := Lib.hid (S0.out.next ((Below.refl _ _).alloc (Nat.le_refl _) _))
  clear H S0
  go_enter Tryd.func8, Tryd.ntmps8
  go_wp2_with (first
    | (go_at_call 11
       first
         | (with_reducible refine (month_is l v 0 _ (by omega) T0.out.l A1).mono ?_
            rintro e w1 ⟨rfl, k1⟩; have S1 := Lib.hid (T0.out.next k1); clear k1)
         | (with_reducible refine (month_is g 0 13 _ lsz S1.out.l A2).mono ?_
            rintro e w2 ⟨rfl, k2⟩; have S2 := Lib.hid (S1.out.next k2); clear k2))
    | (go_at_call 16; refine (rmonths_any _).mono ?_; rintro e w3 ⟨L1, rfl, _, l1, k3⟩; have S3 := Lib.hid (S2.out.next k3); have hc1 := l1.cell i p HP.out; have hl1 := l1.lt; clear k3 l1)
    | (go_at_call 9; refine (wawake_any _ S3.out.l).mono ?_; rintro e w4 ⟨rfl, k4⟩; have S4 := Lib.hid (S3.out.next k4); clear k4))
  go_ret
  exact ⟨rfl, S4.out.k⟩

set_option maxRecDepth 20000 in
set_option maxHeartbeats 1600000 in
theorem more_nn (l : List UInt8) (c : UInt8) (w : World) (H : LaidW w) (hs : l.length ≤ 20) (A1 : Hid ((resN (findL (low l) monthsL) 1 : Int) = 0 ∧ (resE (findL (low l) monthsL) : Int) = 13)) (A2 : Hid ((resN (findL (low (l ++ [c])) monthsL) 1 : Int) = 0 ∧ (resE (findL (low (l ++ [c])) monthsL) : Int) = 13)) :
    Calls Tryd.prog 8 #[.string ⟨l.toArray⟩, .int .u8 (c.toNat : Int)] w fun e w' => e = .returned (.bool true) ∧ Below w.heap.size w w' := by
  have hz := wsize l
  have S0 := Lib.hid (StW.new H)
  have clt := c.toNat_lt
  have hcv := wone_byte w c
  have had := wadd_lists l [c] (by omega) (by simp)
  have lsz : (l ++ [c]).length ≤ 1000 := by rw [List.length_append]; simp; omega
  obtain ⟨g, hg⟩ : ∃ g, l ++ [c] = g := ⟨_, rfl⟩
  rw [hg] at had A2 lsz
  clear hg
  have T0 : Hid (StW w (w.alloc (.cells #[.int .u8 (c.toNat : Int)] 5))) := Lib.hid (S0.out.next ((Below.refl _ _).alloc (Nat.le_refl _) _))
  clear H S0
  go_enter Tryd.func8, Tryd.ntmps8
  go_wp2_with (first
    | (go_at_call 11
       first
         | (with_reducible refine (month_is l 0 13 _ (by omega) T0.out.l A1).mono ?_
            rintro e w1 ⟨rfl, k1⟩; have S1 := Lib.hid (T0.out.next k1); clear k1)
         | (with_reducible refine (month_is g 0 13 _ lsz S1.out.l A2).mono ?_
            rintro e w2 ⟨rfl, k2⟩; have S2 := Lib.hid (S1.out.next k2); clear k2))
    | (go_at_call 9; refine (wawake_any _ S2.out.l).mono ?_; rintro e w4 ⟨rfl, k4⟩; have S4 := Lib.hid (S2.out.next k4); clear k4))
  go_ret
  exact ⟨rfl, S4.out.k⟩

set_option maxRecDepth 20000 in
set_option maxHeartbeats 1600000 in
theorem more_ns (l : List UInt8) (c : UInt8) (u : Int) (w : World) (H : LaidW w) (hs : l.length ≤ 20) (A1 : Hid ((resN (findL (low l) monthsL) 1 : Int) = 0 ∧ (resE (findL (low l) monthsL) : Int) = 13)) (A2 : Hid ((resN (findL (low (l ++ [c])) monthsL) 1 : Int) = u ∧ (resE (findL (low (l ++ [c])) monthsL) : Int) = 0)) :
    Calls Tryd.prog 8 #[.string ⟨l.toArray⟩, .int .u8 (c.toNat : Int)] w fun e w' => e = .returned (.bool true) ∧ Below w.heap.size w w' := by
  have hz := wsize l
  have S0 := Lib.hid (StW.new H)
  have clt := c.toNat_lt
  have hcv := wone_byte w c
  have had := wadd_lists l [c] (by omega) (by simp)
  have lsz : (l ++ [c]).length ≤ 1000 := by rw [List.length_append]; simp; omega
  obtain ⟨g, hg⟩ : ∃ g, l ++ [c] = g := ⟨_, rfl⟩
  rw [hg] at had A2 lsz
  clear hg
  have T0 : Hid (StW w (w.alloc (.cells #[.int .u8 (c.toNat : Int)] 5))) := Lib.hid (S0.out.next ((Below.refl _ _).alloc (Nat.le_refl _) _))
  clear H S0
  go_enter Tryd.func8, Tryd.ntmps8
  go_wp2_with (first
    | (go_at_call 11
       first
         | (with_reducible refine (month_is l 0 13 _ (by omega) T0.out.l A1).mono ?_
            rintro e w1 ⟨rfl, k1⟩; have S1 := Lib.hid (T0.out.next k1); clear k1)
         | (with_reducible refine (month_is g u 0 _ lsz S1.out.l A2).mono ?_
            rintro e w2 ⟨rfl, k2⟩; have S2 := Lib.hid (S1.out.next k2); clear k2))
    | (go_at_call 9; refine (wawake_any _ S2.out.l).mono ?_; rintro e w4 ⟨rfl, k4⟩; have S4 := Lib.hid (S2.out.next k4); clear k4))
  go_ret
  exact ⟨rfl, S4.out.k⟩

theorem by8_bd {n : Int} (h : (Lit.int .u8 n).wf = true) : 0 ≤ n ∧ n ≤ 255 := by
  simpa [Lit.wf, IntKind.min, IntKind.max, IntKind.bits, IntKind.signed] using h
theorem months_low : ∀ p ∈ monthsL, ∀ d ∈ p, 97 ≤ d.toNat := by decide +kernel
theorem wordsMore_walk (s : ByteArray) (a : Int) (w : World) (H : LaidW w) (_ : s.size ≤ maxLen) (h1 : 0 ≤ a) (h2 : a ≤ 255) :
    Calls Tryd.prog 8 #[.string s, .int .u8 a] w fun e w' => e = .returned (.bool true) ∧ Below w.heap.size w w' := by
  obtain ⟨l, rfl⟩ : ∃ l : List UInt8, s = ⟨l.toArray⟩ := ⟨s.data.toList, by simp⟩
  obtain ⟨c, rfl⟩ : ∃ c : UInt8, a = (c.toNat : Int) := ⟨UInt8.ofNat a.toNat, by rw [UInt8.toNat_ofNat']; omega⟩
  by_cases hs : l.length ≤ 20
  · cases ho : findL (low l) monthsL with
    | none =>
      have A1 : Hid ((resN (findL (low l) monthsL) 1 : Int) = 0 ∧ (resE (findL (low l) monthsL) : Int) = 13) := Lib.hid (by rw [ho]; exact ⟨rfl, rfl⟩)
      cases hx : findL (low (l ++ [c])) monthsL with
      | none => exact more_nn l c w H hs A1 (Lib.hid (by rw [hx]; exact ⟨rfl, rfl⟩))
      | some j => exact more_ns l c _ w H hs A1 (Lib.hid (by rw [hx]; exact ⟨rfl, rfl⟩))
    | some i =>
      have hi : i < 12 := findL_lt ho
      obtain ⟨p, hp⟩ : ∃ p, monthsL[i]? = some p := ⟨_, List.getElem?_eq_getElem (show i < monthsL.length from hi)⟩
      have hpm := List.mem_of_getElem? hp
      have hpl := months_len p hpm
      have hll : (low l).length = l.length := low_len l
      have A1 : Hid ((resN (findL (low l) monthsL) 1 : Int) = ((i + 1 : Nat) : Int) ∧ (resE (findL (low l) monthsL) : Int) = 0) := Lib.hid (by rw [ho]; exact ⟨rfl, rfl⟩)
      have NO : (l.length < p.length → p.getD l.length 0 ≠ lowB c) → Hid ((resN (findL (low (l ++ [c])) monthsL) 1 : Int) = 0 ∧ (resE (findL (low (l ++ [c])) monthsL) : Int) = 13) := fun h => Lib.hid (by
        rw [low_snoc, more_no months_firm ho hp (by rw [hll]; exact h)]; exact ⟨rfl, rfl⟩)
      by_cases hl : l.length < p.length
      · obtain ⟨d, hd⟩ : ∃ d, p.getD l.length 0 = d := ⟨_, rfl⟩
        have hd97 : 97 ≤ d.toNat := months_low p hpm d (by rw [← hd]; simp [hl])
        have YES : d = lowB c → Hid ((resN (findL (low (l ++ [c])) monthsL) 1 : Int) = ((i + 1 : Nat) : Int) ∧ (resE (findL (low (l ++ [c])) monthsL) : Int) = 0) := fun h => Lib.hid (by
          rw [low_snoc, more_yes months_firm ho hp (by rw [hll]; exact hl) (by rw [hll, hd]; exact h)]; exact ⟨rfl, rfl⟩)
        have lb := lowB_toNat c
        by_cases hcd : c = d
        · have e : d = lowB c := by
            apply UInt8.toNat_inj.1
            rw [lb, hcd, if_neg (by omega)]
          exact more_same l c _ i p w H hs A1 (YES e) (by omega) hi (Lib.hid hp) hpl hl d hd hcd
        · by_cases c1 : 65 ≤ c.toNat
          · by_cases c2 : c.toNat ≤ 90
            · rw [if_pos ⟨c1, c2⟩] at lb
              by_cases c3 : c.toNat + 32 = d.toNat
              · exact more_big l c _ i p w H hs A1 (YES (UInt8.toNat_inj.1 (by omega))) (by omega) hi (Lib.hid hp) hpl hl d hd c1 c2 c3
              · exact more_other l c _ i p w H hs A1 (NO fun _ e => c3 (by rw [← hd, e]; exact lb.symm)) (by omega) hi (Lib.hid hp) hpl hl d hd hcd c1 c2 c3
            · rw [if_neg (by omega)] at lb
              exact more_hi l c _ i p w H hs A1 (NO fun _ e => hcd (UInt8.toNat_inj.1 (by rw [← hd, e]; exact lb.symm))) (by omega) hi (Lib.hid hp) hpl hl d hd hcd (by omega)
          · rw [if_neg (by omega)] at lb
            exact more_lo l c _ i p w H hs A1 (NO fun _ e => hcd (UInt8.toNat_inj.1 (by rw [← hd, e]; exact lb.symm))) (by omega) hi (Lib.hid hp) hpl hl d hd hcd (by omega)
      · exact more_end l c _ i p w H hs A1 (NO fun h => absurd h hl) (by omega) hi (Lib.hid hp) hpl hl
  · exact more_long l c w H (by omega)
end Go.Proofs.YtoegjbhbgnhjdaaDoor
