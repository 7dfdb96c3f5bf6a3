/- The contract of the document's answer's Parse; nothing that was in memory changes. -/
import Derived.Test.YtcfmmllegaddhaaDoorAbT
namespace Go.Proofs.YtcfmmllegaddhaaDoor
open Go.RowKit

theorem byte_zq (s : List UInt8) (c : UInt8) (r : List UInt8) (z : Int) (h : s = c :: r) (hz : (c.toNat : Int) = z) (W : World) : (Instr.index 9 (.string ⟨s.toArray⟩) (.int .i64 0)).run Tryd.prog W = .ok (.int .u8 z) W := by
  subst hz
  exact byte_zero s c r h W
theorem rdA_end (u n : Nat) : rdA u n [] = some n := rfl
theorem rdA_step {s : List UInt8} {i u n : Nat} (h : i + 1 < s.length) : rdA u n (s.drop i) = if isD (s.getD i 0) && isD (s.getD (i + 1) 0) then rdA (u / 60) (n + u * (10 * ((s.getD i 0).toNat - 48) + ((s.getD (i + 1) 0).toNat - 48))) (s.drop (i + 2)) else none := by
  rw [List.drop_eq_getElem_cons (show i < s.length by omega), List.drop_eq_getElem_cons h]
  show (if isD s[i] && isD s[i + 1] then rdA (u / 60) (n + u * (10 * (s[i].toNat - 48) + (s[i + 1].toNat - 48))) _ else none) = _
  simp [List.getD, show i < s.length by omega, h]
theorem dig_wrap (b : UInt8) (h : 48 ≤ b.toNat) : IntKind.u8.wrap ((b.toNat : Int) - 48) = ((b.toNat - 48 : Nat) : Int) := by
  have := b.toNat_lt
  simp [IntKind.wrap, IntKind.bits, IntKind.signed]
  omega
/-- What stands at the loop's head. -/
def RpS (i u n : Nat) : Prop := (i = 1 ∧ u = 3600 ∧ n = 0) ∨ (i = 3 ∧ u = 60 ∧ n ≤ 356400) ∨ (i = 5 ∧ u = 1 ∧ n ≤ 362340) ∨ (i = 7 ∧ u = 0 ∧ n ≤ 362439)
/-- Two bytes: digits, or which one is none. -/
theorem dig_ways (a b : UInt8) : (a.toNat < 48 ∧ (isD a && isD b) = false) ∨ (48 ≤ a.toNat ∧ 57 < a.toNat ∧ (isD a && isD b) = false) ∨ (48 ≤ a.toNat ∧ a.toNat ≤ 57 ∧ b.toNat < 48 ∧ (isD a && isD b) = false) ∨ (48 ≤ a.toNat ∧ a.toNat ≤ 57 ∧ 48 ≤ b.toNat ∧ 57 < b.toNat ∧ (isD a && isD b) = false) ∨ (48 ≤ a.toNat ∧ a.toNat ≤ 57 ∧ 48 ≤ b.toNat ∧ b.toNat ≤ 57 ∧ (isD a && isD b) = true) := by
  unfold isD
  have ha : a.toNat < 48 ∨ (48 ≤ a.toNat ∧ 57 < a.toNat) ∨ (48 ≤ a.toNat ∧ a.toNat ≤ 57) := by omega
  have hb : b.toNat < 48 ∨ (48 ≤ b.toNat ∧ 57 < b.toNat) ∨ (48 ≤ b.toNat ∧ b.toNat ≤ 57) := by omega
  rcases ha with h | ⟨h, h2⟩ | ⟨h, h2⟩
  · left; simp; omega
  · right; left; simp; omega
  · rcases hb with k | ⟨k, k2⟩ | ⟨k, k2⟩
    · right; right; left; simp; omega
    · right; right; right; left; simp; omega
    · right; right; right; right; simp; omega
theorem byte_nez {c d : UInt8} {z : Int} (h : c ≠ d) (hz : (d.toNat : Int) = z) : ((c.toNat : Int) != z) = true := by
  subst hz
  rw [bne_iff_ne]
  intro e
  exact h (UInt8.toNat_inj.1 (by omega))
theorem rparse_len (s : List UInt8) (w : World) (h3 : s.length ≠ 3) (h5 : s.length ≠ 5) (h7 : s.length ≠ 7) :
    Calls Tryd.prog 16 #[.string ⟨s.toArray⟩] w fun e w' => e = .returned (.tuple #[.int .i64 0, .bool false]) ∧ Below w.heap.size w w' := by
  have t3 : ((s.length : Int) != 3) = true := by simp; omega
  have t5 : ((s.length : Int) != 5) = true := by simp; omega
  have t7 : ((s.length : Int) != 7) = true := by simp; omega
  clear h3 h5 h7
  go_enter Tryd.func16, Tryd.ntmps16
  go_wp2
  go_ret2
  exact ⟨rfl, Below.refl _ _⟩
theorem rparse_sign (s r : List UInt8) (c : UInt8) (n : Nat) (w : World) (e : s = c :: r) (hn : s.length = n) (h : n = 3 ∨ n = 5 ∨ n = 7) (h1 : c ≠ 43) (h2 : c ≠ 45) :
    Calls Tryd.prog 16 #[.string ⟨s.toArray⟩] w fun e w' => e = .returned (.tuple #[.int .i64 0, .bool false]) ∧ Below w.heap.size w w' := by
  have z := byte_zero s c r e
  have u1 := byte_nez (z := 43) h1 rfl
  have u2 := byte_nez (z := 45) h2 rfl
  clear e h1 h2
  rcases h with rfl | rfl | rfl
  all_goals go_enter Tryd.func16, Tryd.ntmps16
  all_goals go_wp2
  all_goals go_ret2
  all_goals exact ⟨rfl, Below.refl _ _⟩
/-- What the answer's last test comes to. -/
def RpE (s : List UInt8) (x v : Int) (b : Bool) : Prop := v = x ∧ (((x ≤ -360000) ∧ b = false) ∨ (-360000 < x ∧ 360000 ≤ x ∧ b = false) ∨ (-360000 < x ∧ x < 360000 ∧ ((b = true ∧ ofT x = s) ∨ (b = false ∧ ∃ T, ofT x = T ∧ T ≠ s))))
theorem rpE_of (s : List UInt8) (x : Int) : RpE s x x (decide (-360000 < x ∧ x < 360000 ∧ ofT x = s)) := by
  refine ⟨rfl, ?_⟩
  by_cases h1 : x ≤ -360000
  · exact .inl ⟨h1, by rw [decide_eq_false]; omega⟩
  · by_cases h2 : 360000 ≤ x
    · exact .inr (.inl ⟨by omega, h2, by rw [decide_eq_false]; omega⟩)
    · refine .inr (.inr ⟨by omega, by omega, ?_⟩)
      by_cases h3 : ofT x = s
      · exact .inl ⟨by rw [decide_eq_true]; exact ⟨by omega, by omega, h3⟩, h3⟩
      · exact .inr ⟨by rw [decide_eq_false]; rintro ⟨-, -, h⟩; exact h3 h, _, rfl, h3⟩
set_option maxHeartbeats 12800000 in
theorem rparse_in (s r : List UInt8) (c : UInt8) (n : Nat) (v : Int) (b : Bool) (w : World) (e : s = c :: r) (hn : s.length = n) (h : n = 3 ∨ n = 5 ∨ n = 7) (hc : c = 43 ∨ c = 45)
    (NO : Hid (rdA 3600 0 (s.drop 1) = none → v = 0 ∧ b = false)) (YES : Hid (∀ N : Nat, rdA 3600 0 (s.drop 1) = some N → RpE s (if c = 45 then -(N : Int) else (N : Int)) v b)) :
    Calls Tryd.prog 16 #[.string ⟨s.toArray⟩] w fun e w' => e = .returned (.tuple #[.int .i64 v, .bool b]) ∧ Below w.heap.size w w' := by
  have z0 := fun z hz => byte_zq s c r z e hz
  have HN := Lib.hid hn
  have hz := wsize s
  rw [hn] at hz
  obtain ⟨R, hR⟩ : ∃ R, rdA 3600 0 (s.drop 1) = R := ⟨_, rfl⟩
  rw [hR] at NO YES
  have HR := Lib.hid hR
  have S0 : Hid (RpS 1 3600 0) := Lib.hid (.inl ⟨rfl, rfl, rfl⟩)
  clear e hn hR
  have go : ∀ zc : Int, (c.toNat : Int) = zc → ((zc = 43 ∧ c = 43) ∨ (zc = 45 ∧ c = 45)) → Calls Tryd.prog 16 #[.string ⟨s.toArray⟩] w fun e w' => e = .returned (.tuple #[.int .i64 v, .bool b]) ∧ Below w.heap.size w w' := by
    intro zc hzc hcc
    have z1 := z0 zc hzc
    clear z0 hc hzc
    have PAR : Hid (n = 3 ∨ n = 5 ∨ n = 7) := Lib.hid h
    rcases h with h | h | h
    all_goals first | have t3 : ((n : Int) != 3) = false := by simp; omega | have t3 : ((n : Int) != 3) = true := by simp; omega
    all_goals first | have t5 : ((n : Int) != 5) = false := by simp; omega | have t5 : ((n : Int) != 5) = true := by simp; omega
    all_goals first | have t7 : ((n : Int) != 7) = false := by simp; omega | have t7 : ((n : Int) != 7) = true := by simp; omega
    all_goals clear h
    all_goals rcases hcc with ⟨rfl, rfl⟩ | ⟨rfl, rfl⟩
    all_goals
      (go_enter Tryd.func16, Tryd.ntmps16
       go_wp2
       go_loopw [4, 5, 6] (fun vn vu vi wr => ∃ i u k : Nat, vn = .int .i64 (k : Int) ∧ vu = .int .i64 (u : Int) ∧ vi = .int .i64 (i : Int) ∧ RpS i u k ∧ i ≤ n ∧ rdA u k (s.drop i) = R ∧ Below w.heap.size w wr) (fun _ _ vi _ => (8 - intOf vi).toNat)
       case atStart => exact ⟨1, 3600, 0, rfl, rfl, rfl, S0.out, by have := PAR.out; omega, HR.out, Below.refl _ _⟩
       case round =>
         obtain ⟨i, u, k, rfl, rfl, rfl, hS, hin, hA, hB⟩ := hrel
         have B2 := Lib.hid hB
         have A2 := Lib.hid hA
         have S := Lib.hid hS
         clear S0 HR hB hA
         by_cases hi : i < n
         · have hi' : (i : Int) < (n : Int) := by omega
           have hi1 : i + 1 < n := by have := PAR.out; unfold RpS at hS; omega
           have ST := rdA_step (s := s) (i := i) (u := u) (n := k) (by rw [HN.out]; exact hi1)
           rw [A2.out] at ST
           obtain ⟨p1, hp1⟩ : ∃ p, i + 1 = p := ⟨_, rfl⟩
           have ep : (i : Int) + 1 = (p1 : Int) := by omega
           have p7 : p1 ≤ 7 := by have := PAR.out; omega
           have i7 : i ≤ 6 := by omega
           have ix0 := wbyte_at s i (by rw [HN.out]; exact hi) _ rfl
           have ix1 := wbyte_at s p1 (by rw [HN.out]; omega) _ rfl
           rw [hp1] at ST
           obtain ⟨x, hx⟩ : ∃ x, s.getD i 0 = x := ⟨_, rfl⟩
           obtain ⟨y, hy⟩ : ∃ y, s.getD p1 0 = y := ⟨_, rfl⟩
           rw [hx, hy] at ST
           rw [hx] at ix0
           rw [hy] at ix1
           clear hx hy
           rcases dig_ways x y with ⟨d1, q⟩ | ⟨d1, d2, q⟩ | ⟨d1, d2, d3, q⟩ | ⟨d1, d2, d3, d4, q⟩ | ⟨d1, d2, d3, d4, q⟩
           · have f1 : (x.toNat : Int) < 48 := by omega
             have E := Lib.hid (NO.out (by rw [ST, q]; rfl))
             clear ST q hS hi1 hp1 hin
             go_wp2
             go_ret2
             rw [E.out.1, E.out.2]
             exact ⟨rfl, B2.out⟩
           · have f1 : ¬ (x.toNat : Int) < 48 := by omega
             have f2 : (57 : Int) < (x.toNat : Int) := by omega
             have E := Lib.hid (NO.out (by rw [ST, q]; rfl))
             clear ST q hS hi1 hp1 hin
             go_wp2
             go_ret2
             rw [E.out.1, E.out.2]
             exact ⟨rfl, B2.out⟩
           · have f1 : ¬ (x.toNat : Int) < 48 := by omega
             have f2 : ¬ (57 : Int) < (x.toNat : Int) := by omega
             have f3 : (y.toNat : Int) < 48 := by omega
             have E := Lib.hid (NO.out (by rw [ST, q]; rfl))
             clear ST q hS hi1 hp1 hin
             go_wp2
             go_ret2
             rw [E.out.1, E.out.2]
             exact ⟨rfl, B2.out⟩
           · have f1 : ¬ (x.toNat : Int) < 48 := by omega
             have f2 : ¬ (57 : Int) < (x.toNat : Int) := by omega
             have f3 : ¬ (y.toNat : Int) < 48 := by omega
             have f4 : (57 : Int) < (y.toNat : Int) := by omega
             have E := Lib.hid (NO.out (by rw [ST, q]; rfl))
             clear ST q hS hi1 hp1 hin
             go_wp2
             go_ret2
             rw [E.out.1, E.out.2]
             exact ⟨rfl, B2.out⟩
           · have f1 : ¬ (x.toNat : Int) < 48 := by omega
             have f2 : ¬ (57 : Int) < (x.toNat : Int) := by omega
             have f3 : ¬ (y.toNat : Int) < 48 := by omega
             have f4 : ¬ (57 : Int) < (y.toNat : Int) := by omega
             have w1 := dig_wrap x d1
             have w2 := dig_wrap y d3
             obtain ⟨va, hva⟩ : ∃ va, x.toNat - 48 = va := ⟨_, rfl⟩
             obtain ⟨vb, hvb⟩ : ∃ vb, y.toNat - 48 = vb := ⟨_, rfl⟩
             rw [hva] at w1
             rw [hvb] at w2
             have la : va ≤ 9 := by omega
             have lb : vb ≤ 9 := by omega
             obtain ⟨x1, e1⟩ : ∃ z, 10 * va = z := ⟨_, rfl⟩
             obtain ⟨x2, e2⟩ : ∃ z, x1 + vb = z := ⟨_, rfl⟩
             obtain ⟨x3, e3⟩ : ∃ z, u * x2 = z := ⟨_, rfl⟩
             obtain ⟨x4, e4⟩ : ∃ z, k + x3 = z := ⟨_, rfl⟩
             have l2 : x2 ≤ 99 := by omega
             have NX : RpS (i + 2) (u / 60) x4 ∧ x3 ≤ 356400 ∧ k ≤ 362439 ∧ u ≤ 3600 := by
               unfold RpS at hS ⊢
               rcases hS with ⟨rfl, rfl, rfl⟩ | ⟨rfl, rfl, _⟩ | ⟨rfl, rfl, _⟩ | ⟨rfl, rfl, _⟩ <;> omega
             have l3 := NX.2.1
             have l4 := NX.2.2.1
             have lu := NX.2.2.2
             have NS := Lib.hid NX.1
             have w0 : IntKind.i64.wrap ((i : Int) + 1) = (p1 : Int) := by rw [wrap_small _ (by omega) (by omega)]; omega
             have w3 : IntKind.i64.wrap (10 * (va : Int)) = (x1 : Int) := by rw [wrap_small _ (by omega) (by omega)]; omega
             have w4 : IntKind.i64.wrap ((x1 : Int) + (vb : Int)) = (x2 : Int) := by rw [wrap_small _ (by omega) (by omega)]; omega
             have e3' : (u : Int) * (x2 : Int) = (x3 : Int) := by rw [← e3]; simp
             have w5 : IntKind.i64.wrap ((u : Int) * (x2 : Int)) = (x3 : Int) := by rw [e3', wrap_small _ (by omega) (by omega)]
             have w6 : IntKind.i64.wrap ((k : Int) + (x3 : Int)) = (x4 : Int) := by rw [wrap_small _ (by omega) (by omega)]; omega
             have ST2 : Hid (rdA (u / 60) x4 (s.drop (i + 2)) = R) := Lib.hid (by
               rw [ST, q, if_pos rfl, hva, hvb, e1, e2, e3, e4])
             obtain ⟨u1, hu1⟩ : ∃ z, u / 60 = z := ⟨_, rfl⟩
             rw [hu1] at NS ST2
             have ud : (u : Int) / 60 = (u1 : Int) := by omega
             have hi2 : i ≤ 5 := by have := PAR.out; omega
             have hi3 : Hid (i + 2 ≤ n) := Lib.hid (by omega)
             have u60 : u1 ≤ 60 := by omega
             clear ST q hS hi1 hp1 hin NX hva hvb e1 e2 e3 e4 d1 d2 d3 d4 e3' hu1
             go_wp2
             go_quiet (fail)
             go_wp2
             go_roundw
             case rel => exact ⟨i + 2, u1, x4, rfl, rfl, by go_num, NS.out, hi3.out, ST2.out, bdrews B2.out _⟩
             case measure => simp [intOf]; omega
         · have hi' : ¬ (i : Int) < (n : Int) := by omega
           have hk : k ≤ 362439 := by unfold RpS at hS; omega
           have E := YES.out k (by rw [← A2.out, List.drop_eq_nil_of_le (by rw [HN.out]; omega)]; rfl)
           clear hS A2 S hin hi NO YES
           first | rw [if_neg (by decide)] at E | rw [if_pos rfl] at E | rw [if_pos trivial] at E
           first
             | (obtain ⟨x, hx⟩ : ∃ x : Int, -(k : Int) = x := ⟨_, rfl⟩
                rw [hx] at E
                have xl : -400000 ≤ x := by omega
                have xu : x ≤ 400000 := by omega)
             | (obtain ⟨x, hx⟩ : ∃ x : Int, (k : Int) = x := ⟨_, rfl⟩
                rw [hx] at E
                have xl : -400000 ≤ x := by omega
                have xu : x ≤ 400000 := by omega)
           obtain ⟨rfl, E⟩ := E
           rcases E with ⟨h1, rfl⟩ | ⟨h1, h2, rfl⟩ | ⟨h1, h2, ⟨rfl, h3⟩ | ⟨rfl, T, hT, h3⟩⟩
           · first
               | omega
               | (go_wp2
                  go_ret2
                  exact ⟨rfl, B2.out⟩)
           · first
               | omega
               | (go_wp2
                  go_ret2
                  exact ⟨rfl, B2.out⟩)
           · have WT := Lib.hid h3
             have BD := Lib.hid (And.intro h1 h2)
             clear h3
             go_wp2_with (first | (go_at_call 14; refine (roffset_is _ s _ BD.out.1 BD.out.2 WT).mono ?_; rintro e w1 ⟨rfl, k1⟩; simp only []))
             go_ret2
             exact ⟨rfl, B2.out.trans (k1.mono B2.out.size)⟩
           · have WT := Lib.hid hT
             have tq : (T == s) = false := by simpa using h3
             have BD := Lib.hid (And.intro h1 h2)
             clear h3 hT
             go_wp2_with (first | (go_at_call 14; refine (roffset_is _ T _ BD.out.1 BD.out.2 WT).mono ?_; rintro e w1 ⟨rfl, k1⟩; simp only []))
             go_ret2
             exact ⟨rfl, B2.out.trans (k1.mono B2.out.size)⟩)
  rcases hc with rfl | rfl
  · exact go 43 rfl (.inl ⟨rfl, rfl⟩)
  · exact go 45 rfl (.inr ⟨rfl, rfl⟩)
theorem rparse_is (s : List UInt8) (v : Int) (b : Bool) (w : World) (HV : Hid (rpV s = v ∧ rpO s = b)) :
    Calls Tryd.prog 16 #[.string ⟨s.toArray⟩] w fun e w' => e = .returned (.tuple #[.int .i64 v, .bool b]) ∧ Below w.heap.size w w' := by
  obtain ⟨rfl, rfl⟩ := HV.out
  clear HV
  by_cases hl : s.length = 3 ∨ s.length = 5 ∨ s.length = 7
  · obtain ⟨c, r, e⟩ : ∃ c r, s = c :: r := by
      cases s with
      | nil => simp at hl
      | cons c r => exact ⟨c, r, rfl⟩
    have hh : s.head? = some c := by rw [e]; rfl
    by_cases hc : c = 43 ∨ c = 45
    · have q : rpS s = true := by
        unfold rpS
        rw [hh]
        simpa using ⟨hl, hc⟩
      have sg : ∀ N : Nat, sgn s N = if c = 45 then -(N : Int) else (N : Int) := fun N => by unfold sgn; rw [hh]; simp
      refine rparse_in s r c _ _ _ w e rfl hl hc (Lib.hid fun h => ?_) (Lib.hid fun N h => ?_)
      · unfold rpV rpO; rw [q, h]; exact ⟨rfl, rfl⟩
      · unfold rpV rpO; rw [q, h]
        simp only [if_true, sg]
        exact rpE_of _ _
    · have q : rpS s = false := by
        unfold rpS
        rw [hh, decide_eq_false]
        rintro ⟨-, h⟩
        apply hc
        simpa using h
      unfold rpV rpO
      rw [q]
      exact rparse_sign s r c _ w e rfl hl (fun h => hc (.inl h)) (fun h => hc (.inr h))
  · have q : rpS s = false := by
      unfold rpS
      rw [decide_eq_false]
      rintro ⟨h, -⟩
      exact hl h
    unfold rpV rpO
    rw [q]
    exact rparse_len s w (fun h => hl (.inl h)) (fun h => hl (.inr (.inl h))) (fun h => hl (.inr (.inr h)))
end Go.Proofs.YtcfmmllegaddhaaDoor
