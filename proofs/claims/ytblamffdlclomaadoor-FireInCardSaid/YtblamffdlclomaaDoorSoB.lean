/- The contracts of slices.swapRangeCmpFunc and rotateCmpFunc at a row of structs. -/
import Derived.Test.YtblamffdlclomaaDoorSoA
namespace Go.Proofs.YtblamffdlclomaaDoor
open Go Go.RowKit Go.Sort Go.Lib
section
variable {α : Type} [Inhabited α]

set_option maxHeartbeats 2000000 in
set_option maxRecDepth 100000 in
theorem sswap_is (k : Nat) (zE : ∀ w, (Go.sizeOf 36).run Tryd.prog w = .ok k w) (enc : α → List Value) (g : Nat) (cb : Array Value) (blk off cap n N a b : Nat) (d0 : Array α) (w0 w : World) (X U Z V Y : List α)
    (R : RowK enc k w0 blk off d0) (S : SWK enc k w0 blk off (X ++ (U ++ (Z ++ (V ++ Y)))).toArray w) (hs : (X ++ (U ++ (Z ++ (V ++ Y)))).length = d0.size) (hU : U.length = n) (hV : V.length = n) (ha : X.length = a) (hb : a + n + Z.length = b) (hN : N = d0.size) (hsz : N < 4611686018427387904) :
    Calls Tryd.prog 59 #[.slice (some ⟨blk, off, none⟩) N cap, .int .i64 a, .int .i64 b, .int .i64 n, .func (.func g) #[] cb] w fun e w' => e = .returned (.tuple #[]) ∧ SWK enc k w0 blk off (X ++ (V ++ (Z ++ (U ++ Y)))).toArray w' := by
  have mixed : Tryd.prog.follows .mixedOrders = true := by kernel_rfl
  have S0 : Aside (SWK enc k w0 blk off (X ++ (U ++ (Z ++ (V ++ Y)))).toArray w) := S
  have hlen : X.length + n + Z.length + n + Y.length = N := by rw [hN, ← hs]; simp only [List.length_append]; omega
  have HS : Hid (∀ U1 V1 U2 V2 : List α, U = U1 ++ U2 → V = V1 ++ V2 → U1.length = V1.length → (X ++ (V1 ++ (U2 ++ (Z ++ (U1 ++ (V2 ++ Y)))))).length = d0.size) := by
    intro U1 V1 U2 V2 e1 e2 e3
    rw [← hs, e1, e2]; simp only [List.length_append]; omega
  clear S hs
  go_enter Tryd.func59, Tryd.ntmps59
  go_wp2
  go_loopg [10] n (fun kx s10 wr => ∃ (i : Nat) (U1 V1 U2 V2 : List α), s10 = .int .i64 i ∧ U = U1 ++ U2 ∧ V = V1 ++ V2 ∧ U1.length = i ∧ V1.length = i ∧ i ≤ n ∧ n - i ≤ kx ∧ Aside (SWK enc k w0 blk off (X ++ (V1 ++ (U2 ++ (Z ++ (U1 ++ (V2 ++ Y)))))).toArray wr))
  case atStart => exact ⟨0, [], [], U, V, rfl, rfl, rfl, rfl, rfl, by omega, by omega, S0⟩
  case round =>
    clear S0
    obtain ⟨i, U1, V1, U2, V2, rfl, e1, e2, l1, l2, hin, hkx, S1⟩ := hrel
    have LU : U2.length = n - i := by have := congrArg List.length e1; simp only [List.length_append] at this; omega
    have LV : V2.length = n - i := by have := congrArg List.length e2; simp only [List.length_append] at this; omega
    by_cases hlt : i < n
    · obtain ⟨u, U3, rfl⟩ : ∃ u r, U2 = u :: r := by cases U2 with | nil => simp at LU; omega | cons u r => exact ⟨u, r, rfl⟩
      obtain ⟨v, V3, rfl⟩ : ∃ u r, V2 = u :: r := by cases V2 with | nil => simp at LV; omega | cons u r => exact ⟨u, r, rfl⟩
      have hrow : X ++ (V1 ++ ((u :: U3) ++ (Z ++ (U1 ++ ((v :: V3) ++ Y))))) = (X ++ V1) ++ u :: ((U3 ++ Z ++ U1) ++ v :: (V3 ++ Y)) := by simp
      have hrow2 : (X ++ V1) ++ v :: ((U3 ++ Z ++ U1) ++ u :: (V3 ++ Y)) = X ++ ((V1 ++ [v]) ++ (U3 ++ (Z ++ ((U1 ++ [u]) ++ (V3 ++ Y))))) := by simp
      obtain ⟨q1, q2, q3, q4, q5, q6, q7⟩ := xch_up (i := a + i) (j := b + i) S1.out R (HS.out U1 V1 _ _ e1 e2 (by omega)) hrow (by simp; omega) (by simp only [List.length_append]; simp at LU; omega)
      rw [hrow2] at q7
      have S2 : Aside _ := q7
      clear q7 S1
      generalize enc u = cU at q1 q3 q4 q5 S2
      generalize enc v = cV at q2 q3 q4 q6 S2
      have bi : (i : Int) < (n : Int) := by omega
      have w1 : IntKind.i64.wrap ((a : Int) + (i : Int)) = ((a + i : Nat) : Int) := by rw [IntKind.wrap_i64]; omega
      have w2 : IntKind.i64.wrap ((b : Int) + (i : Int)) = ((b + i : Nat) : Int) := by rw [IntKind.wrap_i64]; omega
      have b1 : ((a + i : Nat) : Int) < (N : Int) := by omega
      have b2 : ((b + i : Nat) : Int) < (N : Int) := by omega
      have p1 : (0 : Int) ≤ ((a + i : Nat) : Int) := by omega
      have p2 : (0 : Int) ≤ ((b + i : Nat) : Int) := by omega
      go_wp2_with fail
      go_big_region_o
      clear q1 q2 q3 q4
      generalize (wr.drew.setCells blk (off + (a + i) * k) cV).setCells blk (off + (b + i) * k) cU = w2 at S2 ⊢
      go_wp2
      go_roundg (n - (i + 1))
      case measure => omega
      case rel => exact ⟨i + 1, U1 ++ [u], V1 ++ [v], U3, V3, by simp, by rw [e1]; simp, by rw [e2]; simp, by simp; omega, by simp; omega, by omega, Nat.le_refl _, S2⟩
    · have hU2 : U2 = [] := List.length_eq_zero_iff.1 (by omega)
      have hV2 : V2 = [] := List.length_eq_zero_iff.1 (by omega)
      subst hU2 hV2
      rw [List.append_nil] at e1 e2
      subst e1 e2
      go_wp2
      go_end0
      exact ⟨rfl, by simpa using S1.out⟩
set_option maxHeartbeats 2000000 in
set_option maxRecDepth 100000 in
theorem srot_is (k : Nat) (zE : ∀ w, (Go.sizeOf 36).run Tryd.prog w = .ok k w) (enc : α → List Value) (g : Nat) (cb : Array Value) (blk off cap N a m b : Nat) (d0 : Array α) (w0 w : World) (X U V Y : List α)
    (R : RowK enc k w0 blk off d0) (S : SWK enc k w0 blk off (X ++ (U ++ (V ++ Y))).toArray w) (hs : (X ++ (U ++ (V ++ Y))).length = d0.size) (ha : X.length = a) (hm : a + U.length = m) (hb : m + V.length = b) (hU : 0 < U.length) (hV : 0 < V.length) (hN : N = d0.size) (hsz : N < 4611686018427387904) :
    Calls Tryd.prog 53 #[.slice (some ⟨blk, off, none⟩) N cap, .int .i64 a, .int .i64 m, .int .i64 b, .func (.func g) #[] cb] w fun e w' => e = .returned (.tuple #[]) ∧ SWK enc k w0 blk off (X ++ (V ++ (U ++ Y))).toArray w' := by
  have S0 : Aside (SWK enc k w0 blk off (X ++ (U ++ (V ++ Y))).toArray w) := S
  have hlen : X.length + U.length + V.length + Y.length = N := by rw [hN, ← hs]; simp only [List.length_append]; omega
  have SW : Hid (∀ (W : World) (n aa bb : Nat) (X' U' Z' V' Y' : List α), SWK enc k w0 blk off (X' ++ (U' ++ (Z' ++ (V' ++ Y')))).toArray W → (X' ++ (U' ++ (Z' ++ (V' ++ Y')))).length = d0.size → U'.length = n → V'.length = n → X'.length = aa → aa + n + Z'.length = bb →
      Calls Tryd.prog 59 #[.slice (some ⟨blk, off, none⟩) N cap, .int .i64 aa, .int .i64 bb, .int .i64 n, .func (.func g) #[] cb] W fun e w' => e = .returned (.tuple #[]) ∧ SWK enc k w0 blk off (X' ++ (V' ++ (Z' ++ (U' ++ Y')))).toArray w') :=
    fun W n aa bb X' U' Z' V' Y' S' h1 h2 h3 h4 h5 => sswap_is k zE enc g cb blk off cap n N aa bb d0 w0 W X' U' Z' V' Y' R S' h1 h2 h3 h4 h5 hN hsz
  have HN := Lib.hid hN
  clear S hN
  have wi : IntKind.i64.wrap ((m : Int) - (a : Int)) = (U.length : Int) := by rw [IntKind.wrap_i64]; omega
  have wj : IntKind.i64.wrap ((b : Int) - (m : Int)) = (V.length : Int) := by rw [IntKind.wrap_i64]; omega
  go_enter Tryd.func53, Tryd.ntmps53
  go_wp2
  go_loopg [10, 11] (U.length + V.length) (fun kx s10 s11 wr => ∃ (i j : Nat) (X' U' V' Y' : List α), s10 = .int .i64 i ∧ s11 = .int .i64 j ∧ U'.length = i ∧ V'.length = j ∧ 0 < i ∧ 0 < j ∧ X'.length + i = m ∧ i + j ≤ kx ∧ i + j ≤ U.length + V.length ∧ (X' ++ (U' ++ (V' ++ Y'))).length = d0.size ∧ Hid (X' ++ (V' ++ (U' ++ Y')) = X ++ (V ++ (U ++ Y))) ∧ Aside (SWK enc k w0 blk off (X' ++ (U' ++ (V' ++ Y'))).toArray wr))
  case atStart => exact ⟨U.length, V.length, X, U, V, Y, rfl, rfl, rfl, rfl, hU, hV, by omega, Nat.le_refl _, Nat.le_refl _, hs, rfl, S0⟩
  case round =>
    clear S0 wi wj hs
    obtain ⟨i, j, X', U', V', Y', rfl, rfl, l1, l2, i0, j0, hX, hkx, hle, hs', HE, S1⟩ := hrel
    have wm : IntKind.i64.wrap ((m : Int) - (i : Int)) = (X'.length : Int) := by rw [IntKind.wrap_i64]; omega
    rcases Nat.lt_trichotomy i j with hij | rfl | hij
    · have ne : ((i : Int) == (j : Int)) = false := by simp; omega
      have ng : ¬ (i : Int) > (j : Int) := by omega
      have w1 : IntKind.i64.wrap ((m : Int) + (j : Int)) = ((m + j : Nat) : Int) := by rw [IntKind.wrap_i64]; omega
      have w2 : IntKind.i64.wrap (((m + j : Nat) : Int) - (i : Int)) = ((m + j - i : Nat) : Int) := by rw [IntKind.wrap_i64]; omega
      have w3 : IntKind.i64.wrap ((j : Int) - (i : Int)) = ((j - i : Nat) : Int) := by rw [IntKind.wrap_i64]; omega
      have hV' : V' = V'.take (j - i) ++ V'.drop (j - i) := (List.take_append_drop _ _).symm
      have lv1 : (V'.take (j - i)).length = j - i := by rw [List.length_take]; omega
      have lv2 : (V'.drop (j - i)).length = i := by rw [List.length_drop]; omega
      generalize V'.take (j - i) = V1 at hV' lv1
      generalize V'.drop (j - i) = V2 at hV' lv2
      subst hV'
      have e1 : X' ++ (U' ++ ((V1 ++ V2) ++ Y')) = X' ++ (U' ++ (V1 ++ (V2 ++ Y'))) := by simp
      have C := SW.out wr i X'.length (m + j - i) X' U' V1 V2 Y' (by rw [← e1]; exact S1.out) (by rw [← e1]; exact hs') l1 lv2 rfl (by omega)
      rw [show ((m + j - i : Nat) : Int) = (m : Int) + (j : Int) - (i : Int) by omega] at C
      have HE2 : Hid (X' ++ (V1 ++ (V2 ++ (U' ++ Y'))) = X ++ (V ++ (U ++ Y))) := by show _ = _; rw [← HE.out]; simp
      have hs2 : (X' ++ (V2 ++ (V1 ++ (U' ++ Y')))).length = d0.size := by rw [← hs']; simp only [List.length_append]; omega
      clear HE S1 e1
      go_wp2_with (go_at_call 59; with_reducible refine C.mono ?_; rintro e w1' ⟨rfl, hS⟩)
      go_roundg (i + (j - i))
      case measure => omega
      case rel => exact ⟨i, j - i, X', V2, V1, U' ++ Y', rfl, congrArg (Value.int .i64) (by omega), lv2, lv1, i0, by omega, hX, by omega, by omega, hs2, HE2, hS⟩
    · have eq : ((i : Int) == (i : Int)) = true := by simp
      have C := SW.out wr i X'.length m X' U' [] V' Y' (by simpa using S1.out) (by simpa using hs') l1 l2 rfl (by simpa using hX)
      clear S1
      go_wp2_with (go_at_call 59; with_reducible refine C.mono ?_; rintro e w1' ⟨rfl, hS⟩)
      go_end0
      refine ⟨rfl, ?_⟩
      rw [← HE.out]; simpa using hS
    · have ne : ((i : Int) == (j : Int)) = false := by simp; omega
      have ng : (i : Int) > (j : Int) := by omega
      have w3 : IntKind.i64.wrap ((i : Int) - (j : Int)) = ((i - j : Nat) : Int) := by rw [IntKind.wrap_i64]; omega
      have hU' : U' = U'.take j ++ U'.drop j := (List.take_append_drop _ _).symm
      have lv1 : (U'.take j).length = j := by rw [List.length_take]; omega
      have lv2 : (U'.drop j).length = i - j := by rw [List.length_drop]; omega
      generalize U'.take j = U1 at hU' lv1
      generalize U'.drop j = U2 at hU' lv2
      subst hU'
      have e1 : X' ++ ((U1 ++ U2) ++ (V' ++ Y')) = X' ++ (U1 ++ (U2 ++ (V' ++ Y'))) := by simp
      have C := SW.out wr j X'.length m X' U1 U2 V' Y' (by rw [← e1]; exact S1.out) (by rw [← e1]; exact hs') lv1 l2 rfl (by omega)
      have HE2 : Hid ((X' ++ V') ++ (U1 ++ (U2 ++ Y')) = X ++ (V ++ (U ++ Y))) := by show _ = _; rw [← HE.out]; simp
      have hs2 : ((X' ++ V') ++ (U2 ++ (U1 ++ Y'))).length = d0.size := by rw [← hs']; simp only [List.length_append]; omega
      have HC : Hid (X' ++ (V' ++ (U2 ++ (U1 ++ Y'))) = (X' ++ V') ++ (U2 ++ (U1 ++ Y'))) := by show _ = _; simp
      have hX2 : (X' ++ V').length + (i - j) = m := by simp only [List.length_append]; clear C; omega
      clear HE S1 e1
      go_wp2_with (go_at_call 59; with_reducible refine C.mono ?_; rintro e w1' ⟨rfl, hS⟩)
      go_roundg ((i - j) + j)
      case measure => omega
      case rel => exact ⟨i - j, j, X' ++ V', U2, U1, Y', congrArg (Value.int .i64) (by omega), rfl, lv2, lv1, by omega, j0, hX2, by omega, by omega, hs2, HE2, by rw [← HC.out]; exact hS⟩
end
end Go.Proofs.YtblamffdlclomaaDoor
