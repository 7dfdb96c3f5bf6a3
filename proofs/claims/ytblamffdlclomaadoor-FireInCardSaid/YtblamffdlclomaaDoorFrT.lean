/- The contract of the closure of fire.firings: a rule's firings in the years of a course, one after the other, with these, are handed to whatever loop they are ranged over by. -/
import Derived.Test.YtblamffdlclomaaDoorFrS
import Derived.Test.YtblamffdlclomaaDoorDfS
import Derived.Test.YtblamffdlclomaaDoorRgK
namespace Go.Proofs.YtblamffdlclomaaDoor
open Go Go.RowKit
attribute [local go_sem] Oper.semAt_some
attribute [local go_sem] coV fvV rV cR

def encF (x : Int × FV) : Array Value := #[.int .i64 x.1, fvV x.2]
/-- What the loop in firings knows at its head. -/
structure HeadF (r : RV) (F T : Int) (N : Nat) (L o G Br : Nat) (J : List (Int × FV) → World → Prop) (k s : Nat) (W : World) : Prop where
  kn : k ≤ N
  s7 : s ≤ 7
  sk : s ≤ k
  sil : ∀ y, F + k - s ≤ y → y < F + k → ¬ frY r y
  j : J (frL r F k) W
  own : W.heap[G]? = some (.cells #[.int .i64 F, .int .i64 T, .int .i64 1] 68 (0, 0))
  rul : RulAt L o r W
  ptr : W.heap[Br]? = some (.cells #[.pointer (some ⟨L, o, none⟩)] 60 (0, 0))
  ah : LaidF W

theorem grown_bel {W W' : World} (h : Below W.heap.size W W') (row : Option Nat) : W.grownBy W' row := ⟨h.os, h.tape, h.output, h.size, fun k hk _ => h.block k hk⟩
theorem HeadF.next {r : RV} {F T : Int} {N L o G Br B k s : Nat} {J : List (Int × FV) → World → Prop} {W W' : World} (h : HeadF r F T N L o G Br J k s W) (HJ : OwnFrom B J) (kb : Below W.heap.size W W') : HeadF r F T N L o G Br J k s W' :=
  ⟨h.kn, h.s7, h.sk, h.sil, HJ _ _ _ none h.j (grown_bel kb none) (fun r e => by cases e), (kb.block _ (Array.getElem?_eq_some_iff.1 h.own).1).trans h.own, h.rul.next kb, (kb.block _ (Array.getElem?_eq_some_iff.1 h.ptr).1).trans h.ptr, h.ah.next kb⟩

theorem HeadF.skip {r : RV} {F T : Int} {N L o G Br k s : Nat} {J : List (Int × FV) → World → Prop} {W : World} (h : HeadF r F T N L o G Br J k s W) (hk : k < N) (hs : s < 7) (nf : ¬ frY r (F + k)) : HeadF r F T N L o G Br J (k + 1) (s + 1) W :=
  ⟨hk, by omega, by have := h.sk; omega, fun y a b => by
    by_cases hy : y < F + k
    · exact h.sil y (by omega) hy
    · obtain rfl : y = F + k := by omega
      exact nf, by rw [frL_no nf]; exact h.j, h.own, h.rul, h.ptr, h.ah⟩
theorem HeadF.over {r : RV} {F T : Int} {N L o G Br k : Nat} {J : List (Int × FV) → World → Prop} {W : World} (h : HeadF r F T N L o G Br J k 7 W) (hk : k < N) (nf : ¬ frY r (F + k)) (hf : r.fr ≤ F) (ht : F + k ≤ r.tl) : J (frL r F N) W := by
  have := h.sk
  have all := silent_ever (r := r) (z := F + k - 7) (by omega) (by omega) (fun y a b => by
    by_cases hy : y < F + k
    · exact h.sil y (by omega) hy
    · obtain rfl : y = F + k := by omega
      exact nf)
  rw [frL_still (Nat.le_of_lt hk) fun j _ _ => all _]; exact h.j
theorem HeadF.fired {r : RV} {F T : Int} {N L o G Br n0 k s : Nat} {J : List (Int × FV) → World → Prop} {W W' : World} (h : HeadF r F T N L o G Br J k s W) (hk : k < N) (hf : frY r (F + k)) (hJ : J (frL r F k ++ [(F + k, frF r (F + k))]) W') (kb : Below n0 W W') (ko : KpT (fun t => t == 68 || t == 60) W W') (hL : L < n0) (hA : LaidF W') : HeadF r F T N L o G Br J (k + 1) 0 W' :=
  ⟨hk, by omega, by omega, fun y a b => by omega, by rw [frL_yes hf]; exact hJ, (ko G _ _ _ h.own (by simp)).trans h.own, h.rul.below hL kb, (ko Br _ _ _ h.ptr (by simp)).trans h.ptr, hA⟩

set_option maxHeartbeats 4000000 in
set_option maxRecDepth 20000 in
theorem firings_own (n : Nat) (hn : 1 ≤ n) (Bc Br L o : Nat) (r : RV) (a b F T : Int) (N : Nat) (w : World) (hr : RulAt L o r w) (hok : okR r) (hA : LaidF w)
    (hc0 : w.cell? ⟨Bc, 0, none⟩ = some (.int .i64 a)) (hc1 : w.cell? ⟨Bc, 1, none⟩ = some (.int .i64 b)) (hc2 : w.cell? ⟨Bc, 2, none⟩ = some (.int .i64 1)) (hp : w.heap[Br]? = some (.cells #[.pointer (some ⟨L, o, none⟩)] 60 (0, 0))) (n0 : Nat) (hL0 : L < n0) (hG0 : 0 < n0)
    (hF : max (max a r.fr) (-100000) = F) (hT : min (min b r.tl) 100000 = T) (hN : (T + 1 - F).toNat = N) (hF1 : -99000 ≤ F) (hT1 : T ≤ 99000) :
    SeqKp n Tryd.prog 35 #[.pointer (some ⟨Bc, 0, none⟩), .pointer (some ⟨Br, 0, none⟩)] encF (fun pre x => pre ++ [x] <+: frL r F N) n0 (KpT (fun t => t == 68 || t == 60)) (fun xs => xs = frL r F N) (fun pre => pre <+: frL r F N) w := by
  intro l J Jx W hW hJ hJx hY h0
  refine callsIn_of_wp Tryd.func35 rfl trivial ?_ rfl
  simp only [Tryd.ntmps35, List.size_toArray, List.length_cons, List.length_nil, Nat.reduceAdd, Nat.reduceSub, Array.replicate_succ, Array.replicate_zero, List.push_toArray, List.append_toArray, List.nil_append, List.cons_append]
  have hB := cell_lt hc0
  have hS := (Array.getElem?_eq_some_iff.1 hp).1
  have g0 : W.cell? ⟨Bc, 0, none⟩ = some (.int .i64 a) := (hW.cell (p := ⟨_, _, none⟩) hB).trans hc0
  have g1 : W.cell? ⟨Bc, 1, none⟩ = some (.int .i64 b) := (hW.cell (p := ⟨_, _, none⟩) hB).trans hc1
  have g2 : W.cell? ⟨Bc, 2, none⟩ = some (.int .i64 1) := (hW.cell (p := ⟨_, _, none⟩) hB).trans hc2
  have g4 := (hW.block Br hS).trans hp
  have g3 := cel1 g4
  have AW := Lib.hid (hA.next hW)
  have RW := Lib.hid (hr.next hW)
  have PT := Lib.hid g4
  have HJ := Lib.hid hJ
  have HY := Lib.hid hY
  have H0 := Lib.hid h0
  have HO := Lib.hid hok
  have hWs := hW.size
  have hrl := hr.1
  have PA := Lib.hid (fun X (h : RulAt L o r X) => fpart_is L o r a b F T X h hF hT)
  have HN := Lib.hid hN
  have HB := Lib.hid (And.intro hF hT)
  clear hc0 hc1 hc2 hp hA hW hJ hJx hY h0 hok hr hF hT hN
  gi_wp2
  refine fscope_in ?_
  gi_wp2_with (refine ⟨trivial, ?_⟩; gi_at_call 36; refine (callsIn_wide.2 (PA.out _ RW.out)).mono ?_; rintro e w1 ⟨rfl, k1⟩; simp only [coV])
  refine wpIn_label ?_
  have X := Lib.hid (BlkN.make k1 #[.int .i64 F, .int .i64 T, .int .i64 1] 68)
  have hG := k1.size
  obtain ⟨c0, c1, c2⟩ := cel3 X.out.blk
  have J0 := Lib.hid (HJ.out [] _ _ none H0.out (grown_bel X.out.bel none) (fun r e => by cases e))
  have A0 := Lib.hid (AW.out.next X.out.bel)
  have R0 := Lib.hid (RW.out.next X.out.bel)
  have P0 := Lib.hid ((X.out.bel.block Br (by omega)).trans PT.out)
  clear k1 g0 g1 g2 g3 g4 H0 AW RW PT
  gi_wp2
  clear c0 c1 c2
  generalize w1.heap.size = G at X hG ⊢
  gi_loopw [5, 6] (fun v5 v6 wr => ∃ k s : Nat, v5 = .int .i64 s ∧ v6 = .int .i64 (F + k) ∧ HeadF r F T N L o G Br J k s wr) (fun v5 v6 _ => N - (intOf v6 - F).toNat)
  case atStart => exact ⟨0, 0, rfl, by simp, ⟨by omega, by omega, by omega, fun y a b => by omega, J0.out, X.out.blk, R0.out, P0.out, A0.out⟩⟩
  case round =>
    obtain ⟨k, s, rfl, rfl, HH⟩ := hrel
    have H := Lib.hid HH
    have gl := (Array.getElem?_eq_some_iff.1 HH.own).1
    have kn := HH.kn
    have s7 := HH.s7
    have sk := HH.sk
    clear HH X J0 A0 R0 P0
    obtain ⟨c0, c1, c2⟩ := cel3 H.out.own
    by_cases hlt : k < N
    · have hyT : F + (k : Int) ≤ T := by have := HN.out; omega
      have HS := Lib.hid (fun X => fhas_is F T (F + k) true X (decide_eq_true hyT).symm)
      obtain ⟨f, bb, hof⟩ := ofA_ex r (F + k)
      have hny : nrY (F + k) := ⟨by omega, by omega⟩
      have OF := Lib.hid (fun X (hX : LaidF X) => fof_is r (F + k) f bb X hX HO.out hny hof)
      have HOF := Lib.hid hof
      clear hof hny
      cases bb with
      | false =>
        have NF : Hid (¬ frY r (F + k)) := by rcases HOF.out with ⟨h, -⟩ | ⟨-, h, -⟩; (cases h); exact Lib.hid h
        by_cases h8 : s = 7
        · subst h8
          have FIN := Lib.hid (fun X (hX : HeadF r F T N L o G Br J k 7 X) => hX.over hlt NF.out (by have := HB.out.1; omega) (by have := HB.out.2; omega))
          gi_wp2_with (first
            | (refine ⟨trivial, ?_⟩; gi_at_call 37; refine (callsIn_wide.2 (HS.out _)).mono ?_; rintro e w2 ⟨rfl, k2⟩
               have H2 := Lib.hid (H.out.next HJ.out k2)
               have gl2 := (Array.getElem?_eq_some_iff.1 H2.out.own).1
               have p2 := cel1 H2.out.ptr
               obtain ⟨r0, r1, r2, r3, r4, r5, r6, r7, r8, r9, r10⟩ := H2.out.rul.cells
               clear k2 c0 c1 c2
               simp only [])
            | (refine ⟨trivial, ?_⟩; gi_at_call 10; refine (callsIn_wide.2 (OF.out _ H2.out.ah)).mono ?_; rintro e w3 ⟨rfl, k3⟩
               have H3 := Lib.hid (H2.out.next HJ.out (k3.alloc k3.size (.cells #[.int .i64 f.nm, .int .i64 f.kd, .int .i64 f.sv, .string ⟨f.lt.toArray⟩] 36)))
               obtain ⟨c0, c1, c2⟩ := cel3 H3.out.own
               clear k3 r0 r1 r2 r3 r4 r5 r6 r7 r8 r9 r10 p2
               simp only [fvV]))
          try rw [Exit.noGoto_normal]
          go_end0
          exact ⟨⟨_, rfl⟩, .inl ⟨_, rfl, FIN.out _ H3.out⟩⟩
        · have h8z : (((s : Int) + 1) == 8) = false := by simp; omega
          gi_wp2_with (first
            | (refine ⟨trivial, ?_⟩; gi_at_call 37; refine (callsIn_wide.2 (HS.out _)).mono ?_; rintro e w2 ⟨rfl, k2⟩
               have H2 := Lib.hid (H.out.next HJ.out k2)
               have gl2 := (Array.getElem?_eq_some_iff.1 H2.out.own).1
               have p2 := cel1 H2.out.ptr
               obtain ⟨r0, r1, r2, r3, r4, r5, r6, r7, r8, r9, r10⟩ := H2.out.rul.cells
               clear k2 c0 c1 c2
               simp only [])
            | (refine ⟨trivial, ?_⟩; gi_at_call 10; refine (callsIn_wide.2 (OF.out _ H2.out.ah)).mono ?_; rintro e w3 ⟨rfl, k3⟩
               have H3 := Lib.hid (H2.out.next HJ.out (k3.alloc k3.size (.cells #[.int .i64 f.nm, .int .i64 f.kd, .int .i64 f.sv, .string ⟨f.lt.toArray⟩] 36)))
               obtain ⟨c0, c1, c2⟩ := cel3 H3.out.own
               clear k3 r0 r1 r2 r3 r4 r5 r6 r7 r8 r9 r10 p2
               simp only [fvV]))
          go_roundw
          case rel => exact ⟨k + 1, s + 1, by go_num, by rw [Int.natCast_add, ← Int.add_assoc]; rfl, H3.out.skip hlt (by omega) NF.out⟩
          case measure => simp [intOf]; omega
      | true =>
        have YF : Hid (frY r (F + k) ∧ f = frF r (F + k)) := by rcases HOF.out with ⟨-, h, h2⟩ | ⟨h, -⟩; (exact Lib.hid ⟨h, h2⟩); cases h
        have PX : Hid (frL r F k ++ [(F + (k : Int), f)] <+: frL r F N) := Lib.hid (by rw [YF.out.2, ← frL_yes YF.out.1]; exact frL_pre r F hlt)
        gi_wp2_with (first
          | (refine ⟨trivial, ?_⟩; gi_at_call 37; refine (callsIn_wide.2 (HS.out _)).mono ?_; rintro e w2 ⟨rfl, k2⟩
             have H2 := Lib.hid (H.out.next HJ.out k2)
             have gl2 := (Array.getElem?_eq_some_iff.1 H2.out.own).1
             have p2 := cel1 H2.out.ptr
             obtain ⟨r0, r1, r2, r3, r4, r5, r6, r7, r8, r9, r10⟩ := H2.out.rul.cells
             clear k2 c0 c1 c2
             simp only [])
          | (refine ⟨trivial, ?_⟩; gi_at_call 10; refine (callsIn_wide.2 (OF.out _ H2.out.ah)).mono ?_; rintro e w3 ⟨rfl, k3⟩
             have H3 := Lib.hid (H2.out.next HJ.out (k3.alloc k3.size (.cells #[.int .i64 f.nm, .int .i64 f.kd, .int .i64 f.sv, .string ⟨f.lt.toArray⟩] 36)))
             obtain ⟨c0, c1, c2⟩ := cel3 H3.out.own
             obtain ⟨fn, tmps, assign, body, hy, hR⟩ := HY.out (frL r F k) (F + (k : Int), f) _ H3.out.j PX.out (by have := k3.size; rw [World.size_alloc]; omega)
             simp only [encF, fvV] at hy
             clear k3 r0 r1 r2 r3 r4 r5 r6 r7 r8 r9 r10 p2
             simp only [fvV]))
        refine hR.mono ?_
        rintro e W3 (⟨rfl, hJ3, kb3, ko3⟩ | ⟨rfl, hJx⟩)
        · have H4 := Lib.hid (H3.out.fired hlt YF.out.1 (by rw [← YF.out.2]; exact hJ3) kb3 ko3 hL0 ⟨H3.out.ah.ah.below kb3 hG0⟩)
          clear hJ3 kb3 ko3 hy hR c0 c1 c2
          obtain ⟨c0, c1, c2⟩ := cel3 H4.out.own
          gi_wp2
          go_roundw
          case rel => exact ⟨k + 1, 0, rfl, by rw [Int.natCast_add, ← Int.add_assoc]; rfl, H4.out⟩
          case measure => simp [intOf]; omega
        · clear hy hR
          gi_wp2
          try rw [Exit.noGoto_normal]
          go_end0
          exact ⟨⟨_, rfl⟩, .inr ⟨_, PX.out, hJx⟩⟩
    · obtain rfl : k = N := by have := H.out.kn; omega
      have hyT : ¬ F + (k : Int) ≤ T := by have := HN.out; omega
      have HS : Hid (∀ X, Calls Tryd.prog 37 #[.agg #[.int .i64 F, .int .i64 T, .int .i64 1], .int .i64 (F + (k : Int))] X fun e w' => e = .returned (.bool false) ∧ Below X.heap.size X w') := fun X => fhas_is F T (F + k) false X (decide_eq_false hyT).symm
      gi_wp2_with (refine ⟨trivial, ?_⟩; gi_at_call 37; with_reducible refine (callsIn_wide.2 (HS.out _)).mono ?_; rintro e w2 ⟨rfl, k2⟩
                   have H2 := Lib.hid (H.out.next HJ.out k2)
                   clear k2 c0 c1 c2
                   simp only [])
      try rw [Exit.noGoto_normal]
      go_end0
      exact ⟨⟨_, rfl⟩, .inl ⟨_, rfl, H2.out.j⟩⟩
end Go.Proofs.YtblamffdlclomaaDoor
