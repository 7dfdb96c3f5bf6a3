/- The contracts of fire.down, and of a course's part and has, downwards: which years of a rule are gone through.
All firings of a rule in years, the last one first: plain facts; no program is named.
The contract of the closure of fire.firings, downwards: a rule's firings in the years of a course, the last one first, with these, are handed to whatever loop they are ranged over by. -/
import Derived.Test.YtdmfgechoanmlaaGreatDoorMZF
import Derived.Test.YtdmfgechoanmlaaGreatDoorMZG
namespace Go.Proofs.YtdmfgechoanmlaaGreatDoor
open Go Go.RowKit

theorem fdown_is (a : Int) (w : World) : Calls Tryz.prog 119 #[.int .i64 a] w fun e w' => e = .returned (coV a (-100000) (-1)) ∧ Below w.heap.size w w' := by
  have X := Lib.hid (BlkN.make (Below.refl w.heap.size w) #[.int .i64 a, .int .i64 (-100000), .int .i64 (-1)] 192)
  go_enter Tryz.func119, Tryz.ntmps119
  repeat (first | go_values | go_skip | go_guarded | go_step | go_upon | go_back)
  refine X.out.ret fun W' B => ?_
  obtain ⟨c0, c1, c2⟩ := cel3 B.blk
  exact bodyPost_ret (by simp [results, Tryz.results119, go_sem, c0, c1, c2]; rfl) rfl ⟨rfl, B.bel⟩

theorem fhasd_is (a b y : Int) (v : Bool) (w : World) (hv : v = decide (y ≥ b)) : Calls Tryz.prog 138 #[coV a b (-1), .int .i64 y] w fun e w' => e = .returned (.bool v) ∧ Below w.heap.size w w' := by
  subst hv
  have X := Lib.hid (BlkN.make (Below.refl w.heap.size w) #[.int .i64 a, .int .i64 b, .int .i64 (-1)] 192)
  unfold coV
  go_enter Tryz.func138, Tryz.ntmps138
  repeat (first | go_values | go_skip | go_guarded | go_step | go_upon | go_back)
  go_ret
  exact ⟨rfl, X.out.bel⟩

set_option maxRecDepth 20000 in
set_option maxHeartbeats 2000000 in
theorem fpartd_is (L o : Nat) (r : RV) (a b F T : Int) (w : World) (hr : RulAt L o r w) (hT : min (min a r.tl) 100000 = T) (hF : max (max b r.fr) (-100000) = F) :
    Calls Tryz.prog 137 #[coV a b (-1), .pointer (some ⟨L, o, none⟩)] w fun e w' => e = .returned (coV T F (-1)) ∧ Below w.heap.size w w' := by
  have mixed : Tryz.prog.follows .mixedOrders = true := by kernel_rfl
  have X : Hid (TwoB w w.heap.size #[.int .i64 a, .int .i64 b, .int .i64 (-1)] 192 (w.heap.size + 1) #[.int .i64 0, .int .i64 0, .int .i64 0] 192 ((w.alloc (.cells #[.int .i64 a, .int .i64 b, .int .i64 (-1)] 192)).alloc (.cells #[.int .i64 0, .int .i64 0, .int .i64 0] 192))) :=
    ⟨BlkN.fst (w := w) _ 192 _, BlkN.two w _ _ _⟩
  have q1 := fmax3 Tryz.prog 3 b r.fr (-100000) F hF
  have q2 := fmin3 Tryz.prog 3 a r.tl 100000 T hT
  have R := Lib.hid (hr.next X.out.a.bel)
  have hL := hr.1
  have hne : L ≠ w.heap.size + 1 := by omega
  clear hr hF hT
  unfold coV
  go_enter Tryz.func137, Tryz.ntmps137
  generalize hW : ((w.alloc (.cells #[.int .i64 a, .int .i64 b, .int .i64 (-1)] 192)).alloc (.cells #[.int .i64 0, .int .i64 0, .int .i64 0] 192)) = W2 at X R
  obtain ⟨c0, c1, c2⟩ := cel3 X.out.a.blk
  obtain ⟨z0, z1, z2⟩ := cel3 X.out.b.blk
  have f0 := frz (j := 0) X.out.b.blk
  have f1 := frz (j := 1) X.out.b.blk
  have f2 := frz (j := 2) X.out.b.blk
  obtain ⟨-, r1, r2, -⟩ := R.out.cells
  go_wp2_with fail
  clear hW R
  go_region
  all_goals repeat (first | go_values | go_skip | go_guarded | go_step | go_upon | go_back)
  refine (X.out.b.drew.set3).ret fun W' B => ?_
  obtain ⟨c0, c1, c2⟩ := cel3 B.blk
  exact bodyPost_ret (by simp [results, Tryz.results137, go_sem, c0, c1, c2]) rfl ⟨rfl, B.bel⟩
end Go.Proofs.YtdmfgechoanmlaaGreatDoor

namespace Go.Proofs.YtdmfgechoanmlaaGreatDoor
open Go Go.RowKit

/-- A rule's firings in n years up to T, downwards, with these. -/
def frB (r : RV) (T : Int) : Nat → List (Int × FV)
  | 0 => []
  | n + 1 => frB r T n ++ if frY r (T - n) then [(T - n, frF r (T - n))] else []
theorem frB_yes {r : RV} {T : Int} {n : Nat} (h : frY r (T - n)) : frB r T (n + 1) = frB r T n ++ [(T - n, frF r (T - n))] := by rw [frB, if_pos h]
theorem frB_no {r : RV} {T : Int} {n : Nat} (h : ¬ frY r (T - n)) : frB r T (n + 1) = frB r T n := by rw [frB, if_neg h, List.append_nil]
theorem frB_pre (r : RV) (T : Int) {m n : Nat} (h : m ≤ n) : frB r T m <+: frB r T n := by
  induction n with
  | zero => obtain rfl : m = 0 := by omega
            exact List.prefix_refl _
  | succ n ih =>
    by_cases hm : m ≤ n
    · exact (ih hm).trans (by rw [frB]; exact List.prefix_append _ _)
    · obtain rfl : m = n + 1 := by omega
      exact List.prefix_refl _
theorem frB_still {r : RV} {T : Int} {m n : Nat} (h : m ≤ n) (hs : ∀ k, m ≤ k → k < n → ¬ frY r (T - (k : Nat))) : frB r T n = frB r T m := by
  induction n with
  | zero => obtain rfl : m = 0 := by omega
            rfl
  | succ n ih =>
    by_cases hm : m ≤ n
    · rw [frB_no (hs n hm (by omega)), ih hm fun k h1 h2 => hs k h1 (by omega)]
    · obtain rfl : m = n + 1 := by omega
      rfl
theorem frB_mem {r : RV} {T : Int} {n : Nat} {x : Int × FV} (h : x ∈ frB r T n) : T - n < x.1 ∧ x.1 ≤ T ∧ frY r x.1 ∧ x.2 = frF r x.1 := by
  induction n with
  | zero => simp [frB] at h
  | succ n ih =>
    rw [frB] at h
    rcases List.mem_append.1 h with h | h
    · obtain ⟨a, b, c, d⟩ := ih h
      exact ⟨by omega, b, c, d⟩
    · by_cases hy : frY r (T - n)
      · rw [if_pos hy] at h
        rw [List.mem_singleton.1 h]
        exact ⟨by simp only; omega, by simp only; omega, hy, rfl⟩
      · rw [if_neg hy] at h; simp at h
theorem frB_in {r : RV} {T : Int} {n : Nat} {y : Int} (h1 : T - n < y) (h2 : y ≤ T) (hf : frY r y) : (y, frF r y) ∈ frB r T n := by
  induction n with
  | zero => omega
  | succ n ih =>
    rw [frB, List.mem_append]
    by_cases h : y = T - n
    · right; rw [if_pos (h ▸ hf), h]; simp
    · left; exact ih (by omega)
/-- Years fall in it. -/
theorem frB_falls (r : RV) (T : Int) (n : Nat) : (frB r T n).Pairwise fun x y => y.1 < x.1 := by
  induction n with
  | zero => exact .nil
  | succ n ih =>
    rw [frB]
    refine List.pairwise_append.2 ⟨ih, by split <;> simp, fun x hx y hy => ?_⟩
    by_cases hf : frY r (T - n)
    · rw [if_pos hf] at hy
      rw [List.mem_singleton.1 hy]
      exact (frB_mem hx).1
    · rw [if_neg hf] at hy; simp at hy
end Go.Proofs.YtdmfgechoanmlaaGreatDoor

namespace Go.Proofs.YtdmfgechoanmlaaGreatDoor
open Go Go.RowKit
attribute [local go_sem] Oper.semAt_some
attribute [local go_sem] coV fvV rV cR

/-- What the loop in firings knows at its head. -/
structure HeadZ (r : RV) (F T : Int) (N : Nat) (L o G Br : Nat) (J : List (Int × FV) → World → Prop) (k s : Nat) (W : World) : Prop where
  kn : k ≤ N
  s7 : s ≤ 7
  sk : s ≤ k
  sil : ∀ y, T - k < y → y ≤ T - k + s → ¬ frY r y
  j : J (frB r T k) W
  own : W.heap[G]? = some (.cells #[.int .i64 T, .int .i64 F, .int .i64 (-1)] 192 (0, 0))
  rul : RulAt L o r W
  ptr : W.heap[Br]? = some (.cells #[.pointer (some ⟨L, o, none⟩)] 178 (0, 0))
  ah : LaidF W

theorem HeadZ.next {r : RV} {F T : Int} {N L o G Br B k s : Nat} {J : List (Int × FV) → World → Prop} {W W' : World} (h : HeadZ r F T N L o G Br J k s W) (HJ : OwnFrom B J) (kb : Below W.heap.size W W') : HeadZ r F T N L o G Br J k s W' :=
  ⟨h.kn, h.s7, h.sk, h.sil, HJ _ _ _ none h.j (grown_bel kb none) (fun r e => by cases e), (kb.block _ (Array.getElem?_eq_some_iff.1 h.own).1).trans h.own, h.rul.next kb, (kb.block _ (Array.getElem?_eq_some_iff.1 h.ptr).1).trans h.ptr, h.ah.next kb⟩

theorem HeadZ.skip {r : RV} {F T : Int} {N L o G Br k s : Nat} {J : List (Int × FV) → World → Prop} {W : World} (h : HeadZ r F T N L o G Br J k s W) (hk : k < N) (hs : s < 7) (nf : ¬ frY r (T - k)) : HeadZ r F T N L o G Br J (k + 1) (s + 1) W :=
  ⟨hk, by omega, by have := h.sk; omega, fun y a b => by
    by_cases hy : T - k < y
    · exact h.sil y hy (by omega)
    · obtain rfl : y = T - k := by omega
      exact nf, by rw [frB_no nf]; exact h.j, h.own, h.rul, h.ptr, h.ah⟩
theorem HeadZ.over {r : RV} {F T : Int} {N L o G Br k : Nat} {J : List (Int × FV) → World → Prop} {W : World} (h : HeadZ r F T N L o G Br J k 7 W) (hk : k < N) (nf : ¬ frY r (T - k)) (hf : r.fr ≤ T - k) (ht : T ≤ r.tl) : J (frB r T N) W := by
  have := h.sk
  have all := silent_ever (r := r) (z := T - k) (by omega) (by omega) (fun y a b => by
    by_cases hy : T - k < y
    · exact h.sil y hy (by omega)
    · obtain rfl : y = T - k := by omega
      exact nf)
  rw [frB_still (Nat.le_of_lt hk) fun j _ _ => all _]; exact h.j
theorem HeadZ.fired {r : RV} {F T : Int} {N L o G Br n0 k s : Nat} {J : List (Int × FV) → World → Prop} {W W' : World} (h : HeadZ r F T N L o G Br J k s W) (hk : k < N) (hf : frY r (T - k)) (hJ : J (frB r T k ++ [(T - k, frF r (T - k))]) W') (kb : Below n0 W W') (ko : KpT (fun t => t == 192 || t == 178) W W') (hL : L < n0) (hA : LaidF W') : HeadZ r F T N L o G Br J (k + 1) 0 W' :=
  ⟨hk, by omega, by omega, fun y a b => by omega, by rw [frB_yes hf]; exact hJ, (ko G _ _ _ h.own (by simp)).trans h.own, h.rul.below hL kb, (ko Br _ _ _ h.ptr (by simp)).trans h.ptr, hA⟩

set_option maxHeartbeats 4000000 in
set_option maxRecDepth 20000 in
theorem firings_down (n : Nat) (hn : 1 ≤ n) (Bc Br L o : Nat) (r : RV) (a b F T : Int) (N : Nat) (w : World) (hr : RulAt L o r w) (hok : okR r) (hA : LaidF w)
    (hc0 : w.cell? ⟨Bc, 0, none⟩ = some (.int .i64 a)) (hc1 : w.cell? ⟨Bc, 1, none⟩ = some (.int .i64 b)) (hc2 : w.cell? ⟨Bc, 2, none⟩ = some (.int .i64 (-1))) (hp : w.heap[Br]? = some (.cells #[.pointer (some ⟨L, o, none⟩)] 178 (0, 0))) (n0 : Nat) (hL0 : L < n0) (hG0 : 2 < n0)
    (hT : min (min a r.tl) 100000 = T) (hF : max (max b r.fr) (-100000) = F) (hN : (T + 1 - F).toNat = N) (hF1 : -99000 ≤ F) (hT1 : T ≤ 99000) :
    SeqKp n Tryz.prog 155 #[.pointer (some ⟨Bc, 0, none⟩), .pointer (some ⟨Br, 0, none⟩)] encF (fun pre x => pre ++ [x] <+: frB r T N) n0 (KpT (fun t => t == 192 || t == 178)) (fun xs => xs = frB r T N) (fun pre => pre <+: frB r T N) w := by
  intro l J Jx W hW hJ hJx hY h0
  refine callsIn_of_wp Tryz.func155 rfl trivial ?_ rfl
  simp only [Tryz.ntmps155, List.size_toArray, List.length_cons, List.length_nil, Nat.reduceAdd, Nat.reduceSub, Array.replicate_succ, Array.replicate_zero, List.push_toArray, List.append_toArray, List.nil_append, List.cons_append]
  have hB := cell_lt hc0
  have hS := (Array.getElem?_eq_some_iff.1 hp).1
  have g0 : W.cell? ⟨Bc, 0, none⟩ = some (.int .i64 a) := (hW.cell (p := ⟨_, _, none⟩) hB).trans hc0
  have g1 : W.cell? ⟨Bc, 1, none⟩ = some (.int .i64 b) := (hW.cell (p := ⟨_, _, none⟩) hB).trans hc1
  have g2 : W.cell? ⟨Bc, 2, none⟩ = some (.int .i64 (-1)) := (hW.cell (p := ⟨_, _, none⟩) hB).trans hc2
  have g4 := (hW.block Br hS).trans hp
  have g3 := cel1 g4
  have AW := Lib.hid (hA.next hW)
  have RW := Lib.hid (hr.next hW)
  have PT := Lib.hid g4
  have HJ := Lib.hid hJ
  have HY := Lib.hid hY
  have H0 := Lib.hid h0
  have HO := Lib.hid hok
  have hWs := hW.size
  have hrl := hr.1
  have PA := Lib.hid (fun X (h : RulAt L o r X) => fpartd_is L o r a b F T X h hT hF)
  have HN := Lib.hid hN
  have HB := Lib.hid (And.intro hF hT)
  clear hc0 hc1 hc2 hp hA hW hJ hJx hY h0 hok hr hF hT hN
  gi_wp2
  refine fscope_in ?_
  gi_wp2_with (refine ⟨trivial, ?_⟩; gi_at_call 137; refine (callsIn_wide.2 (PA.out _ RW.out)).mono ?_; rintro e w1 ⟨rfl, k1⟩; simp only [coV])
  refine wpIn_label ?_
  have X := Lib.hid (BlkN.make k1 #[.int .i64 T, .int .i64 F, .int .i64 (-1)] 192)
  have hG := k1.size
  obtain ⟨c0, c1, c2⟩ := cel3 X.out.blk
  have J0 := Lib.hid (HJ.out [] _ _ none H0.out (grown_bel X.out.bel none) (fun r e => by cases e))
  have A0 := Lib.hid (AW.out.next X.out.bel)
  have R0 := Lib.hid (RW.out.next X.out.bel)
  have P0 := Lib.hid ((X.out.bel.block Br (by omega)).trans PT.out)
  clear k1 g0 g1 g2 g3 g4 H0 AW RW PT
  gi_wp2
  clear c0 c1 c2
  generalize w1.heap.size = G at X hG ⊢
  gi_loopw [5, 6] (fun v5 v6 wr => ∃ k s : Nat, v5 = .int .i64 s ∧ v6 = .int .i64 (T - k) ∧ HeadZ r F T N L o G Br J k s wr) (fun v5 v6 _ => N - (T - intOf v6).toNat)
  case atStart => exact ⟨0, 0, rfl, by simp, ⟨by omega, by omega, by omega, fun y a b => by omega, J0.out, X.out.blk, R0.out, P0.out, A0.out⟩⟩
  case round =>
    obtain ⟨k, s, rfl, rfl, HH⟩ := hrel
    have H := Lib.hid HH
    have gl := (Array.getElem?_eq_some_iff.1 HH.own).1
    have kn := HH.kn
    have s7 := HH.s7
    have sk := HH.sk
    clear HH X J0 A0 R0 P0
    obtain ⟨c0, c1, c2⟩ := cel3 H.out.own
    by_cases hlt : k < N
    · have hyT : T - (k : Int) ≥ F := by have := HN.out; omega
      have HS := Lib.hid (fun X => fhasd_is T F (T - k) true X (decide_eq_true hyT).symm)
      obtain ⟨f, bb, hof⟩ := ofA_ex r (T - k)
      have hny : nrY (T - k) := ⟨by omega, by omega⟩
      have OF := Lib.hid (fun X (hX : LaidF X) => fof_is r (T - k) f bb X hX HO.out hny hof)
      have HOF := Lib.hid hof
      clear hof hny
      cases bb with
      | false =>
        have NF : Hid (¬ frY r (T - k)) := by rcases HOF.out with ⟨h, -⟩ | ⟨-, h, -⟩; (cases h); exact Lib.hid h
        by_cases h8 : s = 7
        · subst h8
          have FIN := Lib.hid (fun X (hX : HeadZ r F T N L o G Br J k 7 X) => hX.over hlt NF.out (by have := HB.out.1; have := HN.out; omega) (by have := HB.out.2; omega))
          gi_wp2_with (first
            | (refine ⟨trivial, ?_⟩; gi_at_call 138; refine (callsIn_wide.2 (HS.out _)).mono ?_; rintro e w2 ⟨rfl, k2⟩
               have H2 := Lib.hid (H.out.next HJ.out k2)
               have gl2 := (Array.getElem?_eq_some_iff.1 H2.out.own).1
               have p2 := cel1 H2.out.ptr
               obtain ⟨r0, r1, r2, r3, r4, r5, r6, r7, r8, r9, r10⟩ := H2.out.rul.cells
               clear k2 c0 c1 c2
               simp only [])
            | (refine ⟨trivial, ?_⟩; gi_at_call 156; refine (callsIn_wide.2 (OF.out _ H2.out.ah)).mono ?_; rintro e w3 ⟨rfl, k3⟩
               have H3 := Lib.hid (H2.out.next HJ.out (k3.alloc k3.size (.cells #[.int .i64 f.nm, .int .i64 f.kd, .int .i64 f.sv, .string ⟨f.lt.toArray⟩] 145)))
               obtain ⟨c0, c1, c2⟩ := cel3 H3.out.own
               clear k3 r0 r1 r2 r3 r4 r5 r6 r7 r8 r9 r10 p2
               simp only [fvV]))
          try rw [Exit.noGoto_normal]
          go_end0
          exact ⟨⟨_, rfl⟩, .inl ⟨_, rfl, FIN.out _ H3.out⟩⟩
        · have h8z : (((s : Int) + 1) == 8) = false := by simp; omega
          gi_wp2_with (first
            | (refine ⟨trivial, ?_⟩; gi_at_call 138; refine (callsIn_wide.2 (HS.out _)).mono ?_; rintro e w2 ⟨rfl, k2⟩
               have H2 := Lib.hid (H.out.next HJ.out k2)
               have gl2 := (Array.getElem?_eq_some_iff.1 H2.out.own).1
               have p2 := cel1 H2.out.ptr
               obtain ⟨r0, r1, r2, r3, r4, r5, r6, r7, r8, r9, r10⟩ := H2.out.rul.cells
               clear k2 c0 c1 c2
               simp only [])
            | (refine ⟨trivial, ?_⟩; gi_at_call 156; refine (callsIn_wide.2 (OF.out _ H2.out.ah)).mono ?_; rintro e w3 ⟨rfl, k3⟩
               have H3 := Lib.hid (H2.out.next HJ.out (k3.alloc k3.size (.cells #[.int .i64 f.nm, .int .i64 f.kd, .int .i64 f.sv, .string ⟨f.lt.toArray⟩] 145)))
               obtain ⟨c0, c1, c2⟩ := cel3 H3.out.own
               clear k3 r0 r1 r2 r3 r4 r5 r6 r7 r8 r9 r10 p2
               simp only [fvV]))
          go_roundw
          case rel => exact ⟨k + 1, s + 1, by go_num, by rw [Int.natCast_add]; go_num, H3.out.skip hlt (by omega) NF.out⟩
          case measure => simp [intOf]; omega
      | true =>
        have YF : Hid (frY r (T - k) ∧ f = frF r (T - k)) := by rcases HOF.out with ⟨-, h, h2⟩ | ⟨h, -⟩; (exact Lib.hid ⟨h, h2⟩); cases h
        have PX : Hid (frB r T k ++ [(T - (k : Int), f)] <+: frB r T N) := Lib.hid (by rw [YF.out.2, ← frB_yes YF.out.1]; exact frB_pre r T hlt)
        gi_wp2_with (first
          | (refine ⟨trivial, ?_⟩; gi_at_call 138; refine (callsIn_wide.2 (HS.out _)).mono ?_; rintro e w2 ⟨rfl, k2⟩
             have H2 := Lib.hid (H.out.next HJ.out k2)
             have gl2 := (Array.getElem?_eq_some_iff.1 H2.out.own).1
             have p2 := cel1 H2.out.ptr
             obtain ⟨r0, r1, r2, r3, r4, r5, r6, r7, r8, r9, r10⟩ := H2.out.rul.cells
             clear k2 c0 c1 c2
             simp only [])
          | (refine ⟨trivial, ?_⟩; gi_at_call 156; refine (callsIn_wide.2 (OF.out _ H2.out.ah)).mono ?_; rintro e w3 ⟨rfl, k3⟩
             have H3 := Lib.hid (H2.out.next HJ.out (k3.alloc k3.size (.cells #[.int .i64 f.nm, .int .i64 f.kd, .int .i64 f.sv, .string ⟨f.lt.toArray⟩] 145)))
             obtain ⟨c0, c1, c2⟩ := cel3 H3.out.own
             obtain ⟨fn, tmps, assign, body, hy, hR⟩ := HY.out (frB r T k) (T - (k : Int), f) _ H3.out.j PX.out (by have := k3.size; rw [World.size_alloc]; omega)
             simp only [encF, fvV] at hy
             clear k3 r0 r1 r2 r3 r4 r5 r6 r7 r8 r9 r10 p2
             simp only [fvV]))
        refine hR.mono ?_
        rintro e W3 (⟨rfl, hJ3, kb3, ko3⟩ | ⟨rfl, hJx⟩)
        · have H4 := Lib.hid (H3.out.fired hlt YF.out.1 (by rw [← YF.out.2]; exact hJ3) kb3 ko3 hL0 ⟨H3.out.ah.ah.below kb3 hG0⟩)
          clear hJ3 kb3 ko3 hy hR c0 c1 c2
          obtain ⟨c0, c1, c2⟩ := cel3 H4.out.own
          gi_wp2
          go_roundw
          case rel => exact ⟨k + 1, 0, rfl, by rw [Int.natCast_add]; go_num, H4.out⟩
          case measure => simp [intOf]; omega
        · clear hy hR
          gi_wp2
          try rw [Exit.noGoto_normal]
          go_end0
          exact ⟨⟨_, rfl⟩, .inr ⟨_, PX.out, hJx⟩⟩
    · obtain rfl : k = N := by have := H.out.kn; omega
      have hyT : ¬ T - (k : Int) ≥ F := by have := HN.out; omega
      have HS : Hid (∀ X, Calls Tryz.prog 138 #[.agg #[.int .i64 T, .int .i64 F, .int .i64 (-1)], .int .i64 (T - (k : Int))] X fun e w' => e = .returned (.bool false) ∧ Below X.heap.size X w') := fun X => fhasd_is T F (T - k) false X (decide_eq_false hyT).symm
      gi_wp2_with (refine ⟨trivial, ?_⟩; gi_at_call 138; with_reducible refine (callsIn_wide.2 (HS.out _)).mono ?_; rintro e w2 ⟨rfl, k2⟩
                   have H2 := Lib.hid (H.out.next HJ.out k2)
                   clear k2 c0 c1 c2
                   simp only [])
      try rw [Exit.noGoto_normal]
      go_end0
      exact ⟨⟨_, rfl⟩, .inl ⟨_, rfl, H2.out.j⟩⟩
end Go.Proofs.YtdmfgechoanmlaaGreatDoor
