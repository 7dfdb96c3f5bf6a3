/- For whatever rules and years the law FireIn returns true, and nothing that was in memory changes. -/
import Derived.Test.YtblamffdlclomaaDoorFrX
import Derived.Test.YtblamffdlclomaaDoorMRA
import Derived.Test.YtblamffdlclomaaDoorMRB
namespace Go.Proofs.YtblamffdlclomaaDoor
open Go Go.RowKit

theorem fletter_any (A0 : Option Addr) (n c0 : Nat) (rs : List RV) (w : World) (hR : RowsAt 11 cR A0 rs w) (hn : rs.length = n) (hn1 : n ≤ 1000) :
    Calls Tryd.prog 11 #[.slice A0 n c0] w fun e w' => e = .returned (.string ⟨(ltrL rs n).toArray⟩) ∧ Below w.heap.size w w' := by
  by_cases h0 : n = 0
  · subst h0
    exact fletter_no w c0 A0
  · obtain ⟨r, hr⟩ : ∃ r, rs[0]? = some r := ⟨_, List.getElem?_eq_getElem (by omega)⟩
    obtain ⟨L, off, rfl, -⟩ := rul_at hR hr
    exact fletter_in L off n c0 rs w hR hn hn1
theorem size_i4 (w : World) : (sizeOf 3).run Tryd.prog w = .ok 1 w := by kernel_rfl
theorem eq_four (a b c d : Int) (w : World) : (Op.equalIn 9999 31 (.agg #[.int .i64 a, .int .i64 b, .int .i64 c, .int .i64 d]) (.agg #[.int .i64 a, .int .i64 b, .int .i64 c, .int .i64 d])).run Tryd.prog w = .ok true w := by
  have h := equalIn_ints (P := Tryd.prog) w 9997 31 3 4 Tryd.underlying31 Tryd.underlying3 size_i4 [a, b, c, d] [a, b, c, d] rfl rfl
  rw [show ([a, b, c, d] == [a, b, c, d]) = true by simp] at h
  exact h
theorem pout_form {v : Value} {ps : List PV} {W : World} {N : Nat} (h : POut v ps W) (hN : ps.length = N) : ∃ A c, v = .slice A N c ∧ Hid (PAt A ps W) ∧ N ≤ c := by
  subst hN
  rcases h with ⟨rfl, rfl⟩ | ⟨g, c, rfl, hp, hc⟩
  · exact ⟨none, 0, rfl, (fun i x hx => by simp at hx), Nat.le_refl _⟩
  · exact ⟨_, c, rfl, hp, hc⟩

set_option maxRecDepth 20000 in
set_option maxHeartbeats 4000000 in
theorem ffin_out (A0 : Option Addr) (n c0 : Nat) (rs : List RV) (x z : Int) (w : World) (hA : LaidF w) (hR : RowsAt 11 cR A0 rs w) (hn : rs.length = n) (hn1 : n ≤ 9223372036854775807) (h : ¬ (SmF rs ∧ 1880 ≤ x ∧ z ≤ 2110 ∧ x ≤ z)) :
    Calls Tryd.prog 3 #[.slice A0 n c0, .int .i64 x, .int .i64 z] w fun e w' => e = .returned (.bool true) ∧ Below w.heap.size w w' := by
  have X0 := Lib.hid (Below.refl w.heap.size w)
  have HA := Lib.hid hA
  have AW := Lib.hid (fun W (hW : LaidF W) => fawake_any W hW)
  have H := Lib.hid h
  obtain ⟨v, hv⟩ : ∃ v : Bool, (v = true ∧ SmF rs) ∨ (v = false ∧ ¬ SmF rs) := by
    by_cases hs : SmF rs
    · exact ⟨true, .inl ⟨rfl, hs⟩⟩
    · exact ⟨false, .inr ⟨rfl, hs⟩⟩
  have SM := Lib.hid (fsmall_is A0 n c0 rs v _ hR hn hn1 (Lib.hid hv))
  have HV := Lib.hid hv
  clear hA hR hn hv h
  cases v with
  | false =>
    go_enter Tryd.func3, Tryd.ntmps3
    repeat (first
      | (go_at_call 5; (with_reducible refine SM.out.mono ?_); (rintro e w1 ⟨rfl, k1⟩); have X1 := Lib.hid (X0.out.trans k1); simp only [])
      | (go_at_call 6; (with_reducible refine (AW.out _ (HA.out.next X1.out)).mono ?_); (rintro e w2 ⟨rfl, k2⟩); simp only [])
      | go_values | go_skip | go_guarded | go_step | go_upon | go_back)
    go_ret
    exact ⟨rfl, bthen X1.out k2⟩
  | true =>
    by_cases h1 : x < 1880
    · go_enter Tryd.func3, Tryd.ntmps3
      repeat (first
        | (go_at_call 5; (with_reducible refine SM.out.mono ?_); (rintro e w1 ⟨rfl, k1⟩); have X1 := Lib.hid (X0.out.trans k1); simp only [])
        | (go_at_call 6; (with_reducible refine (AW.out _ (HA.out.next X1.out)).mono ?_); (rintro e w2 ⟨rfl, k2⟩); simp only [])
        | go_values | go_skip | go_guarded | go_step | go_upon | go_back)
      go_ret
      exact ⟨rfl, bthen X1.out k2⟩
    by_cases h2 : z > 2110
    · go_enter Tryd.func3, Tryd.ntmps3
      repeat (first
        | (go_at_call 5; (with_reducible refine SM.out.mono ?_); (rintro e w1 ⟨rfl, k1⟩); have X1 := Lib.hid (X0.out.trans k1); simp only [])
        | (go_at_call 6; (with_reducible refine (AW.out _ (HA.out.next X1.out)).mono ?_); (rintro e w2 ⟨rfl, k2⟩); simp only [])
        | go_values | go_skip | go_guarded | go_step | go_upon | go_back)
      go_ret
      exact ⟨rfl, bthen X1.out k2⟩
    have h4 : z < x := by
      rcases HV.out with ⟨-, hs⟩ | ⟨hf, -⟩
      · have := H.out
        by_cases hz : z < x
        · exact hz
        · exact absurd ⟨hs, by omega, by omega, by omega⟩ this
      · cases hf
    have IN := Lib.hid fun W => fin_no (.slice A0 n c0) x z W (by omega) (by omega) h4
    go_enter Tryd.func3, Tryd.ntmps3
    repeat (first
      | (go_at_call 5; (with_reducible refine SM.out.mono ?_); (rintro e w1 ⟨rfl, k1⟩); have X1 := Lib.hid (X0.out.trans k1); simp only [])
      | (go_at_call 7; (with_reducible refine (IN.out _).mono ?_); (rintro e w3 ⟨rfl, rfl⟩); simp only [])
      | (go_at_call 6; (with_reducible refine (AW.out _ (HA.out.next X1.out)).mono ?_); (rintro e w2 ⟨rfl, k2⟩); simp only [])
      | go_values | go_skip | go_guarded | go_step | go_upon | go_back)
    go_ret
    exact ⟨rfl, bthen X1.out k2⟩

set_option maxRecDepth 20000 in
set_option maxHeartbeats 8000000 in
theorem ffin_in (A0 : Option Addr) (n c0 : Nat) (rs : List RV) (x z : Int) (w : World) (hA : LaidF w) (hR : RowsAt 11 cR A0 rs w) (hn : rs.length = n) (hcap : n ≤ c0) (hs : SmF rs) (hx : 1880 ≤ x) (hz : z ≤ 2110) (hxz : x ≤ z) :
    Calls Tryd.prog 3 #[.slice A0 n c0, .int .i64 x, .int .i64 z] w fun e w' => e = .returned (.bool true) ∧ Below w.heap.size w w' := by
  have X0 := Lib.hid (Below.refl w.heap.size w)
  have HA := Lib.hid hA
  have AW := Lib.hid (fun W (hW : LaidF W) => fawake_any W hW)
  have HRW := Lib.hid hR
  have n6 : n ≤ 6 := by rw [← hn]; exact hs.1
  have SM := Lib.hid (fsmall_is A0 n c0 rs true w hR hn (by omega) (Lib.hid (.inl ⟨rfl, hs⟩)))
  have HN := Lib.hid hn
  have OK : Hid (∀ r ∈ rs, okR r) := Lib.hid fun r hr => (hs.2 r hr).ok
  have FS : Hid ((iso ltP (allN rs x z n)).map Prod.fst = iso (ltOf cfF) (allF rs x z)) := Lib.hid (by
    rw [iso_fst, allN_fst (by omega), List.take_of_length_le (by omega)])
  have IN : Hid (∀ W, Below w.heap.size w W → Calls Tryd.prog 7 #[.slice A0 n c0, .int .i64 x, .int .i64 z] W (InIs (iso (ltOf cfF) (allF rs x z)) W)) := Lib.hid fun W k =>
    fin_yes A0 n c0 rs x z W (HA.out.next k) (HRW.out.next k) HN.out (by omega) OK.out (by omega) (by omega) hxz (by omega)
  have AL : Hid (∀ W, Below w.heap.size w W → Calls Tryd.prog 8 #[.slice A0 n c0, .int .i64 x, .int .i64 z] W (AllIs (iso ltP (allN rs x z n)) W)) := Lib.hid fun W k =>
    xall_is A0 n c0 rs x z W (HRW.out.next k) HN.out n6 OK.out (by omega) (by omega) (by omega)
  have LN : (iso (ltOf cfF) (allF rs x z)).length ≤ 31000 := by
    rw [iso_len]
    have h1 := allF_len (a := x) (b := z) (by omega) rs
    have h2 : rs.length ≤ 6 := hs.1
    have := Nat.mul_le_mul_right 5001 h2
    omega
  generalize iso (ltOf cfF) (allF rs x z) = fs at FS IN LN
  generalize iso ltP (allN rs x z n) = ps at FS AL
  obtain ⟨N, hN⟩ : ∃ N, fs.length = N := ⟨_, rfl⟩
  have hM : ps.length = N := by rw [← hN, ← FS.out, List.length_map]
  rw [hN] at LN
  have HNN := Lib.hid hN
  have HMM := Lib.hid hM
  have d1 : ¬ x < 1880 := by omega
  have d2 : ¬ z > 2110 := by omega
  have d3 : ¬ z < x := by omega
  have d4 : ((N : Int) != (N : Int)) = false := by simp
  clear hA hR hn hs
  go_enter Tryd.func3, Tryd.ntmps3
  repeat (first
    | (go_at_call 5; (with_reducible refine SM.out.mono ?_); (rintro e w1 ⟨rfl, k1⟩); have X1 := Lib.hid (X0.out.trans k1); simp only [])
    | (go_at_call 7; (with_reducible refine (IN.out _ X1.out).mono ?_); (rintro e w2 ⟨A2, cc2, rfl, fi2, k2⟩); have X2 := Lib.hid (bthen X1.out k2); have F2 := Lib.hid fi2; clear k2 fi2; rw [hN]; simp only [])
    | (go_at_call 8; (with_reducible refine (AL.out _ X2.out).mono ?_); (rintro e w3 ⟨v3, rfl, o3, k3⟩); have X3 := Lib.hid (bthen X2.out k3); have F3 := Lib.hid (F2.out.next k3); have O3 := Lib.hid o3; clear k3; (obtain ⟨A3, cc3, rfl, P3, hc3⟩ : ∃ A c, v3 = .slice A N c ∧ Hid (PAt A ps w3) ∧ N ≤ c := pout_form o3 hM); clear o3; simp only [])
    | go_values | go_skip | go_guarded | go_step | go_upon | go_back)
  clear d1 d2 d3 d4 SM IN AL X0 X1 X2 F2 hN hM
  go_loopw [10] (fun v wr => ∃ i : Nat, v = .int .i64 i ∧ i ≤ N ∧ Below w.heap.size w wr ∧ FirsAt A2 fs wr ∧ Hid (PAt A3 ps wr)) (fun v _ => N - (intOf v).toNat)
  case atStart => exact ⟨0, rfl, Nat.zero_le _, X3.out, F3.out, P3⟩
  case round =>
    clear X3 F3 P3 O3
    obtain ⟨i, rfl, i1, hX, hF, P⟩ := hrel
    have X := Lib.hid hX
    have F := Lib.hid hF
    clear hX hF
    by_cases hlt : i < N
    · have hii : (i : Int) < (N : Int) := by omega
      obtain ⟨fx, hfx⟩ : ∃ f, fs[i]? = some f := ⟨_, List.getElem?_eq_getElem (by rw [HNN.out]; omega)⟩
      obtain ⟨⟨fy, pl⟩, hpy⟩ : ∃ f, ps[i]? = some f := ⟨_, List.getElem?_eq_getElem (by rw [HMM.out]; omega)⟩
      have hxy : fy = fx := by
        rw [← FS.out, List.getElem?_map, hpy] at hfx
        simpa using hfx
      subst hxy
      obtain ⟨L, off, hA2, hL, -⟩ := fir_cells F.out hfx
      obtain ⟨L', off', hA3, hL', -⟩ := pv_cells P.out hpy
      subst hA2
      subst hA3
      have SW : Hid (∀ W, Below wr.heap.size wr W → W.cell? ⟨L, off + i * 4, none⟩ = some (.int .i64 fy.nm) ∧ W.cell? ⟨L, off + i * 4 + 1, none⟩ = some (.int .i64 fy.kd) ∧ W.cell? ⟨L, off + i * 4 + 2, none⟩ = some (.int .i64 fy.sv) ∧ W.cell? ⟨L, off + i * 4 + 3, none⟩ = some (.string ⟨fy.lt.toArray⟩) ∧
          W.cell? ⟨L', off' + i * 5, none⟩ = some (.int .i64 fy.nm) ∧ W.cell? ⟨L', off' + i * 5 + 1, none⟩ = some (.int .i64 fy.kd) ∧ W.cell? ⟨L', off' + i * 5 + 2, none⟩ = some (.int .i64 fy.sv) ∧ W.cell? ⟨L', off' + i * 5 + 3, none⟩ = some (.int .i64 (pl : Int)) ∧ W.cell? ⟨L', off' + i * 5 + 4, none⟩ = some (.string ⟨fy.lt.toArray⟩)) := Lib.hid fun W k => by
        obtain ⟨_, _, e1, -, a0, a1, a2, a3⟩ := fir_cells (F.out.next k) hfx
        cases e1
        obtain ⟨_, _, e2, -, b0, b1, b2, b3, b4⟩ := pv_cells (RowsAt.next P.out k) hpy
        cases e2
        exact ⟨a0, a1, a2, a3, b0, b1, b2, b3, b4⟩
      have PLN : Hid (∀ W, Calls Tryd.prog 9 #[.agg #[.int .i64 fy.nm, .int .i64 fy.kd, .int .i64 fy.sv, .string ⟨fy.lt.toArray⟩], .int .i64 (pl : Int)] W fun e w' => e = .returned (.agg #[.int .i64 fy.nm, .int .i64 fy.kd, .int .i64 fy.sv, .int .i64 (pl : Int), .string ⟨fy.lt.toArray⟩]) ∧ Below W.heap.size W w') := Lib.hid fun W => xplain_is fy pl W
      have wi : IntKind.i64.wrap ((i : Int) + 1) = (i : Int) + 1 := IntWalk.i64_in _ (by omega)
      have eqA := eq_four fy.nm fy.kd fy.sv (pl : Int)
      clear hfx hpy
      repeat (first | go_values | go_skip | go_guarded | go_step | go_upon | go_back)
      go_region_held3 (fun W => W.cell? ⟨L, off + i * 4, none⟩ = some (.int .i64 fy.nm) ∧ W.cell? ⟨L, off + i * 4 + 1, none⟩ = some (.int .i64 fy.kd) ∧ W.cell? ⟨L, off + i * 4 + 2, none⟩ = some (.int .i64 fy.sv) ∧ W.cell? ⟨L, off + i * 4 + 3, none⟩ = some (.string ⟨fy.lt.toArray⟩) ∧
          W.cell? ⟨L', off' + i * 5, none⟩ = some (.int .i64 fy.nm) ∧ W.cell? ⟨L', off' + i * 5 + 1, none⟩ = some (.int .i64 fy.kd) ∧ W.cell? ⟨L', off' + i * 5 + 2, none⟩ = some (.int .i64 fy.sv) ∧ W.cell? ⟨L', off' + i * 5 + 3, none⟩ = some (.int .i64 (pl : Int)) ∧ W.cell? ⟨L', off' + i * 5 + 4, none⟩ = some (.string ⟨fy.lt.toArray⟩))
        (first | exact SW.out _ (Below.refl _ _) | exact SW.out _ (Below.refl _ _).drew | exact SW.out _ ((Below.refl _ _).drew.trans k5) | exact SW.out _ k5)
        (first | (go_at_call 9; (with_reducible refine (PLN.out _).mono ?_); (rintro e w5 ⟨rfl, k5⟩); simp only []))
      have KK : Hid (Below wr.heap.size wr w5) := Lib.hid (by first | exact k5 | exact (Below.refl _ _).drew.trans k5)
      have X5 := Lib.hid (bthen X.out KK.out)
      have F5 := Lib.hid (F.out.next KK.out)
      have P5 : Hid (PAt (some ⟨L', off', none⟩) ps w5) := RowsAt.next P.out KK.out
      clear k5 eqA
      go_wp2
      go_round
      case rel => exact ⟨i + 1, rfl, by omega, by first | exact X5.out | exact bdrew X5.out, by first | exact F5.out | exact F5.out.next (Below.refl _ _).drew, by first | exact P5 | exact RowsAt.next P5.out (Below.refl _ _).drew⟩
      case measure => simp [intOf]; omega
    · obtain rfl : i = N := by omega
      have hii : ¬ ((i : Nat) : Int) < (i : Int) := by omega
      repeat (first | go_values | go_skip | go_guarded | go_step | go_upon | go_back)
      clear hii F P FS HMM HNN
      go_loopw [11] (fun v wr => ∃ k : Nat, v = .int .i64 k ∧ k ≤ n ∧ Below w.heap.size w wr) (fun v _ => n - (intOf v).toNat)
      case atStart => exact ⟨0, rfl, Nat.zero_le _, X.out⟩
      case round =>
        clear X
        obtain ⟨k, rfl, k1, hX⟩ := hrel
        have X := Lib.hid hX
        clear hX
        by_cases hlt : k < n
        · have hii : (k : Int) < (n : Int) := by omega
          obtain ⟨r, hr⟩ : ∃ r, rs[k]? = some r := ⟨_, List.getElem?_eq_getElem (by rw [HN.out]; exact hlt)⟩
          obtain ⟨L, off, hA0, hrul⟩ := rul_at HRW.out hr
          obtain ⟨r0, r1, r2, r3, r4, r5, r6, r7, r8, r9, r10⟩ := (hrul.next X.out).cells
          have R1 := Lib.hid (rows_one HRW.out hr hA0)
          have OKr := Lib.hid (OK.out r (List.mem_of_getElem? hr))
          subst hA0
          have sl := rslice_run L off n c0 k hlt hcap
          have wi : IntKind.i64.wrap ((k : Int) + 1) = (k : Int) + 1 := IntWalk.i64_in _ (by omega)
          have AL : Hid (∀ W, Below w.heap.size w W → Calls Tryd.prog 8 #[.slice (some ⟨L, off + k * 11, none⟩) 1 (c0 - k), .int .i64 x, .int .i64 x] W (AllIs (iso ltP (allN [r] x x 1)) W)) := Lib.hid fun W kk =>
            xall_is _ 1 (c0 - k) [r] x x W (R1.out.next kk) rfl (by omega) (fun r' hr' => by rw [List.mem_singleton.1 hr']; exact OKr.out) (by omega) (by omega) (by omega)
          have O1 : Hid (allN [r] x x 1 = (frA r x x).map fun p => (p.2, 0)) := Lib.hid (by simp [allN])
          have O2 : Hid (frA r x x = frL r x 1) := Lib.hid (by rw [frA_eq r (by omega) (by omega)]; congr 1; omega)
          have OF := Lib.hid fun f b W hW h => fof_is r x f b W hW OKr.out ⟨by omega, by omega⟩ h
          clear hr hrul
          by_cases hf : frY r x
          · obtain ⟨f, hf2⟩ : ∃ f, frF r x = f := ⟨_, rfl⟩
            have OF1 : Hid (∀ W, LaidF W → Calls Tryd.prog 10 #[.agg #[.string ⟨r.nm.toArray⟩, .int .i64 r.fr, .int .i64 r.tl, .int .i64 r.mo, .int .i64 r.dk, .int .i64 r.dw, .int .i64 r.dn, .int .i64 r.sc, .int .i64 r.ck, .int .i64 r.sv, .string ⟨r.lt.toArray⟩], .int .i64 x] W fun e w' => e = .returned (.tuple #[.agg #[.int .i64 f.nm, .int .i64 f.kd, .int .i64 f.sv, .string ⟨f.lt.toArray⟩], .bool true]) ∧ Below W.heap.size W w') := Lib.hid fun W hW => OF.out f true W hW (.inl ⟨rfl, hf, hf2.symm⟩)
            have EL : allN [r] x x 1 = [(f, 0)] := by
              rw [O1.out, O2.out, frL_yes (n := 0) (by simpa using hf)]
              simp [frL, hf2]
            rw [EL] at AL
            have EI : iso ltP [((f, 0) : PV)] = [(f, 0)] := rfl
            rw [EI] at AL
            have PLG : Hid (∀ W, Calls Tryd.prog 9 #[.agg #[.int .i64 f.nm, .int .i64 f.kd, .int .i64 f.sv, .string ⟨f.lt.toArray⟩], .int .i64 0] W fun e w' => e = .returned (.agg #[.int .i64 f.nm, .int .i64 f.kd, .int .i64 f.sv, .int .i64 0, .string ⟨f.lt.toArray⟩]) ∧ ∃ q os, w' = Go.Sort.grow (W.drewN q) os) := Lib.hid fun W => xplain_grown f 0 W
            have eqA := eq_four f.nm f.kd f.sv 0
            clear hf hf2 EL EI O1 O2 OF
            repeat (first
              | (go_at_call 10; (with_reducible refine (OF1.out _ (HA.out.next X.out)).mono ?_); (rintro e w6 ⟨rfl, k6⟩); have X6 := Lib.hid (bthen X.out k6); have B7 := Lib.hid (BlkN.make X6.out #[.int .i64 f.nm, .int .i64 f.kd, .int .i64 f.sv, .string ⟨f.lt.toArray⟩] 36); have fz0 := frz (j := 0) B7.out.blk; clear k6; simp only [])
              | (go_at_call 8; (with_reducible refine (AL.out _ B7.out.bel).mono ?_); (rintro e w8 ⟨v8, rfl, o8, k8⟩); have B8 := Lib.hid (B7.out.next k8); (obtain ⟨b0, b1, b2, b3⟩ := cel4 B8.out.blk); (obtain ⟨A8, cc8, rfl, P8, hc8⟩ : ∃ A c, v8 = .slice A 1 c ∧ Hid (PAt A [(f, 0)] w8) ∧ 1 ≤ c := pout_form o8 rfl); clear k8 o8; simp only [])
              | go_values | go_skip | go_guarded | go_step | go_upon | go_back)
            obtain ⟨L8, off8, hA8, hL8, p0, p1, p2, p3, p4⟩ := pv_cells P8.out (i := 0) rfl
            subst hA8
            simp only [Nat.zero_mul, Nat.add_zero] at p0 p1 p2 p3 p4
            have hG := B8.out.lt
            have j0 := cell_grown (a := ⟨w6.heap.size, 0, none⟩) hG b0
            have j1 := cell_grown (a := ⟨w6.heap.size, 1, none⟩) hG b1
            have j2 := cell_grown (a := ⟨w6.heap.size, 2, none⟩) hG b2
            have j3 := cell_grown (a := ⟨w6.heap.size, 3, none⟩) hG b3
            have l0 := cell_grown (a := ⟨L8, off8, none⟩) hL8 p0
            have l1 := cell_grown (a := ⟨L8, off8 + 1, none⟩) hL8 p1
            have l2 := cell_grown (a := ⟨L8, off8 + 2, none⟩) hL8 p2
            have l3 := cell_grown (a := ⟨L8, off8 + 3, none⟩) hL8 p3
            have l4 := cell_grown (a := ⟨L8, off8 + 4, none⟩) hL8 p4
            have mixed : Tryd.prog.follows .mixedOrders = true := by kernel_rfl
            clear p0 p1 p2 p3 p4 b0 b1 b2 b3 r0 r1 r2 r3 r4 r5 r6 r7 r8 r9 r10 fz0 sl hG hL8
            go_quiet_grown (first | (go_at_call 9; exact Calls.grown_of (PLG.out _)))
            have X9 := Lib.hid (below_grow B8.out.bel nq osq)
            clear eqA mixed j0 j1 j2 j3 l0 l1 l2 l3 l4
            go_wp2
            go_round
            case rel => exact ⟨k + 1, rfl, by omega, X9.out⟩
            case measure => simp [intOf]; omega
          · have OF1 : Hid (∀ W, LaidF W → Calls Tryd.prog 10 #[.agg #[.string ⟨r.nm.toArray⟩, .int .i64 r.fr, .int .i64 r.tl, .int .i64 r.mo, .int .i64 r.dk, .int .i64 r.dw, .int .i64 r.dn, .int .i64 r.sc, .int .i64 r.ck, .int .i64 r.sv, .string ⟨r.lt.toArray⟩], .int .i64 x] W fun e w' => e = .returned (.tuple #[.agg #[.int .i64 0, .int .i64 0, .int .i64 0, .string ⟨#[]⟩], .bool false]) ∧ Below W.heap.size W w') := Lib.hid fun W hW => OF.out noF false W hW (.inr ⟨rfl, hf, rfl⟩)
            have EL : allN [r] x x 1 = [] := by
              rw [O1.out, O2.out, frL_no (n := 0) (by simpa using hf)]
              simp [frL]
            rw [EL] at AL
            have EI : iso ltP ([] : List PV) = [] := rfl
            rw [EI] at AL
            clear hf EL EI O1 O2 OF
            repeat (first
              | (go_at_call 10; (with_reducible refine (OF1.out _ (HA.out.next X.out)).mono ?_); (rintro e w6 ⟨rfl, k6⟩); have X6 := Lib.hid (bthen X.out k6); have B7 := Lib.hid (BlkN.make X6.out #[.int .i64 0, .int .i64 0, .int .i64 0, .string ⟨#[]⟩] 36); have fz0 := frz (j := 0) B7.out.blk; clear k6; simp only [])
              | (go_at_call 8; (with_reducible refine (AL.out _ B7.out.bel).mono ?_); (rintro e w8 ⟨v8, rfl, o8, k8⟩); have B8 := Lib.hid (B7.out.next k8); (obtain ⟨b0, b1, b2, b3⟩ := cel4 B8.out.blk); (obtain ⟨A8, cc8, rfl, P8, hc8⟩ : ∃ A c, v8 = .slice A 0 c ∧ Hid (PAt A [] w8) ∧ 0 ≤ c := pout_form o8 rfl); clear k8 o8; simp only [])
              | go_values | go_skip | go_guarded | go_step | go_upon | go_back)
            clear r0 r1 r2 r3 r4 r5 r6 r7 r8 r9 r10 fz0 sl
            go_quiet (fail)
            go_wp2
            go_round
            case rel => exact ⟨k + 1, rfl, by omega, below_drewN B8.out.bel _⟩
            case measure => simp [intOf]; omega
        · obtain rfl : k = n := by omega
          have hii : ¬ ((k : Nat) : Int) < (k : Int) := by omega
          have FL := Lib.hid fun W kk => fletter_any A0 k c0 rs W (HRW.out.next kk) HN.out (by omega)
          have XL := Lib.hid fun W kk => xletter_is A0 k c0 rs W (HRW.out.next kk) HN.out (by omega)
          generalize ltrL rs k = lt at FL XL
          repeat (first
            | (go_at_call 11; (with_reducible refine (FL.out _ X.out).mono ?_); (rintro e w6 ⟨rfl, k6⟩); have X6 := Lib.hid (bthen X.out k6); clear k6; simp only [])
            | (go_at_call 12; (with_reducible refine (XL.out _ X6.out).mono ?_); (rintro e w7 ⟨rfl, k7⟩); have X7 := Lib.hid (bthen X6.out k7); clear k7; simp only [])
            | (go_at_call 6; (with_reducible refine (AW.out _ (HA.out.next X7.out)).mono ?_); (rintro e w9 ⟨rfl, k9⟩); simp only [])
            | go_values | go_skip | go_guarded | go_step | go_upon | go_back)
          go_ret
          exact ⟨rfl, bthen X7.out k9⟩

theorem ffin_any (A0 : Option Addr) (n c0 : Nat) (rs : List RV) (x z : Int) (w : World) (hA : LaidF w) (hR : RowsAt 11 cR A0 rs w) (hn : rs.length = n) (hn1 : n ≤ 9223372036854775807) (hcap : n ≤ c0) :
    Calls Tryd.prog 3 #[.slice A0 n c0, .int .i64 x, .int .i64 z] w fun e w' => e = .returned (.bool true) ∧ Below w.heap.size w w' := by
  by_cases h : SmF rs ∧ 1880 ≤ x ∧ z ≤ 2110 ∧ x ≤ z
  · exact ffin_in A0 n c0 rs x z w hA hR hn hcap h.1 h.2.1 h.2.2.1 h.2.2.2
  · exact ffin_out A0 n c0 rs x z w hA hR hn hn1 h
end Go.Proofs.YtblamffdlclomaaDoor
