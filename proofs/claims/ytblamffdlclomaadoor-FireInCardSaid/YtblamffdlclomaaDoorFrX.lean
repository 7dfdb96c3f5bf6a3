/- For whatever rules and years the law FireCounts returns true, and nothing that was in memory changes. -/
import Derived.Test.YtblamffdlclomaaDoorFrW
import Derived.Deep.RegionWith
namespace Go.Proofs.YtblamffdlclomaaDoor
open Go Go.RowKit

def tyV (x y z : Int) : Value := .agg #[.int .i64 x, .int .i64 y, .int .i64 z]

set_option maxRecDepth 20000 in
set_option maxHeartbeats 4000000 in
theorem fcounts_out (A0 : Option Addr) (n c0 : Nat) (rs : List RV) (x y z : Int) (w : World) (hA : LaidF w) (hR : RowsAt 11 cR A0 rs w) (hn : rs.length = n) (hn1 : n ≤ 9223372036854775807) (h : ¬ (SmF rs ∧ 1880 ≤ x ∧ z ≤ 2110 ∧ x ≤ y ∧ y < z)) :
    Calls Tryd.prog 4 #[.slice A0 n c0, tyV x y z] w fun e w' => e = .returned (.bool true) ∧ Below w.heap.size w w' := by
  have X0 := Lib.hid (BlkN.make (Below.refl w.heap.size w) #[.int .i64 x, .int .i64 y, .int .i64 z] 47)
  have HA := Lib.hid hA
  have AW := Lib.hid (fun W (hW : LaidF W) => fawake_any W hW)
  have HRW := Lib.hid (hR.next X0.out.bel)
  have H := Lib.hid h
  obtain ⟨v, hv⟩ : ∃ v : Bool, (v = true ∧ SmF rs) ∨ (v = false ∧ ¬ SmF rs) := by
    by_cases hs : SmF rs
    · exact ⟨true, .inl ⟨rfl, hs⟩⟩
    · exact ⟨false, .inr ⟨rfl, hs⟩⟩
  have SM := Lib.hid (fsmall_is A0 n c0 rs v _ HRW.out hn hn1 (Lib.hid hv))
  have HV := Lib.hid hv
  clear hA hR hn hv h
  unfold tyV
  cases v with
  | false =>
    go_enter Tryd.func4, Tryd.ntmps4
    repeat (first
      | (go_at_call 5; (with_reducible refine SM.out.mono ?_); (rintro e w1 ⟨rfl, k1⟩); have X1 := Lib.hid (X0.out.next k1); simp only [])
      | (go_at_call 6; (with_reducible refine (AW.out _ (HA.out.next X1.out.bel)).mono ?_); (rintro e w2 ⟨rfl, k2⟩); simp only [])
      | go_values | go_skip | go_guarded | go_step | go_upon | go_back)
    go_ret
    exact ⟨rfl, X1.out.bel.trans (k2.mono X1.out.bel.size)⟩
  | true =>
    by_cases h1 : x < 1880
    · go_enter Tryd.func4, Tryd.ntmps4
      repeat (first
        | (go_at_call 5; (with_reducible refine SM.out.mono ?_); (rintro e w1 ⟨rfl, k1⟩); have X1 := Lib.hid (X0.out.next k1); (obtain ⟨c0, c1, c2⟩ := cel3 X1.out.blk); simp only [])
        | (go_at_call 6; (with_reducible refine (AW.out _ (HA.out.next X1.out.bel)).mono ?_); (rintro e w2 ⟨rfl, k2⟩); simp only [])
        | go_values | go_skip | go_guarded | go_step | go_upon | go_back)
      go_ret
      exact ⟨rfl, X1.out.bel.trans (k2.mono X1.out.bel.size)⟩
    by_cases h2 : z > 2110
    · go_enter Tryd.func4, Tryd.ntmps4
      repeat (first
        | (go_at_call 5; (with_reducible refine SM.out.mono ?_); (rintro e w1 ⟨rfl, k1⟩); have X1 := Lib.hid (X0.out.next k1); (obtain ⟨c0, c1, c2⟩ := cel3 X1.out.blk); simp only [])
        | (go_at_call 6; (with_reducible refine (AW.out _ (HA.out.next X1.out.bel)).mono ?_); (rintro e w2 ⟨rfl, k2⟩); simp only [])
        | go_values | go_skip | go_guarded | go_step | go_upon | go_back)
      go_ret
      exact ⟨rfl, X1.out.bel.trans (k2.mono X1.out.bel.size)⟩
    by_cases h3 : y < x
    · go_enter Tryd.func4, Tryd.ntmps4
      repeat (first
        | (go_at_call 5; (with_reducible refine SM.out.mono ?_); (rintro e w1 ⟨rfl, k1⟩); have X1 := Lib.hid (X0.out.next k1); (obtain ⟨c0, c1, c2⟩ := cel3 X1.out.blk); simp only [])
        | (go_at_call 6; (with_reducible refine (AW.out _ (HA.out.next X1.out.bel)).mono ?_); (rintro e w2 ⟨rfl, k2⟩); simp only [])
        | go_values | go_skip | go_guarded | go_step | go_upon | go_back)
      go_ret
      exact ⟨rfl, X1.out.bel.trans (k2.mono X1.out.bel.size)⟩
    have h4 : z ≤ y := by
      rcases HV.out with ⟨-, hs⟩ | ⟨hf, -⟩
      · have := H.out
        by_cases hz : z ≤ y
        · exact hz
        · exact absurd ⟨hs, by omega, by omega, by omega, by omega⟩ this
      · cases hf
    go_enter Tryd.func4, Tryd.ntmps4
    repeat (first
      | (go_at_call 5; (with_reducible refine SM.out.mono ?_); (rintro e w1 ⟨rfl, k1⟩); have X1 := Lib.hid (X0.out.next k1); (obtain ⟨c0, c1, c2⟩ := cel3 X1.out.blk); simp only [])
      | (go_at_call 6; (with_reducible refine (AW.out _ (HA.out.next X1.out.bel)).mono ?_); (rintro e w2 ⟨rfl, k2⟩); simp only [])
      | go_values | go_skip | go_guarded | go_step | go_upon | go_back)
    go_ret
    exact ⟨rfl, X1.out.bel.trans (k2.mono X1.out.bel.size)⟩

theorem rslice_run (L off n c k : Nat) (h : k < n) (hn : n ≤ c) (W : World) : (Instr.slice 22 (.slice (some ⟨L, off, none⟩) n c) (some (.int .i64 (k : Int))) (some (.int .i64 ((k : Int) + 1))) none).run Tryd.prog W = .ok (.slice (some ⟨L, off + k * 11, none⟩) 1 (c - k)) W := by
  have e3 : ((k : Int) + 1).toNat = k + 1 := by omega
  simp [Instr.slice, go_sem, e3]
  rw [if_pos ⟨by omega, by omega⟩, if_neg (by omega)]

set_option maxRecDepth 20000 in
set_option maxHeartbeats 8000000 in
theorem fcounts_in (A0 : Option Addr) (n c0 : Nat) (rs : List RV) (x y z : Int) (w : World) (hA : LaidF w) (hR : RowsAt 11 cR A0 rs w) (hn : rs.length = n) (hn1 : n ≤ 9223372036854775807) (hcap : n ≤ c0) (hs : SmF rs) (hx : 1880 ≤ x) (hz : z ≤ 2110) (hxy : x ≤ y) (hyz : y < z) :
    Calls Tryd.prog 4 #[.slice A0 n c0, tyV x y z] w fun e w' => e = .returned (.bool true) ∧ Below w.heap.size w w' := by
  have X0 := Lib.hid (BlkN.make (Below.refl w.heap.size w) #[.int .i64 x, .int .i64 y, .int .i64 z] 47)
  have HA := Lib.hid hA
  have AW := Lib.hid (fun W (hW : LaidF W) => fawake_any W hW)
  have HRW := Lib.hid hR
  have SM := Lib.hid (fsmall_is A0 n c0 rs true _ (hR.next X0.out.bel) hn hn1 (Lib.hid (.inl ⟨rfl, hs⟩)))
  have HN := Lib.hid hn
  have HS := Lib.hid hs
  have OK : Hid (∀ r ∈ rs, okR r) := Lib.hid fun r hr => (hs.2 r hr).ok
  have n6 : n ≤ 6 := by rw [← hn]; exact hs.1
  have hy1 : IntKind.i64.wrap (y + 1) = y + 1 := IntWalk.i64_in _ (by omega)
  have IN : Hid (∀ (a b : Int) W, Below w.heap.size w W → 1880 ≤ a → b ≤ 2110 → a ≤ b → Calls Tryd.prog 7 #[.slice A0 n c0, .int .i64 a, .int .i64 b] W (InIs (iso (ltOf cfF) (allF rs a b)) W)) := Lib.hid fun a b W k h1 h2 h3 =>
    fin_yes A0 n c0 rs a b W (HA.out.next k) (HRW.out.next k) HN.out (by omega) OK.out (by omega) (by omega) h3 (by omega)
  have LEN : Hid (∀ a b, b - a ≤ 5000 → (iso (ltOf cfF) (allF rs a b)).length ≤ 31000) := Lib.hid fun a b h => by
    rw [iso_len]
    have h1 := allF_len h rs
    have h2 : rs.length ≤ 6 := HS.out.1
    have := Nat.mul_le_mul_right 5001 h2
    omega
  have LS : Hid ((iso (ltOf cfF) (allF rs x z)).length = (iso (ltOf cfF) (allF rs x y)).length + (iso (ltOf cfF) (allF rs (y + 1) z)).length) := Lib.hid (by
    rw [iso_len, iso_len, iso_len]; exact allF_split rs (by omega) (by omega) hxy hyz)
  have SR : Hid (Srt (ltOf cfF) (iso (ltOf cfF) (allF rs x z))) := Lib.hid (iso_srt wordF _)
  have LL : Hid ((iso (ltOf cfF) (allF rs x z)).length = (allF rs x z).length) := Lib.hid (iso_len _)
  have l1 := LEN.out x z (by omega)
  have l2 := LEN.out x y (by omega)
  have l3 := LEN.out (y + 1) z (by omega)
  have d1 : ¬ x < 1880 := by omega
  have d2 : ¬ z > 2110 := by omega
  have d3 : ¬ y < x := by omega
  have d4 : ¬ z ≤ y := by omega
  have IN1 := Lib.hid (fun W k => IN.out x z W k hx hz (by omega))
  have IN2 := Lib.hid (fun W k => IN.out x y W k hx (by omega) hxy)
  have IN3 := Lib.hid (fun W k => IN.out (y + 1) z W k (by omega) hz (by omega))
  generalize iso (ltOf cfF) (allF rs x z) = fs at IN1 LS l1 SR LL
  generalize iso (ltOf cfF) (allF rs x y) = fa at IN2 LS l2
  generalize iso (ltOf cfF) (allF rs (y + 1) z) = fb at IN3 LS l3
  obtain ⟨N, hN⟩ : ∃ N, fs.length = N := ⟨_, rfl⟩
  obtain ⟨Na, hNa⟩ : ∃ N, fa.length = N := ⟨_, rfl⟩
  obtain ⟨Nb, hNb⟩ : ∃ N, fb.length = N := ⟨_, rfl⟩
  have HNN := Lib.hid hN
  have e0 : N = Na + Nb := by rw [← hN, ← hNa, ← hNb]; exact LS.out
  have e1 : ((N : Int) != (Na : Int) + (Nb : Int)) = false := by simp; omega
  have e2 : IntKind.i64.wrap ((Na : Int) + (Nb : Int)) = (Na : Int) + (Nb : Int) := IntWalk.i64_in _ (by omega)
  rw [hN] at l1
  rw [hNa] at l2
  rw [hNb] at l3
  have EN := Lib.hid e0
  have hxz : x ≤ z := by omega
  clear hA hR hn hs LEN LS e0 hxy hyz
  unfold tyV
  go_enter Tryd.func4, Tryd.ntmps4
  repeat (first
    | (go_at_call 5; (with_reducible refine SM.out.mono ?_); (rintro e w1 ⟨rfl, k1⟩); have X1 := Lib.hid (X0.out.next k1); (obtain ⟨c0', c1', c2'⟩ := cel3 X1.out.blk); clear k1; simp only [])
    | (go_at_call 7; (with_reducible refine (IN1.out _ X1.out.bel).mono ?_); (rintro e w2 ⟨A2, cc2, rfl, fi2, k2⟩); have X2 := Lib.hid (X1.out.next k2); have F2 := Lib.hid fi2; clear c0' c1' c2'; (obtain ⟨c0', c1', c2'⟩ := cel3 X2.out.blk); clear k2 fi2; rw [hN]; simp only [])
    | (go_at_call 7; (with_reducible refine (IN2.out _ X2.out.bel).mono ?_); (rintro e w3 ⟨A3, cc3, rfl, fi3, k3⟩); have X3 := Lib.hid (X2.out.next k3); have F3 := Lib.hid (F2.out.next k3); clear c0' c1' c2'; (obtain ⟨c0', c1', c2'⟩ := cel3 X3.out.blk); clear k3 fi3; rw [hNa]; simp only [])
    | (go_at_call 7; (with_reducible refine (IN3.out _ X3.out.bel).mono ?_); (rintro e w4 ⟨A4, cc4, rfl, fi4, k4⟩); have X4 := Lib.hid (X3.out.next k4); have F4 := Lib.hid (F3.out.next k4); clear c0' c1' c2'; (obtain ⟨c0', c1', c2'⟩ := cel3 X4.out.blk); clear k4 fi4; rw [hNb]; simp only [])
    | go_values | go_skip | go_guarded | go_step | go_upon | go_back)
  clear c0' c1' c2' hN hNa hNb d1 d2 d3 d4 e1 e2 l2 l3 hy1 SM IN1 IN2 IN3 X0 X1 X2 X3 F2 F3
  go_loopw [11, 12] (fun v11 v12 wr => ∃ i : Nat, v12 = .int .i64 i ∧ v11 = .int .i64 ((allF (rs.take i) x z).length : Nat) ∧ i ≤ n ∧ BlkN w w.heap.size #[.int .i64 x, .int .i64 y, .int .i64 z] 47 wr ∧ FirsAt A2 fs wr) (fun _ vi _ => n - (intOf vi).toNat)
  case atStart => exact ⟨0, rfl, rfl, Nat.zero_le _, X4.out, F4.out⟩
  case round =>
    clear X4 F4
    obtain ⟨i, rfl, rfl, i1, hX, hF⟩ := hrel
    have X := Lib.hid hX
    have F := Lib.hid hF
    obtain ⟨g0, g1, g2⟩ := cel3 hX.blk
    clear hX hF
    by_cases hlt : i < n
    · have hii : (i : Int) < (n : Int) := by omega
      obtain ⟨r, hr⟩ : ∃ r, rs[i]? = some r := ⟨_, List.getElem?_eq_getElem (by rw [HN.out]; exact hlt)⟩
      obtain ⟨L, off, hA0, -⟩ := rul_at HRW.out hr
      have R1 := Lib.hid (rows_one HRW.out hr hA0)
      have OKr := Lib.hid (OK.out r (List.mem_of_getElem? hr))
      have SN : Hid ((allF (rs.take (i + 1)) x z).length = (allF (rs.take i) x z).length + (iso (ltOf cfF) (allF [r] x z)).length) := Lib.hid (by
        rw [allF_snoc hr, List.length_append, iso_len, allF_one])
      subst hA0
      have sl := rslice_run L off n c0 i hlt hcap
      have IO : Hid (∀ W, Below w.heap.size w W → Calls Tryd.prog 7 #[.slice (some ⟨L, off + i * 11, none⟩) 1 (c0 - i), .int .i64 x, .int .i64 z] W (InIs (iso (ltOf cfF) (allF [r] x z)) W)) := Lib.hid fun W k =>
        fin_yes _ 1 (c0 - i) [r] x z W (HA.out.next k) (R1.out.next k) rfl (by omega) (fun r' hr' => by rw [List.mem_singleton.1 hr']; exact OKr.out) (by omega) (by omega) (by omega) (by omega)
      have lo : (iso (ltOf cfF) (allF [r] x z)).length ≤ 5001 := by
        rw [iso_len]
        have := allF_len (a := x) (b := z) (by omega) [r]
        simpa using this
      generalize iso (ltOf cfF) (allF [r] x z) = fo at IO SN lo
      obtain ⟨No, hNo⟩ : ∃ N, fo.length = N := ⟨_, rfl⟩
      rw [hNo] at SN lo
      have lt0 : (allF (rs.take i) x z).length ≤ 31000 := by
        have h1 := allF_len (a := x) (b := z) (by omega) (rs.take i)
        rw [List.length_take] at h1
        have h2 : min i rs.length ≤ 6 := by omega
        have := Nat.mul_le_mul_right 5001 h2
        omega
      generalize (allF (rs.take i) x z).length = M at SN lt0
      have wi : IntKind.i64.wrap ((i : Int) + 1) = (i : Int) + 1 := IntWalk.i64_in _ (by omega)
      have wm : IntKind.i64.wrap ((M : Int) + (No : Int)) = (M : Int) + (No : Int) := IntWalk.i64_in _ (by omega)
      clear hr R1 OKr
      repeat (first | go_values | go_skip | go_guarded | go_step | go_upon | go_back)
      go_region_with (go_at_call 7; (refine (IO.out _ (X.out.bel.drew)).mono ?_); rintro e w5 ⟨A5, cc5, rfl, fi5, k5⟩)
      all_goals
        have X5 := Lib.hid (X.out.drew.next k5)
        have F5 := Lib.hid (F.out.next ((Below.refl _ wr).drew.trans k5))
        clear fi5 k5 g0 g1 g2 sl
        try rw [hNo]
        go_wp2
        go_roundw
        case rel => exact ⟨i + 1, rfl, by rw [SN.out]; rfl, by omega, X5.out, F5.out⟩
        case measure => simp [intOf]; omega
    · obtain rfl : i = n := by omega
      have hii : ¬ ((i : Nat) : Int) < (i : Int) := by omega
      have e6 : (allF (rs.take i) x z).length = N := by rw [List.take_of_length_le (by rw [HN.out]; exact Nat.le_refl _), ← LL.out]; exact HNN.out
      rw [e6]
      repeat (first | go_values | go_skip | go_guarded | go_step | go_upon | go_back)
      clear g0 g1 g2 hii e6
      go_loopw [15] (fun v15 wr => ∃ k : Nat, v15 = .int .i64 k ∧ 1 ≤ k ∧ (k ≤ N ∨ k = 1) ∧ Below w.heap.size w wr ∧ FirsAt A2 fs wr) (fun vi _ => N + 1 - (intOf vi).toNat)
      case atStart => exact ⟨1, rfl, Nat.le_refl _, .inr rfl, X.out.bel, F.out⟩
      case round =>
        clear X F
        obtain ⟨k, rfl, k1, k2, hX, hF⟩ := hrel
        have X := Lib.hid hX
        have F := Lib.hid hF
        clear hX hF
        by_cases hlk : k < N
        · have hkk : (k : Int) < (N : Int) := by omega
          obtain ⟨q, rfl⟩ : ∃ q, k = q + 1 := ⟨k - 1, by omega⟩
          obtain ⟨fx, hfx⟩ : ∃ f, fs[q]? = some f := ⟨_, List.getElem?_eq_getElem (by rw [HNN.out]; omega)⟩
          obtain ⟨fy, hfy⟩ : ∃ f, fs[q + 1]? = some f := ⟨_, List.getElem?_eq_getElem (by rw [HNN.out]; omega)⟩
          obtain ⟨L, off, hA2, hL, y0, -⟩ := fir_cells F.out hfy
          obtain ⟨L', off', hA2', -, x0, -⟩ := fir_cells F.out hfx
          rw [hA2] at hA2'
          cases hA2'
          have hle : ¬ fy.nm < fx.nm := by have := srt_at SR.out hfx hfy; omega
          subst hA2
          clear hfx hfy
          have j1 : (q : Int) + 1 < (N : Int) := by omega
          have j2 : (q : Int) < (N : Int) := by omega
          have j3 : IntKind.i64.wrap (q : Int) = (q : Int) := IntWalk.i64_in _ (by omega)
          have j4 : ((q : Int) + 1).toNat = q + 1 := by omega
          have j5 : (0 : Int) ≤ (q : Int) + 1 := by omega
          repeat (first | go_values | go_skip | go_guarded | go_step | go_upon | go_back)
          go_region
          all_goals
            go_wp2
            go_roundw
            case rel => exact ⟨q + 1 + 1, by go_num, by omega, by omega, bdrew X.out, F.out.next ((Below.refl _ _).drew)⟩
            case measure => simp [intOf]; omega
        · have hkk : ¬ (k : Int) < (N : Int) := by omega
          repeat (first
            | (go_at_call 6; (with_reducible refine (AW.out _ (HA.out.next X.out)).mono ?_); (rintro e w6 ⟨rfl, k6⟩); simp only [])
            | go_values | go_skip | go_guarded | go_step | go_upon | go_back)
          go_ret
          exact ⟨rfl, X.out.trans (k6.mono X.out.size)⟩

theorem fcounts_any (A0 : Option Addr) (n c0 : Nat) (rs : List RV) (x y z : Int) (w : World) (hA : LaidF w) (hR : RowsAt 11 cR A0 rs w) (hn : rs.length = n) (hn1 : n ≤ 9223372036854775807) (hcap : n ≤ c0) :
    Calls Tryd.prog 4 #[.slice A0 n c0, tyV x y z] w fun e w' => e = .returned (.bool true) ∧ Below w.heap.size w w' := by
  by_cases h : SmF rs ∧ 1880 ≤ x ∧ z ≤ 2110 ∧ x ≤ y ∧ y < z
  · exact fcounts_in A0 n c0 rs x y z w hA hR hn hn1 hcap h.1 h.2.1 h.2.2.1 h.2.2.2.1 h.2.2.2.2
  · exact fcounts_out A0 n c0 rs x y z w hA hR hn hn1 h
end Go.Proofs.YtblamffdlclomaaDoor
