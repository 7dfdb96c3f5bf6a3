/- The contracts of the document's answer's Apart, and of the law's Right. -/
import Derived.Test.YtdmfgechoanmlaaGreatDoorMZP
import Derived.Test.YtdmfgechoanmlaaGreatDoorRfH
import Derived.Test.YtdmfgechoanmlaaGreatDoorMZZ
import Derived.BigQuiet
namespace Go.Proofs.YtdmfgechoanmlaaGreatDoor
open Go Go.RowKit Go.Sort
attribute [local go_sem] Oper.semAt_some

/-- Firings of a row: one behind the other, more than 50 hours apart. -/
def AptC (l : List FV) : Prop := (∀ f ∈ l, -90000 < f.sv ∧ f.sv < 90000) ∧ ∀ i f g, l[i]? = some f → l[i + 1]? = some g → f.nm + 180000 < g.nm
theorem aptc_iff {l : List FV} : AptC l ↔ Apt l := by
  constructor
  · rintro ⟨h1, h2⟩
    refine ⟨h1, ?_⟩
    clear h1
    induction l with
    | nil => exact List.Pairwise.nil
    | cons a l ih =>
      have k := ih (fun i f g hf hg => h2 (i + 1) f g (by simpa using hf) (by simpa using hg))
      refine List.Pairwise.cons (fun b hb => ?_) k
      cases l with
      | nil => cases hb
      | cons c l =>
        have h3 := h2 0 a c rfl rfl
        rcases List.mem_cons.1 hb with rfl | hb
        · exact h3
        · have := (List.pairwise_cons.1 k).1 b hb
          omega
  · rintro ⟨h1, h2⟩
    refine ⟨h1, fun i f g hf hg => ?_⟩
    have h3 := List.getElem?_eq_some_iff.1 hf
    have h4 := List.getElem?_eq_some_iff.1 hg
    obtain ⟨a, rfl⟩ := h3
    obtain ⟨b, rfl⟩ := h4
    exact List.pairwise_iff_getElem.1 h2 i (i + 1) a b (by omega)

set_option maxRecDepth 20000 in
set_option maxHeartbeats 2000000 in
theorem xapart_is (A : Option Addr) (N c : Nat) (ps : List PV) (v : Bool) (w : World) (hP : Hid (PAt A ps w)) (hN : ps.length = N) (hN1 : N ≤ 1000000) (hb : ∀ q ∈ ps, -1000000000000 ≤ q.1.nm ∧ q.1.nm ≤ 1000000000000) (hv : Hid ((v = true ∧ AptC (ps.map Prod.fst)) ∨ (v = false ∧ ¬ AptC (ps.map Prod.fst)))) :
    Calls Tryz.prog 48 #[.slice A N c] w fun e w' => e = .returned (.bool v) ∧ Below w.heap.size w w' := by
  have NO : Hid (¬ AptC (ps.map Prod.fst) → false = v) := Lib.hid fun h => by
    rcases hv.out with ⟨-, g⟩ | ⟨g, -⟩
    · exact absurd g h
    · exact g.symm
  have YES : Hid (AptC (ps.map Prod.fst) → true = v) := Lib.hid fun h => by
    rcases hv.out with ⟨g, -⟩ | ⟨-, g⟩
    · exact g.symm
    · exact absurd h g
  have HN := Lib.hid hN
  have HB := Lib.hid hb
  clear hN hb hv
  go_enter Tryz.func48, Tryz.ntmps48
  repeat (first | go_values | go_skip | go_guarded | go_step | go_upon | go_back)
  go_loopw [3] (fun vi wr => ∃ i : Nat, vi = .int .i64 i ∧ i ≤ N ∧ ((∀ j q, j < i → ps[j]? = some q → -90000 < q.1.sv ∧ q.1.sv < 90000) ∧ ∀ j p q, j + 1 < i → ps[j]? = some p → ps[j + 1]? = some q → p.1.nm + 180000 < q.1.nm) ∧ Below w.heap.size w wr) (fun vi _ => N - (intOf vi).toNat)
  case atStart => exact ⟨0, rfl, Nat.zero_le _, ⟨fun j z h => absurd h (by omega), fun j z q h => absurd h (by omega)⟩, Below.refl _ _⟩
  case round =>
    obtain ⟨i, rfl, i1, ha, hX⟩ := hrel
    have NA := Lib.hid ha
    have X := Lib.hid hX
    clear ha hX
    by_cases hlt : i < N
    · have hii : (i : Int) < (N : Int) := by omega
      obtain ⟨p, hp⟩ : ∃ p, ps[i]? = some p := ⟨_, List.getElem?_eq_getElem (by rw [HN.out]; exact hlt)⟩
      obtain ⟨L, off, rfl, hL, c0, c1, c2, c3, c4⟩ := pv_cells (RowsAt.next hP.out X.out) hp
      have HPI := Lib.hid hp
      clear hp c1 c3 c4 hL
      by_cases q0 : p.1.sv ≤ -90000
      · have R := Lib.hid (NO.out (fun h => by have := h.1 p.1 (List.mem_map.2 ⟨p, List.mem_of_getElem? HPI.out, rfl⟩); omega))
        have d0 : decide (p.1.sv ≤ -90000) = true := by simpa using q0
        clear q0
        repeat (first | go_values | go_skip | go_guarded | go_step | go_upon | go_back)
        go_quiet (fail)
        go_wp2
        go_ret
        exact ⟨retb2 R.out, below_drewN X.out _⟩
      · have d0 : decide (p.1.sv ≤ -90000) = false := by simpa using q0
        by_cases q1 : 90000 ≤ p.1.sv
        · have R := Lib.hid (NO.out (fun h => by have := h.1 p.1 (List.mem_map.2 ⟨p, List.mem_of_getElem? HPI.out, rfl⟩); omega))
          have d1 : decide (90000 ≤ p.1.sv) = true := by simpa using q1
          clear q0 q1
          repeat (first | go_values | go_skip | go_guarded | go_step | go_upon | go_back)
          go_quiet (fail)
          go_wp2
          go_ret
          exact ⟨retb2 R.out, below_drewN X.out _⟩
        · have d1 : decide (90000 ≤ p.1.sv) = false := by simpa using q1
          have SVB : Hid (-90000 < p.1.sv ∧ p.1.sv < 90000) := Lib.hid ⟨by omega, by omega⟩
          clear q0 q1
          by_cases h0 : i = 0
          · subst h0
            have d2 : decide ((0 : Int) < 0) = false := by decide
            repeat (first | go_values | go_skip | go_guarded | go_step | go_upon | go_back)
            go_quiet (fail)
            go_wp2
            go_round
            case rel => exact ⟨1, rfl, by omega, ⟨fun j q hj hq => by
              obtain rfl : j = 0 := by omega
              rw [HPI.out] at hq; cases hq; exact SVB.out, fun j z q h => absurd h (by omega)⟩, below_drewN X.out _⟩
            case measure => simp [intOf]; omega
          · obtain ⟨k, rfl⟩ : ∃ k, i = k + 1 := ⟨i - 1, by omega⟩
            clear h0
            obtain ⟨q, hq⟩ : ∃ q, ps[k]? = some q := ⟨_, List.getElem?_eq_getElem (by rw [HN.out]; omega)⟩
            obtain ⟨L', off', e', hL', b0, b1, b2, b3, b4⟩ := pv_cells (RowsAt.next hP.out X.out) hq
            cases e'
            have HQI := Lib.hid hq
            have BP := HB.out p (List.mem_of_getElem? HPI.out)
            have BQ := HB.out q (List.mem_of_getElem? hq)
            have d2 : decide ((0 : Int) < ((k + 1 : Nat) : Int)) = true := decide_eq_true (by omega)
            have wi : IntKind.i64.wrap (((k + 1 : Nat) : Int) - 1) = (k : Int) := by rw [show ((k + 1 : Nat) : Int) - 1 = (k : Int) by omega]; exact IntWalk.i64_in _ (by omega)
            have wd : IntKind.i64.wrap (p.1.nm - q.1.nm) = p.1.nm - q.1.nm := IntWalk.i64_in _ (by omega)
            have hkk : (k : Int) < (N : Int) := by omega
            have MAPP : Hid (∀ h : AptC (ps.map Prod.fst), q.1.nm + 180000 < p.1.nm) := Lib.hid fun h => h.2 k q.1 p.1 (by rw [List.getElem?_map, HQI.out]; rfl) (by rw [List.getElem?_map, HPI.out]; rfl)
            clear hq b1 b2 b3 b4 hL' BP BQ
            by_cases q2 : p.1.nm - q.1.nm ≤ 180000
            · have R := Lib.hid (NO.out (fun h => by have := MAPP.out h; omega))
              have d3 : decide (p.1.nm - q.1.nm ≤ 180000) = true := by simpa using q2
              clear q2
              repeat (first | go_values | go_skip | go_guarded | go_step | go_upon | go_back)
              go_quiet (fail)
              go_wp2
              go_ret
              exact ⟨retb2 R.out, below_drewN X.out _⟩
            · have d3 : decide (p.1.nm - q.1.nm ≤ 180000) = false := by simpa using q2
              have GP : Hid (q.1.nm + 180000 < p.1.nm) := Lib.hid (by omega)
              clear q2
              repeat (first | go_values | go_skip | go_guarded | go_step | go_upon | go_back)
              go_quiet (fail)
              go_wp2
              go_round
              case rel => exact ⟨k + 1 + 1, rfl, by omega, ⟨fun j z hj hz => by
                rcases Nat.lt_or_ge j (k + 1) with h | h
                · exact NA.out.1 j z h hz
                · obtain rfl : j = k + 1 := by omega
                  rw [HPI.out] at hz; cases hz; exact SVB.out, fun j y z hj hy hz => by
                rcases Nat.lt_or_ge (j + 1) (k + 1) with h | h
                · exact NA.out.2 j y z h hy hz
                · obtain rfl : j = k := by omega
                  rw [HQI.out] at hy; rw [HPI.out] at hz; cases hy; cases hz; exact GP.out⟩, below_drewN X.out _⟩
              case measure => simp [intOf]; omega
    · obtain rfl : i = N := by omega
      have hii : ¬ ((i : Nat) : Int) < (i : Int) := by omega
      have R := Lib.hid (YES.out ⟨fun f hf => by
        obtain ⟨q, hq, rfl⟩ := List.mem_map.1 hf
        obtain ⟨j, hj, e⟩ := List.mem_iff_getElem.1 hq
        exact NA.out.1 j q (by rw [HN.out] at hj; omega) (by rw [List.getElem?_eq_getElem hj, e]), fun j f g hf hg => by
        rw [List.getElem?_map] at hf hg
        cases hp : ps[j]? with
        | none => rw [hp] at hf; cases hf
        | some p =>
          cases hq : ps[j + 1]? with
          | none => rw [hq] at hg; cases hg
          | some q =>
            rw [hp] at hf; rw [hq] at hg
            cases hf; cases hg
            exact NA.out.2 j p q (by have := (List.getElem?_eq_some_iff.1 hq).1; rw [HN.out] at this; omega) hp hq⟩)
      repeat (first | go_values | go_skip | go_guarded | go_step | go_upon | go_back)
      go_ret
      exact ⟨retb2 R.out, X.out⟩
/-- Rules that may be, for the laws on zones. -/
def FewS (rs : List RV) : Prop := SmF rs ∧ (∀ r ∈ rs, r.fr ≤ 2070) ∧ Apt (rowF rs)
theorem FewS.ok {rs : List RV} (h : FewS rs) : ∀ r ∈ rs, okR r ∧ 1900 ≤ r.fr := fun r hr => ⟨(h.1.2 r hr).ok, (h.1.2 r hr).1⟩
set_option maxRecDepth 20000 in
set_option maxHeartbeats 2000000 in
theorem fright_is (A0 : Option Addr) (n c0 : Nat) (rs : List RV) (v : Bool) (w : World) (hR : RowsAt 11 cR A0 rs w) (hn : rs.length = n) (hn1 : n ≤ 9223372036854775807) (hv : Hid ((v = true ∧ FewS rs) ∨ (v = false ∧ ¬ FewS rs))) :
    Calls Tryz.prog 27 #[.slice A0 n c0] w fun e w' => (∃ x, e = .returned (.tuple #[x, .bool v])) ∧ Below w.heap.size w w' := by
  have NO : Hid (¬ FewS rs → false = v) := Lib.hid fun h => by
    rcases hv.out with ⟨-, g⟩ | ⟨g, -⟩
    · exact absurd g h
    · exact g.symm
  have YES : Hid (FewS rs → true = v) := Lib.hid fun h => by
    rcases hv.out with ⟨g, -⟩ | ⟨-, g⟩
    · exact g.symm
    · exact absurd h g
  have X0 := Lib.hid (Below.refl w.heap.size w)
  have HRW := Lib.hid hR
  have HN := Lib.hid hn
  by_cases hs : SmF rs
  · have SM := Lib.hid (fsmall_is A0 n c0 rs true w hR hn hn1 (Lib.hid (.inl ⟨rfl, hs⟩)))
    have n6 : n ≤ 6 := by rw [← hn]; exact hs.1
    have HSM := Lib.hid hs
    clear hR hn hv hs
    go_enter Tryz.func27, Tryz.ntmps27
    repeat (first
      | (go_at_call 46; (with_reducible refine SM.out.mono ?_); (rintro e w1 ⟨rfl, k1⟩); have X1 := Lib.hid (X0.out.trans k1); simp only [])
      | go_values | go_skip | go_guarded | go_step | go_upon | go_back)
    go_loopw [4] (fun vi wr => ∃ i : Nat, vi = .int .i64 i ∧ i ≤ n ∧ (∀ j r, j < i → rs[j]? = some r → r.fr ≤ 2070) ∧ Below w.heap.size w wr) (fun vi _ => n - (intOf vi).toNat)
    case atStart => exact ⟨0, rfl, Nat.zero_le _, fun j z h => absurd h (by omega), X1.out⟩
    case round =>
      clear X1 k1
      obtain ⟨i, rfl, i1, ha, hX⟩ := hrel
      have NA := Lib.hid ha
      have X := Lib.hid hX
      clear ha hX
      by_cases hlt : i < n
      · have hii : (i : Int) < (n : Int) := by omega
        obtain ⟨r, hr⟩ : ∃ r, rs[i]? = some r := ⟨_, List.getElem?_eq_getElem (by rw [HN.out]; exact hlt)⟩
        obtain ⟨L, off, rfl, hrul⟩ := rul_at HRW.out hr
        obtain ⟨r0, r1, r2, r3, r4, r5, r6, r7, r8, r9, r10⟩ := (hrul.next X.out).cells
        have HR := Lib.hid hr
        clear hr hrul r0 r2 r3 r4 r5 r6 r7 r8 r9 r10
        by_cases q0 : 2070 < r.fr
        · have R := Lib.hid (NO.out (fun h => by have := h.2.1 r (List.mem_of_getElem? HR.out); omega))
          repeat (first | go_values | go_skip | go_guarded | go_step | go_upon | go_back)
          go_ret2
          exact ⟨⟨.slice none 0 0, by rw [← R.out]; rfl⟩, X.out⟩
        · have Q0 : Hid (r.fr ≤ 2070) := Lib.hid (by omega)
          repeat (first | go_values | go_skip | go_guarded | go_step | go_upon | go_back)
          go_round
          case rel => exact ⟨i + 1, rfl, by omega, fun j z hj hz => by
            rcases Nat.lt_or_ge j i with h | h
            · exact NA.out j z h hz
            · obtain rfl : j = i := by omega
              rw [HR.out] at hz; cases hz; exact Q0.out, X.out⟩
          case measure => simp [intOf]; omega
      · obtain rfl : i = n := by omega
        have hii : ¬ ((i : Nat) : Int) < (i : Int) := by omega
        have H70 : Hid (∀ r ∈ rs, r.fr ≤ 2070) := Lib.hid fun r hr => by
          obtain ⟨j, hj, e⟩ := List.mem_iff_getElem.1 hr
          exact NA.out j r (by rw [HN.out] at hj; omega) (by rw [List.getElem?_eq_getElem hj, e])
        have OK : Hid (∀ r ∈ rs, okR r ∧ 1900 ≤ r.fr) := Lib.hid fun r hr => ⟨(HSM.out.2 r hr).ok, (HSM.out.2 r hr).1⟩
        have FS : Hid ((iso ltP (allN rs 1890 2110 i)).map Prod.fst = rowF rs) := Lib.hid (by
          rw [iso_fst, allN_fst (by rw [HN.out]; omega), List.take_of_length_le (by rw [HN.out]; omega)]; rfl)
        have AL : Hid (∀ W, Below w.heap.size w W → Calls Tryz.prog 47 #[.slice A0 i c0, .int .i64 1890, .int .i64 2110] W (AllIs (iso ltP (allN rs 1890 2110 i)) W)) := Lib.hid fun W k =>
          xall_is A0 i c0 rs 1890 2110 W (HRW.out.next k) HN.out n6 (fun r hr => (OK.out r hr).1) (by omega) (by omega) (by omega)
        have LN : (rowF rs).length ≤ 31000 := by
          unfold rowF
          rw [iso_len]
          have h1 := allF_len (a := 1890) (b := 2110) (by omega) rs
          have h2 : rs.length ≤ 6 := HSM.out.1
          have := Nat.mul_le_mul_right 5001 h2
          omega
        have BD : Hid (∀ q ∈ iso ltP (allN rs 1890 2110 i), -1000000000000 ≤ q.1.nm ∧ q.1.nm ≤ 1000000000000) := Lib.hid fun q hq => by
          have : q.1 ∈ rowF rs := by rw [← FS.out]; exact List.mem_map.2 ⟨q, hq, rfl⟩
          have := row_bd OK.out this
          omega
        generalize iso ltP (allN rs 1890 2110 i) = ps at FS AL BD
        obtain ⟨N, hN⟩ : ∃ N, ps.length = N := ⟨_, rfl⟩
        have hNN : N ≤ 1000000 := by rw [← FS.out, List.length_map, hN] at LN; omega
        have HNN := Lib.hid hN
        have AP : Hid (∀ A c W, Hid (PAt A ps W) → Calls Tryz.prog 48 #[.slice A N c] W fun e w' => e = .returned (.bool v) ∧ Below W.heap.size W w') := Lib.hid fun A c W hW =>
          xapart_is A N c ps v W hW HNN.out hNN BD.out (by
            rw [FS.out]
            by_cases hc : Apt (rowF rs)
            · exact Lib.hid (.inl ⟨(YES.out ⟨HSM.out, H70.out, hc⟩).symm, aptc_iff.2 hc⟩)
            · exact Lib.hid (.inr ⟨(NO.out fun h => hc h.2.2).symm, fun h => hc (aptc_iff.1 h)⟩))
        clear LN hN
        repeat (first
          | (go_at_call 47; (with_reducible refine (AL.out _ X.out).mono ?_); (rintro e w3 ⟨v3, rfl, o3, k3⟩); have X3 := Lib.hid (bthen X.out k3); clear k3; (obtain ⟨A3, cc3, rfl, P3, hc3⟩ : ∃ A c, v3 = .slice A N c ∧ Hid (PAt A ps w3) ∧ N ≤ c := pout_form o3 HNN.out); clear o3; simp only [])
          | (go_at_call 48; (with_reducible refine (AP.out _ _ _ P3).mono ?_); (rintro e w4 ⟨rfl, k4⟩); have X4 := Lib.hid (bthen X3.out k4); clear k4; simp only [])
          | go_values | go_skip | go_guarded | go_step | go_upon | go_back)
        go_ret2
        exact ⟨⟨_, rfl⟩, X4.out⟩
  · have SM := Lib.hid (fsmall_is A0 n c0 rs false w hR hn hn1 (Lib.hid (.inr ⟨rfl, hs⟩)))
    have R := Lib.hid (NO.out (fun h => hs h.1))
    clear hR hn hv hs
    go_enter Tryz.func27, Tryz.ntmps27
    repeat (first
      | (go_at_call 46; (with_reducible refine SM.out.mono ?_); (rintro e w1 ⟨rfl, k1⟩); have X1 := Lib.hid (X0.out.trans k1); simp only [])
      | go_values | go_skip | go_guarded | go_step | go_upon | go_back)
    go_ret2
    exact ⟨⟨.slice none 0 0, by rw [← R.out]; rfl⟩, X1.out⟩
end Go.Proofs.YtdmfgechoanmlaaGreatDoor
