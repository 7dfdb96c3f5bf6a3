/- The contract of the law's Few: whether a world is not too much. -/
import Derived.Test.YtdmfgechoanmlaaGreatDoorZmF
import Derived.Test.YtdmfgechoanmlaaGreatDoorZmG
namespace Go.Proofs.YtdmfgechoanmlaaGreatDoor
open Go Go.RowKit Go.Sort
attribute [local go_sem] Oper.semAt_some

def FewE (e : EV) : Prop := e.fm.length ≤ 100 ∧ (e.en = true → 1900 ≤ e.uy ∧ e.uy ≤ 2090 ∧ 1 ≤ e.um ∧ e.um ≤ 12 ∧ -172800 ≤ e.sc ∧ e.sc ≤ 259200 ∧ dfD e.dk e.dw e.dn)
structure FewW (x : WV) : Prop where
  es : ∀ e ∈ x.es, FewE e
  ss : ∀ s ∈ x.ss, FewS s.rs
  ne : x.es.length ≤ 4
  ns : x.ss.length ≤ 3
def cU (e : EV) : Array Value := #[.int .i64 e.uy, .int .i64 e.um, .int .i64 e.dk, .int .i64 e.dw, .int .i64 e.dn, .int .i64 e.sc, .int .i64 e.ck]
theorem cells7 {W : World} {g : Nat} {t : TypeId} {v0 v1 v2 v3 v4 v5 v6 : Value} (h : W.heap[g]? = some (.cells #[v0, v1, v2, v3, v4, v5, v6] t (0, 0))) :
    W.cell? ⟨g, 0, none⟩ = some v0 ∧ W.cell? ⟨g, 1, none⟩ = some v1 ∧ W.cell? ⟨g, 2, none⟩ = some v2 ∧ W.cell? ⟨g, 3, none⟩ = some v3 ∧ W.cell? ⟨g, 4, none⟩ = some v4 ∧ W.cell? ⟨g, 5, none⟩ = some v5 ∧ W.cell? ⟨g, 6, none⟩ = some v6 :=
  ⟨cell_of_row W g 0 _ _ _ h, cell_of_row W g 1 _ _ _ h, cell_of_row W g 2 _ _ _ h, cell_of_row W g 3 _ _ _ h, cell_of_row W g 4 _ _ _ h, cell_of_row W g 5 _ _ _ h, cell_of_row W g 6 _ _ _ h⟩
theorem set_cells {A : Option Addr} {ss : List SV} {w : World} {i : Nat} {s : SV} (h : RowsAt 2 cS A ss w) (hs : ss[i]? = some s) : ∃ L off, A = some ⟨L, off, none⟩ ∧ L < w.heap.size ∧ w.cell? ⟨L, off + i * 2, none⟩ = some (.string ⟨s.nm.toArray⟩) ∧ w.cell? ⟨L, off + i * 2 + 1, none⟩ = some (.slice s.a s.rs.length s.c) := by
  obtain ⟨L, off, e1, hl, hc⟩ := h i s hs
  exact ⟨L, off, e1, hl, hc 0 _ (by omega) rfl, hc 1 _ (by omega) rfl⟩

set_option maxRecDepth 20000 in
set_option maxHeartbeats 4000000 in
theorem few_is (x : WV) (v : Bool) (w : World) (hX : WvAt x w) (hO : WvOk x) (hv : Hid ((v = true ∧ FewW x) ∨ (v = false ∧ ¬ FewW x))) :
    Calls Tryz.prog 6 #[wvV x] w fun e w' => e = .returned (.bool v) ∧ Below w.heap.size w w' := by
  have NO : Hid (¬ FewW x → false = v) := Lib.hid fun h => by
    rcases hv.out with ⟨-, g⟩ | ⟨g, -⟩
    · exact absurd g h
    · exact g.symm
  have YES : Hid (FewW x → true = v) := Lib.hid fun h => by
    rcases hv.out with ⟨g, -⟩ | ⟨-, g⟩
    · exact g.symm
    · exact absurd h g
  obtain ⟨nm, az, cz, es, sa, cs, ss⟩ := x
  have HX := Lib.hid hX
  have HO := Lib.hid hO
  obtain ⟨m, hm⟩ : ∃ m, es.length = m := ⟨_, rfl⟩
  obtain ⟨k, hk⟩ : ∃ k, ss.length = k := ⟨_, rfl⟩
  have hml : maxLen ≤ 9223372036854775807 := by decide
  have hm1 : m ≤ 9223372036854775807 := by have := hO.ez; simp only [] at this; omega
  have hk1 : k ≤ 9223372036854775807 := by have := hO.sz; simp only [] at this; omega
  have X0 := Lib.hid (BlkN.make (Below.refl w.heap.size w) #[.string ⟨nm.toArray⟩, .slice az m cz, .slice sa k cs] 27)
  obtain ⟨c0, c1, c2⟩ := cel3 X0.out.blk
  unfold wvV
  simp only [hm, hk]
  have HM := Lib.hid hm
  have HK := Lib.hid hk
  clear hX hO hv hm hk hml c0
  go_enter Tryz.func6, Tryz.ntmps6
  repeat (first | go_values | go_skip | go_guarded | go_step | go_upon | go_back)
  go_loopw [3] (fun vi wr => ∃ i : Nat, vi = .int .i64 i ∧ i ≤ m ∧ (∀ j e, j < i → es[j]? = some e → FewE e) ∧ BlkN w w.heap.size #[.string ⟨nm.toArray⟩, .slice az m cz, .slice sa k cs] 27 wr) (fun vi _ => m - (intOf vi).toNat)
  case atStart => exact ⟨0, rfl, Nat.zero_le _, fun j z h => absurd h (by omega), X0.out⟩
  case round =>
    clear X0 c1 c2
    obtain ⟨i, rfl, i1, ha, hX⟩ := hrel
    obtain ⟨-, c1, c2⟩ := cel3 hX.blk
    have NA := Lib.hid ha
    have X := Lib.hid hX
    clear ha hX
    by_cases hlt : i < m
    · have hii : (i : Int) < (m : Int) := by omega
      obtain ⟨e, he⟩ : ∃ e, es[i]? = some e := ⟨_, List.getElem?_eq_getElem (by rw [HM.out]; exact hlt)⟩
      obtain ⟨L, off, haz, hL, e0, e1, e2, e3, e4, e5, e6, e7, e8, e9, e10, e11⟩ := era_cells (HX.out.es.next X.out.bel) he
      simp only at haz
      subst haz
      have NOE : Hid (¬ FewE e → false = v) := Lib.hid fun h => NO.out fun g => h (g.es e (List.mem_of_getElem? he))
      have HE := Lib.hid he
      have wi : IntKind.i64.wrap ((i : Int) + 1) = (i : Int) + 1 := IntWalk.i64_in _ (by omega)
      have Z1 := Lib.hid (BlkN.make X.out.bel (cE e) 54)
      have Z2 := Lib.hid (Z1.out.more (.cells (cU e) 52))
      have Z3 := Lib.hid (BlkN.make Z1.out.bel (cU e) 52)
      have CK : Hid (∀ W, Calls Tryz.prog 26 #[.agg #[.int .i64 e.dk, .int .i64 e.dw, .int .i64 e.dn]] W fun x w' => x = .returned (.int .i64 (dfE e.dk e.dw e.dn)) ∧ Below W.heap.size W w') := fun W => dcheck_is _ _ _ _ W (Lib.hid rfl)
      have IFF : Hid (dfE e.dk e.dw e.dn = 0 ↔ dfD e.dk e.dw e.dn) := Lib.hid dfE_ok
      clear he hL
      obtain ⟨of, rl, sv, fm, en, uy, um, dk, dw, dn, sc, ck⟩ := e
      unfold cE at Z1
      unfold cE cU at Z2 Z3
      simp only at *
      obtain ⟨x0, x1, x2, x3, x4, x5, x6, x7, x8, x9, x10, x11⟩ := cells12 Z1.out.blk
      obtain ⟨y0, y1, y2, y3, y4, y5, y6, y7, y8, y9, y10, y11⟩ := cells12 Z2.out.blk
      obtain ⟨z0, z1, z2, z3, z4, z5, z6⟩ := cells7 Z3.out.blk
      simp only [World.size_alloc] at z0 z1 z2 z3 z4 z5 z6
      by_cases qL : (100 : Int) < (fm.length : Int)
      · have R := Lib.hid (NOE.out (by unfold FewE; simp only; intro h; omega))
        repeat (first
          | (go_at_call 26; (with_reducible refine (CK.out _).mono ?_); (rintro x w1 ⟨rfl, k1⟩); simp only [])
          | go_values | go_skip | go_guarded | go_step | go_upon | go_back)
        go_ret
        exact ⟨retb2 R.out, Z3.out.bel⟩
      cases en with
      | false =>
        have S : Hid (FewE ⟨of, rl, sv, fm, false, uy, um, dk, dw, dn, sc, ck⟩) := Lib.hid ⟨by simp only; omega, fun h => by cases h⟩
        repeat (first
          | (go_at_call 26; (with_reducible refine (CK.out _).mono ?_); (rintro x w1 ⟨rfl, k1⟩); simp only [])
          | go_values | go_skip | go_guarded | go_step | go_upon | go_back)
        go_roundw
        case rel => exact ⟨i + 1, by go_num, by omega, fun j z hj hz => by
          rcases Nat.lt_or_ge j i with h | h
          · exact NA.out j z h hz
          · obtain rfl : j = i := by omega
            rw [HE.out] at hz; cases hz; exact S.out, (X.out.more _).more _⟩
        case measure => simp [intOf]; omega
      | true =>
        by_cases q0 : uy < 1900
        · have R := Lib.hid (NOE.out (by unfold FewE; simp only; intro h; have := h.2 trivial; omega))
          repeat (first
            | (go_at_call 26; (with_reducible refine (CK.out _).mono ?_); (rintro x w1 ⟨rfl, k1⟩); simp only [])
            | go_values | go_skip | go_guarded | go_step | go_upon | go_back)
          go_ret
          exact ⟨retb2 R.out, Z3.out.bel⟩
        by_cases q1 : 2090 < uy
        · have R := Lib.hid (NOE.out (by unfold FewE; simp only; intro h; have := h.2 trivial; omega))
          repeat (first
            | (go_at_call 26; (with_reducible refine (CK.out _).mono ?_); (rintro x w1 ⟨rfl, k1⟩); simp only [])
            | go_values | go_skip | go_guarded | go_step | go_upon | go_back)
          go_ret
          exact ⟨retb2 R.out, Z3.out.bel⟩
        by_cases q2 : um < 1
        · have R := Lib.hid (NOE.out (by unfold FewE; simp only; intro h; have := h.2 trivial; omega))
          repeat (first
            | (go_at_call 26; (with_reducible refine (CK.out _).mono ?_); (rintro x w1 ⟨rfl, k1⟩); simp only [])
            | go_values | go_skip | go_guarded | go_step | go_upon | go_back)
          go_ret
          exact ⟨retb2 R.out, Z3.out.bel⟩
        by_cases q3 : 12 < um
        · have R := Lib.hid (NOE.out (by unfold FewE; simp only; intro h; have := h.2 trivial; omega))
          repeat (first
            | (go_at_call 26; (with_reducible refine (CK.out _).mono ?_); (rintro x w1 ⟨rfl, k1⟩); simp only [])
            | go_values | go_skip | go_guarded | go_step | go_upon | go_back)
          go_ret
          exact ⟨retb2 R.out, Z3.out.bel⟩
        by_cases q4 : sc < -172800
        · have R := Lib.hid (NOE.out (by unfold FewE; simp only; intro h; have := h.2 trivial; omega))
          repeat (first
            | (go_at_call 26; (with_reducible refine (CK.out _).mono ?_); (rintro x w1 ⟨rfl, k1⟩); simp only [])
            | go_values | go_skip | go_guarded | go_step | go_upon | go_back)
          go_ret
          exact ⟨retb2 R.out, Z3.out.bel⟩
        by_cases q5 : 259200 < sc
        · have R := Lib.hid (NOE.out (by unfold FewE; simp only; intro h; have := h.2 trivial; omega))
          repeat (first
            | (go_at_call 26; (with_reducible refine (CK.out _).mono ?_); (rintro x w1 ⟨rfl, k1⟩); simp only [])
            | go_values | go_skip | go_guarded | go_step | go_upon | go_back)
          go_ret
          exact ⟨retb2 R.out, Z3.out.bel⟩
        obtain ⟨v0, hv0⟩ : ∃ v0, dfE dk dw dn = v0 := ⟨_, rfl⟩
        rw [hv0] at CK IFF
        clear hv0
        by_cases q9 : v0 = 0
        · subst q9
          have S : Hid (FewE ⟨of, rl, sv, fm, true, uy, um, dk, dw, dn, sc, ck⟩) := Lib.hid ⟨by simp only; omega, fun _ => by simp only; exact ⟨by omega, by omega, by omega, by omega, by omega, by omega, IFF.out.1 rfl⟩⟩
          repeat (first
            | (go_at_call 26; (with_reducible refine (CK.out _).mono ?_); (rintro x w1 ⟨rfl, k1⟩); simp only [])
            | go_values | go_skip | go_guarded | go_step | go_upon | go_back)
          go_roundw
          case rel => exact ⟨i + 1, by go_num, by omega, fun j z hj hz => by
            rcases Nat.lt_or_ge j i with h | h
            · exact NA.out j z h hz
            · obtain rfl : j = i := by omega
              rw [HE.out] at hz; cases hz; exact S.out, ((X.out.more _).more _).next k1⟩
          case measure => simp [intOf]; omega
        · have q9' : (v0 != 0) = true := by simp [q9]
          have R := Lib.hid (NOE.out (by unfold FewE; simp only; intro h; exact q9 (IFF.out.2 (h.2 trivial).2.2.2.2.2.2)))
          repeat (first
            | (go_at_call 26; (with_reducible refine (CK.out _).mono ?_); (rintro x w1 ⟨rfl, k1⟩); simp only [])
            | go_values | go_skip | go_guarded | go_step | go_upon | go_back)
          go_ret
          exact ⟨retb2 R.out, bthen Z3.out.bel k1⟩
    · obtain rfl : i = m := by omega
      have hii : ¬ ((i : Nat) : Int) < (i : Int) := by omega
      have ALL : Hid (∀ e ∈ es, FewE e) := Lib.hid fun e he => by
        obtain ⟨j, hj, e'⟩ := List.mem_iff_getElem.1 he
        exact NA.out j e (by rw [HM.out] at hj; omega) (by rw [List.getElem?_eq_getElem hj, e'])
      clear NA
      repeat (first | go_values | go_skip | go_guarded | go_step | go_upon | go_back)
      go_loopw [6] (fun vi wr => ∃ j : Nat, vi = .int .i64 j ∧ j ≤ k ∧ (∀ a s, a < j → ss[a]? = some s → FewS s.rs) ∧ BlkN w w.heap.size #[.string ⟨nm.toArray⟩, .slice az i cz, .slice sa k cs] 27 wr) (fun vi _ => k - (intOf vi).toNat)
      case atStart => exact ⟨0, rfl, Nat.zero_le _, fun j z h => absurd h (by omega), X.out⟩
      case round =>
        clear X c1 c2
        obtain ⟨j, rfl, j1, ha, hX⟩ := hrel
        obtain ⟨-, c1, c2⟩ := cel3 hX.blk
        have NA := Lib.hid ha
        have X := Lib.hid hX
        clear ha hX
        by_cases hlt : j < k
        · have hjj : (j : Int) < (k : Int) := by omega
          obtain ⟨s, hs⟩ : ∃ s, ss[j]? = some s := ⟨_, List.getElem?_eq_getElem (by rw [HK.out]; exact hlt)⟩
          obtain ⟨L, off, hsa, hL, s0, s1⟩ := set_cells (HX.out.ss.next X.out.bel) hs
          simp only at hsa
          subst hsa
          have HS := Lib.hid hs
          have hmem := List.mem_of_getElem? hs
          have HRZ := Lib.hid (HO.out.rz s hmem)
          obtain ⟨nn, hnn⟩ : ∃ n, s.rs.length = n := ⟨_, rfl⟩
          rw [hnn] at s1
          have hml : maxLen ≤ 9223372036854775807 := by decide
          have hnn1 : nn ≤ 9223372036854775807 := by have := HRZ.out.1; omega
          have HNN := Lib.hid hnn
          have RL := Lib.hid (HX.out.rl s hmem)
          have NOS : Hid (¬ FewS s.rs → false = v) := Lib.hid fun h => NO.out fun g => h (g.ss s hmem)
          clear hs hmem hnn hml s0 hL
          by_cases hf : FewS s.rs
          · have RT := Lib.hid (fun W (kk : Below w.heap.size w W) => fright_is s.a nn s.c s.rs true W (RL.out.next kk) HNN.out hnn1 (Lib.hid (.inl ⟨rfl, hf⟩)))
            have HF := Lib.hid hf
            clear hf
            repeat (first
              | (go_at_call 27; (with_reducible refine (RT.out _ X.out.bel).mono ?_); (rintro e w1 ⟨⟨y, rfl⟩, k1⟩); have X1 := Lib.hid (X.out.next k1); clear k1; simp only [])
              | go_values | go_skip | go_guarded | go_step | go_upon | go_back)
            go_roundw
            case rel => exact ⟨j + 1, by go_num, by omega, fun a z ha hz => by
              rcases Nat.lt_or_ge a j with h | h
              · exact NA.out a z h hz
              · obtain rfl : a = j := by omega
                rw [HS.out] at hz; cases hz; exact HF.out, X1.out⟩
            case measure => simp [intOf]; omega
          · have RT := Lib.hid (fun W (kk : Below w.heap.size w W) => fright_is s.a nn s.c s.rs false W (RL.out.next kk) HNN.out hnn1 (Lib.hid (.inr ⟨rfl, hf⟩)))
            have R := Lib.hid (NOS.out hf)
            clear hf
            repeat (first
              | (go_at_call 27; (with_reducible refine (RT.out _ X.out.bel).mono ?_); (rintro e w1 ⟨⟨y, rfl⟩, k1⟩); have X1 := Lib.hid (X.out.next k1); clear k1; simp only [])
              | go_values | go_skip | go_guarded | go_step | go_upon | go_back)
            go_ret
            exact ⟨retb2 R.out, X1.out.bel⟩
        · obtain rfl : j = k := by omega
          have hjj : ¬ ((j : Nat) : Int) < (j : Int) := by omega
          have ALS : Hid (∀ s ∈ ss, FewS s.rs) := Lib.hid fun s hs => by
            obtain ⟨a, ha, e'⟩ := List.mem_iff_getElem.1 hs
            exact NA.out a s (by rw [HK.out] at ha; omega) (by rw [List.getElem?_eq_getElem ha, e'])
          clear NA
          by_cases n4 : (i : Int) ≤ 4
          · by_cases n3 : (j : Int) ≤ 3
            · have R := Lib.hid (YES.out ⟨ALL.out, ALS.out, by simp only [HM.out]; omega, by simp only [HK.out]; omega⟩)
              repeat (first | go_values | go_skip | go_guarded | go_step | go_upon | go_back)
              go_ret
              exact ⟨retb2 R.out, X.out.bel⟩
            · have R := Lib.hid (NO.out fun h => by have := h.ns; simp only [HK.out] at this; omega)
              repeat (first | go_values | go_skip | go_guarded | go_step | go_upon | go_back)
              go_ret
              exact ⟨retb2 R.out, X.out.bel⟩
          · have R := Lib.hid (NO.out fun h => by have := h.ne; simp only [HM.out] at this; omega)
            repeat (first | go_values | go_skip | go_guarded | go_step | go_upon | go_back)
            go_ret
            exact ⟨retb2 R.out, X.out.bel⟩
end Go.Proofs.YtdmfgechoanmlaaGreatDoor
