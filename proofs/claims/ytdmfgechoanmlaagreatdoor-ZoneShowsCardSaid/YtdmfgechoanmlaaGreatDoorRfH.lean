/- The contract of the document's answer's All: all firings of rules in some years, in order; nothing that was in memory changes. -/
import Derived.Test.YtdmfgechoanmlaaGreatDoorMZY
import Derived.Test.YtdmfgechoanmlaaGreatDoorMZZ
import Derived.Lib.MinMax
namespace Go.Proofs.YtdmfgechoanmlaaGreatDoor
open Go Go.RowKit

def allN (rs : List RV) (a b : Int) : Nat → List PV
  | 0 => []
  | i + 1 => allN rs a b i ++ (rs[i]?).toList.flatMap fun r => (frA r a b).map fun p => (p.2, i)
theorem allN_snoc {rs : List RV} {a b : Int} {i : Nat} {r : RV} (h : rs[i]? = some r) : allN rs a b (i + 1) = allN rs a b i ++ (frA r a b).map fun p => (p.2, i) := by rw [allN, h]; simp
theorem allN_pl {rs : List RV} {a b : Int} {n : Nat} : ∀ q ∈ allN rs a b n, q.2 < n := by
  induction n with
  | zero => intro q hq; cases hq
  | succ n ih =>
    intro q hq
    rw [allN, List.mem_append] at hq
    rcases hq with hq | hq
    · have := ih q hq; omega
    · obtain ⟨r, -, hr⟩ := List.mem_flatMap.1 hq
      obtain ⟨p, -, rfl⟩ := List.mem_map.1 hr
      exact Nat.lt_succ_self n
theorem allN_fst {rs : List RV} {a b : Int} {n : Nat} (hn : n ≤ rs.length) : (allN rs a b n).map Prod.fst = allF (rs.take n) a b := by
  induction n with
  | zero => simp [allN, allF]
  | succ n ih =>
    have hr := List.getElem?_eq_getElem (l := rs) (i := n) (by omega)
    rw [allN_snoc hr, allF_snoc hr, List.map_append, ih (by omega), List.map_map]
    rfl
theorem ins_fst (x : PV) (l : List PV) : (ins ltP x l).map Prod.fst = ins (ltOf cfF) x.1 (l.map Prod.fst) := by
  induction l with
  | nil => rfl
  | cons y r ih =>
    have e : ltOf cfF x.1 y.1 = ltP x y := by rw [lt_cfF]; rfl
    show List.map Prod.fst (ins ltP x (y :: r)) = ins (ltOf cfF) x.1 (y.1 :: r.map Prod.fst)
    unfold ins
    rw [e]
    split
    · rfl
    · rw [List.map_cons, ih]
theorem mrg_fst (A B : List PV) : (mrg ltP A B).map Prod.fst = mrg (ltOf cfF) (A.map Prod.fst) (B.map Prod.fst) := by
  induction B generalizing A with
  | nil => rfl
  | cons b B ih => rw [mrg_cons, ih, ins_fst]; rfl
theorem iso_fst (l : List PV) : (iso ltP l).map Prod.fst = iso (ltOf cfF) (l.map Prod.fst) := mrg_fst [] l
theorem frA_at {r : RV} {a b F : Int} {M : Nat} (ha : -90000 ≤ a) (hb : b ≤ 90000) (hF : max a r.fr = F) (hM : M = (min b r.tl + 1 - F).toNat) : frA r a b = frL r F M := by
  unfold frA
  have e1 : max (max a r.fr) (-100000) = F := by omega
  have e2 : min (min b r.tl) 100000 = min b r.tl := by omega
  rw [e1, e2, hM]

def POut (v : Value) (l : List PV) (W : World) : Prop := (v = .slice none 0 0 ∧ l = []) ∨ ∃ g c, v = .slice (some ⟨g, 0, none⟩) l.length c ∧ PAt (some ⟨g, 0, none⟩) l W ∧ l.length ≤ c
theorem POut.next {v : Value} {l : List PV} {W W1 : World} (h : POut v l W) (k : Below W.heap.size W W1) : POut v l W1 := by
  rcases h with h | ⟨g, c, e, hp, hc⟩
  · exact .inl h
  · exact .inr ⟨g, c, e, RowsAt.next hp k, hc⟩
theorem xput_any (v : Value) (l : List PV) (f : PV) (w : World) (hv : POut v l w) (hl : l.length ≤ 100000) (hs : Srt ltP l) (hq : ∀ q ∈ l, q.2 ≤ f.2) :
    Calls Tryz.prog 66 #[v, pvV f] w fun e w' => ∃ v', e = .returned v' ∧ POut v' (ins ltP f l) w' ∧ Below w.heap.size w w' := by
  rcases hv with ⟨rfl, rfl⟩ | ⟨g, c, rfl, hp, hc⟩
  · exact (xput_no f w).mono fun e w' ⟨g, c', h1, h2, h3⟩ => ⟨_, h1, .inr ⟨g, c', by rw [ins_len]; rfl, h2.1, by rw [ins_len]; exact h2.2⟩, h3⟩
  · exact (xput_is g l.length c l f w hp rfl hc hl hs hq).mono fun e w' ⟨g', c', h1, h2, h3⟩ => ⟨_, h1, .inr ⟨g', c', by rw [ins_len], h2.1, by rw [ins_len]; exact h2.2⟩, h3⟩

def AllIs (l : List PV) (w : World) (e : Ending) (w' : World) : Prop := ∃ v, e = .returned v ∧ POut v l w' ∧ Below w.heap.size w w'

set_option maxRecDepth 20000 in
set_option maxHeartbeats 8000000 in
theorem xall_is (A0 : Option Addr) (n c0 : Nat) (rs : List RV) (a b : Int) (w : World) (hR : RowsAt 11 cR A0 rs w) (hn : rs.length = n) (hn1 : n ≤ 6) (hok : ∀ r ∈ rs, okR r) (ha : -90000 ≤ a) (hb : b ≤ 90000) (hab : b - a ≤ 5000) :
    Calls Tryz.prog 47 #[.slice A0 n c0, .int .i64 a, .int .i64 b] w (AllIs (iso ltP (allN rs a b n)) w) := by
  have HR := Lib.hid hR
  have HN := Lib.hid hn
  have OK := Lib.hid hok
  have X0 := Lib.hid (Below.refl w.heap.size w)
  clear hR hn hok
  go_enter Tryz.func47, Tryz.ntmps47
  go_wp2
  go_loopw [7, 8] (fun v vi wr => ∃ i : Nat, vi = .int .i64 i ∧ i ≤ n ∧ POut v (iso ltP (allN rs a b i)) wr ∧ Below w.heap.size w wr) (fun _ vi _ => n - (intOf vi).toNat)
  case atStart => exact ⟨0, rfl, Nat.zero_le _, .inl ⟨rfl, rfl⟩, X0.out⟩
  case round =>
    clear X0
    obtain ⟨i, rfl, i1, hO, hX⟩ := hrel
    have O := Lib.hid hO
    have X := Lib.hid hX
    clear hO hX
    by_cases hlt : i < n
    · have hii : (i : Int) < (n : Int) := by omega
      obtain ⟨r, hr⟩ : ∃ r, rs[i]? = some r := ⟨_, List.getElem?_eq_getElem (by rw [HN.out]; exact hlt)⟩
      obtain ⟨L, off, rfl, hrul⟩ := rul_at HR.out hr
      obtain ⟨r0, r1, r2, r3, r4, r5, r6, r7, r8, r9, r10⟩ := (hrul.next X.out).cells
      have HRI := Lib.hid hr
      have OKR := Lib.hid (OK.out r (List.mem_of_getElem? hr))
      have B0 := Lib.hid (BlkN.make X.out (cR r) 112)
      obtain ⟨g0, g1, g2, g3, g4, g5, g6, g7, g8, g9, g10⟩ := cells11 B0.out.blk
      obtain ⟨F, hF⟩ : ∃ F, max a r.fr = F := ⟨_, rfl⟩
      obtain ⟨M, hM⟩ : ∃ M, M = (min b r.tl + 1 - F).toNat := ⟨_, rfl⟩
      have FA : Hid (frA r a b = frL r F M) := Lib.hid (frA_at ha hb hF hM)
      have hFa : a ≤ F ∧ r.fr ≤ F := by omega
      have HF := Lib.hid hF
      have LB : Hid (∀ j, j ≤ M → (allN rs a b i ++ (frL r F j).map fun p => (p.2, i)).length ≤ 100000) := Lib.hid fun j hj => by
        have e1 : (allN rs a b i).length = (allF (rs.take i) a b).length := by rw [← allN_fst (by rw [HN.out]; omega), List.length_map]
        have e2 := allF_len hab (rs.take i)
        have e3 : (rs.take i).length ≤ 6 := by rw [List.length_take, HN.out]; omega
        have e4 := frL_len r F j
        have e5 := Nat.mul_le_mul_right 5001 e3
        rw [List.length_append, List.length_map, e1]
        omega
      have HM := Lib.hid hM
      clear hr hrul hF hM
      go_wp2
      clear r0 r1 r2 r3 r4 r5 r6 r7 r8 r9 r10 g0 g1 g2 g3 g4 g5 g6 g7 g8 g9 g10
      go_loopw [7, 10] (fun v vy wq => ∃ j : Nat, vy = .int .i64 (F + j) ∧ j ≤ M ∧ POut v (iso ltP (allN rs a b i ++ (frL r F j).map fun p => (p.2, i))) wq ∧ BlkN w wr.heap.size (cR r) 112 wq) (fun _ vy _ => (b + 1 - intOf vy).toNat)
      case atStart => exact ⟨0, by rw [HF.out]; simp, Nat.zero_le _, by simpa [frL] using O.out.next ((Below.refl _ _).alloc (Nat.le_refl _) _), B0.out⟩
      case round =>
        clear O B0
        obtain ⟨j, rfl, j1, hO2, hB2⟩ := hrel
        have O2 := Lib.hid hO2
        have B2 := Lib.hid hB2
        obtain ⟨g0, g1, g2, g3, g4, g5, g6, g7, g8, g9, g10⟩ := cells11 hB2.blk
        have hl2 := LB.out j j1
        have RT := Lib.hid (show Srt ltP (iso ltP (allN rs a b i ++ (frL r F j).map fun p => (p.2, i))) from iso_srt wordP _)
        have PL : Hid (∀ q ∈ iso ltP (allN rs a b i ++ (frL r F j).map fun p => (p.2, i)), q.2 ≤ i) := Lib.hid fun q hq => by
          rw [iso_mem, List.mem_append] at hq
          rcases hq with hq | hq
          · exact Nat.le_of_lt (allN_pl q hq)
          · obtain ⟨p, -, rfl⟩ := List.mem_map.1 hq
            exact Nat.le_refl _
        clear hO2 hB2
        by_cases hy : F + (j : Int) ≤ b
        · by_cases hy2 : F + (j : Int) ≤ r.tl
          · have okr := OKR.out
            have jM : j + 1 ≤ M := by have := HM.out; omega
            have ynr : nrY (F + (j : Int)) := ⟨by omega, by omega⟩
            obtain ⟨T, hT⟩ : ∃ T, tgtD r.dk r.dw r.dn (F + (j : Int)) r.mo = T := ⟨_, rfl⟩
            by_cases hdn : r.dn ≤ dim (F + (j : Int)) r.mo
            · have tn := tgt_near (wk := r.dw) okr.1 ynr okr.2.1 okr.2.2.1 hdn
              rw [hT] at tn
              have sc1 := okr.2.2.2.1
              have sc2 := okr.2.2.2.2
              have DY := Lib.hid fun W => xday_yes r.dk r.dw r.dn (F + (j : Int)) r.mo T W (by omega) (by omega) okr.2.1 okr.2.2.1 okr.1 hdn hT
              have fy : frY r (F + (j : Int)) := ⟨by omega, hy2, hdn⟩
              have EJ : Hid (iso ltP (allN rs a b i ++ (frL r F (j + 1)).map fun p => (p.2, i)) = ins ltP (⟨86400 * T + r.sc, r.ck, r.sv, r.lt⟩, i) (iso ltP (allN rs a b i ++ (frL r F j).map fun p => (p.2, i)))) := Lib.hid (by
                have e : frF r (F + (j : Int)) = ⟨86400 * T + r.sc, r.ck, r.sv, r.lt⟩ := by unfold frF; rw [hT, Int.mul_comm]
                rw [frL_yes fy, List.map_append, ← List.append_assoc, ← e]
                exact iso_snoc _ _)
              have PU : Hid (∀ W, Below wr.heap.size wr W → Calls Tryz.prog 66 #[u7, .agg #[.int .i64 (86400 * T + r.sc), .int .i64 r.ck, .int .i64 r.sv, .int .i64 (i : Int), .string ⟨r.lt.toArray⟩]] W fun e w' => ∃ v', e = .returned v' ∧ POut v' (ins ltP (⟨86400 * T + r.sc, r.ck, r.sv, r.lt⟩, i) (iso ltP (allN rs a b i ++ (frL r F j).map fun p => (p.2, i)))) w' ∧ Below W.heap.size W w') := Lib.hid fun W k =>
                xput_any u7 _ (⟨86400 * T + r.sc, r.ck, r.sv, r.lt⟩, i) W (O2.out.next k) (by rw [iso_len]; exact hl2) RT.out PL.out
              clear hT hdn fy okr
              go_wp2_with (first
                | (go_at_call 50; (with_reducible refine (DY.out _).mono ?_); (rintro e w1 ⟨rfl, k1⟩); have K1 := Lib.hid k1; have B3 := Lib.hid (B2.out.next k1); clear k1 g0 g1 g2 g3 g4 g5 g6 g7 g8 g9 g10; (obtain ⟨g0, g1, g2, g3, g4, g5, g6, g7, g8, g9, g10⟩ := cells11 B3.out.blk); simp only [])
                | (go_at_call 66; (with_reducible refine (PU.out _ K1.out).mono ?_); (rintro e w2 ⟨v2, rfl, o2, k2⟩); have O4 := Lib.hid o2; have B4 := Lib.hid (B3.out.next k2); clear k2 o2; simp only []))
              go_round
              case rel => exact ⟨j + 1, by simp [Int.add_assoc], jM, by rw [EJ.out]; exact O4.out, B4.out⟩
              case measure => simp [intOf]; omega
            · have DY := Lib.hid fun W => xday_no r.dk r.dw r.dn (F + (j : Int)) r.mo W (by omega) (by omega) okr.2.1 okr.2.2.1 okr.1 (by omega)
              have EJ : Hid (frL r F (j + 1) = frL r F j) := Lib.hid (frL_no fun h => hdn h.2.2)
              clear hT hdn okr
              go_wp2_with (go_at_call 50; (with_reducible refine (DY.out _).mono ?_); (rintro e w1 ⟨rfl, k1⟩); have K1 := Lib.hid k1; have B3 := Lib.hid (B2.out.next k1); clear k1; simp only [])
              go_round
              case rel => exact ⟨j + 1, by simp [Int.add_assoc], jM, by rw [EJ.out]; exact O2.out.next K1.out, B3.out⟩
              case measure => simp [intOf]; omega
          · have ej : j = M := by have := HM.out; omega
            have EN : Hid (allN rs a b (i + 1) = allN rs a b i ++ (frL r F j).map fun p => (p.2, i)) := Lib.hid (by rw [allN_snoc HRI.out, FA.out, ej])
            go_wp2
            go_round
            case rel => exact ⟨i + 1, rfl, by omega, by rw [EN.out]; exact O2.out, B2.out.bel⟩
            case measure => simp [intOf]; omega
        · have ej : j = M := by have := HM.out; omega
          have EN : Hid (allN rs a b (i + 1) = allN rs a b i ++ (frL r F j).map fun p => (p.2, i)) := Lib.hid (by rw [allN_snoc HRI.out, FA.out, ej])
          go_wp2
          go_round
          case rel => exact ⟨i + 1, rfl, by omega, by rw [EN.out]; exact O2.out, B2.out.bel⟩
          case measure => simp [intOf]; omega
    · obtain rfl : i = n := by omega
      go_wp2
      go_ret
      exact ⟨_, rfl, O.out, X.out⟩
theorem pout_form {v : Value} {ps : List PV} {W : World} {N : Nat} (h : POut v ps W) (hN : ps.length = N) : ∃ A c, v = .slice A N c ∧ Hid (PAt A ps W) ∧ N ≤ c := by
  subst hN
  rcases h with ⟨rfl, rfl⟩ | ⟨g, c, rfl, hp, hc⟩
  · exact ⟨none, 0, rfl, (fun i x hx => by simp at hx), Nat.le_refl _⟩
  · exact ⟨_, c, rfl, hp, hc⟩
end Go.Proofs.YtdmfgechoanmlaaGreatDoor
