/- What an era saves right ahead of its end, plain: the document's search over the whole row, and one near the end alone, find the same.
The contracts of zone.nominal, zone.near and zone.savedAhead: the second of an era's end, and what is saved right ahead of it.
The contract of zone.savedAhead: what an era saves right ahead of its end.
The contract of zone.End: the instant at which an era ends, or that it has no end. -/
import Derived.Test.YtdmfgechoanmlaaGreatDoorMZP
import Derived.Test.YtdmfgechoanmlaaGreatDoorMZE
import Derived.Test.YtdmfgechoanmlaaGreatDoorMZQ
import Derived.Test.YtdmfgechoanmlaaGreatDoorZmH
import Derived.Test.YtdmfgechoanmlaaGreatDoorZmI
import Derived.Test.YtdmfgechoanmlaaGreatDoorMZN
namespace Go.Proofs.YtdmfgechoanmlaaGreatDoor
open Go Go.RowKit Go.Sort

/-- What is saved right ahead of an end, by rules that fire. -/
def svE (off n : Int) : Int → List FV → Int
  | sv, [] => sv
  | sv, f :: l => if n - off - sv ≤ inF f off sv then sv else svE off n f.sv l
theorem svE_low {off n : Int} (h1 : -90000 < off) (h2 : off < 90000) : ∀ (A R : List FV) (sv : Int), -90000 < sv → sv < 90000 → (∀ f ∈ A, (-90000 < f.sv ∧ f.sv < 90000) ∧ f.nm ≤ n - 180000) → svE off n sv (A ++ R) = svE off n (lastS sv A) R
  | [], _, _, _, _, _ => rfl
  | f :: A, R, sv, s1, s2, h => by
    have hf := h f (by simp)
    have hlt : ¬ n - off - sv ≤ inF f off sv := by
      unfold inF
      split
      · omega
      · split <;> omega
    rw [List.cons_append, svE, if_neg hlt, lastS_cons, svE_low h1 h2 A R f.sv hf.1.1 hf.1.2 (fun g hg => h g (by simp [hg]))]
theorem svE_high {off n : Int} (h1 : -90000 < off) (h2 : off < 90000) : ∀ (A C : List FV) (sv : Int), -90000 < sv → sv < 90000 → (∀ f ∈ A, -90000 < f.sv ∧ f.sv < 90000) → (∀ f ∈ C, n + 180000 ≤ f.nm) → svE off n sv (A ++ C) = svE off n sv A
  | [], [], _, _, _, _, _ => rfl
  | [], c :: C, sv, s1, s2, _, h => by
    have hc := h c (by simp)
    have hle : n - off - sv ≤ inF c off sv := by
      unfold inF
      split
      · omega
      · split <;> omega
    show svE off n sv (c :: C) = sv
    rw [svE, if_pos hle]
  | f :: A, C, sv, s1, s2, hA, hC => by
    have hf := hA f (by simp)
    rw [List.cons_append, svE, svE]
    split
    · rfl
    · exact svE_high h1 h2 A C f.sv hf.1 hf.2 (fun g hg => hA g (by simp [hg])) hC
theorem svE_bd {off n : Int} : ∀ (A : List FV) (sv : Int), -90000 < sv → sv < 90000 → (∀ f ∈ A, -90000 < f.sv ∧ f.sv < 90000) → -90000 < svE off n sv A ∧ svE off n sv A < 90000
  | [], _, s1, s2, _ => ⟨s1, s2⟩
  | f :: A, sv, s1, s2, h => by
    rw [svE]
    split
    · exact ⟨s1, s2⟩
    · exact svE_bd A f.sv (h f (by simp)).1 (h f (by simp)).2 (fun g hg => h g (by simp [hg]))
theorem win_all {L : List FV} {m M : Int} (h : ∀ f ∈ L, m ≤ f.nm ∧ f.nm < M) : win L m M = L := by
  unfold win
  exact List.filter_eq_self.2 fun f hf => by simpa using h f hf
theorem svE_row {L : List FV} (hL : Apt L) {off n m M : Int} (h1 : -90000 < off) (h2 : off < 90000) (hm : ∀ f ∈ L, m ≤ f.nm ∧ f.nm < M) (h3 : m ≤ n - 180000 + 1) (h4 : n + 180000 ≤ M) :
    svE off n 0 L = svE off n (lastS 0 (win L m (n - 180000 + 1))) (win L (n - 180000 + 1) (n + 180000)) := by
  have e1 : win L m (n - 180000 + 1) ++ (win L (n - 180000 + 1) (n + 180000) ++ win L (n + 180000) M) = L := by
    rw [win_app hL.ris (by omega) h4, win_app hL.ris h3 (by omega), win_all hm]
  have hsv : ∀ {a b : Int}, ∀ f ∈ win L a b, -90000 < f.sv ∧ f.sv < 90000 := fun f hf => hL.1 f (win_mem.1 hf).1
  have hb := lastS_bd (l := win L m (n - 180000 + 1)) (sv := 0) hsv (by omega) (by omega)
  calc svE off n 0 L = svE off n 0 (win L m (n - 180000 + 1) ++ (win L (n - 180000 + 1) (n + 180000) ++ win L (n + 180000) M)) := by rw [e1]
    _ = svE off n (lastS 0 (win L m (n - 180000 + 1))) (win L (n - 180000 + 1) (n + 180000) ++ win L (n + 180000) M) := svE_low h1 h2 _ _ 0 (by omega) (by omega) fun f hf => ⟨hsv f hf, by have := (win_mem.1 hf).2; omega⟩
    _ = _ := svE_high h1 h2 _ _ _ hb.1 hb.2 hsv fun f hf => by have := (win_mem.1 hf).2; omega
theorem ny_two (y : Int) : ny y + 730 ≤ ny (y + 2) := by
  have a := ny_succ y
  have b := ny_succ (y + 1)
  rw [show y + 1 + 1 = y + 2 by omega] at b
  rcases lp_01 y with h | h <;> rcases lp_01 (y + 1) with h' | h' <;> omega
/-- The program's search: behind the last firing that is far ahead, over those that are near. -/
theorem svE_near {rs : List RV} {off n y : Int} {f : FV} {b : Bool} (hok : ∀ r ∈ rs, okR r ∧ 1900 ≤ r.fr) (hL : Apt (rowF rs)) (h1 : -90000 < off) (h2 : off < 90000) (y1 : 1900 ≤ y) (y2 : y ≤ 2090) (n1 : (ny y - 20) * 86400 ≤ n) (n2 : n ≤ (ny y + 380) * 86400) (h : AheadIs rs (n - 180000 + 1) f b) :
    svE off n f.sv ((iso (ltOf cfF) (allF rs (y - 1) (y + 1))).filter fun g => decide (n - 180000 < g.nm)) = svE off n 0 (rowF rs) := by
  have m1 := ny_mono 1900 y y1
  have m2 := ny_mono y 2090 y2
  have e1 : ny 1900 = -25567 := by decide
  have e2 : ny 2090 = 43830 := by decide
  have hs : ySec (n - 180000 + 1) + 1 ≤ 2110 := by
    have := ySec_lt (s := n - 180000 + 1) (k := 2100) (by rw [show ny 2100 = 47482 by decide]; omega)
    omega
  have hw := chk_win (rs := rs) (lo := n - 180000 + 1) (hi := n + 180000) hL.ris (a := y - 1) (b := y + 1) (by omega) (by omega) fun r hr z hz k1 k2 => by
    have hb := frF_bd (hok r hr).1 hz
    refine ⟨Int.not_lt.1 fun hlt => ?_, Int.not_lt.1 fun hlt => ?_⟩
    · have := ny_mono (z + 2) y (by omega)
      have := ny_two z
      omega
    · have := ny_mono (y + 2) z (by omega)
      have := ny_two y
      omega
  have hK := chk_ris (a := y - 1) (b := y + 1) hL.ris (by omega) (by omega)
  have hmem : ∀ g ∈ iso (ltOf cfF) (allF rs (y - 1) (y + 1)), g ∈ rowF rs := fun g hg => by
    rw [iso_mem] at hg
    obtain ⟨r, hr, z, z1, z2, hz⟩ := (allF_mem (by omega) (by omega)).1 hg
    exact row_mem.2 ⟨r, hr, z, by omega, by omega, hz⟩
  generalize iso (ltOf cfF) (allF rs (y - 1) (y + 1)) = K at hw hK hmem
  have hfl : K.filter (fun g => decide (n - 180000 < g.nm)) = win K (n - 180000 + 1) (n + 180000) ++ win K (n + 180000) 5000000000 := by
    rw [win_app hK (by omega) (by omega)]
    unfold win
    refine List.filter_congr fun g hg => ?_
    have := (row_bd hok (hmem g hg)).2
    rw [decide_eq_decide]
    omega
  rw [hfl, hw, svE_row hL h1 h2 (m := -3000000000) (M := 5000000000) (fun g hg => row_bd hok hg) (by omega) (by omega), (ahead_row (m := -3000000000) hok hL.ris hs h fun g hg => (row_bd hok hg).1).2]
  have hb := ahead_svb hok hL hs h
  exact svE_high h1 h2 _ _ _ hb.1 hb.2 (fun g hg => hL.1 g (win_mem.1 hg).1) fun g hg => by have := (win_mem.1 hg).2; omega
/-- The nominal second of an end. -/
def nmU (e : EV) : Int := tgtD e.dk e.dw e.dn e.uy e.um * 86400 + e.sc
theorem nmU_bd {e : EV} (hd : dfD e.dk e.dw e.dn) (h1 : 1 ≤ e.um) (h2 : e.um ≤ 12) (hn : e.dn ≤ dim e.uy e.um) (s1 : -172800 ≤ e.sc) (s2 : e.sc ≤ 259200) : (ny e.uy - 20) * 86400 ≤ nmU e ∧ nmU e ≤ (ny e.uy + 380) * 86400 := by
  have h := atD_bd hd h1 h2 hn
  have h' := hitD_bd (k := e.dk) (wk := e.dw) (a := atD e.dk e.dn e.uy e.um)
  unfold nmU tgtD
  omega
end Go.Proofs.YtdmfgechoanmlaaGreatDoor

namespace Go.Proofs.YtdmfgechoanmlaaGreatDoor
open Go Go.RowKit Go.Sort
attribute [local go_sem] Oper.semAt_some
attribute [local go_sem] fvV

/-- An Until is a second. -/
def NomOk (e : EV) : Prop := 0 ≤ e.ck ∧ e.ck ≤ 2 ∧ inW e.dk e.dw e.dn e.uy e.um ∧ -604800 < e.sc ∧ e.sc < 604800
def uvV (e : EV) : Value := .agg (cU e)
set_option maxRecDepth 20000 in
theorem znom_is (e : EV) (n v : Int) (w : World) (hA : LaidF w) (h : Hid ((v = 0 ∧ NomOk e ∧ n = nmU e) ∨ (v = 10 ∧ ¬ NomOk e ∧ n = 0))) :
    Calls Tryz.prog 73 #[uvV e] w fun x w' => x = .returned (.tuple #[.int .i64 n, .int .i64 v]) ∧ Below w.heap.size w w' := by
  obtain ⟨a, b, c, e0, hd⟩ := dateis_ex e.dk e.dw e.dn e.uy e.um
  have IN := Lib.hid fun W (hW : LaidF W) => din_is e.dk e.dw e.dn e.uy e.um a b c e0 W hW (Lib.hid hd)
  have X0 := Lib.hid (BlkN.make (Below.refl w.heap.size w) (cU e) 52)
  obtain ⟨x0, x1, x2, x3, x4, x5, x6⟩ := cells7 X0.out.blk
  have HA := Lib.hid hA
  have H := h
  clear h hA
  unfold uvV
  by_cases k1 : e.ck < 0
  · obtain ⟨rfl, rfl⟩ : v = 10 ∧ n = 0 := by
      rcases H.out with ⟨-, h, -⟩ | ⟨h1, -, h2⟩
      · have := h.1; omega
      · exact ⟨h1, h2⟩
    clear IN hd H
    unfold cU at *
    go_enter Tryz.func73, Tryz.ntmps73
    repeat (first | go_values | go_skip | go_guarded | go_step | go_upon | go_back)
    go_ret2
    exact ⟨rfl, X0.out.bel⟩
  · by_cases k2 : 2 < e.ck
    · obtain ⟨rfl, rfl⟩ : v = 10 ∧ n = 0 := by
        rcases H.out with ⟨-, h, -⟩ | ⟨h1, -, h2⟩
        · have := h.2.1; omega
        · exact ⟨h1, h2⟩
      clear IN hd H
      unfold cU at *
      go_enter Tryz.func73, Tryz.ntmps73
      repeat (first | go_values | go_skip | go_guarded | go_step | go_upon | go_back)
      go_ret2
      exact ⟨rfl, X0.out.bel⟩
    · have C0 : ∀ W, Hid (BlkN w w.heap.size (cU e) 52 W) → Hid (BlkN w W.heap.size #[.int .i64 a, .int .i64 b, .int .i64 c] 167 (W.alloc (.cells #[.int .i64 a, .int .i64 b, .int .i64 c] 167))) := fun W h => Lib.hid (BlkN.make h.out.bel _ _)
      by_cases k3 : e0 = 0
      · subst k3
        obtain ⟨hin, hok, hday⟩ : inW e.dk e.dw e.dn e.uy e.um ∧ okD a b c ∧ dayN a b c = tgtD e.dk e.dw e.dn e.uy e.um := by
          rcases hd with ⟨-, h1, h2, h3⟩ | ⟨h, -⟩
          · exact ⟨h1, h2, h3⟩
          · omega
        have JN : Hid (∀ W, LaidF W → Calls Tryz.prog 93 #[.agg #[.int .i64 a, .int .i64 b, .int .i64 c], .int .i64 e.sc] W fun x w' => x = .returned (.tuple #[.int .i64 n, .int .i64 v]) ∧ Below W.heap.size W w') := fun W hW => by
          by_cases hs : -604800 < e.sc ∧ e.sc < 604800
          · obtain ⟨rfl, rfl⟩ : v = 0 ∧ n = dayN a b c * 86400 + e.sc := by
              rcases H.out with ⟨h1, -, h2⟩ | ⟨-, h, -⟩
              · exact ⟨h1, by rw [h2, hday]; rfl⟩
              · exact absurd ⟨by omega, by omega, hin, hs.1, hs.2⟩ h
            exact Join_yes a b c e.sc W hW.ah hok hs.1 hs.2
          · obtain ⟨rfl, rfl⟩ : v = 10 ∧ n = 0 := by
              rcases H.out with ⟨-, h, -⟩ | ⟨h1, -, h2⟩
              · exact absurd ⟨h.2.2.2.1, h.2.2.2.2⟩ hs
              · exact ⟨h1, h2⟩
            exact Join_no a b c e.sc W hW.ah (.inr hs)
        clear hd H hin hok hday
        unfold cU at *
        go_enter Tryz.func73, Tryz.ntmps73
        repeat (first
          | (go_at_call 92; refine (IN.out _ (HA.out.next X0.out.bel)).mono ?_; (rintro x w1 ⟨rfl, q1⟩)
             have X1 := Lib.hid (X0.out.next q1)
             have X2 := Lib.hid (X1.out.more (.cells #[.int .i64 a, .int .i64 b, .int .i64 c] 167))
             obtain ⟨c0, c1, c2⟩ := cel3 (C0 w1 X1).out.blk
             clear q1 x0 x1 x2 x3 x4 x5 x6
             obtain ⟨x0, x1, x2, x3, x4, x5, x6⟩ := cells7 X2.out.blk
             simp only [])
          | (go_at_call 93; refine (JN.out _ (HA.out.next X2.out.bel)).mono ?_; (rintro x w2 ⟨rfl, q2⟩)
             have X3 := Lib.hid (X2.out.next q2)
             clear q2
             simp only [])
          | go_values | go_skip | go_guarded | go_step | go_upon | go_back)
        go_ret2
        exact ⟨rfl, X3.out.bel⟩
      · obtain rfl : e0 = 10 := by
          rcases hd with ⟨h, -⟩ | ⟨h, -⟩
          · exact absurd h k3
          · exact h
        have hnin : ¬ inW e.dk e.dw e.dn e.uy e.um := by
          rcases hd with ⟨h, -⟩ | ⟨-, -, -, -, h⟩
          · omega
          · exact h
        obtain ⟨rfl, rfl⟩ : v = 10 ∧ n = 0 := by
          rcases H.out with ⟨-, h, -⟩ | ⟨h1, -, h2⟩
          · exact absurd h.2.2.1 hnin
          · exact ⟨h1, h2⟩
        clear hd H hnin
        unfold cU at *
        go_enter Tryz.func73, Tryz.ntmps73
        repeat (first
          | (go_at_call 92; refine (IN.out _ (HA.out.next X0.out.bel)).mono ?_; (rintro x w1 ⟨rfl, q1⟩)
             have X1 := Lib.hid (X0.out.next q1)
             have X2 := Lib.hid (X1.out.more (.cells #[.int .i64 a, .int .i64 b, .int .i64 c] 167))
             clear q1 x0 x1 x2 x3 x4 x5 x6
             simp only [])
          | go_values | go_skip | go_guarded | go_step | go_upon | go_back)
        go_ret2
        exact ⟨rfl, X2.out.bel⟩
/-- The firings of a year, of that ahead, and of that behind. -/
theorem znear_is (A0 : Option Addr) (n c0 : Nat) (rs : List RV) (y : Int) (w : World) (hA : LaidF w) (hR : RowsAt 11 cR A0 rs w) (hn : rs.length = n) (hn1 : n ≤ 1000) (hok : ∀ r ∈ rs, okR r) (y1 : 1900 ≤ y) (y2 : y ≤ 2090) :
    Calls Tryz.prog 95 #[.slice A0 n c0, .int .i64 y] w fun x w' => ∃ A c, x = .returned (.slice A (iso (ltOf cfF) (allF rs (y - 1) (y + 1))).length c) ∧ FirsAt A (iso (ltOf cfF) (allF rs (y - 1) (y + 1))) w' ∧ Below w.heap.size w w' := by
  have FN := Lib.hid (fin_yes A0 n c0 rs (y - 1) (y + 1) w hA hR hn hn1 hok (by omega) (by omega) (by omega) (by omega))
  have w1 : IntKind.i64.wrap (y - 1) = y - 1 := IntWalk.i64_in _ (by omega)
  have w2 : IntKind.i64.wrap (y + 1) = y + 1 := IntWalk.i64_in _ (by omega)
  have q1 := fmax2 Tryz.prog 3 (y - 1) (-100000) (y - 1) (by omega)
  have q2 := fmin2 Tryz.prog 3 (y + 1) 100000 (y + 1) (by omega)
  clear hA hR hn hok
  generalize iso (ltOf cfF) (allF rs (y - 1) (y + 1)) = fs at FN
  go_enter Tryz.func95, Tryz.ntmps95
  repeat (first
    | (go_at_call 122; refine FN.out.mono ?_; rintro x v1 ⟨A, c, rfl, hfa, hk⟩; have K1 := Lib.hid hk; have FA := Lib.hid hfa; clear hk hfa; simp only [])
    | go_values | go_skip | go_guarded | go_step | go_upon | go_back)
  go_ret
  exact ⟨A, c, rfl, FA.out, K1.out⟩
end Go.Proofs.YtdmfgechoanmlaaGreatDoor

namespace Go.Proofs.YtdmfgechoanmlaaGreatDoor
open Go Go.RowKit Go.Sort
attribute [local go_sem] Oper.semAt_some
attribute [local go_sem] fvV

/-- What has to hold of rules, and of an era's end. -/
structure EndP (n : Nat) (rs : List RV) (e : EV) : Prop where
  hn : rs.length = n
  hn1 : n ≤ 1000
  ok : ∀ r ∈ rs, okR r ∧ 1900 ≤ r.fr
  ap : Apt (rowF rs)
  o1 : -90000 < e.of
  o2 : e.of < 90000
  y1 : 1900 ≤ e.uy
  y2 : e.uy ≤ 2090
  n1 : (ny e.uy - 20) * 86400 ≤ nmU e
  n2 : nmU e ≤ (ny e.uy + 380) * 86400
theorem EndP.far {n : Nat} {rs : List RV} {e : EV} (h : EndP n rs e) : -3000000000 ≤ nmU e ∧ nmU e ≤ 5000000000 := by
  have m1 := ny_mono 1900 e.uy h.y1
  have m2 := ny_mono e.uy 2090 h.y2
  have e1 : ny 1900 = -25567 := by decide
  have e2 : ny 2090 = 43830 := by decide
  have := h.n1; have := h.n2; have := h.y1; have := h.y2
  omega
theorem EndP.sec {n : Nat} {rs : List RV} {e : EV} (h : EndP n rs e) : inS (nmU e - 180000 + 1) ∧ 1800 ≤ ySec (nmU e - 180000 + 1) ∧ ySec (nmU e - 180000 + 1) + 1 ≤ 2110 := by
  have m1 := ny_mono 1900 e.uy h.y1
  have m2 := ny_mono e.uy 2090 h.y2
  have e1 : ny 1900 = -25567 := by decide
  have e2 : ny 2090 = 43830 := by decide
  have e3 : ny 1800 = -62091 := by decide
  have e4 : ny 2100 = 47482 := by decide
  have := h.n1; have := h.n2; have := h.y1; have := h.y2
  have h5 := ySec_ge (s := nmU e - 180000 + 1) (k := 1800) (by omega)
  have h6 := ySec_lt (s := nmU e - 180000 + 1) (k := 2100) (by omega)
  refine ⟨?_, h5, by omega⟩
  unfold inS; omega
def farT (T : Int) (l : List FV) : List FV := l.filter fun g => decide (T - 180000 < g.nm)
theorem FirsAt.next {A : Option Addr} {fs : List FV} {W W' : World} (h : FirsAt A fs W) (k : Below W.heap.size W W') : FirsAt A fs W' := RowsAt.next h k

set_option maxRecDepth 20000 in
theorem sahead_no (e : EV) (l : Value) (T : Int) (w : World) (he : e.rl.isEmpty = true) : Calls Tryz.prog 74 #[evV e, l, .int .i64 T] w fun x w' => x = .returned (.int .i64 e.sv) ∧ Below w.heap.size w w' := by
  have X0 := Lib.hid (BlkN.make (Below.refl w.heap.size w) (cE e) 54)
  obtain ⟨x0, x1, x2, x3, x4, x5, x6, x7, x8, x9, x10, x11⟩ := cells12 X0.out.blk
  obtain ⟨of, rl, sv, fm, en, uy, um, dk, dw, dn, sc, ck⟩ := e
  unfold evV at *
  unfold cE at *
  simp only at *
  go_enter Tryz.func74, Tryz.ntmps74
  repeat (first | go_values | go_skip | go_guarded | go_step | go_upon | go_back)
  go_ret
  exact ⟨rfl, X0.out.bel⟩

set_option maxRecDepth 20000 in
set_option maxHeartbeats 1000000 in
theorem sahead_ruled (e : EV) (A0 : Option Addr) (n c0 : Nat) (rs : List RV) (s : Int) (w : World) (he : e.rl.isEmpty = false) (hA : LaidF w) (hR : RowsAt 11 cR A0 rs w) (hP : EndP n rs e) (hs : svE e.of (nmU e) 0 (rowF rs) = s) :
    Calls Tryz.prog 74 #[evV e, .slice A0 n c0, .int .i64 (nmU e)] w fun x w' => x = .returned (.int .i64 s) ∧ Below w.heap.size w w' := by
  have X0 := Lib.hid (BlkN.make (Below.refl w.heap.size w) (cE e) 54)
  obtain ⟨x0, x1, x2, x3, x4, x5, x6, x7, x8, x9, x10, x11⟩ := cells12 X0.out.blk
  have hsec := hP.sec
  have hfar := hP.far
  have AH := Lib.hid (fahead_is A0 n c0 rs (nmU e - 180000 + 1) _ (hA.next X0.out.bel) (hR.next X0.out.bel) hP.hn hP.hn1 hP.ok hsec.1 (by omega) (by omega))
  have NR := Lib.hid (fun W (k : Below w.heap.size w W) => znear_is A0 n c0 rs e.uy W (hA.next k) (hR.next k) hP.hn hP.hn1 (fun r hr => (hP.ok r hr).1) hP.y1 hP.y2)
  have SN : Hid (∀ f b, AheadIs rs (nmU e - 180000 + 1) f b → svE e.of (nmU e) f.sv (farT (nmU e) (iso (ltOf cfF) (allF rs (e.uy - 1) (e.uy + 1)))) = s ∧ -90000 < f.sv ∧ f.sv < 90000) := Lib.hid fun f b h => by
    rw [← hs]
    exact ⟨svE_near hP.ok hP.ap hP.o1 hP.o2 hP.y1 hP.y2 hP.n1 hP.n2 h, ahead_svb hP.ok hP.ap hsec.2.2 h⟩
  have FB : Hid (∀ g ∈ iso (ltOf cfF) (allF rs (e.uy - 1) (e.uy + 1)), (-90000 < g.sv ∧ g.sv < 90000) ∧ -3000000000 ≤ g.nm ∧ g.nm < 5000000000) := Lib.hid fun g hg => by
    have hg' : g ∈ rowF rs := by
      rw [iso_mem] at hg
      have := hP.y1; have := hP.y2
      obtain ⟨r, hr, z, z1, z2, hz⟩ := (allF_mem (by omega) (by omega)).1 hg
      exact row_mem.2 ⟨r, hr, z, by omega, by omega, hz⟩
    exact ⟨hP.ap.1 g hg', row_bd hP.ok hg'⟩
  have hm0 : (iso (ltOf cfF) (allF rs (e.uy - 1) (e.uy + 1))).length ≤ 6000000 := by
    have h := allF_len (rs := rs) (a := e.uy - 1) (b := e.uy + 1) (by omega)
    rw [iso_len]
    have := hP.hn; have := hP.hn1
    omega
  generalize iso (ltOf cfF) (allF rs (e.uy - 1) (e.uy + 1)) = fs at NR SN FB hm0
  have o1 := hP.o1
  have o2 := hP.o2
  clear hs hP hA hR hsec
  generalize nmU e = T at *
  obtain ⟨of, rl, sv, fm, en, uy, um, dk, dw, dn, sc, ck⟩ := e
  unfold evV at *
  unfold cE at *
  simp only at *
  obtain ⟨m, hm⟩ : ∃ m, fs.length = m := ⟨_, rfl⟩
  rw [hm] at NR hm0
  have HM := Lib.hid hm
  have mixed : Tryz.prog.follows .mixedOrders = true := by kernel_rfl
  have wT : IntKind.i64.wrap (T - 180000) = T - 180000 := IntWalk.i64_in _ (by omega)
  have wT1 : IntKind.i64.wrap (T - 180000 + 1) = T - 180000 + 1 := IntWalk.i64_in _ (by omega)
  have wTo : IntKind.i64.wrap (T - of) = T - of := IntWalk.i64_in _ (by omega)
  clear hm
  go_enter Tryz.func74, Tryz.ntmps74
  repeat (first
    | (go_at_call 94; refine AH.out.mono ?_; rintro x w1 ⟨f, b, rfl, hah, k1⟩
       have SF := Lib.hid (SN.out f b hah)
       have X1 := Lib.hid (X0.out.next k1)
       have B1 := Lib.hid (BlkN.make X1.out.bel #[.int .i64 f.nm, .int .i64 f.kd, .int .i64 f.sv, .string ⟨f.lt.toArray⟩] 145)
       have X2 := Lib.hid (X1.out.more (.cells #[.int .i64 f.nm, .int .i64 f.kd, .int .i64 f.sv, .string ⟨f.lt.toArray⟩] 145))
       obtain ⟨-, -, y2, -⟩ := cel4 B1.out.blk
       clear hah k1 x0 x1 x2 x3 x4 x5 x6 x7 x8 x9 x10 x11
       obtain ⟨x0, x1, x2, x3, x4, x5, x6, x7, x8, x9, x10, x11⟩ := cells12 X2.out.blk
       simp only [fvV])
    | (go_at_call 95; refine (NR.out _ X2.out.bel).mono ?_; rintro x w3 ⟨A, c, rfl, hfa, k3⟩
       have FA := Lib.hid hfa
       have X3 := Lib.hid (X2.out.next k3)
       clear hfa k3 x0 x1 x2 x3 x4 x5 x6 x7 x8 x9 x10 x11 y2
       simp only [])
    | go_values | go_skip | go_guarded | go_step | go_upon | go_back)
  clear X0 X1 X2 B1 AH NR SN
  obtain ⟨g0, hg0⟩ : ∃ g, f.sv = g := ⟨_, rfl⟩
  rw [hg0] at SF
  simp only [hg0]
  clear hg0
  go_loopw [9, 33] (fun vs vi wr => ∃ (i : Nat) (v : Int), vi = .int .i64 i ∧ vs = .int .i64 v ∧ i ≤ m ∧ (svE of T v (farT T (fs.drop i)) = s ∧ -90000 < v ∧ v < 90000) ∧ FirsAt A fs wr ∧ BlkN w w.heap.size #[.int .i64 of, .string ⟨rl.toArray⟩, .int .i64 sv, .string ⟨fm.toArray⟩, .bool en, .int .i64 uy, .int .i64 um, .int .i64 dk, .int .i64 dw, .int .i64 dn, .int .i64 sc, .int .i64 ck] 54 wr) (fun _ vi _ => m - (intOf vi).toNat)
  case atStart => exact ⟨0, g0, rfl, rfl, Nat.zero_le _, SF.out, FA.out, X3.out⟩
  case round =>
    clear X3 FA SF
    obtain ⟨i, v, rfl, rfl, i1, hS, hF, hX⟩ := hrel
    have S := Lib.hid hS
    have F := Lib.hid hF
    have X := Lib.hid hX
    have v1 := hS.2.1
    have v2 := hS.2.2
    clear hS hF hX
    have wi : IntKind.i64.wrap ((i : Int) + 1) = (i : Int) + 1 := IntWalk.i64_in _ (by omega)
    by_cases hlt : i < m
    · have hii : (i : Int) < (m : Int) := by omega
      obtain ⟨g, hg⟩ : ∃ g, fs[i]? = some g := ⟨_, List.getElem?_eq_getElem (by rw [HM.out]; exact hlt)⟩
      obtain ⟨L, off, rfl, hL, c0, c1, c2, c3⟩ := fir_cells F.out hg
      have hdr : fs.drop i = g :: fs.drop (i + 1) := by
        obtain ⟨h1, h2⟩ := List.getElem?_eq_some_iff.1 hg
        rw [← h2, List.drop_eq_getElem_cons h1]
      have gb := FB.out g (List.mem_of_getElem? hg)
      have Z := Lib.hid (BlkN.make X.out.bel #[.int .i64 g.nm, .int .i64 g.kd, .int .i64 g.sv, .string ⟨g.lt.toArray⟩] 145)
      have X1 := Lib.hid (X.out.more (.cells #[.int .i64 g.nm, .int .i64 g.kd, .int .i64 g.sv, .string ⟨g.lt.toArray⟩] 145))
      have F1 := Lib.hid (F.out.next ((Below.refl _ wr).alloc (Nat.le_refl _) (.cells #[.int .i64 g.nm, .int .i64 g.kd, .int .i64 g.sv, .string ⟨g.lt.toArray⟩] 145)))
      obtain ⟨z0, z1, z2, z3⟩ := cel4 Z.out.blk
      obtain ⟨q, hq⟩ : ∃ q, inF g of v = q := ⟨_, rfl⟩
      have GB := Lib.hid gb.1
      have INS := Lib.hid (fun W => finst_is g of v q W (by omega) (by omega) (by omega) hq)
      have wv : IntKind.i64.wrap (T - of - v) = T - of - v := IntWalk.i64_in _ (by omega)
      clear hg hL
      by_cases hn : g.nm ≤ T - 180000
      · have hS : svE of T v (farT T (fs.drop (i + 1))) = s := by
          have := S.out.1
          rw [hdr] at this
          unfold farT at this
          rwa [List.filter_cons_of_neg (by simpa using hn)] at this
        have S1 := Lib.hid hS
        clear hdr hq gb hS INS
        repeat (first | go_values | go_skip | go_guarded | go_step | go_upon | go_back)
        go_round
        case rel => exact ⟨i + 1, v, rfl, rfl, by omega, ⟨S1.out, v1, v2⟩, F1.out, X1.out⟩
        case measure => simp [intOf]; omega
      · have hS : svE of T v (g :: farT T (fs.drop (i + 1))) = s := by
          have := S.out.1
          rw [hdr] at this
          unfold farT at this
          rwa [List.filter_cons_of_pos (by simp; omega)] at this
        have S1 := Lib.hid hS
        have HQ := Lib.hid hq
        obtain ⟨x0, -⟩ := cells12 X1.out.blk
        have d0 := bel_cell z0
        have d1 := bel_cell z1
        have d2 := bel_cell z2
        have d3 := bel_cell z3
        have dx := bel_cell x0
        clear hdr hq gb hS x0
        by_cases hle : T - of - v ≤ q
        · have R : Hid (v = s) := Lib.hid (by have := S1.out; rw [svE, HQ.out, if_pos hle] at this; exact this)
          have hqe : decide (T - of - v ≤ q) = true := by simpa using hle
          clear hle
          repeat (first | go_values | go_skip | go_guarded | go_step | go_upon | go_back)
          refine region_bel mixed (by kernel_rfl) ?_
          repeat (quiet_step ((go_at_call 75; rename_i y; refine (INS.out y.w).mono ?_; rintro e w6 ⟨rfl, k6⟩; exact ⟨rfl, ⟨w6, y.k.trans (k6.mono y.k.size)⟩, rfl⟩)))
          refine wpQuiet_nil ?_
          rintro w8 ⟨x8, hx8⟩
          have X8 := Lib.hid (X1.out.next (hx8 ▸ x8.k))
          clear hx8 x8 d0 d1 d2 d3 dx z0 z1 z2 z3 c0 c1 c2 c3
          repeat (first | go_values | go_skip | go_guarded | go_step | go_upon | go_back)
          go_ret
          exact ⟨by rw [← R.out]; rfl, X8.out.bel⟩
        · have R : Hid (svE of T g.sv (farT T (fs.drop (i + 1))) = s) := Lib.hid (by have := S1.out; rw [svE, HQ.out, if_neg hle] at this; exact this)
          have hqe : decide (T - of - v ≤ q) = false := by simpa using hle
          clear hle
          repeat (first | go_values | go_skip | go_guarded | go_step | go_upon | go_back)
          refine region_bel mixed (by kernel_rfl) ?_
          repeat (quiet_step ((go_at_call 75; rename_i y; refine (INS.out y.w).mono ?_; rintro e w6 ⟨rfl, k6⟩; exact ⟨rfl, ⟨w6, y.k.trans (k6.mono y.k.size)⟩, rfl⟩)))
          refine wpQuiet_nil ?_
          rintro w8 ⟨x8, hx8⟩
          have k8 : Below _ _ w8 := hx8 ▸ x8.k
          have X8 := Lib.hid (X1.out.next k8)
          have Z8 := Lib.hid (Z.out.next k8)
          have F8 := Lib.hid (F1.out.next k8)
          clear hx8 x8 k8 d0 d1 d2 d3 dx z0 z1 z2 z3 c0 c1 c2 c3
          obtain ⟨z0, z1, z2, z3⟩ := cel4 Z8.out.blk
          repeat (first | go_values | go_skip | go_guarded | go_step | go_upon | go_back)
          go_round
          case rel => exact ⟨i + 1, g.sv, rfl, rfl, by omega, ⟨R.out, GB.out⟩, F8.out, X8.out⟩
          case measure => simp [intOf]; omega
    · obtain rfl : i = m := by omega
      have hii : ¬ ((i : Nat) : Int) < (i : Int) := by omega
      have R : Hid (v = s) := Lib.hid (by
        have := S.out.1
        rw [List.drop_of_length_le (by rw [HM.out]; exact Nat.le_refl _)] at this
        exact this)
      repeat (first | go_values | go_skip | go_guarded | go_step | go_upon | go_back)
      go_ret
      exact ⟨by rw [← R.out]; rfl, X.out.bel⟩
end Go.Proofs.YtdmfgechoanmlaaGreatDoor

namespace Go.Proofs.YtdmfgechoanmlaaGreatDoor
open Go Go.RowKit Go.Sort
attribute [local go_sem] Oper.semAt_some
attribute [local go_sem] fvV

/-- An era's end, if so much is saved right ahead of it. -/
def enN (e : EV) (s : Int) : Int := inF ⟨nmU e, e.ck, 0, []⟩ e.of (if e.ck = 0 then s else 0)
set_option maxRecDepth 20000 in
set_option maxHeartbeats 600000 in
theorem zend_is (e : EV) (lv : Value) (s a v : Int) (w : World) (hA : LaidF w) (SV : Hid (NomOk e → e.en = true → e.ck = 0 → ∀ W, Below w.heap.size w W → Calls Tryz.prog 74 #[evV e, lv, .int .i64 (nmU e)] W fun x w' => x = .returned (.int .i64 s) ∧ Below W.heap.size W w'))
    (o1 : -90000 < e.of) (o2 : e.of < 90000) (s1 : -90000 < s) (s2 : s < 90000) (nb : NomOk e → -4000000000000 ≤ nmU e ∧ nmU e ≤ 4000000000000)
    (h : Hid ((e.en = false ∧ v = 16 ∧ a = 0) ∨ (e.en = true ∧ ¬ NomOk e ∧ v = 10 ∧ a = 0) ∨ (e.en = true ∧ NomOk e ∧ v = 0 ∧ a = enN e s))) :
    Calls Tryz.prog 56 #[evV e, lv] w fun x w' => x = .returned (.tuple #[.int .i64 a, .int .i64 v]) ∧ Below w.heap.size w w' := by
  have X0 := Lib.hid (BlkN.make (Below.refl w.heap.size w) (cE e) 54)
  obtain ⟨x0, x1, x2, x3, x4, x5, x6, x7, x8, x9, x10, x11⟩ := cells12 X0.out.blk
  rcases h.out with ⟨hen, rfl, rfl⟩ | ⟨hen, hno, rfl, rfl⟩ | ⟨hen, hok, rfl, rfl⟩
  · obtain ⟨of, rl, sv, fm, en, uy, um, dk, dw, dn, sc, ck⟩ := e
    simp only at hen
    subst hen
    clear SV nb h
    unfold evV at *
    unfold cE at *
    simp only at *
    go_enter Tryz.func56, Tryz.ntmps56
    repeat (first | go_values | go_skip | go_guarded | go_step | go_upon | go_back)
    go_ret2
    exact ⟨rfl, X0.out.bel⟩
  · have NM := Lib.hid (fun W (k : Below w.heap.size w W) => znom_is e 0 10 W (hA.next k) (Lib.hid (.inr ⟨rfl, hno, rfl⟩)))
    clear hA SV nb h hno
    obtain ⟨of, rl, sv, fm, en, uy, um, dk, dw, dn, sc, ck⟩ := e
    simp only at hen
    subst hen
    unfold uvV cU at NM
    unfold evV at *
    unfold cE at *
    simp only at *
    go_enter Tryz.func56, Tryz.ntmps56
    repeat (first
      | (go_at_call 73; refine (NM.out _ X0.out.bel).mono ?_; rintro x w1 ⟨rfl, k1⟩; have X1 := Lib.hid (X0.out.next k1); clear k1; simp only [])
      | go_values | go_skip | go_guarded | go_step | go_upon | go_back)
    go_ret2
    exact ⟨rfl, X1.out.bel⟩
  · have NM := Lib.hid (fun W (k : Below w.heap.size w W) => znom_is e (nmU e) 0 W (hA.next k) (Lib.hid (.inl ⟨rfl, hok, rfl⟩)))
    have hb := nb hok
    by_cases hc : e.ck = 0
    · have SC := Lib.hid (SV.out hok hen hc)
      have IN := Lib.hid (fun W => finst_is ⟨nmU e, e.ck, 0, []⟩ e.of s (enN e s) W (by simp only; omega) (by omega) (by omega) (by unfold enN; rw [if_pos hc]))
      generalize enN e s = a at *
      clear hA SV nb h hok
      generalize nmU e = T at *
      obtain ⟨of, rl, sv, fm, en, uy, um, dk, dw, dn, sc, ck⟩ := e
      simp only at hen hc
      subst hen hc
      unfold uvV cU at NM
      unfold evV at *
      unfold cE at *
      simp only [fvV] at *
      go_enter Tryz.func56, Tryz.ntmps56
      repeat (first
        | (go_at_call 73; refine (NM.out _ X0.out.bel).mono ?_; rintro x w1 ⟨rfl, k1⟩; have X1 := Lib.hid (X0.out.next k1); clear k1 x0 x1 x2 x3 x4 x5 x6 x7 x8 x9 x10 x11; obtain ⟨x0, x1, x2, x3, x4, x5, x6, x7, x8, x9, x10, x11⟩ := cells12 X1.out.blk; simp only [])
        | (go_at_call 74; refine (SC.out _ X1.out.bel).mono ?_; rintro x w2 ⟨rfl, k2⟩; have X2 := Lib.hid (X1.out.next k2); clear k2 x0 x1 x2 x3 x4 x5 x6 x7 x8 x9 x10 x11; obtain ⟨x0, x1, x2, x3, x4, x5, x6, x7, x8, x9, x10, x11⟩ := cells12 X2.out.blk; simp only [])
        | (go_at_call 75; refine (IN.out _).mono ?_; rintro x w3 ⟨rfl, k3⟩; have X3 := Lib.hid (X2.out.next k3); clear k3; simp only [])
        | go_values | go_skip | go_guarded | go_step | go_upon | go_back)
      go_ret2
      exact ⟨rfl, X3.out.bel⟩
    · have IN := Lib.hid (fun W => finst_is ⟨nmU e, e.ck, 0, []⟩ e.of 0 (enN e s) W (by simp only; omega) (by omega) (by omega) (by unfold enN; rw [if_neg hc]))
      generalize enN e s = a at *
      clear hA SV nb h hok
      generalize nmU e = T at *
      have hcb : (e.ck == 0) = false := by simpa using hc
      clear hc
      obtain ⟨of, rl, sv, fm, en, uy, um, dk, dw, dn, sc, ck⟩ := e
      simp only at hen hcb
      subst hen
      unfold uvV cU at NM
      unfold evV at *
      unfold cE at *
      simp only [fvV] at *
      go_enter Tryz.func56, Tryz.ntmps56
      repeat (first
        | (go_at_call 73; refine (NM.out _ X0.out.bel).mono ?_; rintro x w1 ⟨rfl, k1⟩; have X1 := Lib.hid (X0.out.next k1); clear k1 x0 x1 x2 x3 x4 x5 x6 x7 x8 x9 x10 x11; obtain ⟨x0, x1, x2, x3, x4, x5, x6, x7, x8, x9, x10, x11⟩ := cells12 X1.out.blk; simp only [])
        | (go_at_call 75; refine (IN.out _).mono ?_; rintro x w3 ⟨rfl, k3⟩; have X3 := Lib.hid (X1.out.next k3); clear k3; simp only [])
        | go_values | go_skip | go_guarded | go_step | go_upon | go_back)
      go_ret2
      exact ⟨rfl, X3.out.bel⟩
end Go.Proofs.YtdmfgechoanmlaaGreatDoor
